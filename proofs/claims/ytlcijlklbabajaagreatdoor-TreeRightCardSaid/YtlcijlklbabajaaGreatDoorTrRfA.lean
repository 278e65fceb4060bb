/-
  The document's ends and wall. Condition: a kind is at most 8.
-/
import Derived.Test.YtlcijlklbabajaaGreatDoorKRefA
import Derived.Test.YtlcijlklbabajaaGreatDoorLpRef
import Derived.Deep.QuietTactic
import Derived.BigQuiet
namespace Go.Proofs.YtlcijlklbabajaaGreatDoor
open Go.RowKit
theorem ends_any (k : Nat) (hk : k ≤ 8) (w : World) :
    Calls Tryz.prog 68 #[.int .u8 (k : Int)] w fun e w' => e = .returned (.bool (endsP k)) ∧ w = w' := by
  have : k = 0 ∨ k = 1 ∨ k = 2 ∨ k = 3 ∨ k = 4 ∨ k = 5 ∨ k = 6 ∨ k = 7 ∨ k = 8 := by omega
  rcases this with rfl | rfl | rfl | rfl | rfl | rfl | rfl | rfl | rfl
  all_goals
    go_enter Tryz.func68, Tryz.ntmps68
    go_wp2_with fail
    go_ret
    exact ⟨rfl, rfl⟩
theorem wall_any (s : ByteArray) (w : World) :
    Calls Tryz.prog 88 #[.string s] w fun e w' => e = .returned (.bool (wallR (sl s))) ∧ w = w' := by
  have hk := hid_mk (fun w => refKind_any s w)
  have hsl : s.toList = sl s := Lib.toList_data s
  have hle := kindL_le (sl s)
  obtain ⟨R, hR⟩ : ∃ R, R = wallR (sl s) := ⟨_, rfl⟩
  rw [← hR]
  unfold wallR at hR
  have q2 : (s.toList == [100, 105, 118]) = (sl s == [100, 105, 118]) := by rw [hsl]
  rw [show (sl s != [100, 105, 118]) = !(sl s == [100, 105, 118]) from rfl] at hR
  clear hsl
  generalize (sl s == [100, 105, 118]) = D at *
  generalize kindL (sl s) = k at *
  have : k = 0 ∨ k = 1 ∨ k = 2 ∨ k = 3 ∨ k = 4 ∨ k = 5 ∨ k = 6 ∨ k = 7 ∨ k = 8 := by omega
  clear hle
  rcases this with rfl | rfl | rfl | rfl | rfl | rfl | rfl | rfl | rfl
  all_goals
    have HR := hid_mk hR
    clear hR
    go_enter Tryz.func88, Tryz.ntmps88
    go_wp2_with fail
    (with_reducible refine (hk.out _).mono ?_)
    rintro e w1 ⟨rfl, rfl⟩
    go_wp2_with fail
    try (with_reducible refine (hk.out _).mono ?_
         rintro e w1 ⟨rfl, rfl⟩
         go_wp2_with fail)
    go_ret
    rw [HR.out]
    first | exact ⟨rfl, rfl⟩ | (refine ⟨?_, rfl⟩; show Ending.returned (.bool (!(s.toList == [100, 105, 118]))) = _; rw [q2]; rfl)
end Go.Proofs.YtlcijlklbabajaaGreatDoor
