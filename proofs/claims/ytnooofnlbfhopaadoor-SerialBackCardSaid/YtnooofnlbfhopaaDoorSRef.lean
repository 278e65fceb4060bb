/-
  Package serial's references: what inText and inValue tell of a character. No condition.
-/
import Derived.Test.YtnooofnlbfhopaaDoorSPlain
import Derived.Below
namespace Go.Proofs.YtnooofnlbfhopaaDoor
open Go.RowKit
theorem ret_str {a b : ByteArray} (h : a = b) : Ending.returned (.string a) = .returned (.string b) := by rw [h]
set_option maxHeartbeats 1000000 in
theorem everywhere_any (r : Nat) (w : World) :
    Calls Tryd.prog 25 #[.int .i32 (r : Int)] w fun e w' => e = .returned (.string (strOf (everyL r))) ∧ w' = w := by
  obtain ⟨R, hR⟩ : ∃ R, R = strOf (everyL r) := ⟨_, rfl⟩
  rw [← hR]
  have HR := hid_mk hR
  clear hR
  have q1 : ((r : Int) == 38) = (r == 38) := by rw [Bool.eq_iff_iff]; simp; omega
  have q2 : ((r : Int) == 160) = (r == 160) := by rw [Bool.eq_iff_iff]; simp; omega
  have q3 : ((r : Int) == 13) = (r == 13) := by rw [Bool.eq_iff_iff]; simp; omega
  by_cases h1 : r = 38
  · have q1 : ((r : Int) == 38) = true := by rw [h1]; rfl
    go_enter Tryd.func25, Tryd.ntmps25
    go_wp2_with fail
    go_ret
    rw [HR.out, h1]
    exact ⟨rfl, rfl⟩
  have q1 : ((r : Int) == 38) = false := beq_false_of_ne (by omega)
  by_cases h2 : r = 160
  · have q2 : ((r : Int) == 160) = true := by rw [h2]; rfl
    go_enter Tryd.func25, Tryd.ntmps25
    go_wp2_with fail
    go_ret
    rw [HR.out, h2]
    exact ⟨rfl, rfl⟩
  have q2 : ((r : Int) == 160) = false := beq_false_of_ne (by omega)
  by_cases h3 : r = 13
  · have q3 : ((r : Int) == 13) = true := by rw [h3]; rfl
    go_enter Tryd.func25, Tryd.ntmps25
    go_wp2_with fail
    go_ret
    rw [HR.out, h3]
    exact ⟨rfl, rfl⟩
  have q3 : ((r : Int) == 13) = false := beq_false_of_ne (by omega)
  have HF := hid_mk (show everyL r = [] by unfold everyL; rw [if_neg h1, if_neg h2, if_neg h3])
  clear h1 h2 h3
  go_enter Tryd.func25, Tryd.ntmps25
  go_wp2_with fail
  go_ret
  rw [HR.out, HF.out]
  exact ⟨rfl, rfl⟩
set_option maxHeartbeats 1000000 in
theorem inText_any (r : Nat) (w : World) :
    Calls Tryd.prog 15 #[.int .i32 (r : Int)] w fun e w' => e = .returned (.string (strOf (refL false r))) ∧ w' = w := by
  obtain ⟨R, hR⟩ : ∃ R, R = strOf (refL false r) := ⟨_, rfl⟩
  rw [← hR]
  have HR := hid_mk hR
  clear hR
  by_cases h1 : r = 60
  · have q1 : ((r : Int) == 60) = true := by rw [h1]; rfl
    go_enter Tryd.func15, Tryd.ntmps15
    go_wp2_with fail
    go_ret
    rw [HR.out, h1]
    exact ⟨rfl, rfl⟩
  have q1 : ((r : Int) == 60) = false := beq_false_of_ne (by omega)
  by_cases h2 : r = 62
  · have q2 : ((r : Int) == 62) = true := by rw [h2]; rfl
    go_enter Tryd.func15, Tryd.ntmps15
    go_wp2_with fail
    go_ret
    rw [HR.out, h2]
    exact ⟨rfl, rfl⟩
  have q2 : ((r : Int) == 62) = false := beq_false_of_ne (by omega)
  have HF := hid_mk (show refL false r = everyL r by unfold refL; rw [if_neg (by simp), if_neg h1, if_neg h2])
  have he := hid_mk (everywhere_any r w)
  clear h1 h2
  go_enter Tryd.func15, Tryd.ntmps15
  go_wp2_with fail
  with_reducible refine he.out.mono ?_
  rintro e w1 ⟨rfl, rfl⟩
  go_wp2_with fail
  go_ret
  rw [HR.out, HF.out]
  exact ⟨rfl, rfl⟩
set_option maxHeartbeats 1000000 in
theorem inValue_any (r : Nat) (w : World) :
    Calls Tryd.prog 16 #[.int .i32 (r : Int)] w fun e w' => e = .returned (.string (strOf (refL true r))) ∧ w' = w := by
  obtain ⟨R, hR⟩ : ∃ R, R = strOf (refL true r) := ⟨_, rfl⟩
  rw [← hR]
  have HR := hid_mk hR
  clear hR
  by_cases h1 : r = 34
  · have q1 : ((r : Int) == 34) = true := by rw [h1]; rfl
    go_enter Tryd.func16, Tryd.ntmps16
    go_wp2_with fail
    go_ret
    rw [HR.out, h1]
    exact ⟨rfl, rfl⟩
  have q1 : ((r : Int) == 34) = false := beq_false_of_ne (by omega)
  have HF := hid_mk (show refL true r = everyL r by unfold refL; rw [if_pos rfl, if_neg h1])
  have he := hid_mk (everywhere_any r w)
  clear h1
  go_enter Tryd.func16, Tryd.ntmps16
  go_wp2_with fail
  with_reducible refine he.out.mono ?_
  rintro e w1 ⟨rfl, rfl⟩
  go_wp2_with fail
  go_ret
  rw [HR.out, HF.out]
  exact ⟨rfl, rfl⟩
end Go.Proofs.YtnooofnlbfhopaaDoor
