/-
  String of the program's package utf: characters as a text. No condition.
-/
import Derived.Test.YtnooofnlbfhopaaDoorWords
namespace Go.Proofs.YtnooofnlbfhopaaDoor
open Go.RowKit
theorem string_any (a : Option Addr) (cap : Nat) (rs : List Int) (w : World) (h : HasRunes w a rs) :
    Calls Tryd.prog 22 #[.slice a rs.length cap] w fun e w' => e = .returned (.string (strOf (encL rs))) ∧ w' = w := by
  have hcv := runes_conv w a cap rs h
  go_enter Tryd.func22, Tryd.ntmps22
  go_wp2
  go_ret
  exact ⟨rfl, rfl⟩
/-- One character as a text. -/
theorem string_one (w : World) (r : Int) (fr : Nat × Nat) :
    Calls Tryd.prog 22 #[.slice (some ⟨w.heap.size, 0, none⟩) 1 1] (w.alloc (.cells #[.int .i32 r] 21 fr)) fun e w' => e = .returned (.string (strOf (Lib.encodeRune r))) ∧ w.alloc (.cells #[.int .i32 r] 21 fr) = w' := by
  refine (string_any (some ⟨w.heap.size, 0, none⟩) 1 [r] _ (has_new_runes w [r] _ _ rfl)).mono ?_
  rintro e w' ⟨rfl, rfl⟩
  refine ⟨?_, rfl⟩
  unfold encL
  rw [List.flatMap_cons, List.flatMap_nil, List.append_nil]
end Go.Proofs.YtnooofnlbfhopaaDoor
