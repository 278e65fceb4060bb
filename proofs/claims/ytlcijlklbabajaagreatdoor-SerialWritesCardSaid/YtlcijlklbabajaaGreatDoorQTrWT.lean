/-
  works of the laws of layer 5: true. Condition: the world holds what Tab says.
-/
import Derived.Test.YtlcijlklbabajaaGreatDoorQBParse
import Derived.Lib.ConvBytes
namespace Go.Proofs.YtlcijlklbabajaaGreatDoor
open Go.RowKit
theorem has_world (w : World) (bs : List UInt8) : HasBytes (Lib.bytesWorld w 5 (strOf bs)) (some ⟨w.heap.size, 0, none⟩) bs := by
 refine .inr ⟨_, rfl, fun _ => by rw [Lib.bytesWorld_size]; exact Nat.lt_succ_self _, fun j u hu => ?_⟩
 have hj := (List.getElem?_eq_some_iff.1 hu).1
 rw [Lib.byteCells_length] at hj
 have hs : (strOf bs).size = bs.length := by show bs.toArray.size = _; rw [List.size_toArray]
 rw [addr_add0, Lib.bytesWorld_cell w _ _ j (by rw [hs]; exact hj), ← hu]
 unfold Lib.byteCells
 rw [List.getElem?_map, List.getElem?_eq_getElem hj]
 simp [strOf, List.getD, hj]
/-- Bytes of a text, parsed. -/
theorem parse_text (A : List UInt8) (hA : A.length ≤ 10000000) (w : World) (hT : Tab w) : ∃ gc w1, (convert 9 42 (.string (strOf A))).run Tryz.prog w = .ok (.slice (some ⟨w.heap.size, 0, none⟩) A.length gc) w1 ∧ Next w w1 ∧ Calls Tryz.prog 17 #[.slice (some ⟨w.heap.size, 0, none⟩) A.length gc] w1 (ParsePost A w1) := by
 have hcv := Lib.run_convert_string_bytes (P := Tryz.prog) w 9 42 5 (strOf A) Tryz.underlying9 Tryz.underlying42 Tryz.underlying5
 have hB1 := Lib.bytesWorld_below w 5 (strOf A)
 have hn := Next.of hT hB1
 have H0 := parse_any (some ⟨w.heap.size, 0, none⟩) (grownCap w (strOf A).size 0 5) A _ hn.2 (by omega) (has_world w A)
 rw [size_strOf] at hcv
 rw [size_strOf] at H0
 exact ⟨_, _, hcv, hn, H0⟩
end Go.Proofs.YtlcijlklbabajaaGreatDoor
