/-
  classSpans: the array of ranges; nothing that was there is written. No condition.
-/
import Derived.Test.YtjoncbhjodkpeaaDoorProg
import Derived.Test.YtjoncbhjodkpeaaDoorFlat
import Derived.Test.YtjoncbhjodkpeaaDoorExec
import Derived.Below
namespace Go.Proofs.YtjoncbhjodkpeaaDoor
open Go.RowKit
def zeroCells : Array Value := ((List.replicate 146 (0, 0, 0)).flatMap cell3).toArray
noncomputable def spansBody : Code := (Tryd.f20.body).getD .skip
noncomputable def spansFirst : Code := match spansBody with
  | .seq x _ => x
  | _ => .skip
noncomputable def spansOps : Array Oper := match spansBody with
  | .seq _ (.seq (.region _ ops _) _) => ops
  | _ => #[]
theorem oneSpan : spanCells.all (·.oneCell') = true := by
  rw [Array.all_eq_true_iff_forall_mem]
  intro u hu
  simp only [spanCells, List.mem_toArray, List.mem_flatMap, cell3] at hu
  obtain ⟨a, _, h⟩ := hu
  simp at h
  rcases h with rfl | rfl | rfl <;> rfl
set_option maxRecDepth 100000 in
theorem lenS : spans.length = 146 := by decide
theorem sizeSpan : spanCells.size = 438 := by
  unfold spanCells
  rw [List.size_toArray, flat_length cell3 3 (fun _ => rfl), lenS]
theorem sizeZero : zeroCells.size = 438 := by
  unfold zeroCells
  rw [List.size_toArray, flat_length cell3 3 (fun _ => rfl), List.length_replicate]
theorem below_setRow {B : Nat} {a w : World} (h : Below B a w) {g : Nat} (hg : B ≤ g) (cs : Array Value) : Below B a (w.setRow g cs) :=
  ⟨h.os, h.tape, h.output, by rw [size_setRow]; exact h.size, fun k hk => (setRow_other w g k cs (by omega)).trans (h.block k hk)⟩
theorem spans_any (w : World) : Calls Tryd.prog 20 #[] w fun e w' => e = .returned (.agg spanCells) ∧ Below w.heap.size w w' := by
  refine calls_of_wp (c := .seq spansFirst (.seq (.region 1 spansOps false) .ret)) Tryd.func20 (by kernel_rfl) ?_
  refine wp_seq (wp_exec spansFirst _ _ w .normal (({ tmps := #[] ++ Array.replicate 148 undef, defers := [] } : Act).put (some 0) (.pointer (some ⟨w.heap.size, 0, none⟩))) (w.alloc (.cells zeroCells 42)) (by kernel_rfl) ?_)
  refine wp_seq (wp_region_list ?_)
  refine wpList_exec_two 147 0 147 (.pointer (some ⟨w.heap.size, 0, none⟩)) (.agg spanCells) _ _ _ (w.alloc (.cells zeroCells 42)) (by kernel_rfl) ?_
  intro a' h0 h1 hd
  have hl : spansOps.toList.drop 147 = [spansOps.toList.getD 147 noOper] := by kernel_rfl
  rw [hl]
  have hnew := heap_alloc_new w (.cells zeroCells 42)
  refine wpList_store_row (by kernel_rfl) 42 (.tmp 0) (.tmp 147) (by kernel_rfl) w.heap.size spanCells h0 h1 42 zeroCells hnew (by rw [sizeSpan]; kernel_rfl) (by rw [sizeSpan, sizeZero]) oneSpan ?_
  have hdst : (spansOps.toList.getD 147 noOper).dst = none := by kernel_rfl
  rw [hdst]
  refine wp_ret ⟨hd, _, results_cell_row (p := 0) (ty := 42) (by kernel_rfl) _ _ w.heap.size 42 spanCells (0, 0) _ h0 (setRow_heap _ _ _ _ _ _ hnew) Tryd.underlying42 rfl (by rw [sizeSpan]; kernel_rfl), rfl, ?_⟩
  exact below_setRow ((Below.refl _ _).alloc (Nat.le_refl _) _) (Nat.le_refl _) _
end Go.Proofs.YtjoncbhjodkpeaaDoor
