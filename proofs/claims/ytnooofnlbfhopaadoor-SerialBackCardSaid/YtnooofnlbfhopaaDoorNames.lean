/-
  allNames: the array of names; nothing that was there is written. No condition.
-/
import Derived.Test.YtnooofnlbfhopaaDoorPlain
import Derived.Test.YtnooofnlbfhopaaDoorFlat
import Derived.Test.YtnooofnlbfhopaaDoorExec
import Derived.Below
namespace Go.Proofs.YtnooofnlbfhopaaDoor
open Go.RowKit
def cellN (e : List UInt8 × Nat × Bool) : List Value := [.string ⟨e.1.toArray⟩, .int .i32 (e.2.1 : Int), .bool e.2.2]
def nameCells : Array Value := (nameTab.flatMap cellN).toArray
def zeroCellsN : Array Value := ((List.replicate 59 ([], 0, false)).flatMap cellN).toArray
noncomputable def namesBody : Code := (Tryd.f48.body).getD .skip
noncomputable def namesFirst : Code := match namesBody with
  | .seq x _ => x
  | _ => .skip
noncomputable def namesOps : Array Oper := match namesBody with
  | .seq _ (.seq (.region _ ops _) _) => ops
  | _ => #[]
theorem oneName : nameCells.all (·.oneCell') = true := by
  rw [Array.all_eq_true_iff_forall_mem]
  intro u hu
  simp only [nameCells, List.mem_toArray, List.mem_flatMap, cellN] at hu
  obtain ⟨a, _, h⟩ := hu
  simp at h
  rcases h with rfl | rfl | rfl <;> rfl
set_option maxRecDepth 100000 in
theorem lenN : nameTab.length = 59 := by decide
theorem sizeName : nameCells.size = 177 := by
  unfold nameCells
  rw [List.size_toArray, flat_length cellN 3 (fun _ => rfl), lenN]
theorem sizeZeroN : zeroCellsN.size = 177 := by
  unfold zeroCellsN
  rw [List.size_toArray, flat_length cellN 3 (fun _ => rfl), List.length_replicate]
theorem below_setRow {B : Nat} {a w : World} (h : Below B a w) {g : Nat} (hg : B ≤ g) (cs : Array Value) : Below B a (w.setRow g cs) :=
  ⟨h.os, h.tape, h.output, by rw [size_setRow]; exact h.size, fun k hk => (setRow_other w g k cs (by omega)).trans (h.block k hk)⟩
theorem names_any (w : World) : Calls Tryd.prog 48 #[] w fun e w' => e = .returned (.agg nameCells) ∧ Below w.heap.size w w' := by
  refine calls_of_wp (c := .seq namesFirst (.seq (.region 1 namesOps false) .ret)) Tryd.func48 (by kernel_rfl) ?_
  refine wp_seq (wp_exec namesFirst _ _ w .normal (({ tmps := #[] ++ Array.replicate 61 undef, defers := [] } : Act).put (some 0) (.pointer (some ⟨w.heap.size, 0, none⟩))) (w.alloc (.cells zeroCellsN 82)) (by kernel_rfl) ?_)
  refine wp_seq (wp_region_list ?_)
  refine wpList_exec_two 60 0 60 (.pointer (some ⟨w.heap.size, 0, none⟩)) (.agg nameCells) _ _ _ (w.alloc (.cells zeroCellsN 82)) (by kernel_rfl) ?_
  intro a' h0 h1 hd
  have hl : namesOps.toList.drop 60 = [namesOps.toList.getD 60 noOper] := by kernel_rfl
  rw [hl]
  have hnew := heap_alloc_new w (.cells zeroCellsN 82)
  refine wpList_store_row (by kernel_rfl) 82 (.tmp 0) (.tmp 60) (by kernel_rfl) w.heap.size nameCells h0 h1 82 zeroCellsN hnew (by rw [sizeName]; kernel_rfl) (by rw [sizeName, sizeZeroN]) oneName ?_
  have hdst : (namesOps.toList.getD 60 noOper).dst = none := by kernel_rfl
  rw [hdst]
  refine wp_ret ⟨hd, _, results_cell_row (p := 0) (ty := 82) (by kernel_rfl) _ _ w.heap.size 82 nameCells (0, 0) _ h0 (setRow_heap _ _ _ _ _ _ hnew) Tryd.underlying82 rfl (by rw [sizeName]; kernel_rfl), rfl, ?_⟩
  exact below_setRow ((Below.refl _ _).alloc (Nat.le_refl _) _) (Nat.le_refl _) _
theorem name_at (k : Nat) (hk : k < nameTab.length) : nameCells[k * 3]? = some (.string (strOf nameTab[k].1)) ∧ nameCells[k * 3 + 1]? = some (.int .i32 (nameTab[k].2.1 : Int)) ∧ nameCells[k * 3 + 2]? = some (.bool nameTab[k].2.2) := by
  have h0 := flat_get cellN 3 (fun _ => rfl) nameTab k 0 hk (by omega)
  have h1 := flat_get cellN 3 (fun _ => rfl) nameTab k 1 hk (by omega)
  have h2 := flat_get cellN 3 (fun _ => rfl) nameTab k 2 hk (by omega)
  unfold nameCells
  exact ⟨by simpa [cellN, strOf] using h0, by simpa [cellN] using h1, by simpa [cellN] using h2⟩
end Go.Proofs.YtnooofnlbfhopaaDoor
