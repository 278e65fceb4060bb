/-
  Package tree's Kind: an element's kind by its name. Condition: the name's length is bounded.
-/
import Derived.Test.YtlcijlklbabajaaGreatDoorQTBPl
import Derived.Test.YtlcijlklbabajaaGreatDoorQBStC
import Derived.Test.YtlcijlklbabajaaGreatDoorQFlEx
namespace Go.Proofs.YtlcijlklbabajaaGreatDoor
open Go.RowKit
def cellK (e : List UInt8 × Nat) : List Value := [.string ⟨e.1.toArray⟩, .int .u8 (e.2 : Int)]
def kindCells : Array Value := (kindTab.flatMap cellK).toArray
def zeroCellsK : Array Value := ((List.replicate 41 ([], 0)).flatMap cellK).toArray
noncomputable def kindsBody : Code := (Tryz.f89.body).getD .skip
noncomputable def kindsFirst : Code := match kindsBody with
 | .seq x _ => x
 | _ => .skip
noncomputable def kindsOps : Array Oper := match kindsBody with
 | .seq _ (.seq (.region _ ops _) _) => ops
 | _ => #[]
theorem oneKind : kindCells.all (·.oneCell') = true := by
 rw [Array.all_eq_true_iff_forall_mem]
 intro u hu
 simp only [kindCells, List.mem_toArray, List.mem_flatMap, cellK] at hu
 obtain ⟨a, _, h⟩ := hu
 simp at h
 rcases h with rfl | rfl <;> rfl
set_option maxRecDepth 100000 in
theorem lenK : kindTab.length = 41 := by decide
theorem sizeKind : kindCells.size = 82 := by
 unfold kindCells
 rw [List.size_toArray, flat_length cellK 2 (fun _ => rfl), lenK]
theorem sizeZeroK : zeroCellsK.size = 82 := by
 unfold zeroCellsK
 rw [List.size_toArray, flat_length cellK 2 (fun _ => rfl), List.length_replicate]
theorem below_setRowK {B : Nat} {a w : World} (h : Below B a w) {g : Nat} (hg : B ≤ g) (cs : Array Value) : Below B a (w.setRow g cs) :=
 ⟨h.os, h.tape, h.output, by rw [size_setRow]; exact h.size, fun k hk => (setRow_other w g k cs (by omega)).trans (h.block k hk)⟩
theorem elements_any (w : World) : Calls Tryz.prog 89 #[] w fun e w' => e = .returned (.agg kindCells) ∧ Below w.heap.size w w' := by
 refine calls_of_wp (c := .seq kindsFirst (.seq (.region 1 kindsOps false) .ret)) Tryz.func89 (by kernel_rfl) ?_
 refine wp_seq (wp_exec kindsFirst _ _ w .normal (({ tmps := #[] ++ Array.replicate 43 undef, defers := [] } : Act).put (some 0) (.pointer (some ⟨w.heap.size, 0, none⟩))) (w.alloc (.cells zeroCellsK 123)) (by kernel_rfl) ?_)
 refine wp_seq (wp_region_list ?_)
 refine wpList_exec_two 42 0 42 (.pointer (some ⟨w.heap.size, 0, none⟩)) (.agg kindCells) _ _ _ (w.alloc (.cells zeroCellsK 123)) (by kernel_rfl) ?_
 intro a' h0 h1 hd
 have hl : kindsOps.toList.drop 42 = [kindsOps.toList.getD 42 noOper] := by kernel_rfl
 rw [hl]
 have hnew := heap_alloc_new w (.cells zeroCellsK 123)
 refine wpList_store_row (by kernel_rfl) 123 (.tmp 0) (.tmp 42) (by kernel_rfl) w.heap.size kindCells h0 h1 123 zeroCellsK hnew (by rw [sizeKind]; kernel_rfl) (by rw [sizeKind, sizeZeroK]) oneKind ?_
 have hdst : (kindsOps.toList.getD 42 noOper).dst = none := by kernel_rfl
 rw [hdst]
 refine wp_ret ⟨hd, _, results_cell_row (p := 0) (ty := 123) (by kernel_rfl) _ _ w.heap.size 123 kindCells (0, 0) _ h0 (setRow_heap _ _ _ _ _ _ hnew) Tryz.underlying123 rfl (by rw [sizeKind]; kernel_rfl), rfl, ?_⟩
 exact below_setRowK ((Below.refl _ _).alloc (Nat.le_refl _) _) (Nat.le_refl _) _
theorem kind_at (k : Nat) (hk : k < kindTab.length) (w : World) : (Instr.index 123 (.agg kindCells) (.int .i64 (k : Int))).run Tryz.prog w = .ok (.agg #[.string (strOf kindTab[k].1), .int .u8 (kindTab[k].2 : Int)]) w := by
 rw [run_index_arr 123 122 41 2 kindCells k w Tryz.underlying123 (by kernel_rfl) (by kernel_rfl) (by rw [← lenK]; exact hk)]
 unfold kindCells
 rw [flat_extract cellK 2 (fun _ => rfl) kindTab k hk]
 rfl
theorem kind_hit (s : List UInt8) (k : Nat) (hk : k < kindTab.length) (h : ∀ j (hj : j < kindTab.length), j < k → kindTab[j].1 ≠ s) (he : kindTab[k].1 = s) : kindL s = kindTab[k].2 := by
 unfold kindL
 have hf : kindTab.find? (fun p => p.1 == s) = some kindTab[k] := by
  rw [List.find?_eq_some_iff_getElem]
  refine ⟨by simpa using he, k, hk, rfl, fun j hj => ?_⟩
  have := h j (by omega) hj
  simpa using this
 rw [hf]
 rfl
theorem kind_miss (s : List UInt8) (h : ∀ j (hj : j < kindTab.length), kindTab[j].1 ≠ s) : kindL s = 0 := by
 unfold kindL
 rw [List.find?_eq_none.2 (fun p hp he => by
  obtain ⟨j, hj, rfl⟩ := List.mem_iff_getElem.1 hp
  exact h j hj (by simpa using he))]
 rfl
set_option maxHeartbeats 2000000 in
set_option maxRecDepth 100000 in
theorem kind_any : KindC := by
 intro s w hs
 have hel := hid_mk (elements_any w)
 have hka := hid_mk kind_at
 have hlen : kindTab.length = 41 := lenK
 obtain ⟨R, hR⟩ : ∃ R, R = kindL (sl s) := ⟨_, rfl⟩
 rw [← hR]
 have HR := hid_mk hR
 clear hR
 generalize hcs : kindCells = cs at *
 have HCS := hid_mk hcs
 clear hcs
 have hth := hid_mk (kind_hit (sl s))
 have htm := hid_mk (kind_miss (sl s))
 generalize hkt : kindTab = kt at *
 have HKT := hid_mk hkt
 clear hkt
 have HLEN := hid_mk hlen
 clear hlen
 go_enter Tryz.func53, Tryz.ntmps53
 go_wp2_with fail
 (with_reducible refine hel.out.mono ?_)
 rintro e w1 ⟨rfl, hb1⟩
 have H1 := hid_mk hb1
 clear hb1 hel
 go_wp2_with fail
 go_loopw [6] (fun i wr => ∃ k : Nat, k ≤ 41 ∧ i = .int .i64 k ∧ Hid (∀ j (hj : j < kt.length), j < k → kt[j].1 ≠ sl s) ∧ Hid (Below w.heap.size w wr)) (fun i _ => 41 - (intOf i).toNat)
 case atStart => exact ⟨0, by omega, rfl, hid_mk (fun j hj h => absurd h (by omega)), H1⟩
 case round =>
  obtain ⟨k, hk, rfl, hno, hW⟩ := hrel
  generalize wr = wo at *
  by_cases hlt : k < 41
  ·have hlti : (k : Int) < 41 := by omega
   have hkl : k < kt.length := by rw [HLEN.out]; exact hlt
   have hix := hid_mk (fun w => hka.out k hkl w)
   obtain ⟨a, ha⟩ : ∃ a, a = kt[k] := ⟨_, rfl⟩
   rw [← ha] at hix
   have HA := hid_mk ha
   have hix0 := hix.out wo
   clear ha
   cases hq : (a.1 == sl s) with
   | true =>
     have heq : ((strOf a.1).toList == s.toList) = true := by rw [toList_strOf, Lib.toList_data]; exact hq
     have HE := hid_mk (show R = a.2 by rw [HR.out, hth.out k hkl hno.out (by rw [← HA.out]; simpa using hq), ← HA.out])
     clear hq
     go_wp2_with fail
     go_ret
     rw [HE.out]
     exact ⟨rfl, hW.out.trans (((Below.refl _ _).alloc (Nat.le_refl _) _).mono hW.out.size)⟩
   | false =>
     have heq : ((strOf a.1).toList == s.toList) = false := by rw [toList_strOf, Lib.toList_data]; exact hq
     have HN := hid_mk (show ∀ j (hj : j < kt.length), j < k + 1 → kt[j].1 ≠ sl s from by
      intro j hj hjk
      by_cases e : j = k
      ·subst e
       rw [← HA.out]
       intro h
       rw [h] at hq
       simp at hq
      ·exact hno.out j hj (by omega))
     clear hq
     go_wp2_with fail
     go_roundw
     case rel => exact ⟨k + 1, by omega, by go_num, HN, hid_mk (hW.out.trans (((Below.refl _ _).alloc (Nat.le_refl _) _).mono hW.out.size))⟩
     case measure => simp [intOf]; omega
  ·have hlti : ¬ (k : Int) < 41 := by omega
   have HE := hid_mk (show R = 0 by rw [HR.out]; exact htm.out (fun j hj => hno.out j hj (by rw [HLEN.out] at hj; omega)))
   go_wp2_with fail
   go_ret
   rw [HE.out]
   exact ⟨rfl, hW.out⟩
end Go.Proofs.YtlcijlklbabajaaGreatDoor
