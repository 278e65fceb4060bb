/-
  allNames: the array of names; nothing that was there is written. No condition.
-/
import Derived.Test.YtlcijlklbabajaaGreatDoorQPlNum
import Derived.Test.YtlcijlklbabajaaGreatDoorQFlEx
import Derived.Below
import Derived.Deep.QuietTactic
import Derived.BigQuiet
namespace Go.Proofs.YtlcijlklbabajaaGreatDoor
open Go.RowKit
def cellN (e : List UInt8 × Nat × Bool) : List Value := [.string ⟨e.1.toArray⟩, .int .i32 (e.2.1 : Int), .bool e.2.2]
def nameCells : Array Value := (nameTab.flatMap cellN).toArray
def zeroCellsN : Array Value := ((List.replicate 59 ([], 0, false)).flatMap cellN).toArray
noncomputable def namesBody : Code := (Tryz.f205.body).getD .skip
noncomputable def namesFirst : Code := match namesBody with
 | .seq x _ => x
 | _ => .skip
noncomputable def namesOps : Array Oper := match namesBody with
 | .seq _ (.seq (.region _ ops _) _) => ops
 | _ => #[]
theorem oneName : nameCells.all (·.oneCell') = true := by
 rw [Array.all_eq_true_iff_forall_mem]
 intro u hu
 simp only [nameCells, List.mem_toArray, List.mem_flatMap, cellN] at hu
 obtain ⟨a, _, h⟩ := hu
 simp at h
 rcases h with rfl | rfl | rfl <;> rfl
set_option maxRecDepth 100000 in
theorem lenN : nameTab.length = 59 := by decide
theorem sizeName : nameCells.size = 177 := by
 unfold nameCells
 rw [List.size_toArray, flat_length cellN 3 (fun _ => rfl), lenN]
theorem sizeZeroN : zeroCellsN.size = 177 := by
 unfold zeroCellsN
 rw [List.size_toArray, flat_length cellN 3 (fun _ => rfl), List.length_replicate]
theorem below_setRow {B : Nat} {a w : World} (h : Below B a w) {g : Nat} (hg : B ≤ g) (cs : Array Value) : Below B a (w.setRow g cs) :=
 ⟨h.os, h.tape, h.output, by rw [size_setRow]; exact h.size, fun k hk => (setRow_other w g k cs (by omega)).trans (h.block k hk)⟩
theorem names_any (w : World) : Calls Tryz.prog 205 #[] w fun e w' => e = .returned (.agg nameCells) ∧ Below w.heap.size w w' := by
 refine calls_of_wp (c := .seq namesFirst (.seq (.region 1 namesOps false) .ret)) Tryz.func205 (by kernel_rfl) ?_
 refine wp_seq (wp_exec namesFirst _ _ w .normal (({ tmps := #[] ++ Array.replicate 61 undef, defers := [] } : Act).put (some 0) (.pointer (some ⟨w.heap.size, 0, none⟩))) (w.alloc (.cells zeroCellsN 204)) (by kernel_rfl) ?_)
 refine wp_seq (wp_region_list ?_)
 refine wpList_exec_two 60 0 60 (.pointer (some ⟨w.heap.size, 0, none⟩)) (.agg nameCells) _ _ _ (w.alloc (.cells zeroCellsN 204)) (by kernel_rfl) ?_
 intro a' h0 h1 hd
 have hl : namesOps.toList.drop 60 = [namesOps.toList.getD 60 noOper] := by kernel_rfl
 rw [hl]
 have hnew := heap_alloc_new w (.cells zeroCellsN 204)
 refine wpList_store_row (by kernel_rfl) 204 (.tmp 0) (.tmp 60) (by kernel_rfl) w.heap.size nameCells h0 h1 204 zeroCellsN hnew (by rw [sizeName]; kernel_rfl) (by rw [sizeName, sizeZeroN]) oneName ?_
 have hdst : (namesOps.toList.getD 60 noOper).dst = none := by kernel_rfl
 rw [hdst]
 refine wp_ret ⟨hd, _, results_cell_row (p := 0) (ty := 204) (by kernel_rfl) _ _ w.heap.size 204 nameCells (0, 0) _ h0 (setRow_heap _ _ _ _ _ _ hnew) Tryz.underlying204 rfl (by rw [sizeName]; kernel_rfl), rfl, ?_⟩
 exact below_setRow ((Below.refl _ _).alloc (Nat.le_refl _) _) (Nat.le_refl _) _
theorem name_at (k : Nat) (hk : k < nameTab.length) : nameCells[k * 3]? = some (.string (strOf nameTab[k].1)) ∧ nameCells[k * 3 + 1]? = some (.int .i32 (nameTab[k].2.1 : Int)) ∧ nameCells[k * 3 + 2]? = some (.bool nameTab[k].2.2) := by
 have h0 := flat_get cellN 3 (fun _ => rfl) nameTab k 0 hk (by omega)
 have h1 := flat_get cellN 3 (fun _ => rfl) nameTab k 1 hk (by omega)
 have h2 := flat_get cellN 3 (fun _ => rfl) nameTab k 2 hk (by omega)
 unfold nameCells
 exact ⟨by simpa [cellN, strOf] using h0, by simpa [cellN] using h1, by simpa [cellN] using h2⟩
end Go.Proofs.YtlcijlklbabajaaGreatDoor
namespace Go.Proofs.YtlcijlklbabajaaGreatDoor
open Go.RowKit
/-- The name at a place. -/
def nmAt (k : Nat) : ByteArray := strOf (nameTab.getD k ([], 0, false)).1
def pS (t : ByteArray) (k : Nat) : Bool := Op.bytesLess t.toList (nmAt k).toList || t.toList == (nmAt k).toList
/-- The place that a look-up by halves comes to. -/
def bsF (p : Nat → Bool) : Nat → Nat → Nat → Nat
 | 0, i, _ => i
 | f + 1, i, j => if i < j then (if p ((i + j) / 2) then bsF p f i ((i + j) / 2) else bsF p f ((i + j) / 2 + 1) j) else i
theorem bsF_fuel (p : Nat → Bool) : ∀ (f g i j : Nat), j - i ≤ f → j - i ≤ g → bsF p f i j = bsF p g i j
 | 0, 0, _, _, _, _ => rfl
 | 0, g + 1, i, j, h, _ => by
   unfold bsF
   rw [if_neg (by omega)]
 | f + 1, 0, i, j, _, h => by
   unfold bsF
   rw [if_neg (by omega)]
 | f + 1, g + 1, i, j, h1, h2 => by
   unfold bsF
   by_cases h : i < j
   ·rw [if_pos h, if_pos h, bsF_fuel p f g i _ (by omega) (by omega), bsF_fuel p f g _ j (by omega) (by omega)]
   ·rw [if_neg h, if_neg h]
def bsAt (t : ByteArray) (i j : Nat) : Nat := bsF (pS t) (j - i) i j
theorem bsAt_step (t : ByteArray) (i j : Nat) (h : i < j) : bsAt t i j = if pS t ((i + j) / 2) then bsAt t i ((i + j) / 2) else bsAt t ((i + j) / 2 + 1) j := by
 unfold bsAt
 obtain ⟨f, hf⟩ : ∃ f, j - i = f + 1 := ⟨j - i - 1, by omega⟩
 rw [hf]
 show (if i < j then _ else _) = _
 rw [if_pos h, bsF_fuel _ f ((i + j) / 2 - i) _ _ (by omega) (by omega), bsF_fuel _ f (j - ((i + j) / 2 + 1)) _ _ (by omega) (by omega)]
theorem bsAt_end (t : ByteArray) (i j : Nat) (h : ¬ i < j) : bsAt t i j = i := by
 unfold bsAt
 rw [show j - i = 0 by omega]
 rfl
theorem bs_found : ∀ k < 59, bsAt (nmAt k) 0 59 = k := by decide +kernel
theorem bsF_le (p : Nat → Bool) : ∀ (f i j : Nat), i ≤ j → i ≤ bsF p f i j ∧ bsF p f i j ≤ j
 | 0, i, j, h => ⟨Nat.le_refl _, h⟩
 | f + 1, i, j, h => by
   unfold bsF
   split
   ·split
    ·have := bsF_le p f i ((i + j) / 2) (by omega)
     omega
    ·have := bsF_le p f ((i + j) / 2 + 1) j (by omega)
     omega
   ·omega
theorem bsAt_le (t : ByteArray) : bsAt t 0 59 ≤ 59 := (bsF_le _ _ 0 59 (by omega)).2
/-- What the look-up tells of a name. -/
theorem look_bs (t : List UInt8) : lookT t = if bsAt (strOf t) 0 59 < 59 ∧ (nameTab.getD (bsAt (strOf t) 0 59) ([], 0, false)).1 = t then some (nameTab.getD (bsAt (strOf t) 0 59) ([], 0, false)) else none := by
 split
 ·rename_i h
  have hm : nameTab.getD (bsAt (strOf t) 0 59) ([], 0, false) ∈ nameTab := by
   rw [show nameTab.getD (bsAt (strOf t) 0 59) ([], 0, false) = nameTab[bsAt (strOf t) 0 59]'(by rw [lenN]; exact h.1) from by simp [List.getD, lenN, h.1]]
   exact List.getElem_mem _
  have := lookT_mem hm
  rw [h.2] at this
  exact this
 ·rename_i h
  cases hl : lookT t with
  | none => rfl
  | some e =>
    exfalso
    obtain ⟨hm, he⟩ := lookT_some hl
    obtain ⟨k, hk, rfl⟩ := List.mem_iff_getElem.1 hm
    have hg : nameTab.getD k ([], 0, false) = nameTab[k] := by simp [List.getD, hk]
    have hb := bs_found k (by rw [← lenN]; exact hk)
    unfold nmAt at hb
    rw [hg, he] at hb
    rw [hb, hg] at h
    exact h ⟨by rw [← lenN]; exact hk, he⟩
theorem cl1_any (t : ByteArray) (k : Nat) (hk : k < 59) (b g : Nat) (w : World) (hb : w.cell? ⟨b, 0, none⟩ = some (.string t)) (hg : w.cell? ⟨g, k * 3, none⟩ = some (.string (nmAt k))) :
 Calls Tryz.prog 207 #[.int .i64 k, .pointer (some ⟨b, 0, none⟩), .pointer (some ⟨g, 0, none⟩)] w fun e w' => e = .returned (.bool (pS t k)) ∧ ∃ n, w' = w.drewN n := by
 have h0 : (0 : Int) ≤ (k : Int) := by omega
 have h1 : (k : Int) < 59 := by omega
 obtain ⟨x, hx⟩ : ∃ x, x = nmAt k := ⟨_, rfl⟩
 unfold pS
 rw [← hx] at hg ⊢
 clear hx
 go_enter Tryz.func207, Tryz.ntmps207
 go_wp2
 go_quiet (fail)
 go_wp2
 go_ret
 exact ⟨rfl, _, rfl⟩
theorem cell_drewN (w : World) (n : Nat) (a : Addr) : (w.drewN n).cell? a = w.cell? a := by
 induction n with
 | zero => rfl
 | succ n ih => exact ih
theorem drewN_drewN (w : World) (m n : Nat) : ∃ k, (w.drewN m).drewN n = w.drewN k := by
 refine ⟨m + n, ?_⟩
 induction n with
 | zero => rfl
 | succ n ih => exact congrArg World.drew ih
theorem below_drewN {B : Nat} {a w : World} (h : Below B a w) : ∀ n, Below B a (w.drewN n)
 | 0 => h
 | n + 1 => (below_drewN h n).drew
set_option maxHeartbeats 1000000 in
theorem search_any (t : ByteArray) (b g : Nat) (w : World) (hb : w.cell? ⟨b, 0, none⟩ = some (.string t)) (hg : ∀ j, w.cell? ⟨g, j, none⟩ = nameCells[j]?) :
 Calls Tryz.prog 206 #[.int .i64 59, .func (.func 207) #[] #[.pointer (some ⟨b, 0, none⟩), .pointer (some ⟨g, 0, none⟩)]] w fun e w' => e = .returned (.int .i64 (bsAt t 0 59 : Int)) ∧ ∃ n, w' = w.drewN n := by
 have HG := hid_mk hg
 have HB := hid_mk hb
 clear hg hb
 obtain ⟨R, hR⟩ : ∃ R, R = bsAt t 0 59 := ⟨_, rfl⟩
 rw [← hR]
 have HR := hid_mk hR
 clear hR
 go_enter Tryz.func206, Tryz.ntmps206
 go_wp2
 go_loopw [5, 6] (fun vi vj wr => ∃ i j : Nat, i ≤ j ∧ j ≤ 59 ∧ vi = .int .i64 i ∧ vj = .int .i64 j ∧ Hid (R = bsAt t i j) ∧ ∃ n, wr = w.drewN n) (fun vi vj _ => (intOf vj).toNat - (intOf vi).toNat)
 case atStart => exact ⟨0, 59, by omega, by omega, rfl, rfl, HR, 0, rfl⟩
 case round =>
  obtain ⟨i, j, hij, hj, rfl, rfl, hr, n, rfl⟩ := hrel
  clear HR
  by_cases hlt : i < j
  ·have hh : (i + j) / 2 < 59 := by omega
   have h0 : (0 : Int) ≤ (i : Int) := by omega
   have h1 : (0 : Int) ≤ (j : Int) := by omega
   have h2 : (j : Int) ≤ 59 := by omega
   have h3 : (i : Int) ≤ 59 := by omega
   have eh : ((i : Int) + (j : Int)) / 2 = (((i + j) / 2 : Nat) : Int) := by omega
   have EH := hid_mk eh
   clear eh
   have ha : i ≤ (i + j) / 2 := by omega
   have hb2 : (i + j) / 2 < j := by omega
   have hstep := bsAt_step t i j hlt
   rw [← hr.out] at hstep
   have hst := hid_mk hstep
   clear hstep hr
   have hc := hid_mk ((HG.out ((i + j) / 2 * 3)).trans (name_at _ (by rw [lenN]; exact hh)).1)
   rw [show nameTab[(i + j) / 2]'(by rw [lenN]; exact hh) = nameTab.getD ((i + j) / 2) ([], 0, false) from by simp [List.getD, lenN, hh]] at hc
   go_wp2_with fail
   rw [EH.out]
   generalize (i + j) / 2 = m at *
   refine (cl1_any t m hh b g (w.drewN n) ((cell_drewN w n _).trans HB.out) ((cell_drewN w n _).trans hc.out)).mono ?_
   rintro e w' ⟨rfl, n2, rfl⟩
   obtain ⟨n3, e3⟩ := drewN_drewN w n n2
   rw [e3]
   clear EH hc
   cases hp : pS t m with
   | true =>
     have hH := hid_mk (show R = bsAt t i m by rw [hst.out, hp]; rfl)
     clear hst hp
     go_wp2
     go_roundw
     case rel => exact ⟨i, m, by omega, by omega, rfl, rfl, hH, n3, rfl⟩
     case measure => simp [intOf]; omega
   | false =>
     have hH := hid_mk (show R = bsAt t (m + 1) j by rw [hst.out, hp]; rfl)
     clear hst hp
     go_wp2
     go_roundw
     case rel => exact ⟨m + 1, j, by omega, by omega, by go_num, rfl, hH, n3, rfl⟩
     case measure => simp [intOf]; omega
  ·have he := hid_mk (show R = i by rw [hr.out, bsAt_end t i j hlt])
   clear hr
   go_wp2
   go_ret
   rw [he.out]
   exact ⟨rfl, n, rfl⟩
end Go.Proofs.YtlcijlklbabajaaGreatDoor
