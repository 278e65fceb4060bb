/-
  Package tree's rightElement. Conditions: sizes are bounded; the world holds Go's own tables.
-/
import Derived.Test.YtlcijlklbabajaaGreatDoorQRR12
namespace Go.Proofs.YtlcijlklbabajaaGreatDoor.R
open Go.RowKit
def oneA (l : List (List UInt8 × List UInt8)) (i : Nat) : Bool := nameX (l.getD i ([], [])).1 && !(l.take i).any (fun a => a.1 == (l.getD i ([], [])).1) && dataX (l.getD i ([], [])).2
set_option maxHeartbeats 4000000 in
set_option maxRecDepth 100000 in
theorem rightElement_any (n : Nx) (a : Option Addr) (c : Nat) (kv : Value) (w : World) (hT : TabV w) (hat : HasAt w (.slice a n.attrs.length c) n.attrs) (hsn : n.name.length ≤ 1000000000) (has : ∀ x ∈ n.attrs, x.1.length ≤ 1000000000 ∧ x.2.length ≤ 1000000000) :
 Calls Tryz.prog 82 #[.agg #[.int .u8 (n.kind : Int), .string (strOf n.name), .slice a n.attrs.length c, .string (strOf n.data), .int .i64 n.up, kv]] w fun e w' => e = .returned (.bool (elemX n)) ∧ Below w.heap.size w w' := by
 obtain ⟨a', c', hv, hlc, hrow⟩ := hat
 injection hv with hv1 hv2 hv3
 subst hv1 hv3
 obtain ⟨R, hR⟩ : ∃ R, R = elemX n := ⟨_, rfl⟩
 rw [← hR]
 have hal : Below w.heap.size w (w.alloc (.cells #[.int .u8 (n.kind : Int), .string (strOf n.name), .slice a n.attrs.length c, .string (strOf n.data), .int .i64 n.up, kv] 38 (0, 0))) := (Below.refl _ _).alloc (Nat.le_refl _) _
 have hblk := heap_alloc_new w (.cells #[.int .u8 (n.kind : Int), .string (strOf n.name), .slice a n.attrs.length c, .string (strOf n.data), .int .i64 n.up, kv] 38 (0, 0))
 obtain ⟨wB, hwB⟩ : ∃ wB, wB = w.alloc (.cells #[.int .u8 (n.kind : Int), .string (strOf n.name), .slice a n.attrs.length c, .string (strOf n.data), .int .i64 n.up, kv] 38 (0, 0)) := ⟨_, rfl⟩
 rw [← hwB] at hal hblk
 have hbl : w.heap.size < wB.heap.size := (Array.getElem?_eq_some_iff.1 hblk).1
 have hcells := hid_mk (show ∀ w', Below wB.heap.size wB w' → w'.cell? ⟨w.heap.size, 2, none⟩ = some (.slice a n.attrs.length c) ∧ w'.cell? ⟨w.heap.size, 3, none⟩ = some (.string (strOf n.data)) from fun w' hb => by
  have hL := (hb.block _ hbl).trans hblk
  refine ⟨?_, ?_⟩
  ·rw [cell_of_row w' _ 2 _ _ _ hL]; rfl
  ·rw [cell_of_row w' _ 3 _ _ _ hL]; rfl)
 have hkind := hid_mk (kind_any (strOf n.name) wB (by rw [size_strOf]; exact hsn))
 rw [sl_strOf] at hkind
 have q5 : (strOf n.data).toList.isEmpty = (n.data == []) := by rw [toList_strOf]; cases n.data <;> rfl
 have q0 : (⟨#[]⟩ : ByteArray).toList = [] := by rw [Lib.toList_data]
 have HT := hid_mk (hT.below hal)
 have HROW := hid_mk (hrow.below hal)
 have HAL := hid_mk hal
 have HAS := hid_mk has
 have HLC := hid_mk hlc
 have HR := hid_mk hR
 have HWB := hid_mk hwB.symm
 clear hR hT hrow hal has hlc hwB hblk hbl hv2 hsn
 obtain ⟨k, hk⟩ : ∃ k, k = kindL n.name := ⟨_, rfl⟩
 rw [← hk] at hkind
 have HK := hid_mk hk
 clear hk
 go_enter Tryz.func82, Tryz.ntmps82
 go_wp2_with fail
 rw [HWB.out]
 (with_reducible refine hkind.out.mono ?_)
 rintro e w1 ⟨rfl, hb1⟩
 obtain ⟨c2, c3⟩ := hcells.out w1 hb1
 have H1 := hid_mk hb1
 clear hb1 hkind
 by_cases hk0 : k = 0
 ·have hq : ((k : Int) == 0) = true := by rw [hk0]; rfl
  have HF := hid_mk (show R = false by rw [HR.out]; unfold elemX; rw [← HK.out, hk0]; rfl)
  clear hk0
  go_wp2_with fail
  go_ret
  rw [HF.out]
  exact ⟨rfl, HAL.out.trans (H1.out.mono HAL.out.size)⟩
 have hq : ((k : Int) == 0) = false := beq_false_of_ne (by omega)
 have HK0 := hid_mk hk0
 clear hk0
 cases hd : (n.data == []) with
 | false =>
   rw [hd] at q5
   have HF := hid_mk (show R = false by rw [HR.out]; unfold elemX; rw [bne, hd]; simp)
   clear hd
   go_wp2_with fail
   go_ret
   rw [HF.out]
   exact ⟨rfl, HAL.out.trans (H1.out.mono HAL.out.size)⟩
 | true =>
 rw [hd] at q5
 by_cases hm : 16 < n.attrs.length
 ·have hmi : (16 : Int) < (n.attrs.length : Int) := by omega
  have HF := hid_mk (show R = false by rw [HR.out]; unfold elemX; rw [decide_eq_true hm]; simp)
  clear hd hm
  go_wp2_with fail
  go_ret
  rw [HF.out]
  exact ⟨rfl, HAL.out.trans (H1.out.mono HAL.out.size)⟩
 have hmi : ¬ (16 : Int) < (n.attrs.length : Int) := by omega
 have HRA := hid_mk (show R = attrsX n.attrs by
  rw [HR.out]; unfold elemX
  rw [← HK.out, decide_eq_false hm, bne, hd, beq_false_of_ne HK0.out]
  rfl)
 have hml : n.attrs.length ≤ 16 := by omega
 clear hd hm
 obtain ⟨m, hmm⟩ : ∃ m, m = n.attrs.length := ⟨_, rfl⟩
 obtain ⟨l, hl⟩ : ∃ l, l = n.attrs := ⟨_, rfl⟩
 have HML := hid_mk (show m = l.length by rw [hmm, hl])
 rw [← hl] at HROW HAS HRA HLC hcells hmi hml c2
 rw [← HML.out] at HLC hcells hmi hml c2
 rw [← hmm]
 have hmc : m ≤ c := HLC.out
 clear hmm hl
 go_wp2_with fail
 go_loopw [23] (fun i wr => ∃ k : Nat, k ≤ m ∧ i = .int .i64 k ∧ Hid ((List.range k).all (oneA l) = true) ∧ Hid (Below wB.heap.size wB wr)) (fun i _ => m - (intOf i).toNat)
 case atStart => exact ⟨0, Nat.zero_le _, rfl, hid_mk rfl, H1⟩
 case round =>
  obtain ⟨k, hk, rfl, hall, hW⟩ := hrel
  generalize wr = wo at *
  clear c2 c3 H1
  by_cases hlt : k < m
  ·have hlti : (k : Int) < (m : Int) := by omega
   have hkl : k < l.length := by rw [← HML.out]; exact hlt
   obtain ⟨x, hx, hxl, d0, d1⟩ := (HROW.out.below hW.out).at2 hkl
   subst hx
   obtain ⟨t, ht⟩ : ∃ t, t = l[k] := ⟨_, rfl⟩
   have hgd : l.getD k ([], []) = t := by rw [List.getD_eq_getElem?_getD, List.getElem?_eq_getElem hkl, ht]; rfl
   have hsz := HAS.out t (by rw [ht]; exact List.getElem_mem hkl)
   rw [← ht] at d0 d1
   have d2 : wo.cell? ⟨(x.add (k * 2)).block, (x.add (k * 2)).off + 1, none⟩ = some (.string (strOf t.2)) := by rw [← show (x.add (k * 2)).add 1 = ⟨(x.add (k * 2)).block, (x.add (k * 2)).off + 1, none⟩ from rfl, Addr.add_add]; exact d1
   have hstep : (List.range (k + 1)).all (oneA l) = (nameX t.1 && !(l.take k).any (fun a => a.1 == t.1) && dataX t.2) := by
    rw [List.range_succ, List.all_append, hall.out, Bool.true_and]
    show (oneA l k && true) = _
    unfold oneA
    rw [hgd, Bool.and_true]
   have hfin : (List.range (k + 1)).all (oneA l) = false → R = false := fun h => by
    rw [HRA.out]
    show (List.range l.length).all (oneA l) = false
    rw [Bool.eq_false_iff]
    intro h2
    have : (List.range (k + 1)).all (oneA l) = true := by
     rw [List.all_eq_true] at h2 ⊢
     intro y hy
     exact h2 y (by rw [List.mem_range] at hy ⊢; omega)
    rw [h] at this
    cases this
   obtain ⟨wl, hwl⟩ : ∃ wl, wl = wo.alloc (.cells #[.string (strOf t.1), .string (strOf t.2)] 40 (0, 0)) := ⟨_, rfl⟩
   have hol : Below wo.heap.size wo wl := by rw [hwl]; exact (Below.refl _ _).alloc (Nat.le_refl _) _
   have hL : wl.heap[wo.heap.size]? = some (.cells #[.string (strOf t.1), .string (strOf t.2)] 40 (0, 0)) := by rw [hwl]; exact heap_alloc_new wo _
   have HWW := hid_mk (show Below wB.heap.size wB wl from hW.out.trans (hol.mono hW.out.size))
   have HBL := hid_mk (show Below w.heap.size w wl from HAL.out.trans (HWW.out.mono HAL.out.size))
   have hkeep := hid_mk (show ∀ w', Below wl.heap.size wl w' → w'.cell? ⟨w.heap.size, 2, none⟩ = some (.slice (some x) m c) ∧ w'.cell? ⟨wo.heap.size, 0, none⟩ = some (.string (strOf t.1)) ∧ w'.cell? ⟨wo.heap.size, 1, none⟩ = some (.string (strOf t.2)) ∧ Below wl.heap.size wl w' from by
    intro w' hb'
    have hL' := (hb'.block _ (Array.getElem?_eq_some_iff.1 hL).1).trans hL
    refine ⟨(hcells.out w' (HWW.out.trans (hb'.mono HWW.out.size))).1, ?_, ?_, hb'⟩
    ·rw [cell_of_row w' _ 0 _ _ _ hL']; rfl
    ·rw [cell_of_row w' _ 1 _ _ _ hL']; rfl)
   have hna := hid_mk (fun w => rightName_any (strOf t.1) w)
   rw [sl_strOf] at hna
   have hhn := hid_mk (fun w' (hb : Below wl.heap.size wl w') => hasName_any (some x) c l k (strOf t.1) w' (HROW.out.below (HWW.out.trans (hb.mono HWW.out.size))) (by omega) (by rw [← HML.out]; omega))
   rw [sl_strOf] at hhn
   have hda := hid_mk (fun w' (hb : Below wl.heap.size wl w') => rightData_any (strOf t.2) w' (HT.out.below (HWW.out.trans (hb.mono HWW.out.size))) (by rw [size_strOf]; exact hsz.2))
   rw [sl_strOf] at hda
   have HWL := hid_mk hwl.symm
   obtain ⟨m0, m1, m2, _⟩ := hkeep.out wl (Below.refl _ _)
   have hkc : (k : Int) ≤ (c : Int) := by omega
   clear hall hW hgd hsz hwl hol hL ht d1
   generalize nameX t.1 = b1 at *
   generalize ((l.take k).any fun a => a.1 == t.1) = b2 at *
   generalize dataX t.2 = b3 at *
   cases b1 with
   | false =>
     have HF := hid_mk (hfin (by rw [hstep]; rfl))
     clear hfin hstep
     go_wp2_with fail
     rw [HWL.out]
     first | (go_region_law
      (first
       | (go_simp
          go_at_call 130
          (with_reducible refine (hna.out _).mono ?_)
          rintro e wA ⟨rfl, nA⟩
          have bA : Below wl.heap.size wl wA := ⟨nA.os, nA.tape, nA.output, nA.size, nA.block⟩
          obtain ⟨x0, x1, x2, x3⟩ := hkeep.out wA bA
          clear nA)
       | (go_simp
          go_at_call 131
          (with_reducible refine (hhn.out wA bA).mono ?_)
          rintro e wC ⟨rfl, nC⟩
          have bC : Below wl.heap.size wl wC := bA.trans (nC.mono bA.size)
          obtain ⟨y0, y1, y2, y3⟩ := hkeep.out wC bC
          clear nC)
       | (go_simp
          go_at_call 129
          (with_reducible refine (hda.out wC bC).mono ?_)
          rintro e wD ⟨rfl, nD⟩
          have bD : Below wl.heap.size wl wD := bC.trans (nD.mono bC.size)
          clear nD))) | fail
     all_goals
      go_wp2_with fail
      go_ret
      rw [HF.out]
      exact ⟨rfl, HBL.out.trans (bA.mono HBL.out.size)⟩
   | true =>
   cases b2 with
   | true =>
     have HF := hid_mk (hfin (by rw [hstep]; rfl))
     clear hfin hstep
     go_wp2_with fail
     rw [HWL.out]
     first | (go_region_law
      (first
       | (go_simp
          go_at_call 130
          (with_reducible refine (hna.out _).mono ?_)
          rintro e wA ⟨rfl, nA⟩
          have bA : Below wl.heap.size wl wA := ⟨nA.os, nA.tape, nA.output, nA.size, nA.block⟩
          obtain ⟨x0, x1, x2, x3⟩ := hkeep.out wA bA
          clear nA)
       | (go_simp
          go_at_call 131
          (with_reducible refine (hhn.out wA bA).mono ?_)
          rintro e wC ⟨rfl, nC⟩
          have bC : Below wl.heap.size wl wC := bA.trans (nC.mono bA.size)
          obtain ⟨y0, y1, y2, y3⟩ := hkeep.out wC bC
          clear nC)
       | (go_simp
          go_at_call 129
          (with_reducible refine (hda.out wC bC).mono ?_)
          rintro e wD ⟨rfl, nD⟩
          have bD : Below wl.heap.size wl wD := bC.trans (nD.mono bC.size)
          clear nD))) | fail
     all_goals
      go_wp2_with fail
      go_ret
      rw [HF.out]
      exact ⟨rfl, HBL.out.trans (bC.mono HBL.out.size)⟩
   | false =>
   cases b3 with
   | false =>
     have HF := hid_mk (hfin (by rw [hstep]; rfl))
     clear hfin hstep
     go_wp2_with fail
     rw [HWL.out]
     first | (go_region_law
      (first
       | (go_simp
          go_at_call 130
          (with_reducible refine (hna.out _).mono ?_)
          rintro e wA ⟨rfl, nA⟩
          have bA : Below wl.heap.size wl wA := ⟨nA.os, nA.tape, nA.output, nA.size, nA.block⟩
          obtain ⟨x0, x1, x2, x3⟩ := hkeep.out wA bA
          clear nA)
       | (go_simp
          go_at_call 131
          (with_reducible refine (hhn.out wA bA).mono ?_)
          rintro e wC ⟨rfl, nC⟩
          have bC : Below wl.heap.size wl wC := bA.trans (nC.mono bA.size)
          obtain ⟨y0, y1, y2, y3⟩ := hkeep.out wC bC
          clear nC)
       | (go_simp
          go_at_call 129
          (with_reducible refine (hda.out wC bC).mono ?_)
          rintro e wD ⟨rfl, nD⟩
          have bD : Below wl.heap.size wl wD := bC.trans (nD.mono bC.size)
          clear nD))) | fail
     all_goals
      go_wp2_with fail
      go_ret
      rw [HF.out]
      exact ⟨rfl, HBL.out.trans (bD.mono HBL.out.size)⟩
   | true =>
     have HN := hid_mk (hstep.trans rfl)
     clear hfin hstep
     go_wp2_with fail
     rw [HWL.out]
     first | (go_region_law
      (first
       | (go_simp
          go_at_call 130
          (with_reducible refine (hna.out _).mono ?_)
          rintro e wA ⟨rfl, nA⟩
          have bA : Below wl.heap.size wl wA := ⟨nA.os, nA.tape, nA.output, nA.size, nA.block⟩
          obtain ⟨x0, x1, x2, x3⟩ := hkeep.out wA bA
          clear nA)
       | (go_simp
          go_at_call 131
          (with_reducible refine (hhn.out wA bA).mono ?_)
          rintro e wC ⟨rfl, nC⟩
          have bC : Below wl.heap.size wl wC := bA.trans (nC.mono bA.size)
          obtain ⟨y0, y1, y2, y3⟩ := hkeep.out wC bC
          clear nC)
       | (go_simp
          go_at_call 129
          (with_reducible refine (hda.out wC bC).mono ?_)
          rintro e wD ⟨rfl, nD⟩
          have bD : Below wl.heap.size wl wD := bC.trans (nD.mono bC.size)
          clear nD))) | fail
     all_goals
      go_wp2_with fail
      go_roundw
      case rel => exact ⟨k + 1, by omega, by go_num, HN, hid_mk (HWW.out.trans (bD.mono HWW.out.size))⟩
      case measure => simp [intOf]; omega
  ·have hlti : ¬ (k : Int) < (m : Int) := by omega
   have HF := hid_mk (show R = true by
    rw [HRA.out]
    show (List.range l.length).all (oneA l) = true
    rw [← HML.out, ← show k = m by omega]
    exact hall.out)
   go_wp2_with fail
   go_ret
   rw [HF.out]
   exact ⟨rfl, HAL.out.trans (hW.out.mono HAL.out.size)⟩
end Go.Proofs.YtlcijlklbabajaaGreatDoor.R
