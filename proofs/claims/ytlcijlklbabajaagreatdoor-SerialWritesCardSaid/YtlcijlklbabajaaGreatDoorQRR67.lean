/-
  Package tree's rightKids. Conditions: the nodes' number is bounded; ups lead back.
-/
import Derived.Test.YtlcijlklbabajaaGreatDoorQRR45
import Derived.Test.YtlcijlklbabajaaGreatDoorQRKSU
import Derived.Laws.OwnMore
import Derived.Deep.QuietTactic
import Derived.BigQuiet
namespace Go.Proofs.YtlcijlklbabajaaGreatDoor.R
open Go.RowKit
theorem infoIntR : (Tryz.prog.info? 3).map (fun i => (i.zero, i.size, i.bytes)) = some (some (.int .i64 0), 1, 8) := by kernel_rfl
/-- The counts of children met, in a block of the call's own. -/
def MetAt (g n : Nat) (f : Nat → Nat) (w : World) : Prop := ∃ cs : Array Value, w.heap[g]? = some (.cells cs 3 (0, 0)) ∧ cs.size = n ∧ ∀ u, u < n → cs[u]? = some (.int .i64 (f u : Int))
theorem MetAt.below {g n : Nat} {f : Nat → Nat} {w w' : World} (h : MetAt g n f w) (hb : Below w.heap.size w w') : MetAt g n f w' := by
 obtain ⟨cs, h1, h2⟩ := h
 exact ⟨cs, (hb.block g (Array.getElem?_eq_some_iff.1 h1).1).trans h1, h2⟩
theorem MetAt.cell {g n : Nat} {f : Nat → Nat} {w : World} (h : MetAt g n f w) {u : Nat} (hu : u < n) : w.cell? ⟨g, u, none⟩ = some (.int .i64 (f u : Int)) := by
 obtain ⟨cs, h1, h2, h3⟩ := h
 rw [cell_of_row w g u _ _ _ h1]
 exact h3 u hu
theorem MetAt.frozen {g n : Nat} {f : Nat → Nat} {w : World} (h : MetAt g n f w) (u : Nat) : w.frozen? ⟨g, u, none⟩ = false := by
 obtain ⟨cs, h1, h2, h3⟩ := h
 exact Lib.frozen_of_heap h1 _
theorem MetAt.set {g n : Nat} {f f' : Nat → Nat} {w : World} (h : MetAt g n f w) {v : Nat} (hv : v < n) (hf : ∀ u, u < n → f' u = if u = v then f v + 1 else f u) : MetAt g n f' (w.setCell ⟨g, v, none⟩ (.int .i64 ((f v : Int) + 1))) := by
 obtain ⟨cs, h1, h2, h3⟩ := h
 refine ⟨cs.setIfInBounds v (.int .i64 ((f v : Int) + 1)), Blk.setAt h1 v _, by rw [Array.size_setIfInBounds]; exact h2, fun u hu => ?_⟩
 rw [hf u hu]
 by_cases e : u = v
 ·subst e
  rw [if_pos rfl, Array.getElem?_setIfInBounds_self_of_lt (by omega)]
  rfl
 ·rw [if_neg e, Array.getElem?_setIfInBounds_ne (fun h => e h.symm)]
  exact h3 u hu
theorem make_ints (n : Nat) (hn : n ≤ 100000) (w : World) : ∃ w1, (Instr.makeSlice 36 (.int .i64 (n : Int)) (.int .i64 (n : Int))).run Tryz.prog w = .ok (.slice (some ⟨w.heap.size, 0, none⟩) n n) w1 ∧ Below w.heap.size w w1 ∧ MetAt w.heap.size n (fun _ => 0) w1 := by
 obtain ⟨i0, hi, hz0, hz1, hz2⟩ := info_parts infoIntR
 obtain ⟨w1, hrun, hown, hgrow⟩ := run_makeSlice_full (P := Tryz.prog) w w.heap.size 36 3 i0 _ 1 Tryz.underlying36 hi hz0 hz1 .i64 .i64 n (by omega) (by rw [hz2]; omega) (by unfold maxLen; omega) (Nat.le_refl _)
 have hb : Below w.heap.size w w1 := (Below.refl _ _).grown hgrow (Nat.le_refl _) (fun k hk => by cases hk)
 refine ⟨w1, hrun, hb, ?_⟩
 have hcs : (madeCells (Value.cells (.int .i64 0)) (n * 1)).toList = List.replicate n (.int .i64 0) := by
  rw [Nat.mul_one, show Value.cells (.int .i64 0) = #[.int .i64 0] from rfl, toList_madeCells_one]
 rw [hcs] at hown
 rcases hown.2 with ⟨hv, _⟩ | ⟨g, cap, cur, hv, h2, h3, h4, h5, h6, h7⟩
 ·cases hv
 ·injection hv with hv1 _ hv3
  injection hv1 with hv1
  injection hv1 with hv1
  subst hv1 hv3
  refine ⟨cur, h3, by omega, fun u hu => ?_⟩
  have : cur[u]? = (List.replicate n (Value.int .i64 0))[u]? := by
   rw [← h7, List.getElem?_take, if_pos (by omega), Array.getElem?_toList]
  rw [this, List.getElem?_replicate, if_pos hu]
  rfl
set_option maxHeartbeats 8000000 in
set_option maxRecDepth 100000 in
theorem rightKids_any (a : Option Addr) (c : Nat) (ns : List NxM) (w : World) (h : HasTree w a ns) (hne : 0 < ns.length) (hl : ns.length ≤ 16384) (hups : UpsOk (ns.map (·.1))) (hks : ∀ p ∈ ns, p.1.kids.length ≤ 1000000000) :
 Calls Tryz.prog 48 #[.slice a ns.length c] w fun e w' => e = .returned (.bool (kidsX (ns.map (·.1)))) ∧ Below w.heap.size w w' := by
 obtain ⟨x, hx, hxx, hxy⟩ := h.cell hne
 clear hxx hxy
 subst hx
 obtain ⟨ts, hts⟩ : ∃ ts, ts = ns.map (·.1) := ⟨_, rfl⟩
 rw [← hts] at hups ⊢
 obtain ⟨R, hR⟩ : ∃ R, R = kidsX ts := ⟨_, rfl⟩
 rw [← hR]
 obtain ⟨m, hm⟩ : ∃ m, m = ns.length := ⟨_, rfl⟩
 rw [← hm] at hl ⊢
 have htl : ts.length = m := by rw [hts, List.length_map, hm]
 obtain ⟨w1, hmk, hb1, hmet⟩ := make_ints m (by omega) w
 have H0 := hid_mk (show MetAt w.heap.size m (fun u => (ofUp ts 1 u).length) w1 ∧ Below w.heap.size w w1 ∧ GoodK ts 1 from ⟨by simp only [ofUp_zero, List.length_nil]; exact hmet, hb1, good_one ts⟩)
 have HM := hid_mk (And.intro hm (And.intro hts htl))
 have H := hid_mk h
 have HU := hid_mk hups
 have HR := hid_mk hR
 have HKS := hid_mk hks
 have hm1 : 1 ≤ m := by omega
 clear h hups hR hb1 hmet hm hts htl hne hks
 go_enter Tryz.func48, Tryz.ntmps48
 go_wp2_with fail
 go_loopw [4] (fun i wr => ∃ k : Nat, 1 ≤ k ∧ k ≤ m ∧ i = .int .i64 k ∧ Hid (MetAt w.heap.size m (fun u => (ofUp ts k u).length) wr ∧ Below w.heap.size w wr ∧ GoodK ts k)) (fun i _ => m - (intOf i).toNat)
 case atStart => exact ⟨1, Nat.le_refl _, hm1, rfl, H0⟩
 case round =>
  obtain ⟨k, hk1, hk, rfl, hI⟩ := hrel
  generalize wr = wo at *
  clear H0 hmk
  by_cases hlt : k < m
  ·have hlti : (k : Int) < (m : Int) := by omega
   have hkl : k < ns.length := by rw [← HM.out.1]; exact hlt
   have htree := H.out.below hI.out.2.1
   have n4 := (htree.six hkl).2.2.2.2.1
   have hup := HU.out k hk1 (by rw [HM.out.2.2]; exact hlt)
   have hupk : upAt ts k = (ns[k]).1.up := by
    unfold upAt
    rw [HM.out.2.1, List.getD_eq_getElem?_getD, List.getElem?_map, List.getElem?_eq_getElem hkl]
    rfl
   obtain ⟨v, hv⟩ : ∃ v : Nat, upAt ts k = (v : Int) := ⟨(upAt ts k).toNat, by omega⟩
   rw [← hupk, hv] at n4
   have hvm : v < m := by omega
   have hvl : v < ns.length := by rw [← HM.out.1]; exact hvm
   have hvi : (v : Int) < (m : Int) := by omega
   have n5 := (htree.six hvl).2.2.2.2.2
   have hkv := htree.kids _ (List.getElem_mem hvl)
   have hksz := HKS.out _ (List.getElem_mem hvl)
   have hkat : kidsAt ts v = (ns[v]).1.kids := by
    unfold kidsAt
    rw [HM.out.2.1, List.getD_eq_getElem?_getD, List.getElem?_map, List.getElem?_eq_getElem hvl]
    rfl
   obtain ⟨ka, kc, hkval, hkrow⟩ := hkv
   rw [hkval] at n5
   rw [← hkat] at n5 hkrow hksz
   have m1 := hI.out.1.cell hvm
   have f1 := hI.out.1.frozen v
   obtain ⟨cn, hcn⟩ : ∃ cn, cn = (ofUp ts k v).length := ⟨_, rfl⟩
   have hcle : cn ≤ (kidsAt ts v).length := by rw [hcn]; exact (hI.out.2.2 v (by rw [HM.out.2.2]; exact hvm)).length_le
   have hgn := hid_mk (fun hc => good_next hI.out.2.2 hk1 hv (by rw [HM.out.2.2]; exact hvm) hc)
   have hbn := hid_mk (fun hc => bad_next hk1 (by rw [HM.out.2.2]; exact hlt) hv (by rw [HM.out.2.2]; exact hvm) hc)
   rw [← hcn] at m1 hgn hbn
   have HV := hid_mk (And.intro hv hcn)
   generalize hL : kidsAt ts v = KL at *
   clear hup hupk hkat hv hcn hkval htree hL
   by_cases hce : cn = KL.length
   ·have hq : ((cn : Int) == (KL.length : Int)) = true := by rw [hce]; simp
    have HF := hid_mk (show R = false by
     rw [HR.out]
     exact hbn.out (by rw [List.getElem?_eq_none (by omega)]; exact fun h => by cases h))
    clear hgn hbn hce
    go_wp2_with fail
    go_quiet (fail)
    go_wp2_with fail
    go_ret
    rw [HF.out]
    exact ⟨rfl, below_drewR hI.out.2.1 nq⟩
   ·have hq : ((cn : Int) == (KL.length : Int)) = false := beq_false_of_ne (by omega)
    have hcl : cn < KL.length := by omega
    have hcli : (cn : Int) < (KL.length : Int) := by omega
    obtain ⟨y, hy, hyb, k0⟩ := hkrow.ints hcl
    subst hy
    obtain ⟨z, hz⟩ : ∃ z, z = KL[cn] := ⟨_, rfl⟩
    rw [← hz] at k0
    have hzz : KL[cn]? = some z := by rw [List.getElem?_eq_getElem hcl, hz]
    by_cases hkz : z = (k : Int)
    ·have hq1 : (z == (k : Int)) = true := beq_iff_eq.2 hkz
     have hq2 : (z != (k : Int)) = false := by rw [bne, hq1]; rfl
     have HG := hid_mk (hgn.out (by rw [hzz, hkz]))
     have HD := hid_mk (fun nq => (show MetAt w.heap.size m (fun u => (ofUp ts k u).length) (wo.drewN nq) from hI.out.1.below (below_drewR (Below.refl _ _) nq)))
     have HST := hid_mk (fun nq => (show MetAt w.heap.size m (fun u => (ofUp ts (k + 1) u).length) ((wo.drewN nq).setCell ⟨w.heap.size, v, none⟩ (.int .i64 ((cn : Int) + 1))) from by
      rw [HV.out.2]
      refine (HD.out nq).set hvm (fun u hu => ?_)
      rw [ofUp_succ]
      by_cases e : u = v
      ·subst e
       rw [if_pos ⟨hk1, HV.out.1⟩, if_pos rfl, List.length_append]
       rfl
      ·rw [if_neg (fun h2 => e (by have := HV.out.1.symm.trans h2.2; omega)), if_neg e, List.append_nil]))
     have HB := hid_mk (fun nq => (show Below w.heap.size w ((wo.drewN nq).setCell ⟨w.heap.size, v, none⟩ (.int .i64 ((cn : Int) + 1))) from (below_drewR hI.out.2.1 nq).setCell (Nat.le_refl _) _))
     have hcn2 : (cn : Int) ≤ 1000000000 := by omega
     clear hgn hbn hce hz hzz hkz
     go_wp2_with fail
     go_quiet (fail)
     have g1 := (HD.out nq).cell hvm
     have g2 := (HD.out nq).frozen v
     have HST2 := hid_mk (And.intro (HST.out nq) (And.intro (HB.out nq) HG.out))
     simp only [← HV.out.2] at g1
     clear HD HST HB m1 f1 n4 n5 k0
     go_wp2_with fail
     go_roundw
     case rel => exact ⟨k + 1, by omega, by omega, by go_num, HST2⟩
     case measure => simp [intOf]; omega
    ·have hq1 : (z == (k : Int)) = false := beq_false_of_ne hkz
     have hq2 : (z != (k : Int)) = true := by rw [bne, hq1]; rfl
     have HF := hid_mk (show R = false by
      rw [HR.out]
      exact hbn.out (by rw [hzz]; intro h; injection h with h; exact hkz h))
     clear hgn hbn hce hz hzz hkz
     go_wp2_with fail
     go_quiet (fail)
     go_wp2_with fail
     go_ret
     rw [HF.out]
     exact ⟨rfl, below_drewR hI.out.2.1 nq⟩
  ·have hlti : ¬ (k : Int) < (m : Int) := by omega
   have hkm : k = m := by omega
   have HGE := hid_mk (show R = true ↔ ∀ u, u < m → (ofUp ts m u).length = (kidsAt ts u).length from by
    have h3 := hI.out.2.2
    rw [hkm, ← HM.out.2.2] at h3
    have := good_end h3
    rw [HM.out.2.2] at this
    rw [HR.out]
    exact this)
   have HI := hid_mk (show MetAt w.heap.size m (fun u => (ofUp ts m u).length) wo ∧ Below w.heap.size w wo from by rw [← hkm]; exact ⟨by rw [hkm]; have := hI.out.1; rw [hkm] at this; exact this, hI.out.2.1⟩)
   clear hI hkm
   go_wp2_with fail
   go_loopw [56] (fun i wr => ∃ j : Nat, j ≤ m ∧ i = .int .i64 j ∧ Hid (MetAt w.heap.size m (fun u => (ofUp ts m u).length) wr ∧ Below w.heap.size w wr ∧ ∀ u, u < j → (ofUp ts m u).length = (kidsAt ts u).length)) (fun i _ => m - (intOf i).toNat)
   case atStart => exact ⟨0, Nat.zero_le _, rfl, hid_mk ⟨HI.out.1, HI.out.2, fun u hu => absurd hu (by omega)⟩⟩
   case round =>
    obtain ⟨j, hj, rfl, hJ⟩ := hrel
    generalize wr = wq at *
    by_cases hlt2 : j < m
    ·have hlti2 : (j : Int) < (m : Int) := by omega
     have hjl : j < ns.length := by rw [← HM.out.1]; exact hlt2
     have htree := H.out.below hJ.out.2.1
     obtain ⟨n0, n1, n2, n3, n4, n5⟩ := htree.six hjl
     have hat0 := htree.attrs _ (List.getElem_mem hjl)
     have hki0 := htree.kids _ (List.getElem_mem hjl)
     obtain ⟨t, ht⟩ : ∃ t, t = (ns[j]).1 := ⟨_, rfl⟩
     have hkat : kidsAt ts j = t.kids := by
      unfold kidsAt
      rw [HM.out.2.1, List.getD_eq_getElem?_getD, List.getElem?_map, List.getElem?_eq_getElem hjl, ht]
      rfl
     rw [← ht] at n0 n1 n3 n4 hat0 hki0
     obtain ⟨aa, ac, hav, _, _⟩ := hat0
     obtain ⟨ka, kc, hkv, _⟩ := hki0
     rw [hav] at n2
     rw [hkv] at n5
     obtain ⟨wl, hwl⟩ : ∃ wl, wl = wq.alloc (.cells #[.int .u8 (t.kind : Int), .string (strOf t.name), .slice aa t.attrs.length ac, .string (strOf t.data), .int .i64 t.up, .slice ka t.kids.length kc] 38 (0, 0)) := ⟨_, rfl⟩
     have hol : Below wq.heap.size wq wl := by rw [hwl]; exact (Below.refl _ _).alloc (Nat.le_refl _) _
     have hNA : NodeAt wq.heap.size t (.slice aa t.attrs.length ac) (.slice ka t.kids.length kc) wl := by unfold NodeAt; rw [hwl]; exact heap_alloc_new wq _
     have q5 := hNA.cells.2.2.2.2.2
     have hml := hJ.out.1.below hol
     have m1 := hml.cell hlt2
     have HWL := hid_mk hwl.symm
     have HL := hid_mk (And.intro hml (And.intro (hJ.out.2.1.trans (hol.mono hJ.out.2.1.size)) hJ.out.2.2))
     obtain ⟨cn, hcn⟩ : ∃ cn, cn = (ofUp ts m j).length := ⟨_, rfl⟩
     obtain ⟨L, hLL⟩ : ∃ L, L = t.kids.length := ⟨_, rfl⟩
     have HC := hid_mk (show (ofUp ts m j).length = cn ∧ (kidsAt ts j).length = L from ⟨hcn.symm, by rw [hkat, hLL]⟩)
     rw [← hcn] at m1
     rw [← hLL] at q5 n5 HWL
     clear hLL
     clear hkat hav hkv hwl hol hNA hml hJ hcn ht htree
     by_cases hce : cn = L
     ·have hq1 : ((cn : Int) == (L : Int)) = true := by rw [hce]; simp
      have hq2 : ((cn : Int) != (L : Int)) = false := by rw [bne, hq1]; rfl
      have HN := hid_mk (show ∀ u, u < j + 1 → (ofUp ts m u).length = (kidsAt ts u).length from fun u hu => by
       by_cases e : u = j
       ·rw [e, HC.out.1, HC.out.2]; exact hce
       ·exact HL.out.2.2 u (by omega))
      clear hce
      go_wp2_with fail
      rw [HWL.out]
      go_quiet (fail)
      go_wp2_with fail
      go_roundw
      case rel => exact ⟨j + 1, by omega, by go_num, hid_mk ⟨HL.out.1.below (below_drewR (Below.refl _ _) nq), below_drewR HL.out.2.1 nq, HN.out⟩⟩
      case measure => simp [intOf]; omega
     ·have hq1 : ((cn : Int) == (L : Int)) = false := beq_false_of_ne (by omega)
      have hq2 : ((cn : Int) != (L : Int)) = true := by rw [bne, hq1]; rfl
      have HF := hid_mk (show R = false by
       rw [Bool.eq_false_iff]
       intro h
       have := HGE.out.1 h j hlt2
       rw [HC.out.1, HC.out.2] at this
       exact hce this)
      clear hce
      go_wp2_with fail
      rw [HWL.out]
      go_quiet (fail)
      go_wp2_with fail
      go_ret
      rw [HF.out]
      exact ⟨rfl, below_drewR HL.out.2.1 nq⟩
    ·have hlti2 : ¬ (j : Int) < (m : Int) := by omega
     have HF := hid_mk (HGE.out.2 (fun u hu => hJ.out.2.2 u (by omega)))
     have HL := hid_mk hJ.out.2.1
     clear hJ
     go_wp2_with fail
     go_ret
     rw [HF.out]
     exact ⟨rfl, HL.out⟩
end Go.Proofs.YtlcijlklbabajaaGreatDoor.R
namespace Go.Proofs.YtlcijlklbabajaaGreatDoor.R
open Go.RowKit
def rightN (t : List Nx) : Nat := if rightX t then 0 else 53
set_option maxHeartbeats 4000000 in
set_option maxRecDepth 100000 in
theorem right_any (a : Option Addr) (c : Nat) (ns : List NxM) (w : World) (hT : TabV w) (h : HasTree w a ns) (hl : ns.length ≤ 1000000000) (hok : ∀ p ∈ ns, NxOk p.1 ∧ p.1.kids.length ≤ 1000000000) :
 Calls Tryz.prog 19 #[.slice a ns.length c] w fun e w' => e = .returned (.int .i64 (rightN (ns.map (·.1)) : Int)) ∧ Below w.heap.size w w' := by
 obtain ⟨R, hR⟩ : ∃ R, R = rightX (ns.map (·.1)) := ⟨_, rfl⟩
 obtain ⟨G, hG⟩ : ∃ G : Nat, G = if R then 0 else 53 := ⟨_, rfl⟩
 unfold rightN
 rw [← hR, ← hG]
 have HG := hid_mk hG
 clear hG
 by_cases h0 : ns.length = 0
 ·have hnil : ns = [] := List.eq_nil_of_length_eq_zero h0
  have HF := hid_mk (show R = false by rw [hR, hnil]; rfl)
  rw [h0]
  clear h h0 hnil hR hok hl
  go_enter Tryz.func19, Tryz.ntmps19
  go_wp2_with fail
  go_ret
  rw [HG.out, HF.out]
  exact ⟨rfl, Below.refl _ _⟩
 have hpos : 0 < ns.length := by omega
 obtain ⟨x, hx, hxx, hxy⟩ := h.cell hpos
 clear hxx hxy
 subst hx
 obtain ⟨m, hm⟩ : ∃ m, m = ns.length := ⟨_, rfl⟩
 have hq0 : ((m : Int) == 0) = false := beq_false_of_ne (by omega)
 have hmi : (0 : Int) < (m : Int) := by omega
 have hm0 : 0 < m := by omega
 by_cases hbig : 16384 < m
 ·have hb2 : (16384 : Int) < (m : Int) := by omega
  have HF := hid_mk (show R = false by
   rw [hR]
   unfold rightX
   cases hns : ns.map (·.1) with
   | nil => rfl
   | cons d r =>
     have : (d :: r).length = m := by rw [← hns, List.length_map, hm]
     simp only [this, decide_eq_false (show ¬ m ≤ 16384 by omega), Bool.false_and])
  rw [← hm]
  clear h hR hok hl hbig hm h0 hpos
  go_enter Tryz.func19, Tryz.ntmps19
  go_wp2_with fail
  go_ret
  rw [HG.out, HF.out]
  exact ⟨rfl, Below.refl _ _⟩
 have hb2 : ¬ (16384 : Int) < (m : Int) := by omega
 obtain ⟨d, hd⟩ : ∃ d, d = (ns[0]).1 := ⟨_, rfl⟩
 have HRX := hid_mk (show R = (docX d && placesX ((ns.map (·.1)).drop 1) 1 d [] && kidsX (ns.map (·.1))) by
  rw [hR]
  match ns, hpos, hd, hm with
  | p :: q, _, hd, hm =>
    unfold rightX
    simp only [List.map_cons]
    rw [decide_eq_true (show ((p.1 :: q.map (·.1)).length ≤ 16384) by simp at hm ⊢; omega), Bool.true_and, hd]
    rfl)
 obtain ⟨n0, n1, n2, n3, n4, n5⟩ := h.six hpos
 have hat0 := h.attrs _ (List.getElem_mem hpos)
 have hki0 := h.kids _ (List.getElem_mem hpos)
 rw [← hd] at n0 n1 n3 n4 hat0 hki0
 obtain ⟨aa, ac, hav, hac, hrow⟩ := hat0
 obtain ⟨ka, kc, hkv, hkrow⟩ := hki0
 rw [hav] at n2
 rw [hkv] at n5
 rw [Nat.zero_mul, show x.add 0 = x from if_pos rfl] at n0 n1 n2 n3 n4 n5
 have hdo := hid_mk (rightDocument_any d aa ac (.slice ka d.kids.length kc) w)
 have H := hid_mk h
 have HT := hid_mk hT
 have HOK := hid_mk hok
 have hpl := hid_mk (fun w' (hb : Below w.heap.size w w') => rightPlaces_any (some x) c ns w' (HT.out.below hb) (H.out.below hb) hpos (by omega) (fun p hp => (HOK.out p hp).1))
 rw [← hd] at hpl
 have hkd := hid_mk (fun w' (hb : Below w.heap.size w w') (hpx : placesX ((ns.map (·.1)).drop 1) 1 d [] = true) => rightKids_any (some x) c ns w' (H.out.below hb) hpos (by omega) (by
  match ns, hpos, hd, hpx with
  | p :: q, _, hd, hpx =>
    simp only [List.map_cons] at hpx ⊢
    rw [hd] at hpx
    exact ups_of_places hpx) (fun p hp => (HOK.out p hp).2))
 rw [← hm] at hpl hkd ⊢
 generalize docX d = b1 at *
 generalize placesX ((ns.map (·.1)).drop 1) 1 d [] = b2 at *
 generalize kidsX (ns.map (·.1)) = b3 at *
 clear h hT hok hR hav hkv hac hrow hkrow hd hm h0 hl hpos
 go_enter Tryz.func19, Tryz.ntmps19
 go_wp2_with fail
 with_reducible refine hdo.out.mono ?_
 rintro e1 w1 ⟨rfl, hb1⟩
 cases b1 with
 | false =>
   have HF := hid_mk (HRX.out : R = _)
   go_wp2_with fail
   go_ret
   rw [HG.out, HF.out]
   exact ⟨rfl, hb1⟩
 | true =>
   go_wp2_with fail
   with_reducible refine (hpl.out _ hb1).mono ?_
   rintro e2 w2 ⟨rfl, hb2'⟩
   have hb12 := hb1.trans (hb2'.mono hb1.size)
   cases b2 with
   | false =>
     go_wp2_with fail
     go_ret
     rw [HG.out, HRX.out]
     exact ⟨rfl, hb12⟩
   | true =>
     go_wp2_with fail
     with_reducible refine (hkd.out _ hb12 trivial).mono ?_
     rintro e3 w3 ⟨rfl, hb3⟩
     have hb123 := hb12.trans (hb3.mono hb12.size)
     cases b3 with
     | false =>
       go_wp2_with fail
       go_ret
       rw [HG.out, HRX.out]
       exact ⟨rfl, hb123⟩
     | true =>
       go_wp2_with fail
       go_ret
       rw [HG.out, HRX.out]
       exact ⟨rfl, hb123⟩
end Go.Proofs.YtlcijlklbabajaaGreatDoor.R
