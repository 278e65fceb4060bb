/-
  The document's shaped: are parents and children as they should be? Conditions: the rows' numbers are bounded.
-/
import Derived.Test.YtlcijlklbabajaaGreatDoorQTrWC
import Derived.Test.YtlcijlklbabajaaGreatDoorQRR67
import Derived.Deep.CutRange
import Derived.Deep.CutBlock
import Derived.Deep.DeepCutAuto
import Derived.Deep.LoopGhost
namespace Go.Proofs.YtlcijlklbabajaaGreatDoor
open Go.RowKit R
/-- The document's shape, whole. -/
def ShapedP (t : List Nx) : Prop := 0 < t.length ∧ t.length ≤ 16384 ∧ kdOf t 0 = 0 ∧ Go.Proofs.YtlcijlklbabajaaGreatDoor.R.upAt t 0 = -1 ∧ ShapeB t t.length ∧ kidsX t = true
set_option maxHeartbeats 8000000 in
set_option maxRecDepth 100000 in
theorem shaped_any (a : Option Addr) (c : Nat) (ns : List NxM) (w : World) (h : HasTree w a ns) (hl : ns.length ≤ 1000000000) (hks : ∀ p ∈ ns, p.1.kids.length ≤ 1000000000) :
 ∃ R : Bool, (R = true ↔ ShapedP (ns.map (·.1))) ∧ Calls Tryz.prog 49 #[.slice a ns.length c] w fun e w' => e = .returned (.bool R) ∧ Below w.heap.size w w' := by
 classical
 refine ⟨decide (ShapedP (ns.map (·.1))), by simp, ?_⟩
 obtain ⟨R, hR⟩ : ∃ R : Bool, R = decide (ShapedP (ns.map (·.1))) := ⟨_, rfl⟩
 rw [← hR]
 have hRF : ¬ ShapedP (ns.map (·.1)) → R = false := fun hn => by rw [hR]; exact decide_eq_false hn
 have hRT : R = true ↔ ShapedP (ns.map (·.1)) := by rw [hR]; simp
 clear hR
 obtain ⟨ts, hts⟩ : ∃ ts, ts = ns.map (·.1) := ⟨_, rfl⟩
 rw [← hts] at hRF hRT
 by_cases h0 : ns.length = 0
 ·have HF := hid_mk (hRF (fun hp => by have := hp.1; rw [hts, List.length_map] at this; omega))
  rw [h0]
  clear h h0 hRF hRT hl hts hks
  go_enter Tryz.func49, Tryz.ntmps49
  go_wp2_with fail
  go_ret
  rw [HF.out]
  exact ⟨rfl, Below.refl _ _⟩
 have hpos : 0 < ns.length := by omega
 obtain ⟨x, hx, hxx, hxy⟩ := h.cell hpos
 clear hxx hxy
 subst hx
 obtain ⟨m, hm⟩ : ∃ m, m = ns.length := ⟨_, rfl⟩
 have htl : ts.length = m := by rw [hts, List.length_map, hm]
 have hq0 : ((m : Int) == 0) = false := beq_false_of_ne (by omega)
 have hmi : (0 : Int) < (m : Int) := by omega
 have hm1 : 1 ≤ m := by omega
 by_cases hbig : 16384 < m
 ·have hb2 : (16384 : Int) < (m : Int) := by omega
  have HF := hid_mk (hRF (fun hp => by have := hp.2.1; omega))
  rw [← hm]
  clear h hRF hRT hl hbig hm h0 hpos hts htl hks
  go_enter Tryz.func49, Tryz.ntmps49
  go_wp2_with fail
  go_ret
  rw [HF.out]
  exact ⟨rfl, Below.refl _ _⟩
 have hb2 : ¬ (16384 : Int) < (m : Int) := by omega
 have hgetn : ∀ j (hj : j < ns.length), ts.getD j nxD = (ns[j]).1 := fun j hj => by
  rw [hts, List.getD_eq_getElem?_getD, List.getElem?_map, List.getElem?_eq_getElem hj]; rfl
 have hkdn : ∀ j (hj : j < ns.length), kdOf ts j = (ns[j]).1.kind := fun j hj => by unfold kdOf; rw [hgetn j hj]
 have hnmn : ∀ j (hj : j < ns.length), nmOf ts j = (ns[j]).1.name := fun j hj => by unfold nmOf; rw [hgetn j hj]
 have hupn : ∀ j (hj : j < ns.length), Go.Proofs.YtlcijlklbabajaaGreatDoor.R.upAt ts j = (ns[j]).1.up := fun j hj => by show (ts.getD j nxD).up = _; rw [hgetn j hj]
 have z0 := (h.six hpos).1
 have z4 := (h.six hpos).2.2.2.2.1
 rw [Nat.zero_mul, show x.add 0 = x from if_pos rfl] at z0 z4
 rw [← hkdn 0 hpos] at z0
 rw [← hupn 0 hpos] at z4
 by_cases hk0 : kdOf ts 0 = 0
 case neg =>
  have HF := hid_mk (hRF (fun hp => hk0 hp.2.2.1))
  have e1 : ((kdOf ts 0 : Int) == 0) = false := beq_false_of_ne (by omega)
  have e2 : ((kdOf ts 0 : Int) != 0) = true := by rw [bne, e1]; rfl
  generalize kdOf ts 0 = K0 at *
  rw [← hm]
  clear h hRF hRT hl hbig hm h0 hpos hts htl hks hgetn hkdn hnmn hupn z4 hk0
  go_enter Tryz.func49, Tryz.ntmps49
  go_wp2_with fail
  go_ret
  rw [HF.out]
  exact ⟨rfl, Below.refl _ _⟩
 have hk0i : (kdOf ts 0 : Int) = 0 := by omega
 rw [hk0i] at z0
 by_cases hu0 : Go.Proofs.YtlcijlklbabajaaGreatDoor.R.upAt ts 0 = -1
 case neg =>
  have HF := hid_mk (hRF (fun hp => hu0 hp.2.2.2.1))
  have e1 : (Go.Proofs.YtlcijlklbabajaaGreatDoor.R.upAt ts 0 == -1) = false := beq_false_of_ne hu0
  have e2 : (Go.Proofs.YtlcijlklbabajaaGreatDoor.R.upAt ts 0 != -1) = true := by rw [bne, e1]; rfl
  generalize Go.Proofs.YtlcijlklbabajaaGreatDoor.R.upAt ts 0 = U0 at *
  rw [← hm]
  clear h hRF hRT hl hbig hm h0 hpos hts htl hks hgetn hkdn hnmn hupn hu0 hk0 hk0i
  go_enter Tryz.func49, Tryz.ntmps49
  go_wp2_with fail
  go_ret
  rw [HF.out]
  exact ⟨rfl, Below.refl _ _⟩
 rw [hu0] at z4
 have HSF := hid_mk (show (∃ j, 1 ≤ j ∧ j < m ∧ ¬ shapeP ts j) → R = false from fun ⟨j, j1, j2, j3⟩ => hRF (fun hp => j3 (hp.2.2.2.2.1 j j1 (by rw [htl]; exact j2))))
 have HRK := hid_mk (show ShapeB ts m → R = kidsX ts from fun hs => by
  have : R = true ↔ kidsX ts = true := by
   rw [hRT]
   exact ⟨fun hp => hp.2.2.2.2.2, fun hk => ⟨by omega, by omega, hk0, hu0, by rw [htl]; exact hs, hk⟩⟩
  exact Bool.eq_iff_iff.2 this)
 have HM := hid_mk (And.intro hm (And.intro hts htl))
 have H := hid_mk h
 have HKS := hid_mk hks
 have HKD := hid_mk hkdn
 have HNM := hid_mk hnmn
 have HUP := hid_mk hupn
 have HKK := hid_mk (fun s w => refKind_any s w)
 rw [← hm]
 clear h hRF hRT hl hbig hm h0 hpos hts htl hks hgetn hkdn hnmn hupn hu0 hk0 hk0i
 go_enter Tryz.func49, Tryz.ntmps49
 go_wp2_with fail
 clear z0 z4
 go_loopw [3, 4] (fun vl vi wr => ∃ i p : Nat, i = p + 1 ∧ i ≤ m ∧ vl = .int .i64 (p : Int) ∧ vi = .int .i64 (i : Int) ∧ Hid (ShapeB ts i ∧ ∃ q, wr = w.drewN q)) (fun _ vi _ => m - (intOf vi).toNat)
 case atStart => exact ⟨1, 0, rfl, hm1, rfl, rfl, hid_mk ⟨fun j a b => by omega, 0, rfl⟩⟩
 case round =>
  obtain ⟨i, p, hip, him, rfl, rfl, hI⟩ := hrel
  generalize wr = wo at *
  have HIP := hid_mk hip
  have hi1 : 1 ≤ i := by omega
  have hpi : p < i := by omega
  clear hip
  by_cases hlt : i < m
  ·have hlti : (i : Int) < (m : Int) := by omega
   have hi0 : (0 : Int) ≤ (i : Int) := by omega
   have hil : i < ns.length := by rw [← HM.out.1]; exact hlt
   have HDR := hid_mk hI.out.2
   have HTR := hid_mk (show HasTree wo (some x) ns by obtain ⟨q, hq⟩ := hI.out.2; rw [hq]; exact H.out.below (below_drewR (Below.refl _ _) q))
   have HB := hid_mk (show Below w.heap.size w wo by obtain ⟨q, hq⟩ := hI.out.2; rw [hq]; exact below_drewR (Below.refl _ _) q)
   have HSH := hid_mk hI.out.1
   clear hI
   have n4 := (HTR.out.six hil).2.2.2.2.1
   rw [← HUP.out i hil] at n4
   obtain ⟨U, hU⟩ : ∃ U, U = Go.Proofs.YtlcijlklbabajaaGreatDoor.R.upAt ts i := ⟨_, rfl⟩
   rw [← hU] at n4
   by_cases hneg : U < 0
   ·have HF := hid_mk (HSF.out ⟨i, by omega, hlt, fun hs => by obtain ⟨u, hu, _⟩ := id hs; omega⟩)
    go_wp2_with fail
    go_ret
    rw [HF.out]
    exact ⟨rfl, HB.out⟩
   have hUp : 0 ≤ U := by omega
   by_cases hge : (i : Int) ≤ U
   ·have HF := hid_mk (HSF.out ⟨i, by omega, hlt, fun hs => by obtain ⟨u, hu, hul, _⟩ := id hs; omega⟩)
    go_wp2_with fail
    go_ret
    rw [HF.out]
    exact ⟨rfl, HB.out⟩
   obtain ⟨u, hu⟩ : ∃ u : Nat, U = (u : Int) := ⟨U.toNat, by omega⟩
   subst hu
   have hul : u < i := by omega
   have hum : (u : Int) < (m : Int) := by omega
   have hunl : u < ns.length := by omega
   have m0 := (HTR.out.six hunl).1
   have m1 := (HTR.out.six hunl).2.1
   rw [← HKD.out u hunl] at m0
   rw [← HNM.out u hunl] at m1
   have hkk := hid_mk (HKK.out (strOf (nmOf ts u)) wo)
   simp only [sl_strOf] at hkk
   have HUQ := hid_mk hU.symm
   clear hU
   obtain ⟨G, hG⟩ : ∃ G : Prop, G = goodP ts u := ⟨_, rfl⟩
   have HG := hid_mk hG
   unfold goodP at hG
   generalize nmOf ts u = nmu at *
   generalize kdOf ts u = KU at *
   generalize strOf nmu = smu at *
   generalize hkz : kindL nmu = KN at *
   clear hkz
   have hbad : ¬ G → R = false := fun hg => HSF.out ⟨i, by omega, hlt, fun ⟨v, hv, _, hvg, _⟩ => by
    have hv' := HUQ.out
    have : u = v := by omega
    rw [HG.out, this] at hg
    exact hg hvg⟩
   by_cases k2 : KU = 2
   ·have HF := hid_mk (hbad (by rw [hG]; exact fun hc => hc.1 k2))
    have e1 : ((KU : Int) == 2) = true := by rw [k2]; rfl
    clear hG hbad
    go_wp2_with fail
    go_ret
    rw [HF.out]
    exact ⟨rfl, HB.out⟩
   have e1 : ((KU : Int) == 2) = false := beq_false_of_ne (by omega)
   by_cases k1 : KU = 1 ∧ 7 ≤ KN
   ·have HF := hid_mk (hbad (by rw [hG]; exact fun hc => hc.2 k1))
    have e2 : ((KU : Int) == 1) = true := by rw [k1.1]; rfl
    have e3 : (7 : Int) ≤ (KN : Int) := by omega
    clear hG hbad
    go_wp2_with fail
    (with_reducible refine (hkk.out).mono ?_)
    rintro e w1 ⟨rfl, rfl⟩
    go_wp2_with fail
    go_ret
    rw [HF.out]
    exact ⟨rfl, HB.out⟩
   have HGO := hid_mk (show goodP ts u by rw [← HG.out, hG]; exact ⟨k2, k1⟩)
   clear hG hbad HG
   have hgo : ((KU : Int) == 1) = false ∨ (((KU : Int) == 1) = true ∧ ¬ (7 : Int) ≤ (KN : Int)) := by
    by_cases k : KU = 1
    ·exact .inr ⟨by rw [k]; rfl, fun h7 => k1 ⟨k, by omega⟩⟩
    ·exact .inl (beq_false_of_ne (by omega))
   clear k1
   rcases hgo with e2 | ⟨e2, e3⟩
   ·go_wp2_with fail
    clear e1 e2
    have HPA := hid_mk (show (u = 0 ∨ u ∈ pa ts p) → ShapeB ts (i + 1) from fun hm j j1 j2 => by
     by_cases e : j = i
     ·subst e
      exact ⟨u, HUQ.out, hul, HGO.out, by rw [HIP.out, Nat.add_sub_cancel]; exact hm⟩
     ·exact HSH.out j j1 (by omega))
    have HNP := hid_mk (show ¬ (u = 0 ∨ u ∈ pa ts p) → R = false from fun hm => HSF.out ⟨i, by omega, hlt, fun ⟨v, hv, _, _, hvm⟩ => by
     have hv' := HUQ.out
     have huv : u = v := by omega
     rw [HIP.out, Nat.add_sub_cancel, ← huv] at hvm
     exact hm hvm⟩)
    go_loopw [6] (fun vk wr => ∃ k : Nat, k ≤ p ∧ vk = .int .i64 (k : Int) ∧ Hid (((u = 0 ∨ u ∈ pa ts p) ↔ (u = 0 ∨ u ∈ pa ts k)) ∧ wr = wo)) (fun vk _ => (intOf vk).toNat)
    case atStart => exact ⟨p, Nat.le_refl _, rfl, hid_mk ⟨Iff.rfl, rfl⟩⟩
    case round =>
     obtain ⟨k, hkp, rfl, hK⟩ := hrel
     by_cases hku : k = u
     ·have e5 : ((k : Int) == (u : Int)) = true := beq_iff_eq.2 (by omega)
      have e6 : ((k : Int) != (u : Int)) = false := by rw [bne, e5]; rfl
      have HN := hid_mk (And.intro (HPA.out (hK.out.1.2 (by rw [hku]; exact climb_here HSH.out.ups hul))) (show ∃ q, wr = w.drewN q by rw [hK.out.2]; exact HDR.out))
      clear hK hku
      go_wp2_with fail
      go_roundw
      case rel => exact ⟨i + 1, i, rfl, by omega, by go_num, by go_num, HN⟩
      case measure => simp [intOf]; omega
     ·have e5 : ((k : Int) == (u : Int)) = false := beq_false_of_ne (by omega)
      have e6 : ((k : Int) != (u : Int)) = true := by rw [bne, e5]; rfl
      by_cases hk0 : 0 < k
      ·have hk0' : (0 : Int) < (k : Int) := by omega
       have hkm : (k : Int) < (m : Int) := by omega
       have hkz : (0 : Int) ≤ (k : Int) := by omega
       have hkl : k < ns.length := by omega
       have k4 := (HTR.out.six hkl).2.2.2.2.1
       rw [← hK.out.2, ← HUP.out k hkl] at k4
       obtain ⟨v, hv, hvl⟩ := HSH.out.ups k (by omega) (by omega)
       rw [hv] at k4
       have HN := hid_mk (And.intro (hK.out.1.trans (climb_step HSH.out.ups (show k < i by omega) hk0 hku hv)) hK.out.2)
       clear hK hku hv
       go_wp2_with fail
       go_roundw
       case rel => exact ⟨v, by omega, by go_num, HN⟩
       case measure => simp [intOf]; omega
      ·have hk0' : ¬ (0 : Int) < (k : Int) := by omega
       have hkz : k = 0 := by omega
       have HF := hid_mk (HNP.out (fun hm => climb_top (show u ≠ 0 by omega) (by have := hK.out.1.1 hm; rwa [hkz] at this)))
       have HBK := hid_mk (show Below w.heap.size w wr by rw [hK.out.2]; exact HB.out)
       clear hK
       go_wp2_with fail
       go_ret
       rw [HF.out]
       exact ⟨rfl, HBK.out⟩
   ·go_wp2_with fail
    (with_reducible refine (hkk.out).mono ?_)
    rintro e w1 ⟨rfl, rfl⟩
    go_wp2_with fail
    clear e1 e2 e3
    have HPA := hid_mk (show (u = 0 ∨ u ∈ pa ts p) → ShapeB ts (i + 1) from fun hm j j1 j2 => by
     by_cases e : j = i
     ·subst e
      exact ⟨u, HUQ.out, hul, HGO.out, by rw [HIP.out, Nat.add_sub_cancel]; exact hm⟩
     ·exact HSH.out j j1 (by omega))
    have HNP := hid_mk (show ¬ (u = 0 ∨ u ∈ pa ts p) → R = false from fun hm => HSF.out ⟨i, by omega, hlt, fun ⟨v, hv, _, _, hvm⟩ => by
     have hv' := HUQ.out
     have huv : u = v := by omega
     rw [HIP.out, Nat.add_sub_cancel, ← huv] at hvm
     exact hm hvm⟩)
    go_loopw [6] (fun vk wr => ∃ k : Nat, k ≤ p ∧ vk = .int .i64 (k : Int) ∧ Hid (((u = 0 ∨ u ∈ pa ts p) ↔ (u = 0 ∨ u ∈ pa ts k)) ∧ wr = wo)) (fun vk _ => (intOf vk).toNat)
    case atStart => exact ⟨p, Nat.le_refl _, rfl, hid_mk ⟨Iff.rfl, rfl⟩⟩
    case round =>
     obtain ⟨k, hkp, rfl, hK⟩ := hrel
     by_cases hku : k = u
     ·have e5 : ((k : Int) == (u : Int)) = true := beq_iff_eq.2 (by omega)
      have e6 : ((k : Int) != (u : Int)) = false := by rw [bne, e5]; rfl
      have HN := hid_mk (And.intro (HPA.out (hK.out.1.2 (by rw [hku]; exact climb_here HSH.out.ups hul))) (show ∃ q, wr = w.drewN q by rw [hK.out.2]; exact HDR.out))
      clear hK hku
      go_wp2_with fail
      go_roundw
      case rel => exact ⟨i + 1, i, rfl, by omega, by go_num, by go_num, HN⟩
      case measure => simp [intOf]; omega
     ·have e5 : ((k : Int) == (u : Int)) = false := beq_false_of_ne (by omega)
      have e6 : ((k : Int) != (u : Int)) = true := by rw [bne, e5]; rfl
      by_cases hk0 : 0 < k
      ·have hk0' : (0 : Int) < (k : Int) := by omega
       have hkm : (k : Int) < (m : Int) := by omega
       have hkz : (0 : Int) ≤ (k : Int) := by omega
       have hkl : k < ns.length := by omega
       have k4 := (HTR.out.six hkl).2.2.2.2.1
       rw [← hK.out.2, ← HUP.out k hkl] at k4
       obtain ⟨v, hv, hvl⟩ := HSH.out.ups k (by omega) (by omega)
       rw [hv] at k4
       have HN := hid_mk (And.intro (hK.out.1.trans (climb_step HSH.out.ups (show k < i by omega) hk0 hku hv)) hK.out.2)
       clear hK hku hv
       go_wp2_with fail
       go_roundw
       case rel => exact ⟨v, by omega, by go_num, HN⟩
       case measure => simp [intOf]; omega
      ·have hk0' : ¬ (0 : Int) < (k : Int) := by omega
       have hkz : k = 0 := by omega
       have HF := hid_mk (HNP.out (fun hm => climb_top (show u ≠ 0 by omega) (by have := hK.out.1.1 hm; rwa [hkz] at this)))
       have HBK := hid_mk (show Below w.heap.size w wr by rw [hK.out.2]; exact HB.out)
       clear hK
       go_wp2_with fail
       go_ret
       rw [HF.out]
       exact ⟨rfl, HBK.out⟩
  ·have hlti : ¬ (i : Int) < (m : Int) := by omega
   have hie : i = m := by omega
   have HRZ := hid_mk (HRK.out (by rw [← hie]; exact hI.out.1))
   have HTZ := hid_mk (show HasTree wo (some x) ns by obtain ⟨q, hq⟩ := hI.out.2; rw [hq]; exact H.out.below (below_drewR (Below.refl _ _) q))
   have HBZ := hid_mk (show Below w.heap.size w wo by obtain ⟨q, hq⟩ := hI.out.2; rw [hq]; exact below_drewR (Below.refl _ _) q)
   have HUZ := hid_mk (show UpsOk ts from fun j j1 j2 => by
    obtain ⟨v, hv, hvl⟩ := hI.out.1.ups j j1 (by have := HM.out.2.2; omega)
    omega)
   clear hI
   generalize wo = wz at *
   obtain ⟨wm, hmk, hb1, hmet⟩ := make_ints m (by omega) wz
   have H0 := hid_mk (show MetAt wz.heap.size m (fun u => (ofUp ts 1 u).length) wm ∧ Below wz.heap.size wz wm ∧ GoodK ts 1 from ⟨by simp only [ofUp_zero, List.length_nil]; exact hmet, hb1, good_one ts⟩)
   clear hb1 hmet
   go_wp2_with fail
   clear hmk
   go_loopw [8] (fun i wr => ∃ k : Nat, 1 ≤ k ∧ k ≤ m ∧ i = .int .i64 k ∧ Hid (MetAt wz.heap.size m (fun u => (ofUp ts k u).length) wr ∧ Below wz.heap.size wz wr ∧ GoodK ts k)) (fun i _ => m - (intOf i).toNat)
   case atStart => exact ⟨1, Nat.le_refl _, hm1, rfl, H0⟩
   case round =>
    obtain ⟨k, hk1, hk, rfl, hI⟩ := hrel
    generalize wr = wo at *
    clear H0
    by_cases hlt : k < m
    ·have hlti : (k : Int) < (m : Int) := by omega
     have hkl : k < ns.length := by rw [← HM.out.1]; exact hlt
     have htree := HTZ.out.below hI.out.2.1
     have n4 := (htree.six hkl).2.2.2.2.1
     have hup := HUZ.out k hk1 (by rw [HM.out.2.2]; exact hlt)
     have hupk : Go.Proofs.YtlcijlklbabajaaGreatDoor.R.upAt ts k = (ns[k]).1.up := by
      unfold Go.Proofs.YtlcijlklbabajaaGreatDoor.R.upAt
      rw [HM.out.2.1, List.getD_eq_getElem?_getD, List.getElem?_map, List.getElem?_eq_getElem hkl]
      rfl
     obtain ⟨v, hv⟩ : ∃ v : Nat, Go.Proofs.YtlcijlklbabajaaGreatDoor.R.upAt ts k = (v : Int) := ⟨(Go.Proofs.YtlcijlklbabajaaGreatDoor.R.upAt ts k).toNat, by omega⟩
     rw [← hupk, hv] at n4
     have hvm : v < m := by omega
     have hvl : v < ns.length := by rw [← HM.out.1]; exact hvm
     have hvi : (v : Int) < (m : Int) := by omega
     have n5 := (htree.six hvl).2.2.2.2.2
     have hkv := htree.kids _ (List.getElem_mem hvl)
     have hksz := HKS.out _ (List.getElem_mem hvl)
     have hkat : kidsAt ts v = (ns[v]).1.kids := by
      unfold kidsAt
      rw [HM.out.2.1, List.getD_eq_getElem?_getD, List.getElem?_map, List.getElem?_eq_getElem hvl]
      rfl
     obtain ⟨ka, kc, hkval, hkrow⟩ := hkv
     rw [hkval] at n5
     rw [← hkat] at n5 hkrow hksz
     have m1 := hI.out.1.cell hvm
     have f1 := hI.out.1.frozen v
     obtain ⟨cn, hcn⟩ : ∃ cn, cn = (ofUp ts k v).length := ⟨_, rfl⟩
     have hcle : cn ≤ (kidsAt ts v).length := by rw [hcn]; exact (hI.out.2.2 v (by rw [HM.out.2.2]; exact hvm)).length_le
     have hgn := hid_mk (fun hc => good_next hI.out.2.2 hk1 hv (by rw [HM.out.2.2]; exact hvm) hc)
     have hbn := hid_mk (fun hc => bad_next hk1 (by rw [HM.out.2.2]; exact hlt) hv (by rw [HM.out.2.2]; exact hvm) hc)
     rw [← hcn] at m1 hgn hbn
     have HV := hid_mk (And.intro hv hcn)
     generalize hL : kidsAt ts v = KL at *
     clear hup hupk hkat hv hcn hkval htree hL
     by_cases hce : cn = KL.length
     ·have hq : (KL.length : Int) ≤ (cn : Int) := by omega
      have HF := hid_mk (show R = false by
       rw [HRZ.out]
       exact hbn.out (by rw [List.getElem?_eq_none (by omega)]; exact fun h => by cases h))
      clear hgn hbn hce
      go_wp2_with fail
      go_quiet (fail)
      go_wp2_with fail
      go_ret
      rw [HF.out]
      exact ⟨rfl, HBZ.out.trans ((below_drewR hI.out.2.1 nq).mono HBZ.out.size)⟩
     ·have hq : ¬ (KL.length : Int) ≤ (cn : Int) := by omega
      have hcl : cn < KL.length := by omega
      have hcli : (cn : Int) < (KL.length : Int) := by omega
      obtain ⟨y, hy, hyb, k0⟩ := hkrow.ints hcl
      subst hy
      obtain ⟨z, hz⟩ : ∃ z, z = KL[cn] := ⟨_, rfl⟩
      rw [← hz] at k0
      have hzz : KL[cn]? = some z := by rw [List.getElem?_eq_getElem hcl, hz]
      by_cases hkz : z = (k : Int)
      ·have hq1 : (z == (k : Int)) = true := beq_iff_eq.2 hkz
       have hq2 : (z != (k : Int)) = false := by rw [bne, hq1]; rfl
       have HG := hid_mk (hgn.out (by rw [hzz, hkz]))
       have HD := hid_mk (fun nq => (show MetAt wz.heap.size m (fun u => (ofUp ts k u).length) (wo.drewN nq) from hI.out.1.below (below_drewR (Below.refl _ _) nq)))
       have HST := hid_mk (fun nq => (show MetAt wz.heap.size m (fun u => (ofUp ts (k + 1) u).length) ((wo.drewN nq).setCell ⟨wz.heap.size, v, none⟩ (.int .i64 ((cn : Int) + 1))) from by
        rw [HV.out.2]
        refine (HD.out nq).set hvm (fun u hu => ?_)
        rw [ofUp_succ]
        by_cases e : u = v
        ·subst e
         rw [if_pos ⟨hk1, HV.out.1⟩, if_pos rfl, List.length_append]
         rfl
        ·rw [if_neg (fun h2 => e (by have := HV.out.1.symm.trans h2.2; omega)), if_neg e, List.append_nil]))
       have HB := hid_mk (fun nq => (show Below wz.heap.size wz ((wo.drewN nq).setCell ⟨wz.heap.size, v, none⟩ (.int .i64 ((cn : Int) + 1))) from (below_drewR hI.out.2.1 nq).setCell (Nat.le_refl _) _))
       have hcn2 : (cn : Int) ≤ 1000000000 := by omega
       clear hgn hbn hce hz hzz hkz
       go_wp2_with fail
       go_quiet (fail)
       have g1 := (HD.out nq).cell hvm
       have g2 := (HD.out nq).frozen v
       have HST2 := hid_mk (And.intro (HST.out nq) (And.intro (HB.out nq) HG.out))
       simp only [← HV.out.2] at g1
       clear HD HST HB m1 f1 n4 n5 k0
       go_wp2_with fail
       go_roundw
       case rel => exact ⟨k + 1, by omega, by omega, by go_num, HST2⟩
       case measure => simp [intOf]; omega
      ·have hq1 : (z == (k : Int)) = false := beq_false_of_ne hkz
       have hq2 : (z != (k : Int)) = true := by rw [bne, hq1]; rfl
       have HF := hid_mk (show R = false by
        rw [HRZ.out]
        exact hbn.out (by rw [hzz]; intro h; injection h with h; exact hkz h))
       clear hgn hbn hce hz hzz hkz
       go_wp2_with fail
       go_quiet (fail)
       go_wp2_with fail
       go_ret
       rw [HF.out]
       exact ⟨rfl, HBZ.out.trans ((below_drewR hI.out.2.1 nq).mono HBZ.out.size)⟩
    ·have hlti : ¬ (k : Int) < (m : Int) := by omega
     have hkm : k = m := by omega
     have HGE := hid_mk (show R = true ↔ ∀ u, u < m → (ofUp ts m u).length = (kidsAt ts u).length from by
      have h3 := hI.out.2.2
      rw [hkm, ← HM.out.2.2] at h3
      have := good_end h3
      rw [HM.out.2.2] at this
      rw [HRZ.out]
      exact this)
     have HI := hid_mk (show MetAt wz.heap.size m (fun u => (ofUp ts m u).length) wo ∧ Below wz.heap.size wz wo from by rw [← hkm]; exact ⟨by rw [hkm]; have := hI.out.1; rw [hkm] at this; exact this, hI.out.2.1⟩)
     clear hI hkm
     go_wp2_with fail
     go_loopw [10] (fun i wr => ∃ j : Nat, j ≤ m ∧ i = .int .i64 j ∧ Hid (MetAt wz.heap.size m (fun u => (ofUp ts m u).length) wr ∧ Below wz.heap.size wz wr ∧ ∀ u, u < j → (ofUp ts m u).length = (kidsAt ts u).length)) (fun i _ => m - (intOf i).toNat)
     case atStart => exact ⟨0, Nat.zero_le _, rfl, hid_mk ⟨HI.out.1, HI.out.2, fun u hu => absurd hu (by omega)⟩⟩
     case round =>
      obtain ⟨j, hj, rfl, hJ⟩ := hrel
      generalize wr = wq at *
      by_cases hlt2 : j < m
      ·have hlti2 : (j : Int) < (m : Int) := by omega
       have hjl : j < ns.length := by rw [← HM.out.1]; exact hlt2
       have htree := HTZ.out.below hJ.out.2.1
       have q5 := (htree.six hjl).2.2.2.2.2
       obtain ⟨ka, kc, hkv, _⟩ := htree.kids _ (List.getElem_mem hjl)
       rw [hkv] at q5
       have hkat : kidsAt ts j = (ns[j]).1.kids := by
        unfold kidsAt
        rw [HM.out.2.1, List.getD_eq_getElem?_getD, List.getElem?_map, List.getElem?_eq_getElem hjl]
        rfl
       rw [← hkat] at q5
       have m1 := hJ.out.1.cell hlt2
       have HL := hJ
       obtain ⟨cn, hcn⟩ : ∃ cn, cn = (ofUp ts m j).length := ⟨_, rfl⟩
       obtain ⟨L, hLL⟩ : ∃ L, L = (kidsAt ts j).length := ⟨_, rfl⟩
       have HC := hid_mk (show (ofUp ts m j).length = cn ∧ (kidsAt ts j).length = L from ⟨hcn.symm, hLL.symm⟩)
       rw [← hcn] at m1
       rw [← hLL] at q5
       clear hLL hkat hkv htree hJ hcn
       by_cases hce : cn = L
       ·have hq1 : ((cn : Int) == (L : Int)) = true := by rw [hce]; simp
        have hq2 : ((cn : Int) != (L : Int)) = false := by rw [bne, hq1]; rfl
        have HN := hid_mk (show ∀ u, u < j + 1 → (ofUp ts m u).length = (kidsAt ts u).length from fun u hu => by
         by_cases e : u = j
         ·rw [e, HC.out.1, HC.out.2]; exact hce
         ·exact HL.out.2.2 u (by omega))
        clear hce
        go_wp2_with fail
        go_quiet (fail)
        go_wp2_with fail
        go_roundw
        case rel => exact ⟨j + 1, by omega, by go_num, hid_mk ⟨HL.out.1.below (below_drewR (Below.refl _ _) nq), below_drewR HL.out.2.1 nq, HN.out⟩⟩
        case measure => simp [intOf]; omega
       ·have hq1 : ((cn : Int) == (L : Int)) = false := beq_false_of_ne (by omega)
        have hq2 : ((cn : Int) != (L : Int)) = true := by rw [bne, hq1]; rfl
        have HF := hid_mk (show R = false by
         rw [Bool.eq_false_iff]
         intro h
         have := HGE.out.1 h j hlt2
         rw [HC.out.1, HC.out.2] at this
         exact hce this)
        clear hce
        go_wp2_with fail
        go_quiet (fail)
        go_wp2_with fail
        go_ret
        rw [HF.out]
        exact ⟨rfl, HBZ.out.trans ((below_drewR HL.out.2.1 nq).mono HBZ.out.size)⟩
      ·have hlti2 : ¬ (j : Int) < (m : Int) := by omega
       have HF := hid_mk (HGE.out.2 (fun u hu => hJ.out.2.2 u (by omega)))
       have HL := hid_mk hJ.out.2.1
       clear hJ
       go_wp2_with fail
       go_ret
       rw [HF.out]
       exact ⟨rfl, HBZ.out.trans (HL.out.mono HBZ.out.size)⟩
end Go.Proofs.YtlcijlklbabajaaGreatDoor
/-
  The document's Right. Conditions: sizes are bounded.
-/
namespace Go.Proofs.YtlcijlklbabajaaGreatDoor
open Go.RowKit R
theorem kids_in {t : List Nx} (h : kidsX t = true) {u : Nat} (hu : u < t.length) {k : Nat} (hk : k < (kidsAt t u).length) : ∃ z : Nat, (kidsAt t u)[k] = (z : Int) ∧ z < t.length ∧ (kidsAt t u).getD k 0 = (z : Int) := by
 have e := (kidsX_iff t).1 h u hu
 have hm : (kidsAt t u)[k] ∈ ofUp t t.length u := by rw [← e]; exact List.getElem_mem hk
 obtain ⟨z, hz, hzl, _, _⟩ := mem_ofUp.1 hm
 exact ⟨z, hz, hzl, by rw [List.getD_eq_getElem?_getD, List.getElem?_eq_getElem hk, ← hz]; rfl⟩
/-- What the document asks of one node, as a Boolean. -/
def okB (t : Nx) (i : Nat) (N : Bool) : Bool :=
 if t.kind = 0 then ((i : Int) == 0) && (t.name == []) && (t.attrs.length == 0) && (t.data == [])
 else if t.kind = 1 then decide (0 < kindL t.name) && (t.data == []) && (decide (t.attrs.length ≤ 16) && attrsX t.attrs) && N
 else if t.kind = 2 then (t.name == []) && (t.attrs.length == 0) && !(t.data == []) && dataX t.data
 else false
set_option maxHeartbeats 8000000 in
set_option maxRecDepth 100000 in
theorem rRight_any (a : Option Addr) (c : Nat) (ns : List NxM) (w : World) (h : HasTree w a ns) (hl : ns.length ≤ 1000000000) (hok : ∀ p ∈ ns, NxOk p.1 ∧ p.1.kids.length ≤ 1000000000 ∧ p.1.attrs.length ≤ 1000000000) :
 Calls Tryz.prog 21 #[.slice a ns.length c] w fun e w' => e = .returned (.int .i64 (rightN (ns.map (·.1)) : Int)) ∧ Below w.heap.size w w' := by
 obtain ⟨S, hS, hsh⟩ := shaped_any a c ns w h hl (fun p hp => (hok p hp).2.1)
 obtain ⟨ts, hts⟩ : ∃ ts, ts = ns.map (·.1) := ⟨_, rfl⟩
 rw [← hts] at hS ⊢
 obtain ⟨G, hG⟩ : ∃ G : Nat, G = rightN ts := ⟨_, rfl⟩
 rw [← hG]
 have hbadG : ¬ RefP ts → G = 53 := fun hn => by
  rw [hG]; unfold rightN
  rw [if_neg (fun hr => hn ((ref_right ts).1 hr))]
 have hgoodG : RefP ts → G = 0 := fun hn => by
  rw [hG]; unfold rightN
  rw [if_pos ((ref_right ts).2 hn)]
 clear hG
 have HSH := hid_mk hsh
 clear hsh
 cases S with
 | false =>
   have HG := hid_mk (hbadG (fun hp => by have := hS.2 ⟨hp.1, hp.2.1, hp.2.2.1, hp.2.2.2.1, hp.2.2.2.2.1, hp.2.2.2.2.2.1⟩; cases this))
   clear hbadG hgoodG hS h hl hok hts
   go_enter Tryz.func21, Tryz.ntmps21
   go_wp2_with fail
   with_reducible refine HSH.out.mono ?_
   rintro e w1 ⟨rfl, hb1⟩
   go_wp2_with fail
   go_ret
   rw [HG.out]
   exact ⟨rfl, hb1⟩
 | true =>
   have hP := hS.1 rfl
   clear hS
   have htl : ts.length = ns.length := by rw [hts, List.length_map]
   have hpos : 0 < ns.length := by have := hP.1; omega
   obtain ⟨x, hx, hxx, hxy⟩ := h.cell hpos
   clear hxx hxy
   subst hx
   have hups : UpsB ts ns.length := by have := hP.2.2.2.2.1.ups; rwa [htl] at this
   have hn16 : ns.length ≤ 16384 := by have := hP.2.1; omega
   have HG1 := hid_mk (show (∃ i, i < ns.length ∧ ¬ (okP ts i ∧ sibP ts i)) → G = 53 from fun ⟨i, i1, i2⟩ => hbadG (fun hp => i2 (hp.2.2.2.2.2.2 i (by omega))))
   have HG2 := hid_mk (show (∀ i, i < ns.length → okP ts i ∧ sibP ts i) → G = 0 from fun hall => hgoodG ⟨hP.1, hP.2.1, hP.2.2.1, hP.2.2.2.1, hP.2.2.2.2.1, hP.2.2.2.2.2, fun i hi => hall i (by omega)⟩)
   have HKX := hid_mk (fun (u : Nat) (hu : u < ns.length) (k : Nat) (hk : k < (kidsAt ts u).length) => kids_in hP.2.2.2.2.2 (show u < ts.length by omega) hk)
   have hgetn : ∀ j (hj : j < ns.length), ts.getD j nxD = (ns[j]).1 := fun j hj => by
    rw [hts, List.getD_eq_getElem?_getD, List.getElem?_map, List.getElem?_eq_getElem hj]; rfl
   have HGET := hid_mk hgetn
   have HKDN := hid_mk (show ∀ j (hj : j < ns.length), kdOf ts j = (ns[j]).1.kind from fun j hj => by unfold kdOf; rw [hgetn j hj])
   have HKAT := hid_mk (show ∀ j (hj : j < ns.length), kidsAt ts j = (ns[j]).1.kids from fun j hj => by unfold kidsAt; rw [hgetn j hj])
   have HNE := hid_mk (fun (w' : World) (hb : Below w.heap.size w w') (i : Nat) (hi : i < ns.length) (hi1 : 1 ≤ i) => nested_any x c ns w' (h.below hb) hn16 i hi hi1 (by rw [← hts]; exact hups))
   rw [← hts] at HNE
   obtain ⟨m, hm⟩ : ∃ m, m = ns.length := ⟨_, rfl⟩
   have HM := hid_mk hm
   have HTL := hid_mk htl
   have H := hid_mk h
   have HOK := hid_mk hok
   have HUPS := hid_mk hups
   have HKD0 := hid_mk hP.2.2.1
   have hkk := hid_mk (fun s w => refKind_any s w)
   have hwell := hid_mk (fun s hs w => U.well_any s hs w)
   have hattrs := hid_mk (fun a c l w h hl hok => attrs_any a c l w h hl hok)
   rw [← hm] at HNE HSH hn16 ⊢
   clear hbadG hgoodG hP h hl hok hts htl hgetn hups hm hpos
   go_enter Tryz.func21, Tryz.ntmps21
   go_wp2_with fail
   with_reducible refine HSH.out.mono ?_
   rintro e w1 ⟨rfl, hb1⟩
   have HB1 := hid_mk hb1
   clear hb1
   go_wp2_with fail
   go_loopg [3] m (fun g vi wr => ∃ i : Nat, i + g = m ∧ vi = .int .i64 (i : Int) ∧ Hid ((∀ j, j < i → okP ts j ∧ sibP ts j) ∧ Below w.heap.size w wr))
   case atStart => exact ⟨0, by omega, rfl, hid_mk ⟨fun j hj => by omega, HB1.out⟩⟩
   case round =>
    obtain ⟨i, hig, rfl, hI⟩ := hrel
    generalize wr = wo at *
    by_cases hlt : i < m
    ·have hlti : (i : Int) < (m : Int) := by omega
     have hi0 : (0 : Int) ≤ (i : Int) := by omega
     have hil : i < ns.length := by rw [← HM.out]; exact hlt
     have htree := H.out.below hI.out.2
     obtain ⟨n0, n1, n2, n3, n4, n5⟩ := htree.six hil
     have hat0 := htree.attrs _ (List.getElem_mem hil)
     have hki0 := htree.kids _ (List.getElem_mem hil)
     obtain ⟨t, ht⟩ : ∃ t, t = (ns[i]).1 := ⟨_, rfl⟩
     have htok := HOK.out _ (List.getElem_mem hil)
     have htd : ts.getD i nxD = t := by rw [HGET.out i hil, ht]
     have hkat := HKAT.out i hil
     rw [← ht] at n0 n1 n3 n4 hat0 hki0 htok hkat
     obtain ⟨aa, ac, hav, hac, harow⟩ := hat0
     obtain ⟨ka, kc, hkv, hkrow⟩ := hki0
     rw [hav] at n2
     rw [hkv] at n5
     obtain ⟨wl, hwl⟩ : ∃ wl, wl = wo.alloc (.cells #[.int .u8 (t.kind : Int), .string (strOf t.name), .slice aa t.attrs.length ac, .string (strOf t.data), .int .i64 t.up, .slice ka t.kids.length kc] 38 (0, 0)) := ⟨_, rfl⟩
     have hol : Below wo.heap.size wo wl := by rw [hwl]; exact (Below.refl _ _).alloc (Nat.le_refl _) _
     have hNA : NodeAt wo.heap.size t (.slice aa t.attrs.length ac) (.slice ka t.kids.length kc) wl := by unfold NodeAt; rw [hwl]; exact heap_alloc_new wo _
     have HWL := hid_mk hwl.symm
     have HBL := hid_mk (hI.out.2.trans (hol.mono hI.out.2.size))
     have HNA := hid_mk hNA
     have HPREV := hid_mk hI.out.1
     have HAT := hid_mk (And.intro hac (harow.below hol))
     have HKR := hid_mk hkrow
     have HWO := hid_mk hol
     obtain ⟨q0, q1, q2, q3, q4, q5⟩ := hNA.cells
     have HOKP := hid_mk (show okP ts i ↔ ((t.kind = 0 ∧ i = 0 ∧ t.name = [] ∧ t.attrs = [] ∧ t.data = []) ∨ (t.kind = 2 ∧ textX t = true) ∨ (t.kind = 1 ∧ elemX t = true ∧ nestL (kindL (nmOf ts i)) ((pa ts (Go.Proofs.YtlcijlklbabajaaGreatDoor.R.upAt ts i).toNat).map (nmOf ts)) 0 false = true)) from by
      unfold okP nodeP kdOf nmOf
      rw [htd])
     clear hwl hol hNA hav hkv hac harow hkrow htree hI
     have HTT := hid_mk ht
     clear htd ht
     have HQ := hid_mk (show okP ts i ↔ okB t i (nestL (kindL (nmOf ts i)) ((pa ts (Go.Proofs.YtlcijlklbabajaaGreatDoor.R.upAt ts i).toNat).map (nmOf ts)) 0 false) = true from by
      rw [HOKP.out]
      unfold okB textX elemX
      by_cases k0 : t.kind = 0
      ·rw [if_pos k0]; simp [k0, and_assoc]
      ·rw [if_neg k0]
       by_cases k1 : t.kind = 1
       ·rw [if_pos k1]; simp [k1, and_assoc]; omega
       ·rw [if_neg k1]
        by_cases k2 : t.kind = 2
        ·rw [if_pos k2]; simp [k2, and_assoc]
        ·rw [if_neg k2]; simp [k0, k1, k2])
     have HI1 := hid_mk (show t.kind ≠ 0 → 1 ≤ i from fun hk => by
      rcases Nat.eq_zero_or_pos i with e | e
      ·exfalso
       apply hk
       have e1 : kdOf ts i = t.kind := by rw [HKDN.out i hil, ← HTT.out]
       rw [e, HKD0.out] at e1
       exact e1.symm
      ·exact e)
     have HTN := hid_mk (show nmOf ts i = t.name from by unfold nmOf; rw [HGET.out i hil, ← HTT.out])
     obtain ⟨N, hN⟩ : ∃ N, N = nestL (kindL (nmOf ts i)) ((pa ts (Go.Proofs.YtlcijlklbabajaaGreatDoor.R.upAt ts i).toNat).map (nmOf ts)) 0 false := ⟨_, rfl⟩
     rw [← hN] at HQ
     have HN := hid_mk hN
     clear hN HOKP
     have p3 : (strOf t.name).toList.isEmpty = (t.name == []) := by rw [toList_strOf]; cases t.name <;> rfl
     have p4 : ((t.attrs.length : Int) == 0) = (t.attrs.length == 0) := by rw [Bool.eq_iff_iff]; simp
     have p5 : (strOf t.data).toList.isEmpty = (t.data == []) := by rw [toList_strOf]; cases t.data <;> rfl
     have p0 : (⟨#[]⟩ : ByteArray).toList = [] := by rw [Lib.toList_data]
     go_upto_block 2 with fail
     rw [HWL.out]
     go_cut [5] from 10 to 118 (fun vok wx => ∃ ok : Bool, vok = .bool ok ∧ Hid ((ok = true ↔ okP ts i) ∧ Below wl.heap.size wl wx))
     case first =>
      by_cases k0 : t.kind = 0
      ·have e0 : ((t.kind : Int) == 0) = true := by rw [k0]; rfl
       have HQ0 := hid_mk (show okP ts i ↔ (((i : Int) == 0) && (t.name == []) && (t.attrs.length == 0) && (t.data == [])) = true from by
        have := HQ.out
        unfold okB at this
        rwa [if_pos k0] at this)
       clear k0 n0 n1 n2 n3 n4 n5
       obtain ⟨bi, hbi⟩ : ∃ b, ((i : Int) == 0) = b := ⟨_, rfl⟩
       rw [hbi] at HQ0
       generalize (t.name == []) = b3 at *
       generalize (t.attrs.length == 0) = b4 at *
       generalize (t.data == []) = b5 at *
       cases bi
       all_goals cases b3
       all_goals cases b4
       all_goals cases b5
       all_goals
        go_wp2_with fail
        go_meet
        exact ⟨_, rfl, hid_mk ⟨HQ0.out.symm, Below.refl _ _⟩⟩
      ·have e0 : ((t.kind : Int) == 0) = false := beq_false_of_ne (by omega)
       by_cases k1 : t.kind = 1
       ·have e1 : ((t.kind : Int) == 1) = true := by rw [k1]; rfl
        have hi1 := HI1.out k0
        have HQ1 := hid_mk (show okP ts i ↔ (decide (0 < kindL t.name) && (t.data == []) && (decide (t.attrs.length ≤ 16) && attrsX t.attrs) && N) = true from by
         have := HQ.out
         unfold okB at this
         rwa [if_neg k0, if_pos k1] at this)
        have hk1 := hid_mk (fun w => hkk.out (strOf t.name) w)
        simp only [sl_strOf] at hk1
        have hat1 := hid_mk (fun (w' : World) (hb : Below wl.heap.size wl w') => hattrs.out aa ac t.attrs w' (HAT.out.2.below hb) htok.2.2 htok.1.2.2)
        have hne1 := hid_mk (fun (w' : World) (hb : Below wl.heap.size wl w') => HNE.out w' (HBL.out.trans (hb.mono HBL.out.size)) i hlt hi1)
        simp only [← HN.out] at hne1
        clear k0 k1 n0 n1 n2 n3 n4 n5 p3 p4
        obtain ⟨bk, hbk⟩ : ∃ b, decide (0 < kindL t.name) = b := ⟨_, rfl⟩
        rw [hbk] at HQ1
        generalize (decide (t.attrs.length ≤ 16) && attrsX t.attrs) = ba at *
        generalize (t.data == []) = b5 at *
        generalize kindL t.name = K at *
        cases bk
        ·have hK0 : ¬ (0 : Int) < (K : Int) := by have := of_decide_eq_false hbk; omega
         clear hbk
         go_wp2_with fail
         (with_reducible refine (hk1.out _).mono ?_)
         rintro e w2 ⟨rfl, rfl⟩
         go_wp2_with fail
         go_meet
         exact ⟨_, rfl, hid_mk ⟨HQ1.out.symm, Below.refl _ _⟩⟩
        ·have hK0 : (0 : Int) < (K : Int) := by have := of_decide_eq_true hbk; omega
         clear hbk
         go_wp2_with fail
         (with_reducible refine (hk1.out _).mono ?_)
         rintro e w2 ⟨rfl, rfl⟩
         cases b5
         ·go_wp2_with fail
          go_meet
          exact ⟨_, rfl, hid_mk ⟨HQ1.out.symm, Below.refl _ _⟩⟩
         ·go_wp2_with fail
          (with_reducible refine (hat1.out _ (Below.refl _ _)).mono ?_)
          rintro e w3 ⟨rfl, hb3⟩
          cases ba
          ·go_wp2_with fail
           go_meet
           exact ⟨_, rfl, hid_mk ⟨HQ1.out.symm, hb3⟩⟩
          ·go_wp2_with fail
           (with_reducible refine (hne1.out _ hb3).mono ?_)
           rintro e w4 ⟨rfl, q, rfl⟩
           go_wp2_with fail
           go_meet
           exact ⟨_, rfl, hid_mk ⟨by rw [HQ1.out]; rfl, below_drewR hb3 q⟩⟩
       ·have e1 : ((t.kind : Int) == 1) = false := beq_false_of_ne (by omega)
        by_cases k2 : t.kind = 2
        ·have e2 : ((t.kind : Int) == 2) = true := by rw [k2]; rfl
         have HQ2 := hid_mk (show okP ts i ↔ ((t.name == []) && (t.attrs.length == 0) && !(t.data == []) && dataX t.data) = true from by
          have := HQ.out
          unfold okB at this
          rwa [if_neg k0, if_neg k1, if_pos k2] at this)
         have hwo := hid_mk (hwell.out (strOf t.data) (by rw [size_strOf]; exact htok.1.2.1) wl)
         rw [show U.sl (strOf t.data) = t.data from sl_strOf _, show U.wel0 t.data = dataX t.data from (dataX_eq _).symm] at hwo
         clear k0 k1 k2 n0 n1 n2 n3 n4 n5
         generalize (t.name == []) = b3 at *
         generalize (t.attrs.length == 0) = b4 at *
         generalize (t.data == []) = b5 at *
         generalize dataX t.data = b6 at *
         cases b3
         all_goals cases b4
         all_goals cases b5
         all_goals
          go_wp2_with fail
          first
           | (go_meet
              exact ⟨_, rfl, hid_mk ⟨HQ2.out.symm, Below.refl _ _⟩⟩)
           | ((with_reducible refine hwo.out.mono ?_)
              rintro e w2 ⟨rfl, hb2⟩
              go_wp2_with fail
              go_meet
              exact ⟨_, rfl, hid_mk ⟨HQ2.out.symm, hb2⟩⟩)
        ·have e2 : ((t.kind : Int) == 2) = false := beq_false_of_ne (by omega)
         have HQ3 := hid_mk (show okP ts i ↔ false = true from by
          have := HQ.out
          unfold okB at this
          rwa [if_neg k0, if_neg k1, if_neg k2] at this)
         clear k0 k1 k2 n0 n1 n2 n3 n4 n5
         go_wp2_with fail
         go_meet
         exact ⟨_, rfl, hid_mk ⟨HQ3.out.symm, Below.refl _ _⟩⟩
     case rest =>
      obtain ⟨ok0, rfl, hK⟩ := hcut
      obtain ⟨L, hL⟩ : ∃ L, L = t.kids.length := ⟨_, rfl⟩
      have HL := hid_mk (show L = (kidsAt ts i).length by rw [hL, hkat])
      have HW0 := hid_mk hK.out.2
      have HBAD := hid_mk (show ¬ (okP ts i ∧ sibP ts i) → G = 53 from fun hn => HG1.out ⟨i, hil, hn⟩)
      have HROW := hid_mk (show ∀ w', Below wl.heap.size wl w' → HasRow w' ka ((kidsAt ts i).map (Value.int .i64)) ∧ w'.cell? ⟨wo.heap.size, 5, none⟩ = some (.slice ka L kc) ∧ HasTree w' (some x) ns from fun w' hb => by
       rw [hkat, hL]
       exact ⟨HKR.out.below (HWO.out.trans (hb.mono HWO.out.size)), (HNA.out.below hb).cells.2.2.2.2.2, H.out.below (HBL.out.trans (hb.mono HBL.out.size))⟩)
      have hLb : (L : Int) ≤ 1000000000 := by have := htok.2.1; omega
      have hok0 := hid_mk hK.out.1
      clear hK hL hkat n0 n1 n2 n3 n4 n5 q0 q1 q2 q3 q4 q5 p3 p4 p5 p0 HWL HNA HAT HKR HQ HN HTN HTT
      have HZ := hid_mk ((HROW.out _ HW0.out).2.1)
      go_wp2_with fail
      go_loopg [5, 6] L (fun g vok vk wr => ∃ (ok : Bool) (k p : Nat), vok = .bool ok ∧ vk = .int .i64 (k : Int) ∧ Hid (k = p + 1 ∧ k + g = L + 1) ∧ Hid ((ok = true → okP ts i ∧ ∀ j, j < p → ¬ (kdOf ts ((kidsAt ts i).getD j 0).toNat = 2 ∧ kdOf ts ((kidsAt ts i).getD (j + 1) 0).toNat = 2)) ∧ (ok = false → ¬ (okP ts i ∧ sibP ts i)) ∧ Below wl.heap.size wl wr))
      case atStart => exact ⟨ok0, 1, 0, rfl, rfl, hid_mk ⟨rfl, by omega⟩, hid_mk ⟨fun e => ⟨hok0.out.1 e, fun j hj => absurd hj (Nat.not_lt_zero _)⟩, fun e h2 => (by have := hok0.out.2 h2.1; rw [e] at this; cases this), HW0.out⟩⟩
      case round =>
       obtain ⟨ok, k, p, rfl, rfl, hP, hI⟩ := hrel
       generalize wr = wq at *
       have r5 := (HROW.out _ hI.out.2.2).2.1
       have HBW := hid_mk (HBL.out.trans (hI.out.2.2.mono HBL.out.size))
       by_cases hkl : k < L
       ·have hkli : (k : Int) < (L : Int) := by omega
        cases ok with
        | false =>
          have HG := hid_mk (HBAD.out (hI.out.2.1 rfl))
          clear hI
          go_wp2_with fail
          go_ret
          rw [HG.out]
          exact ⟨rfl, HBW.out⟩
        | true =>
          have hpk : p < L := by have := hP.out.1; omega
          have hrow := (HROW.out _ hI.out.2.2).1
          have htree := (HROW.out _ hI.out.2.2).2.2
          obtain ⟨z1, hz1, hz1l, hg1⟩ := HKX.out i hil p (by rw [← HL.out]; exact hpk)
          obtain ⟨z2, hz2, hz2l, hg2⟩ := HKX.out i hil k (by rw [← HL.out]; exact hkl)
          obtain ⟨y, hy, _, y1⟩ := hrow.ints (show p < _ by rw [← HL.out]; exact hpk)
          obtain ⟨y', hy', _, y2⟩ := hrow.ints (show k < _ by rw [← HL.out]; exact hkl)
          rw [hy] at hy' r5
          injection hy' with hy'
          subst hy'
          rw [hz1] at y1
          rw [hz2] at y2
          have hz1n : z1 < ns.length := by have := HTL.out; omega
          have hz2n : z2 < ns.length := by have := HTL.out; omega
          have k1 := (htree.six hz1n).1
          have k2 := (htree.six hz2n).1
          rw [← HKDN.out z1 hz1n] at k1
          rw [← HKDN.out z2 hz2n] at k2
          have hz1m : (z1 : Int) < (m : Int) := by have := HM.out; omega
          have hz2m : (z2 : Int) < (m : Int) := by have := HM.out; omega
          have hz10 : (0 : Int) ≤ (z1 : Int) := by omega
          have hz20 : (0 : Int) ≤ (z2 : Int) := by omega
          have hpt : ((k : Int) - 1).toNat = p := by have := hP.out.1; omega
          have hp0 : (0 : Int) ≤ (k : Int) - 1 := by have := hP.out.1; omega
          have hpl : (k : Int) - 1 < (L : Int) := by omega
          have hk0 : (0 : Int) ≤ (k : Int) := by omega
          have hkb : (k : Int) ≤ 1000000000 := by omega
          have HSTEP := hid_mk (show ¬ (kdOf ts z1 = 2 ∧ kdOf ts z2 = 2) → okP ts i ∧ ∀ j, j < p + 1 → ¬ (kdOf ts ((kidsAt ts i).getD j 0).toNat = 2 ∧ kdOf ts ((kidsAt ts i).getD (j + 1) 0).toNat = 2) from fun hn => by
           refine ⟨(hI.out.1 rfl).1, fun j hj => ?_⟩
           by_cases e : j = p
           ·subst e
            rw [← hP.out.1, hg1, hg2, Int.toNat_natCast, Int.toNat_natCast]
            exact hn
           ·exact (hI.out.1 rfl).2 j (by omega))
          have HFAIL := hid_mk (show (kdOf ts z1 = 2 ∧ kdOf ts z2 = 2) → ¬ (okP ts i ∧ sibP ts i) from fun hn hc => hc.2 p (by rw [← HL.out]; have := hP.out.1; omega) (by rw [← hP.out.1, hg1, hg2, Int.toNat_natCast, Int.toNat_natCast]; exact hn))
          have HWQ := hid_mk hI.out.2.2
          obtain ⟨K1, hK1⟩ : ∃ K, K = kdOf ts z1 := ⟨_, rfl⟩
          obtain ⟨K2, hK2⟩ : ∃ K, K = kdOf ts z2 := ⟨_, rfl⟩
          rw [← hK1] at k1 HSTEP HFAIL
          rw [← hK2] at k2 HSTEP HFAIL
          have HPG := hid_mk (show k + 1 = (p + 1) + 1 ∧ k + 1 + (gk - 1) = L + 1 ∧ gk - 1 < gk from by have := hP.out; omega)
          clear hI hz1 hz2 hg1 hg2 hy hrow htree hK1 hK2 hP
          by_cases c1 : K1 = 2
          ·have e1 : ((K1 : Int) == 2) = true := by rw [c1]; rfl
           have e2 : ((K1 : Int) != 2) = false := by rw [bne, e1]; rfl
           by_cases c2 : K2 = 2
           ·have e3 : ((K2 : Int) == 2) = true := by rw [c2]; rfl
            have e4 : ((K2 : Int) != 2) = false := by rw [bne, e3]; rfl
            have HF := hid_mk (HFAIL.out ⟨c1, c2⟩)
            clear c1 c2
            go_wp2_with fail
            go_roundg (gk - 1)
            case measure => exact HPG.out.2.2
            case rel => exact ⟨false, k + 1, p + 1, rfl, by go_num, hid_mk ⟨HPG.out.1, HPG.out.2.1⟩, hid_mk ⟨fun e => (by cases e), fun _ => HF.out, HWQ.out⟩⟩
           ·have e3 : ((K2 : Int) == 2) = false := beq_false_of_ne (by omega)
            have e4 : ((K2 : Int) != 2) = true := by rw [bne, e3]; rfl
            have HF := hid_mk (HSTEP.out (fun h2 => c2 h2.2))
            clear c1 c2
            go_wp2_with fail
            go_roundg (gk - 1)
            case measure => exact HPG.out.2.2
            case rel => exact ⟨true, k + 1, p + 1, rfl, by go_num, hid_mk ⟨HPG.out.1, HPG.out.2.1⟩, hid_mk ⟨fun _ => HF.out, fun e => (by cases e), HWQ.out⟩⟩
          ·have e1 : ((K1 : Int) == 2) = false := beq_false_of_ne (by omega)
           have e2 : ((K1 : Int) != 2) = true := by rw [bne, e1]; rfl
           have HF := hid_mk (HSTEP.out (fun h2 => c1 h2.1))
           clear c1
           go_wp2_with fail
           go_roundg (gk - 1)
           case measure => exact HPG.out.2.2
           case rel => exact ⟨true, k + 1, p + 1, rfl, by go_num, hid_mk ⟨HPG.out.1, HPG.out.2.1⟩, hid_mk ⟨fun _ => HF.out, fun e => (by cases e), HWQ.out⟩⟩
       ·have hkli : ¬ (k : Int) < (L : Int) := by omega
        cases ok with
        | false =>
          have HG := hid_mk (HBAD.out (hI.out.2.1 rfl))
          clear hI
          go_wp2_with fail
          go_ret
          rw [HG.out]
          exact ⟨rfl, HBW.out⟩
        | true =>
          have HN := hid_mk (show ∀ j, j < i + 1 → okP ts j ∧ sibP ts j from fun j hj => by
           by_cases e : j = i
           ·subst e
            refine ⟨(hI.out.1 rfl).1, fun q hq => (hI.out.1 rfl).2 q ?_⟩
            rw [← HL.out] at hq
            have := hP.out
            omega
           ·exact HPREV.out j (by omega))
          clear hI hP
          go_wp2_with fail
          go_roundg (m - (i + 1))
          case measure => omega
          case rel => exact ⟨i + 1, by omega, by go_num, hid_mk ⟨HN.out, HBW.out⟩⟩
    ·have hlti : ¬ (i : Int) < (m : Int) := by omega
     have HG := hid_mk (HG2.out (fun j hj => hI.out.1 j (by have := HM.out; omega)))
     have HW := hid_mk hI.out.2
     clear hI
     go_wp2_with fail
     go_ret
     rw [HG.out]
     exact ⟨rfl, HW.out⟩
end Go.Proofs.YtlcijlklbabajaaGreatDoor
