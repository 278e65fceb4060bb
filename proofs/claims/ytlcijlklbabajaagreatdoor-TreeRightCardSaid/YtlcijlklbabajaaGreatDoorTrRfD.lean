/-
  The document's shaped: are parents and children as they should be? Conditions: the rows' numbers are bounded.
-/
import Derived.Test.YtlcijlklbabajaaGreatDoorTrRfC
import Derived.Test.YtlcijlklbabajaaGreatDoorRR67
namespace Go.Proofs.YtlcijlklbabajaaGreatDoor
open Go.RowKit R
/-- The document's shape, whole. -/
def ShapedP (t : List Nx) : Prop := 0 < t.length ∧ t.length ≤ 16384 ∧ kdOf t 0 = 0 ∧ Go.Proofs.YtlcijlklbabajaaGreatDoor.R.upAt t 0 = -1 ∧ ShapeB t t.length ∧ kidsX t = true
set_option maxHeartbeats 8000000 in
set_option maxRecDepth 100000 in
theorem shaped_any (a : Option Addr) (c : Nat) (ns : List NxM) (w : World) (h : HasTree w a ns) (hl : ns.length ≤ 1000000000) (hks : ∀ p ∈ ns, p.1.kids.length ≤ 1000000000) :
    ∃ R : Bool, (R = true ↔ ShapedP (ns.map (·.1))) ∧ Calls Tryz.prog 49 #[.slice a ns.length c] w fun e w' => e = .returned (.bool R) ∧ Below w.heap.size w w' := by
  classical
  refine ⟨decide (ShapedP (ns.map (·.1))), by simp, ?_⟩
  obtain ⟨R, hR⟩ : ∃ R : Bool, R = decide (ShapedP (ns.map (·.1))) := ⟨_, rfl⟩
  rw [← hR]
  have hRF : ¬ ShapedP (ns.map (·.1)) → R = false := fun hn => by rw [hR]; exact decide_eq_false hn
  have hRT : R = true ↔ ShapedP (ns.map (·.1)) := by rw [hR]; simp
  clear hR
  obtain ⟨ts, hts⟩ : ∃ ts, ts = ns.map (·.1) := ⟨_, rfl⟩
  rw [← hts] at hRF hRT
  by_cases h0 : ns.length = 0
  · have HF := hid_mk (hRF (fun hp => by have := hp.1; rw [hts, List.length_map] at this; omega))
    rw [h0]
    clear h h0 hRF hRT hl hts hks
    go_enter Tryz.func49, Tryz.ntmps49
    go_wp2_with fail
    go_ret
    rw [HF.out]
    exact ⟨rfl, Below.refl _ _⟩
  have hpos : 0 < ns.length := by omega
  obtain ⟨x, hx, hxx, hxy⟩ := h.cell hpos
  clear hxx hxy
  subst hx
  obtain ⟨m, hm⟩ : ∃ m, m = ns.length := ⟨_, rfl⟩
  have htl : ts.length = m := by rw [hts, List.length_map, hm]
  have hq0 : ((m : Int) == 0) = false := beq_false_of_ne (by omega)
  have hmi : (0 : Int) < (m : Int) := by omega
  have hm1 : 1 ≤ m := by omega
  by_cases hbig : 16384 < m
  · have hb2 : (16384 : Int) < (m : Int) := by omega
    have HF := hid_mk (hRF (fun hp => by have := hp.2.1; omega))
    rw [← hm]
    clear h hRF hRT hl hbig hm h0 hpos hts htl hks
    go_enter Tryz.func49, Tryz.ntmps49
    go_wp2_with fail
    go_ret
    rw [HF.out]
    exact ⟨rfl, Below.refl _ _⟩
  have hb2 : ¬ (16384 : Int) < (m : Int) := by omega
  have hgetn : ∀ j (hj : j < ns.length), ts.getD j nxD = (ns[j]).1 := fun j hj => by
    rw [hts, List.getD_eq_getElem?_getD, List.getElem?_map, List.getElem?_eq_getElem hj]; rfl
  have hkdn : ∀ j (hj : j < ns.length), kdOf ts j = (ns[j]).1.kind := fun j hj => by unfold kdOf; rw [hgetn j hj]
  have hnmn : ∀ j (hj : j < ns.length), nmOf ts j = (ns[j]).1.name := fun j hj => by unfold nmOf; rw [hgetn j hj]
  have hupn : ∀ j (hj : j < ns.length), Go.Proofs.YtlcijlklbabajaaGreatDoor.R.upAt ts j = (ns[j]).1.up := fun j hj => by show (ts.getD j nxD).up = _; rw [hgetn j hj]
  have z0 := (h.six hpos).1
  have z4 := (h.six hpos).2.2.2.2.1
  rw [Nat.zero_mul, show x.add 0 = x from if_pos rfl] at z0 z4
  rw [← hkdn 0 hpos] at z0
  rw [← hupn 0 hpos] at z4
  by_cases hk0 : kdOf ts 0 = 0
  case neg =>
    have HF := hid_mk (hRF (fun hp => hk0 hp.2.2.1))
    have e1 : ((kdOf ts 0 : Int) == 0) = false := beq_false_of_ne (by omega)
    have e2 : ((kdOf ts 0 : Int) != 0) = true := by rw [bne, e1]; rfl
    generalize kdOf ts 0 = K0 at *
    rw [← hm]
    clear h hRF hRT hl hbig hm h0 hpos hts htl hks hgetn hkdn hnmn hupn z4 hk0
    go_enter Tryz.func49, Tryz.ntmps49
    go_wp2_with fail
    go_ret
    rw [HF.out]
    exact ⟨rfl, Below.refl _ _⟩
  have hk0i : (kdOf ts 0 : Int) = 0 := by omega
  rw [hk0i] at z0
  by_cases hu0 : Go.Proofs.YtlcijlklbabajaaGreatDoor.R.upAt ts 0 = -1
  case neg =>
    have HF := hid_mk (hRF (fun hp => hu0 hp.2.2.2.1))
    have e1 : (Go.Proofs.YtlcijlklbabajaaGreatDoor.R.upAt ts 0 == -1) = false := beq_false_of_ne hu0
    have e2 : (Go.Proofs.YtlcijlklbabajaaGreatDoor.R.upAt ts 0 != -1) = true := by rw [bne, e1]; rfl
    generalize Go.Proofs.YtlcijlklbabajaaGreatDoor.R.upAt ts 0 = U0 at *
    rw [← hm]
    clear h hRF hRT hl hbig hm h0 hpos hts htl hks hgetn hkdn hnmn hupn hu0 hk0 hk0i
    go_enter Tryz.func49, Tryz.ntmps49
    go_wp2_with fail
    go_ret
    rw [HF.out]
    exact ⟨rfl, Below.refl _ _⟩
  rw [hu0] at z4
  have HSF := hid_mk (show (∃ j, 1 ≤ j ∧ j < m ∧ ¬ shapeP ts j) → R = false from fun ⟨j, j1, j2, j3⟩ => hRF (fun hp => j3 (hp.2.2.2.2.1 j j1 (by rw [htl]; exact j2))))
  have HRK := hid_mk (show ShapeB ts m → R = kidsX ts from fun hs => by
    have : R = true ↔ kidsX ts = true := by
      rw [hRT]
      exact ⟨fun hp => hp.2.2.2.2.2, fun hk => ⟨by omega, by omega, hk0, hu0, by rw [htl]; exact hs, hk⟩⟩
    exact Bool.eq_iff_iff.2 this)
  have HM := hid_mk (And.intro hm (And.intro hts htl))
  have H := hid_mk h
  have HKS := hid_mk hks
  have HKD := hid_mk hkdn
  have HNM := hid_mk hnmn
  have HUP := hid_mk hupn
  have HKK := hid_mk (fun s w => refKind_any s w)
  rw [← hm]
  clear h hRF hRT hl hbig hm h0 hpos hts htl hks hgetn hkdn hnmn hupn hu0 hk0 hk0i
  go_enter Tryz.func49, Tryz.ntmps49
  go_wp2_with fail
  clear z0 z4
  go_loopw [3, 4] (fun vl vi wr => ∃ i p : Nat, i = p + 1 ∧ i ≤ m ∧ vl = .int .i64 (p : Int) ∧ vi = .int .i64 (i : Int) ∧ Hid (ShapeB ts i ∧ ∃ q, wr = w.drewN q)) (fun _ vi _ => m - (intOf vi).toNat)
  case atStart => exact ⟨1, 0, rfl, hm1, rfl, rfl, hid_mk ⟨fun j a b => by omega, 0, rfl⟩⟩
  case round =>
    obtain ⟨i, p, hip, him, rfl, rfl, hI⟩ := hrel
    generalize wr = wo at *
    have HIP := hid_mk hip
    have hi1 : 1 ≤ i := by omega
    have hpi : p < i := by omega
    clear hip
    by_cases hlt : i < m
    · have hlti : (i : Int) < (m : Int) := by omega
      have hi0 : (0 : Int) ≤ (i : Int) := by omega
      have hil : i < ns.length := by rw [← HM.out.1]; exact hlt
      have HDR := hid_mk hI.out.2
      have HTR := hid_mk (show HasTree wo (some x) ns by obtain ⟨q, hq⟩ := hI.out.2; rw [hq]; exact H.out.below (below_drewR (Below.refl _ _) q))
      have HB := hid_mk (show Below w.heap.size w wo by obtain ⟨q, hq⟩ := hI.out.2; rw [hq]; exact below_drewR (Below.refl _ _) q)
      have HSH := hid_mk hI.out.1
      clear hI
      have n4 := (HTR.out.six hil).2.2.2.2.1
      rw [← HUP.out i hil] at n4
      obtain ⟨U, hU⟩ : ∃ U, U = Go.Proofs.YtlcijlklbabajaaGreatDoor.R.upAt ts i := ⟨_, rfl⟩
      rw [← hU] at n4
      by_cases hneg : U < 0
      · have HF := hid_mk (HSF.out ⟨i, by omega, hlt, fun hs => by obtain ⟨u, hu, _⟩ := id hs; omega⟩)
        go_wp2_with fail
        go_ret
        rw [HF.out]
        exact ⟨rfl, HB.out⟩
      have hUp : 0 ≤ U := by omega
      by_cases hge : (i : Int) ≤ U
      · have HF := hid_mk (HSF.out ⟨i, by omega, hlt, fun hs => by obtain ⟨u, hu, hul, _⟩ := id hs; omega⟩)
        go_wp2_with fail
        go_ret
        rw [HF.out]
        exact ⟨rfl, HB.out⟩
      obtain ⟨u, hu⟩ : ∃ u : Nat, U = (u : Int) := ⟨U.toNat, by omega⟩
      subst hu
      have hul : u < i := by omega
      have hum : (u : Int) < (m : Int) := by omega
      have hunl : u < ns.length := by omega
      have m0 := (HTR.out.six hunl).1
      have m1 := (HTR.out.six hunl).2.1
      rw [← HKD.out u hunl] at m0
      rw [← HNM.out u hunl] at m1
      have hkk := hid_mk (HKK.out (strOf (nmOf ts u)) wo)
      simp only [sl_strOf] at hkk
      have HUQ := hid_mk hU.symm
      clear hU
      obtain ⟨G, hG⟩ : ∃ G : Prop, G = goodP ts u := ⟨_, rfl⟩
      have HG := hid_mk hG
      unfold goodP at hG
      generalize nmOf ts u = nmu at *
      generalize kdOf ts u = KU at *
      generalize strOf nmu = smu at *
      generalize hkz : kindL nmu = KN at *
      clear hkz
      have hbad : ¬ G → R = false := fun hg => HSF.out ⟨i, by omega, hlt, fun ⟨v, hv, _, hvg, _⟩ => by
        have hv' := HUQ.out
        have : u = v := by omega
        rw [HG.out, this] at hg
        exact hg hvg⟩
      by_cases k2 : KU = 2
      · have HF := hid_mk (hbad (by rw [hG]; exact fun hc => hc.1 k2))
        have e1 : ((KU : Int) == 2) = true := by rw [k2]; rfl
        clear hG hbad
        go_wp2_with fail
        go_ret
        rw [HF.out]
        exact ⟨rfl, HB.out⟩
      have e1 : ((KU : Int) == 2) = false := beq_false_of_ne (by omega)
      by_cases k1 : KU = 1 ∧ 7 ≤ KN
      · have HF := hid_mk (hbad (by rw [hG]; exact fun hc => hc.2 k1))
        have e2 : ((KU : Int) == 1) = true := by rw [k1.1]; rfl
        have e3 : (7 : Int) ≤ (KN : Int) := by omega
        clear hG hbad
        go_wp2_with fail
        (with_reducible refine (hkk.out).mono ?_)
        rintro e w1 ⟨rfl, rfl⟩
        go_wp2_with fail
        go_ret
        rw [HF.out]
        exact ⟨rfl, HB.out⟩
      have HGO := hid_mk (show goodP ts u by rw [← HG.out, hG]; exact ⟨k2, k1⟩)
      clear hG hbad HG
      have hgo : ((KU : Int) == 1) = false ∨ (((KU : Int) == 1) = true ∧ ¬ (7 : Int) ≤ (KN : Int)) := by
        by_cases k : KU = 1
        · exact .inr ⟨by rw [k]; rfl, fun h7 => k1 ⟨k, by omega⟩⟩
        · exact .inl (beq_false_of_ne (by omega))
      clear k1
      rcases hgo with e2 | ⟨e2, e3⟩
      · go_wp2_with fail
        clear e1 e2
        have HPA := hid_mk (show (u = 0 ∨ u ∈ pa ts p) → ShapeB ts (i + 1) from fun hm j j1 j2 => by
          by_cases e : j = i
          · subst e
            exact ⟨u, HUQ.out, hul, HGO.out, by rw [HIP.out, Nat.add_sub_cancel]; exact hm⟩
          · exact HSH.out j j1 (by omega))
        have HNP := hid_mk (show ¬ (u = 0 ∨ u ∈ pa ts p) → R = false from fun hm => HSF.out ⟨i, by omega, hlt, fun ⟨v, hv, _, _, hvm⟩ => by
          have hv' := HUQ.out
          have huv : u = v := by omega
          rw [HIP.out, Nat.add_sub_cancel, ← huv] at hvm
          exact hm hvm⟩)
        go_loopw [6] (fun vk wr => ∃ k : Nat, k ≤ p ∧ vk = .int .i64 (k : Int) ∧ Hid (((u = 0 ∨ u ∈ pa ts p) ↔ (u = 0 ∨ u ∈ pa ts k)) ∧ wr = wo)) (fun vk _ => (intOf vk).toNat)
        case atStart => exact ⟨p, Nat.le_refl _, rfl, hid_mk ⟨Iff.rfl, rfl⟩⟩
        case round =>
          obtain ⟨k, hkp, rfl, hK⟩ := hrel
          by_cases hku : k = u
          · have e5 : ((k : Int) == (u : Int)) = true := beq_iff_eq.2 (by omega)
            have e6 : ((k : Int) != (u : Int)) = false := by rw [bne, e5]; rfl
            have HN := hid_mk (And.intro (HPA.out (hK.out.1.2 (by rw [hku]; exact climb_here HSH.out.ups hul))) (show ∃ q, wr = w.drewN q by rw [hK.out.2]; exact HDR.out))
            clear hK hku
            go_wp2_with fail
            go_roundw
            case rel => exact ⟨i + 1, i, rfl, by omega, by go_num, by go_num, HN⟩
            case measure => simp [intOf]; omega
          · have e5 : ((k : Int) == (u : Int)) = false := beq_false_of_ne (by omega)
            have e6 : ((k : Int) != (u : Int)) = true := by rw [bne, e5]; rfl
            by_cases hk0 : 0 < k
            · have hk0' : (0 : Int) < (k : Int) := by omega
              have hkm : (k : Int) < (m : Int) := by omega
              have hkz : (0 : Int) ≤ (k : Int) := by omega
              have hkl : k < ns.length := by omega
              have k4 := (HTR.out.six hkl).2.2.2.2.1
              rw [← hK.out.2, ← HUP.out k hkl] at k4
              obtain ⟨v, hv, hvl⟩ := HSH.out.ups k (by omega) (by omega)
              rw [hv] at k4
              have HN := hid_mk (And.intro (hK.out.1.trans (climb_step HSH.out.ups (show k < i by omega) hk0 hku hv)) hK.out.2)
              clear hK hku hv
              go_wp2_with fail
              go_roundw
              case rel => exact ⟨v, by omega, by go_num, HN⟩
              case measure => simp [intOf]; omega
            · have hk0' : ¬ (0 : Int) < (k : Int) := by omega
              have hkz : k = 0 := by omega
              have HF := hid_mk (HNP.out (fun hm => climb_top (show u ≠ 0 by omega) (by have := hK.out.1.1 hm; rwa [hkz] at this)))
              have HBK := hid_mk (show Below w.heap.size w wr by rw [hK.out.2]; exact HB.out)
              clear hK
              go_wp2_with fail
              go_ret
              rw [HF.out]
              exact ⟨rfl, HBK.out⟩
      · go_wp2_with fail
        (with_reducible refine (hkk.out).mono ?_)
        rintro e w1 ⟨rfl, rfl⟩
        go_wp2_with fail
        clear e1 e2 e3
        have HPA := hid_mk (show (u = 0 ∨ u ∈ pa ts p) → ShapeB ts (i + 1) from fun hm j j1 j2 => by
          by_cases e : j = i
          · subst e
            exact ⟨u, HUQ.out, hul, HGO.out, by rw [HIP.out, Nat.add_sub_cancel]; exact hm⟩
          · exact HSH.out j j1 (by omega))
        have HNP := hid_mk (show ¬ (u = 0 ∨ u ∈ pa ts p) → R = false from fun hm => HSF.out ⟨i, by omega, hlt, fun ⟨v, hv, _, _, hvm⟩ => by
          have hv' := HUQ.out
          have huv : u = v := by omega
          rw [HIP.out, Nat.add_sub_cancel, ← huv] at hvm
          exact hm hvm⟩)
        go_loopw [6] (fun vk wr => ∃ k : Nat, k ≤ p ∧ vk = .int .i64 (k : Int) ∧ Hid (((u = 0 ∨ u ∈ pa ts p) ↔ (u = 0 ∨ u ∈ pa ts k)) ∧ wr = wo)) (fun vk _ => (intOf vk).toNat)
        case atStart => exact ⟨p, Nat.le_refl _, rfl, hid_mk ⟨Iff.rfl, rfl⟩⟩
        case round =>
          obtain ⟨k, hkp, rfl, hK⟩ := hrel
          by_cases hku : k = u
          · have e5 : ((k : Int) == (u : Int)) = true := beq_iff_eq.2 (by omega)
            have e6 : ((k : Int) != (u : Int)) = false := by rw [bne, e5]; rfl
            have HN := hid_mk (And.intro (HPA.out (hK.out.1.2 (by rw [hku]; exact climb_here HSH.out.ups hul))) (show ∃ q, wr = w.drewN q by rw [hK.out.2]; exact HDR.out))
            clear hK hku
            go_wp2_with fail
            go_roundw
            case rel => exact ⟨i + 1, i, rfl, by omega, by go_num, by go_num, HN⟩
            case measure => simp [intOf]; omega
          · have e5 : ((k : Int) == (u : Int)) = false := beq_false_of_ne (by omega)
            have e6 : ((k : Int) != (u : Int)) = true := by rw [bne, e5]; rfl
            by_cases hk0 : 0 < k
            · have hk0' : (0 : Int) < (k : Int) := by omega
              have hkm : (k : Int) < (m : Int) := by omega
              have hkz : (0 : Int) ≤ (k : Int) := by omega
              have hkl : k < ns.length := by omega
              have k4 := (HTR.out.six hkl).2.2.2.2.1
              rw [← hK.out.2, ← HUP.out k hkl] at k4
              obtain ⟨v, hv, hvl⟩ := HSH.out.ups k (by omega) (by omega)
              rw [hv] at k4
              have HN := hid_mk (And.intro (hK.out.1.trans (climb_step HSH.out.ups (show k < i by omega) hk0 hku hv)) hK.out.2)
              clear hK hku hv
              go_wp2_with fail
              go_roundw
              case rel => exact ⟨v, by omega, by go_num, HN⟩
              case measure => simp [intOf]; omega
            · have hk0' : ¬ (0 : Int) < (k : Int) := by omega
              have hkz : k = 0 := by omega
              have HF := hid_mk (HNP.out (fun hm => climb_top (show u ≠ 0 by omega) (by have := hK.out.1.1 hm; rwa [hkz] at this)))
              have HBK := hid_mk (show Below w.heap.size w wr by rw [hK.out.2]; exact HB.out)
              clear hK
              go_wp2_with fail
              go_ret
              rw [HF.out]
              exact ⟨rfl, HBK.out⟩
    · have hlti : ¬ (i : Int) < (m : Int) := by omega
      have hie : i = m := by omega
      have HRZ := hid_mk (HRK.out (by rw [← hie]; exact hI.out.1))
      have HTZ := hid_mk (show HasTree wo (some x) ns by obtain ⟨q, hq⟩ := hI.out.2; rw [hq]; exact H.out.below (below_drewR (Below.refl _ _) q))
      have HBZ := hid_mk (show Below w.heap.size w wo by obtain ⟨q, hq⟩ := hI.out.2; rw [hq]; exact below_drewR (Below.refl _ _) q)
      have HUZ := hid_mk (show UpsOk ts from fun j j1 j2 => by
        obtain ⟨v, hv, hvl⟩ := hI.out.1.ups j j1 (by have := HM.out.2.2; omega)
        omega)
      clear hI
      generalize wo = wz at *
      obtain ⟨wm, hmk, hb1, hmet⟩ := make_ints m (by omega) wz
      have H0 := hid_mk (show MetAt wz.heap.size m (fun u => (ofUp ts 1 u).length) wm ∧ Below wz.heap.size wz wm ∧ GoodK ts 1 from ⟨by simp only [ofUp_zero, List.length_nil]; exact hmet, hb1, good_one ts⟩)
      clear hb1 hmet
      go_wp2_with fail
      clear hmk
      go_loopw [8] (fun i wr => ∃ k : Nat, 1 ≤ k ∧ k ≤ m ∧ i = .int .i64 k ∧ Hid (MetAt wz.heap.size m (fun u => (ofUp ts k u).length) wr ∧ Below wz.heap.size wz wr ∧ GoodK ts k)) (fun i _ => m - (intOf i).toNat)
      case atStart => exact ⟨1, Nat.le_refl _, hm1, rfl, H0⟩
      case round =>
        obtain ⟨k, hk1, hk, rfl, hI⟩ := hrel
        generalize wr = wo at *
        clear H0
        by_cases hlt : k < m
        · have hlti : (k : Int) < (m : Int) := by omega
          have hkl : k < ns.length := by rw [← HM.out.1]; exact hlt
          have htree := HTZ.out.below hI.out.2.1
          have n4 := (htree.six hkl).2.2.2.2.1
          have hup := HUZ.out k hk1 (by rw [HM.out.2.2]; exact hlt)
          have hupk : Go.Proofs.YtlcijlklbabajaaGreatDoor.R.upAt ts k = (ns[k]).1.up := by
            unfold Go.Proofs.YtlcijlklbabajaaGreatDoor.R.upAt
            rw [HM.out.2.1, List.getD_eq_getElem?_getD, List.getElem?_map, List.getElem?_eq_getElem hkl]
            rfl
          obtain ⟨v, hv⟩ : ∃ v : Nat, Go.Proofs.YtlcijlklbabajaaGreatDoor.R.upAt ts k = (v : Int) := ⟨(Go.Proofs.YtlcijlklbabajaaGreatDoor.R.upAt ts k).toNat, by omega⟩
          rw [← hupk, hv] at n4
          have hvm : v < m := by omega
          have hvl : v < ns.length := by rw [← HM.out.1]; exact hvm
          have hvi : (v : Int) < (m : Int) := by omega
          have n5 := (htree.six hvl).2.2.2.2.2
          have hkv := htree.kids _ (List.getElem_mem hvl)
          have hksz := HKS.out _ (List.getElem_mem hvl)
          have hkat : kidsAt ts v = (ns[v]).1.kids := by
            unfold kidsAt
            rw [HM.out.2.1, List.getD_eq_getElem?_getD, List.getElem?_map, List.getElem?_eq_getElem hvl]
            rfl
          obtain ⟨ka, kc, hkval, hkrow⟩ := hkv
          rw [hkval] at n5
          rw [← hkat] at n5 hkrow hksz
          have m1 := hI.out.1.cell hvm
          have f1 := hI.out.1.frozen v
          obtain ⟨cn, hcn⟩ : ∃ cn, cn = (ofUp ts k v).length := ⟨_, rfl⟩
          have hcle : cn ≤ (kidsAt ts v).length := by rw [hcn]; exact (hI.out.2.2 v (by rw [HM.out.2.2]; exact hvm)).length_le
          have hgn := hid_mk (fun hc => good_next hI.out.2.2 hk1 hv (by rw [HM.out.2.2]; exact hvm) hc)
          have hbn := hid_mk (fun hc => bad_next hk1 (by rw [HM.out.2.2]; exact hlt) hv (by rw [HM.out.2.2]; exact hvm) hc)
          rw [← hcn] at m1 hgn hbn
          have HV := hid_mk (And.intro hv hcn)
          generalize hL : kidsAt ts v = KL at *
          clear hup hupk hkat hv hcn hkval htree hL
          by_cases hce : cn = KL.length
          · have hq : (KL.length : Int) ≤ (cn : Int) := by omega
            have HF := hid_mk (show R = false by
              rw [HRZ.out]
              exact hbn.out (by rw [List.getElem?_eq_none (by omega)]; exact fun h => by cases h))
            clear hgn hbn hce
            go_wp2_with fail
            go_quiet (fail)
            go_wp2_with fail
            go_ret
            rw [HF.out]
            exact ⟨rfl, HBZ.out.trans ((below_drewR hI.out.2.1 nq).mono HBZ.out.size)⟩
          · have hq : ¬ (KL.length : Int) ≤ (cn : Int) := by omega
            have hcl : cn < KL.length := by omega
            have hcli : (cn : Int) < (KL.length : Int) := by omega
            obtain ⟨y, hy, hyb, k0⟩ := hkrow.ints hcl
            subst hy
            obtain ⟨z, hz⟩ : ∃ z, z = KL[cn] := ⟨_, rfl⟩
            rw [← hz] at k0
            have hzz : KL[cn]? = some z := by rw [List.getElem?_eq_getElem hcl, hz]
            by_cases hkz : z = (k : Int)
            · have hq1 : (z == (k : Int)) = true := beq_iff_eq.2 hkz
              have hq2 : (z != (k : Int)) = false := by rw [bne, hq1]; rfl
              have HG := hid_mk (hgn.out (by rw [hzz, hkz]))
              have HD := hid_mk (fun nq => (show MetAt wz.heap.size m (fun u => (ofUp ts k u).length) (wo.drewN nq) from hI.out.1.below (below_drewR (Below.refl _ _) nq)))
              have HST := hid_mk (fun nq => (show MetAt wz.heap.size m (fun u => (ofUp ts (k + 1) u).length) ((wo.drewN nq).setCell ⟨wz.heap.size, v, none⟩ (.int .i64 ((cn : Int) + 1))) from by
                rw [HV.out.2]
                refine (HD.out nq).set hvm (fun u hu => ?_)
                rw [ofUp_succ]
                by_cases e : u = v
                · subst e
                  rw [if_pos ⟨hk1, HV.out.1⟩, if_pos rfl, List.length_append]
                  rfl
                · rw [if_neg (fun h2 => e (by have := HV.out.1.symm.trans h2.2; omega)), if_neg e, List.append_nil]))
              have HB := hid_mk (fun nq => (show Below wz.heap.size wz ((wo.drewN nq).setCell ⟨wz.heap.size, v, none⟩ (.int .i64 ((cn : Int) + 1))) from (below_drewR hI.out.2.1 nq).setCell (Nat.le_refl _) _))
              have hcn2 : (cn : Int) ≤ 1000000000 := by omega
              clear hgn hbn hce hz hzz hkz
              go_wp2_with fail
              go_quiet (fail)
              have g1 := (HD.out nq).cell hvm
              have g2 := (HD.out nq).frozen v
              have HST2 := hid_mk (And.intro (HST.out nq) (And.intro (HB.out nq) HG.out))
              simp only [← HV.out.2] at g1
              clear HD HST HB m1 f1 n4 n5 k0
              go_wp2_with fail
              go_roundw
              case rel => exact ⟨k + 1, by omega, by omega, by go_num, HST2⟩
              case measure => simp [intOf]; omega
            · have hq1 : (z == (k : Int)) = false := beq_false_of_ne hkz
              have hq2 : (z != (k : Int)) = true := by rw [bne, hq1]; rfl
              have HF := hid_mk (show R = false by
                rw [HRZ.out]
                exact hbn.out (by rw [hzz]; intro h; injection h with h; exact hkz h))
              clear hgn hbn hce hz hzz hkz
              go_wp2_with fail
              go_quiet (fail)
              go_wp2_with fail
              go_ret
              rw [HF.out]
              exact ⟨rfl, HBZ.out.trans ((below_drewR hI.out.2.1 nq).mono HBZ.out.size)⟩
        · have hlti : ¬ (k : Int) < (m : Int) := by omega
          have hkm : k = m := by omega
          have HGE := hid_mk (show R = true ↔ ∀ u, u < m → (ofUp ts m u).length = (kidsAt ts u).length from by
            have h3 := hI.out.2.2
            rw [hkm, ← HM.out.2.2] at h3
            have := good_end h3
            rw [HM.out.2.2] at this
            rw [HRZ.out]
            exact this)
          have HI := hid_mk (show MetAt wz.heap.size m (fun u => (ofUp ts m u).length) wo ∧ Below wz.heap.size wz wo from by rw [← hkm]; exact ⟨by rw [hkm]; have := hI.out.1; rw [hkm] at this; exact this, hI.out.2.1⟩)
          clear hI hkm
          go_wp2_with fail
          go_loopw [10] (fun i wr => ∃ j : Nat, j ≤ m ∧ i = .int .i64 j ∧ Hid (MetAt wz.heap.size m (fun u => (ofUp ts m u).length) wr ∧ Below wz.heap.size wz wr ∧ ∀ u, u < j → (ofUp ts m u).length = (kidsAt ts u).length)) (fun i _ => m - (intOf i).toNat)
          case atStart => exact ⟨0, Nat.zero_le _, rfl, hid_mk ⟨HI.out.1, HI.out.2, fun u hu => absurd hu (by omega)⟩⟩
          case round =>
            obtain ⟨j, hj, rfl, hJ⟩ := hrel
            generalize wr = wq at *
            by_cases hlt2 : j < m
            · have hlti2 : (j : Int) < (m : Int) := by omega
              have hjl : j < ns.length := by rw [← HM.out.1]; exact hlt2
              have htree := HTZ.out.below hJ.out.2.1
              have q5 := (htree.six hjl).2.2.2.2.2
              obtain ⟨ka, kc, hkv, _⟩ := htree.kids _ (List.getElem_mem hjl)
              rw [hkv] at q5
              have hkat : kidsAt ts j = (ns[j]).1.kids := by
                unfold kidsAt
                rw [HM.out.2.1, List.getD_eq_getElem?_getD, List.getElem?_map, List.getElem?_eq_getElem hjl]
                rfl
              rw [← hkat] at q5
              have m1 := hJ.out.1.cell hlt2
              have HL := hJ
              obtain ⟨cn, hcn⟩ : ∃ cn, cn = (ofUp ts m j).length := ⟨_, rfl⟩
              obtain ⟨L, hLL⟩ : ∃ L, L = (kidsAt ts j).length := ⟨_, rfl⟩
              have HC := hid_mk (show (ofUp ts m j).length = cn ∧ (kidsAt ts j).length = L from ⟨hcn.symm, hLL.symm⟩)
              rw [← hcn] at m1
              rw [← hLL] at q5
              clear hLL hkat hkv htree hJ hcn
              by_cases hce : cn = L
              · have hq1 : ((cn : Int) == (L : Int)) = true := by rw [hce]; simp
                have hq2 : ((cn : Int) != (L : Int)) = false := by rw [bne, hq1]; rfl
                have HN := hid_mk (show ∀ u, u < j + 1 → (ofUp ts m u).length = (kidsAt ts u).length from fun u hu => by
                  by_cases e : u = j
                  · rw [e, HC.out.1, HC.out.2]; exact hce
                  · exact HL.out.2.2 u (by omega))
                clear hce
                go_wp2_with fail
                go_quiet (fail)
                go_wp2_with fail
                go_roundw
                case rel => exact ⟨j + 1, by omega, by go_num, hid_mk ⟨HL.out.1.below (below_drewR (Below.refl _ _) nq), below_drewR HL.out.2.1 nq, HN.out⟩⟩
                case measure => simp [intOf]; omega
              · have hq1 : ((cn : Int) == (L : Int)) = false := beq_false_of_ne (by omega)
                have hq2 : ((cn : Int) != (L : Int)) = true := by rw [bne, hq1]; rfl
                have HF := hid_mk (show R = false by
                  rw [Bool.eq_false_iff]
                  intro h
                  have := HGE.out.1 h j hlt2
                  rw [HC.out.1, HC.out.2] at this
                  exact hce this)
                clear hce
                go_wp2_with fail
                go_quiet (fail)
                go_wp2_with fail
                go_ret
                rw [HF.out]
                exact ⟨rfl, HBZ.out.trans ((below_drewR HL.out.2.1 nq).mono HBZ.out.size)⟩
            · have hlti2 : ¬ (j : Int) < (m : Int) := by omega
              have HF := hid_mk (HGE.out.2 (fun u hu => hJ.out.2.2 u (by omega)))
              have HL := hid_mk hJ.out.2.1
              clear hJ
              go_wp2_with fail
              go_ret
              rw [HF.out]
              exact ⟨rfl, HBZ.out.trans (HL.out.mono HBZ.out.size)⟩
end Go.Proofs.YtlcijlklbabajaaGreatDoor
