/-
  Package tree's Right. Conditions: sizes are bounded; the world holds Go's own tables.
-/
import Derived.Test.YtnooofnlbfhopaaDoorRRt6
namespace Go.Proofs.YtnooofnlbfhopaaDoor
open Go.RowKit
def rightN (t : List Nx) : Nat := if rightX t then 0 else 53
set_option maxHeartbeats 4000000 in
set_option maxRecDepth 100000 in
theorem right_any (a : Option Addr) (c : Nat) (ns : List NxM) (w : World) (hT : TabV w) (h : HasTree w a ns) (hl : ns.length ≤ 1000000000) (hok : ∀ p ∈ ns, NxOk p.1 ∧ p.1.kids.length ≤ 1000000000) :
    Calls Tryd.prog 26 #[.slice a ns.length c] w fun e w' => e = .returned (.int .i64 (rightN (ns.map (·.1)) : Int)) ∧ Below w.heap.size w w' := by
  obtain ⟨R, hR⟩ : ∃ R, R = rightX (ns.map (·.1)) := ⟨_, rfl⟩
  obtain ⟨G, hG⟩ : ∃ G : Nat, G = if R then 0 else 53 := ⟨_, rfl⟩
  unfold rightN
  rw [← hR, ← hG]
  have HG := hid_mk hG
  clear hG
  by_cases h0 : ns.length = 0
  · have hnil : ns = [] := List.eq_nil_of_length_eq_zero h0
    have HF := hid_mk (show R = false by rw [hR, hnil]; rfl)
    rw [h0]
    clear h h0 hnil hR hok hl
    go_enter Tryd.func26, Tryd.ntmps26
    go_wp2_with fail
    go_ret
    rw [HG.out, HF.out]
    exact ⟨rfl, Below.refl _ _⟩
  have hpos : 0 < ns.length := by omega
  obtain ⟨x, hx, hxx, hxy⟩ := h.cell hpos
  clear hxx hxy
  subst hx
  obtain ⟨m, hm⟩ : ∃ m, m = ns.length := ⟨_, rfl⟩
  have hq0 : ((m : Int) == 0) = false := beq_false_of_ne (by omega)
  have hmi : (0 : Int) < (m : Int) := by omega
  have hm0 : 0 < m := by omega
  by_cases hbig : 16384 < m
  · have hb2 : (16384 : Int) < (m : Int) := by omega
    have HF := hid_mk (show R = false by
      rw [hR]
      unfold rightX
      cases hns : ns.map (·.1) with
      | nil => rfl
      | cons d r =>
        have : (d :: r).length = m := by rw [← hns, List.length_map, hm]
        simp only [this, decide_eq_false (show ¬ m ≤ 16384 by omega), Bool.false_and])
    rw [← hm]
    clear h hR hok hl hbig hm h0 hpos
    go_enter Tryd.func26, Tryd.ntmps26
    go_wp2_with fail
    go_ret
    rw [HG.out, HF.out]
    exact ⟨rfl, Below.refl _ _⟩
  have hb2 : ¬ (16384 : Int) < (m : Int) := by omega
  obtain ⟨d, hd⟩ : ∃ d, d = (ns[0]).1 := ⟨_, rfl⟩
  have HRX := hid_mk (show R = (docX d && placesX ((ns.map (·.1)).drop 1) 1 d [] && kidsX (ns.map (·.1))) by
    rw [hR]
    match ns, hpos, hd, hm with
    | p :: q, _, hd, hm =>
      unfold rightX
      simp only [List.map_cons]
      rw [decide_eq_true (show ((p.1 :: q.map (·.1)).length ≤ 16384) by simp at hm ⊢; omega), Bool.true_and, hd]
      rfl)
  obtain ⟨n0, n1, n2, n3, n4, n5⟩ := h.six hpos
  have hat0 := h.attrs _ (List.getElem_mem hpos)
  have hki0 := h.kids _ (List.getElem_mem hpos)
  rw [← hd] at n0 n1 n3 n4 hat0 hki0
  obtain ⟨aa, ac, hav, hac, hrow⟩ := hat0
  obtain ⟨ka, kc, hkv, hkrow⟩ := hki0
  rw [hav] at n2
  rw [hkv] at n5
  rw [Nat.zero_mul, show x.add 0 = x from if_pos rfl] at n0 n1 n2 n3 n4 n5
  have hdo := hid_mk (rightDocument_any d aa ac (.slice ka d.kids.length kc) w)
  have H := hid_mk h
  have HT := hid_mk hT
  have HOK := hid_mk hok
  have hpl := hid_mk (fun w' (hb : Below w.heap.size w w') => rightPlaces_any (some x) c ns w' (HT.out.below hb) (H.out.below hb) hpos (by omega) (fun p hp => (HOK.out p hp).1))
  rw [← hd] at hpl
  have hkd := hid_mk (fun w' (hb : Below w.heap.size w w') (hpx : placesX ((ns.map (·.1)).drop 1) 1 d [] = true) => rightKids_any (some x) c ns w' (H.out.below hb) hpos (by omega) (by
    match ns, hpos, hd, hpx with
    | p :: q, _, hd, hpx =>
      simp only [List.map_cons] at hpx ⊢
      rw [hd] at hpx
      exact ups_of_places hpx) (fun p hp => (HOK.out p hp).2))
  rw [← hm] at hpl hkd ⊢
  generalize docX d = b1 at *
  generalize placesX ((ns.map (·.1)).drop 1) 1 d [] = b2 at *
  generalize kidsX (ns.map (·.1)) = b3 at *
  clear h hT hok hR hav hkv hac hrow hkrow hd hm h0 hl hpos
  go_enter Tryd.func26, Tryd.ntmps26
  go_wp2_with fail
  with_reducible refine hdo.out.mono ?_
  rintro e1 w1 ⟨rfl, hb1⟩
  cases b1 with
  | false =>
    have HF := hid_mk (HRX.out : R = _)
    go_wp2_with fail
    go_ret
    rw [HG.out, HF.out]
    exact ⟨rfl, hb1⟩
  | true =>
    go_wp2_with fail
    with_reducible refine (hpl.out _ hb1).mono ?_
    rintro e2 w2 ⟨rfl, hb2'⟩
    have hb12 := hb1.trans (hb2'.mono hb1.size)
    cases b2 with
    | false =>
      go_wp2_with fail
      go_ret
      rw [HG.out, HRX.out]
      exact ⟨rfl, hb12⟩
    | true =>
      go_wp2_with fail
      with_reducible refine (hkd.out _ hb12 trivial).mono ?_
      rintro e3 w3 ⟨rfl, hb3⟩
      have hb123 := hb12.trans (hb3.mono hb12.size)
      cases b3 with
      | false =>
        go_wp2_with fail
        go_ret
        rw [HG.out, HRX.out]
        exact ⟨rfl, hb123⟩
      | true =>
        go_wp2_with fail
        go_ret
        rw [HG.out, HRX.out]
        exact ⟨rfl, hb123⟩
end Go.Proofs.YtnooofnlbfhopaaDoor
