/-
  The kit's Size: where it tells a small number all is small. Conditions: rows take no more than an address space.
-/
import Derived.Test.YtlcijlklbabajaaGreatDoorRR67
namespace Go.Proofs.YtlcijlklbabajaaGreatDoor
open Go.RowKit R
def SmallN (top : Nat) (n : Nx) : Prop := n.name.length ≤ top ∧ n.data.length ≤ top ∧ n.kids.length ≤ top ∧ n.attrs.length ≤ top ∧ ∀ a ∈ n.attrs, a.1.length ≤ top ∧ a.2.length ≤ top
set_option maxHeartbeats 8000000 in
set_option maxRecDepth 100000 in
theorem size_any (top : Nat) (htop : top ≤ 20000) (a : Option Addr) (c : Nat) (ns : List NxM) (w : World) (h : HasTree w a ns) (hl : ns.length ≤ 400) (hb : ∀ p ∈ ns, SmallN 140737488355328 p.1) :
    Calls Tryz.prog 20 #[.slice a ns.length c, .int .i64 (top : Int)] w fun e w' => (∃ r : Nat, e = .returned (.int .i64 (r : Int)) ∧ (r ≤ top → ∀ p ∈ ns, SmallN top p.1)) ∧ Below w.heap.size w w' := by
  by_cases h0 : ns.length = 0
  · have hnil : ns = [] := List.eq_nil_of_length_eq_zero h0
    have HF := hid_mk (show ∀ p ∈ ns, SmallN top p.1 by rw [hnil]; intro p hp; cases hp)
    rw [h0]
    clear h h0 hnil hb hl
    have ht2 : ((top : Int) + 1) ≤ 20001 := by omega
    have ht0 : (0 : Int) ≤ (top : Int) + 1 := by omega
    have hz : ¬ (top : Int) + 1 < 0 := by omega
    go_enter Tryz.func20, Tryz.ntmps20
    go_wp2_with fail
    go_loopw [5, 6] (fun vn vi wr => vn = .int .i64 0 ∧ vi = .int .i64 0 ∧ Hid (Below w.heap.size w wr)) (fun _ vi _ => 0)
    case atStart => exact ⟨rfl, rfl, hid_mk (Below.refl _ _)⟩
    case round =>
      obtain ⟨rfl, rfl, hI⟩ := hrel
      go_wp2_with fail
      go_ret
      exact ⟨⟨0, by simp; omega, fun _ => HF.out⟩, hI.out⟩
  have hpos : 0 < ns.length := by omega
  obtain ⟨x, hx, hxx, hxy⟩ := h.cell hpos
  clear hxx hxy
  subst hx
  obtain ⟨m, hm⟩ : ∃ m, m = ns.length := ⟨_, rfl⟩
  have HM := hid_mk hm
  have H := hid_mk h
  have HB := hid_mk hb
  have hti : (top : Int) ≤ 20000 := by omega
  rw [← hm]
  have hm4 : m ≤ 400 := by omega
  clear h hb hl hm h0 hpos
  go_enter Tryz.func20, Tryz.ntmps20
  go_wp2_with fail
  go_loopw [5, 6] (fun vn vi wr => ∃ n i : Nat, i ≤ m ∧ n ≤ 600000000000000 ∧ vn = .int .i64 (n : Int) ∧ vi = .int .i64 (i : Int) ∧ Hid ((n ≤ top → ∀ j (hj : j < ns.length), j < i → SmallN top (ns[j]).1) ∧ Below w.heap.size w wr)) (fun _ vi _ => m - (intOf vi).toNat)
  case atStart => exact ⟨m, 0, Nat.zero_le _, by omega, rfl, rfl, hid_mk ⟨fun _ j hj hj0 => by omega, Below.refl _ _⟩⟩
  case round =>
    obtain ⟨n, i, hi, hn, rfl, rfl, hI⟩ := hrel
    generalize wr = wo at *
    by_cases hnt : n ≤ top
    · have hnti : (n : Int) ≤ (top : Int) := by omega
      by_cases hlt : i < m
      · have hlti : (i : Int) < (m : Int) := by omega
        have hi0 : (0 : Int) ≤ (i : Int) := by omega
        have hil : i < ns.length := by rw [← HM.out]; exact hlt
        have htree := H.out.below hI.out.2
        obtain ⟨n0, n1, n2, n3, n4, n5⟩ := htree.six hil
        have hat0 := htree.attrs _ (List.getElem_mem hil)
        have hki0 := htree.kids _ (List.getElem_mem hil)
        obtain ⟨b1, b2, b3, b4, b5⟩ := HB.out _ (List.getElem_mem hil)
        obtain ⟨aa, ac, hav, _, harow⟩ := hat0
        obtain ⟨ka, kc, hkv, _⟩ := hki0
        rw [hav] at n2
        rw [hkv] at n5
        have HGET := hid_mk (show ∀ tp, SmallN tp (ns[i]).1 ↔ ((ns[i]).1.name.length ≤ tp ∧ (ns[i]).1.data.length ≤ tp ∧ (ns[i]).1.kids.length ≤ tp ∧ (ns[i]).1.attrs.length ≤ tp ∧ ∀ a ∈ (ns[i]).1.attrs, a.1.length ≤ tp ∧ a.2.length ≤ tp) from fun _ => Iff.rfl)
        have HPREV := hid_mk (hI.out.1 hnt)
        have HBW := hid_mk hI.out.2
        have HTR := hid_mk (show ∀ w', Below wo.heap.size wo w' → w'.cell? ⟨(x.add (i * 6)).block, (x.add (i * 6)).off + 2, none⟩ = some (.slice aa (ns[i]).1.attrs.length ac) ∧ HasRow w' aa ((ns[i]).1.attrs.flatMap atF) from fun w' hb' => by
          have h2 := htree.below hb'
          refine ⟨?_, harow.below hb'⟩
          have := (h2.six hil).2.2.1
          rw [hav] at this
          exact this)
        clear hI n0 n4 hav hkv harow htree
        have s1 : (strOf (ns[i]).1.name).size = (ns[i]).1.name.length := size_strOf _
        have s3 : (strOf (ns[i]).1.data).size = (ns[i]).1.data.length := size_strOf _
        generalize strOf (ns[i]).1.name = sn at *
        generalize strOf (ns[i]).1.data = sd at *
        generalize (ns[i]).1.name.length = l1 at *
        generalize (ns[i]).1.data.length = l2 at *
        generalize (ns[i]).1.kids.length = l3 at *
        obtain ⟨ats, hats⟩ : ∃ ats, ats = (ns[i]).1.attrs := ⟨_, rfl⟩
        rw [← hats] at n2 HGET HTR b4 b5
        obtain ⟨l4, hl4⟩ : ∃ l4, l4 = ats.length := ⟨_, rfl⟩
        have HL4 := hid_mk hl4
        rw [← hl4] at n2 HTR b4
        have HB5 := hid_mk b5
        clear hats b5 hl4
        have s1' : (sn.size : Int) ≤ 140737488355328 := by omega
        have s3' : (sd.size : Int) ≤ 140737488355328 := by omega
        have b3' : (l3 : Int) ≤ 140737488355328 := by omega
        have b4' : (l4 : Int) ≤ 140737488355328 := by omega
        have hnb : (n : Int) ≤ 20000 := by omega
        go_wp2_with fail
        go_quiet (fail)
        have HD := hid_mk (below_drewR (Below.refl wo.heap.size wo) nq)
        go_wp2_with fail
        have HLE := hid_mk (show ∀ n2 : Nat, (n2 : Int) = (n : Int) + (sn.size : Int) + (sd.size : Int) + (l3 : Int) + (l4 : Int) → n2 ≤ 600000000000000 ∧ (n2 ≤ top → l1 ≤ top ∧ l2 ≤ top ∧ l3 ≤ top ∧ l4 ≤ top) from fun n2 h2 => ⟨by omega, fun h3 => ⟨by omega, by omega, by omega, by omega⟩⟩)
        have HTOP := hid_mk (And.intro htop hnt)
        go_loopw [5, 7] (fun vn vk wr => ∃ nn k : Nat, k ≤ l4 ∧ nn ≤ 600000000000000 ∧ vn = .int .i64 (nn : Int) ∧ vk = .int .i64 (k : Int) ∧ Hid ((nn ≤ top → l1 ≤ top ∧ l2 ≤ top ∧ l3 ≤ top ∧ l4 ≤ top ∧ ∀ j (hj : j < ats.length), j < k → (ats[j]).1.length ≤ top ∧ (ats[j]).2.length ≤ top) ∧ Below wo.heap.size wo wr)) (fun _ vk _ => l4 - (intOf vk).toNat)
        case atStart => exact ⟨n + sn.size + sd.size + l3 + l4, 0, Nat.zero_le _, (HLE.out _ (by omega)).1, by first | rfl | (congr 1; omega), rfl, hid_mk ⟨fun h2 => by
          obtain ⟨e1, e2, e3, e4⟩ := (HLE.out _ (by omega)).2 h2
          exact ⟨e1, e2, e3, e4, fun j hj hj0 => by omega⟩, HD.out⟩⟩
        case round =>
          obtain ⟨nn, k, hk, hn2, rfl, rfl, hJ⟩ := hrel
          generalize wr = wq at *
          have r2 := (HTR.out _ hJ.out.2).1
          by_cases hkl : k < l4
          · have hkli : (k : Int) < (l4 : Int) := by omega
            have hk0 : (0 : Int) ≤ (k : Int) := by omega
            by_cases hnt2 : nn ≤ top
            · have hnti2 : (nn : Int) ≤ (top : Int) := by omega
              have hka : k < ats.length := by rw [← HL4.out]; exact hkl
              obtain ⟨y, hy, _, y1, y2⟩ := (HTR.out _ hJ.out.2).2.at2 hka
              subst hy
              have y2' : wq.cell? ⟨(y.add (k * 2)).block, (y.add (k * 2)).off + 1, none⟩ = some (.string (strOf ats[k].2)) := by
                rw [← y2, ← Addr.add_add y (k * 2) 1]
                conv => rhs; unfold Addr.add
                rw [if_neg (by omega)]
                rfl
              obtain ⟨z1, z2⟩ := HB5.out _ (List.getElem_mem hka)
              have t1 : (strOf ats[k].1).size = ats[k].1.length := size_strOf _
              have t2 : (strOf ats[k].2).size = ats[k].2.length := size_strOf _
              obtain ⟨g1, hg1⟩ : ∃ g, g = ats[k].1.length := ⟨_, rfl⟩
              obtain ⟨g2, hg2⟩ : ∃ g, g = ats[k].2.length := ⟨_, rfl⟩
              have HSTEP := hid_mk (show ∀ n3 : Nat, (n3 : Int) = (nn : Int) + (g1 : Int) + (g2 : Int) → n3 ≤ 600000000000000 ∧ (n3 ≤ top → l1 ≤ top ∧ l2 ≤ top ∧ l3 ≤ top ∧ l4 ≤ top ∧ ∀ j (hj : j < ats.length), j < k + 1 → (ats[j]).1.length ≤ top ∧ (ats[j]).2.length ≤ top) from fun n3 h3 => by
                rw [← hg1] at z1
                rw [← hg2] at z2
                refine ⟨by omega, fun h4 => ?_⟩
                obtain ⟨e1, e2, e3, e4, e5⟩ := hJ.out.1 hnt2
                refine ⟨e1, e2, e3, e4, fun j hj hjk => ?_⟩
                by_cases e : j = k
                · subst e
                  exact ⟨by omega, by omega⟩
                · exact e5 j hj (by omega))
              rw [← hg1] at t1 z1
              rw [← hg2] at t2 z2
              have t1' : ((strOf ats[k].1).size : Int) = (g1 : Int) := by omega
              have t2' : ((strOf ats[k].2).size : Int) = (g2 : Int) := by omega
              generalize strOf ats[k].1 = st1 at *
              generalize strOf ats[k].2 = st2 at *
              have z1' : (g1 : Int) ≤ 140737488355328 := by omega
              have z2' : (g2 : Int) ≤ 140737488355328 := by omega
              have hnb2 : (nn : Int) ≤ 20000 := by omega
              have HW := hid_mk hJ.out.2
              clear hJ hg1 hg2 y2
              go_wp2_with fail
              go_quiet (fail)
              have HD2 := hid_mk (below_drewR HW.out nq)
              go_wp2_with fail
              go_roundw
              case rel => exact ⟨nn + g1 + g2, k + 1, by omega, (HSTEP.out _ (by omega)).1, by first | rfl | (congr 1; omega), by go_num, hid_mk ⟨(HSTEP.out _ (by omega)).2, HD2.out⟩⟩
              case measure => simp [intOf]; omega
            · have hnti2 : ¬ (nn : Int) ≤ (top : Int) := by omega
              have HW := hid_mk (HBW.out.trans (hJ.out.2.mono HBW.out.size))
              clear hJ
              go_wp2_with fail
              go_roundw
              case rel => exact ⟨nn, i + 1, by omega, hn2, rfl, by go_num, hid_mk ⟨fun h2 => absurd h2 hnt2, HW.out⟩⟩
              case measure => simp [intOf]; omega
          · have hkli : ¬ (k : Int) < (l4 : Int) := by omega
            have HW := hid_mk (HBW.out.trans (hJ.out.2.mono HBW.out.size))
            have HN := hid_mk (show nn ≤ top → ∀ j (hj : j < ns.length), j < i + 1 → SmallN top (ns[j]).1 from fun h2 j hj hji => by
              by_cases e : j = i
              · subst e
                rw [HGET.out]
                obtain ⟨e1, e2, e3, e4, e5⟩ := hJ.out.1 h2
                refine ⟨e1, e2, e3, by rw [← HL4.out]; exact e4, fun q hq => ?_⟩
                obtain ⟨q', hq', rfl⟩ := List.getElem_of_mem hq
                exact e5 q' hq' (by rw [HL4.out] at hkl; omega)
              · exact HPREV.out j hj (by omega))
            clear hJ
            go_wp2_with fail
            go_roundw
            case rel => exact ⟨nn, i + 1, by omega, hn2, rfl, by go_num, hid_mk ⟨HN.out, HW.out⟩⟩
            case measure => simp [intOf]; omega
      · have hlti : ¬ (i : Int) < (m : Int) := by omega
        have HALL := hid_mk (show ∀ p ∈ ns, SmallN top p.1 from fun p hp => by
          obtain ⟨j, hj, rfl⟩ := List.getElem_of_mem hp
          exact hI.out.1 hnt j hj (by have := HM.out; omega))
        have HW := hid_mk hI.out.2
        have hmin : ¬ (top : Int) + 1 < (n : Int) := by omega
        have hti2 : ((top : Int) + 1) ≤ 20001 := by omega
        have ht0 : (0 : Int) ≤ (top : Int) + 1 := by omega
        clear hI
        go_wp2_with fail
        go_ret
        exact ⟨⟨n, by simp; omega, fun _ => fun p1 p2 p3 hp => HALL.out _ hp⟩, HW.out⟩
    · have hnti : ¬ (n : Int) ≤ (top : Int) := by omega
      have hmin : ¬ (n : Int) < (top : Int) + 1 := by omega
      have hti2 : ((top : Int) + 1) ≤ 20001 := by omega
      have ht0 : (0 : Int) ≤ (top : Int) + 1 := by omega
      have HW := hid_mk hI.out.2
      clear hI
      by_cases hlt : i < m
      · have hlti : (i : Int) < (m : Int) := by omega
        go_wp2_with fail
        go_ret
        exact ⟨⟨top + 1, by simp; omega, fun h2 => by omega⟩, HW.out⟩
      · have hlti : ¬ (i : Int) < (m : Int) := by omega
        go_wp2_with fail
        go_ret
        exact ⟨⟨top + 1, by simp; omega, fun h2 => by omega⟩, HW.out⟩
end Go.Proofs.YtlcijlklbabajaaGreatDoor
