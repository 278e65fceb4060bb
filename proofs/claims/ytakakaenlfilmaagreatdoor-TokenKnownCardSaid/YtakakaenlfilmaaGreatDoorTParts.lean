/-
  TokenParts, of any two texts. Condition: the world holds what Tab says.
-/
import Derived.Test.YtakakaenlfilmaaGreatDoorTSize
import Derived.Test.YtakakaenlfilmaaGreatDoorTSame
import Derived.Test.YtakakaenlfilmaaGreatDoorTBase
namespace Go.Proofs.YtakakaenlfilmaaGreatDoor
open Go.RowKit
theorem tokensL_place (l : List UInt8) (h : (tokensL l).1 ≠ 42) : (tokensL l).2.1 ≤ l.length := by
  unfold tokensL at h ⊢
  split <;> rename_i h1
  · exact Nat.zero_le _
  · rw [if_neg h1] at h
    split <;> rename_i h2
    · rw [if_pos h2] at h
      exact absurd rfl h
    · split
      · exact Nat.zero_le _
      · exact Nat.sub_le _ _
set_option maxHeartbeats 16000000 in
set_option maxRecDepth 100000 in
theorem tokenParts_c (s t : ByteArray) (w : World) (hT : Tab w) :
    Calls Tryz.prog 9 #[.string s, .string t] w fun e w' => e = .returned (.bool true) ∧ Next w w' := by
  have HT := hid_mk hT
  clear hT
  by_cases hbig : 2000 < s.size ∨ 2000 < t.size
  · have hb0 : (decide (2000 < s.size) = true) ∨ (decide (2000 < s.size) = false ∧ decide (2000 < t.size) = true) := by
      by_cases h : 2000 < s.size
      · exact .inl (decide_eq_true h)
      · exact .inr ⟨decide_eq_false h, decide_eq_true (by omega)⟩
    rcases hb0 with hb1 | ⟨hb1, hb2⟩
    · have hb3 : decide ((2000 : Int) < (s.size : Int)) = true := decide_eq_true (by have := of_decide_eq_true hb1; omega)
      clear hbig
      go_enter Tryz.func9, Tryz.ntmps9
      go_wp2_with fail
      refine (works_any _ HT.out).mono ?_
      rintro e w1 ⟨rfl, hn1⟩
      have H1 := hid_mk hn1
      clear hn1
      go_wp2
      go_ret
      exact ⟨rfl, H1.out⟩
    · have hb3 : decide ((2000 : Int) < (s.size : Int)) = false := decide_eq_false (by have := of_decide_eq_false hb1; omega)
      have hb4 : decide ((2000 : Int) < (t.size : Int)) = true := decide_eq_true (by have := of_decide_eq_true hb2; omega)
      clear hbig
      go_enter Tryz.func9, Tryz.ntmps9
      go_wp2_with fail
      refine (works_any _ HT.out).mono ?_
      rintro e w1 ⟨rfl, hn1⟩
      have H1 := hid_mk hn1
      clear hn1
      go_wp2
      go_ret
      exact ⟨rfl, H1.out⟩
  have hb1 : decide (2000 < s.size) = false := decide_eq_false (by omega)
  have hb2 : decide (2000 < t.size) = false := decide_eq_false (by omega)
  have hb3 : decide ((2000 : Int) < (s.size : Int)) = false := decide_eq_false (by omega)
  have hb4 : decide ((2000 : Int) < (t.size : Int)) = false := decide_eq_false (by omega)
  have hs : s.size ≤ 2000 := by omega
  have ht : t.size ≤ 2000 := by omega
  clear hbig
  have hta := hid_mk (tokens_any s w HT.out (by omega))
  have htb := hid_mk (fun w hT => tokens_any t w hT (by omega))
  have htc := hid_mk (fun w hT => tokens_any (s ++ t) w hT (by rw [ByteArray.size_append]; omega))
  obtain ⟨E1, hE1⟩ : ∃ E, E = (tokensL (sl s)).1 := ⟨_, rfl⟩
  obtain ⟨E2, hE2⟩ : ∃ E, E = (tokensL (sl t)).1 := ⟨_, rfl⟩
  obtain ⟨P1, hP1⟩ : ∃ E, E = (tokensL (sl s)).2.1 := ⟨_, rfl⟩
  obtain ⟨P2, hP2⟩ : ∃ E, E = (tokensL (sl t)).2.1 := ⟨_, rfl⟩
  have HE1 := hid_mk hE1
  have HE2 := hid_mk hE2
  have HP1 := hid_mk hP1
  have HP2 := hid_mk hP2
  clear hE1 hE2 hP1 hP2
  go_enter Tryz.func9, Tryz.ntmps9
  go_wp2_with fail
  refine hta.out.mono ?_
  rintro e w1 ⟨v1, ps1, rfl, hl1, hr1, hn1⟩
  rw [← HE1.out, ← HP1.out]
  obtain ⟨a1, ca, rfl, hh1⟩ := hr1.has
  have H1 := hid_mk (And.intro hl1 (And.intro hr1 hn1))
  clear hl1 hr1 hn1 hh1
  go_wp2_with fail
  refine (htb.out w1 H1.out.2.2.2).mono ?_
  rintro e w2 ⟨v2, ps2, rfl, hl2, hr2, hn2⟩
  rw [← HE2.out, ← HP2.out]
  obtain ⟨a2, cb, rfl, hh2⟩ := hr2.has
  have H2 := hid_mk (And.intro hl2 (And.intro hr2 hn2))
  clear hl2 hr2 hn2 hh2
  have hR1 := hid_mk (right_any (H1.out.2.1.below H2.out.2.2.1) H1.out.1)
  go_wp2_with fail
  refine hR1.out.mono ?_
  rintro e w3 ⟨rfl, hb3⟩
  have H3 := hid_mk hb3
  clear hb3
  have hR2 := hid_mk (right_any (H2.out.2.1.below H3.out) H2.out.1)
  go_wp2_with fail
  refine hR2.out.mono ?_
  rintro e w4 ⟨rfl, hb4⟩
  have H4 := hid_mk hb4
  clear hb4
  clear hta htb hR1 hR2
  have hb24 := H3.out.trans (H4.out.mono H3.out.size)
  have HN2 := hid_mk (show Next w1 w4 from H2.out.2.2.trans (Next.of H2.out.2.2.2 hb24))
  have HN := hid_mk (show Next w w4 from H1.out.2.2.trans HN2.out)
  have HA := hid_mk (H1.out.2.1.below HN2.out.1)
  have HB := hid_mk (H2.out.2.1.below hb24)
  have HL1 := hid_mk H1.out.1
  have HL2 := hid_mk H2.out.1
  clear H1 H2 H3 H4 HN2 hb24
  obtain ⟨n1, hn1⟩ : ∃ n, n = ps1.length := ⟨_, rfl⟩
  obtain ⟨n2, hn2⟩ : ∃ n, n = ps2.length := ⟨_, rfl⟩
  have HN1 := hid_mk hn1
  have HN2 := hid_mk hn2
  have hs1 : n1 ≤ 65536 := by rw [hn1]; have := (tokensL_size (sl s)).1; rw [HL1.out, List.length_map] at this; exact this
  have hs2 : n2 ≤ 65536 := by rw [hn2]; have := (tokensL_size (sl t)).1; rw [HL2.out, List.length_map] at this; exact this
  rw [← hn1, ← hn2]
  have hcase : (∃ e, E1 = e + 1) ∨ (E1 = 0 ∧ n1 = 0) ∨ (E1 = 0 ∧ 0 < n1 ∧ ∃ g, a1 = some ⟨g, 0, none⟩ ∧ w4.cell? ⟨g, (n1 - 1) * 5, none⟩ = some (.int .u8 3)) ∨
      (E1 = 0 ∧ 0 < n1 ∧ ∃ g, a1 = some ⟨g, 0, none⟩ ∧ ∃ K : Nat, K ≠ 3 ∧ w4.cell? ⟨g, (n1 - 1) * 5, none⟩ = some (.int .u8 (K : Int)) ∧ ∀ u, (tokensL (sl s)).2.2.getLast? = some u → u.kind ≠ 3) := by
    by_cases h0 : E1 = 0
    · by_cases h1 : n1 = 0
      · exact .inr (.inl ⟨h0, h1⟩)
      · right; right
        have hp : 0 < ps1.length := by omega
        obtain ⟨g, c, hv⟩ := HA.out.some hp
        injection hv with hv _ _
        subst hv
        have hlt : n1 - 1 < ps1.length := by omega
        have hc := HA.out.cells (n := ps1.length) (n1 - 1) hlt 0 (by decide)
        by_cases hk : (ps1[n1 - 1]'hlt).1.kind = 3
        · exact .inl ⟨h0, by omega, g, rfl, hc.trans (by show some (Value.int .u8 ((ps1[n1 - 1]'hlt).1.kind : Int)) = _; rw [hk]; rfl)⟩
        · refine .inr ⟨h0, by omega, g, rfl, (ps1[n1 - 1]'hlt).1.kind, hk, hc, fun u hu => ?_⟩
          rw [HL1.out, List.getLast?_eq_getElem?, List.length_map, List.getElem?_map, ← hn1, List.getElem?_eq_getElem hlt] at hu
          injection hu with hu
          rw [← hu]
          exact hk
    · exact .inl ⟨E1 - 1, by omega⟩
  clear hn1 hn2
  rcases hcase with ⟨e1, rfl⟩ | ⟨rfl, rfl⟩ | ⟨rfl, h1, g, rfl, hc⟩ | ⟨rfl, h1, g, rfl, K, hK, hc, hlast⟩
  · have f1 : (((e1 + 1 : Nat) : Int) == 0) = false := beq_false_of_ne (by omega)
    have f2 : ((e1 + 1) == 0) = false := rfl
    have f3 : ¬ ((e1 : Int) + 1 = 0) := by omega
    have f4 : (((e1 : Int) + 1) == 0) = false := beq_false_of_ne f3
    go_wp2_with fail
    refine (works_any _ HN.out.2).mono ?_
    rintro e w5 ⟨rfl, hn5⟩
    have H5 := hid_mk (HN.out.trans hn5)
    clear hn5
    go_wp2
    go_ret
    exact ⟨rfl, H5.out⟩
  · go_wp2_with fail
    refine (works_any _ HN.out.2).mono ?_
    rintro e w5 ⟨rfl, hn5⟩
    have H5 := hid_mk (HN.out.trans hn5)
    clear hn5
    go_wp2
    go_ret
    exact ⟨rfl, H5.out⟩
  · have hsub : IntKind.i64.wrap ((n1 : Int) - 1) = (n1 : Int) - 1 := IntWalk.i64_in _ (by omega)
    have htn : ((n1 : Int) - 1).toNat = n1 - 1 := by omega
    have b1 : (1 : Int) ≤ (n1 : Int) := by omega
    have b2 : (n1 : Int) - 1 < (n1 : Int) := by omega
    have b3 : ((n1 : Int) == 0) = false := beq_false_of_ne (by omega)
    have b4 : (n1 == 0) = false := beq_false_of_ne (by omega)
    have b5 : ¬ n1 = 0 := by omega
    go_wp2_with fail
    refine (works_any _ HN.out.2).mono ?_
    rintro e w5 ⟨rfl, hn5⟩
    have H5 := hid_mk (HN.out.trans hn5)
    clear hn5
    go_wp2
    go_ret
    exact ⟨rfl, H5.out⟩
  · have HLAST := hid_mk hlast
    clear hlast
    have hsub : IntKind.i64.wrap ((n1 : Int) - 1) = (n1 : Int) - 1 := IntWalk.i64_in _ (by omega)
    have htn : ((n1 : Int) - 1).toNat = n1 - 1 := by omega
    have b1 : (1 : Int) ≤ (n1 : Int) := by omega
    have b2 : (n1 : Int) - 1 < (n1 : Int) := by omega
    have b3 : ((n1 : Int) == 0) = false := beq_false_of_ne (by omega)
    have b4 : (n1 == 0) = false := beq_false_of_ne (by omega)
    have b5 : ¬ n1 = 0 := by omega
    have k1 : ((K : Int) == 3) = false := beq_false_of_ne (by omega)
    have k2 : (K == 3) = false := beq_false_of_ne hK
    by_cases hF : E2 = 42
    · subst hF
      go_wp2_with fail
      refine (works_any _ HN.out.2).mono ?_
      rintro e w5 ⟨rfl, hn5⟩
      have H5 := hid_mk (HN.out.trans hn5)
      clear hn5
      go_wp2
      go_ret
      exact ⟨rfl, H5.out⟩
    · have q1 : ((E2 : Int) == 42) = false := beq_false_of_ne (by omega)
      have q2 : (E2 == 42) = false := beq_false_of_ne hF
      have hTC : tokensL (sl (s ++ t)) = if E2 = 0 then (0, 0, (tokensL (sl s)).2.2 ++ (tokensL (sl t)).2.2) else (E2, P2 + s.size, []) := by
        rw [sl_append, tokensL_app (by rw [len_sl]; exact hs) (by rw [len_sl]; exact ht) HE1.out.symm ?_ HLAST.out (by rw [← HE2.out]; exact hF), ← HE2.out, ← HP2.out, len_sl]
        intro h
        rw [HL1.out] at h
        have := congrArg List.length h
        rw [List.length_map, ← HN1.out] at this
        simp at this
        omega
      have hP2 : P2 ≤ 2000 := by
        rw [HP2.out]
        have := tokensL_place (sl t) (by rw [← HE2.out]; exact hF)
        rw [len_sl] at this
        omega
      obtain ⟨E3, hE3⟩ : ∃ E, E = (tokensL (sl (s ++ t))).1 := ⟨_, rfl⟩
      obtain ⟨Q3, hQ3⟩ : ∃ E, E = (tokensL (sl (s ++ t))).2.1 := ⟨_, rfl⟩
      have HTC := hid_mk hTC
      clear hTC
      go_wp2_with fail
      refine (htc.out w4 HN.out.2).mono ?_
      rintro e w5 ⟨v3, ps3, rfl, hl3, hr3, hn3⟩
      rw [← hE3, ← hQ3]
      obtain ⟨a3, cc, rfl, hh3⟩ := hr3.has
      have HN5 := hid_mk (HN.out.trans hn3)
      have HC := hid_mk hr3
      have HL3 := hid_mk hl3
      have HA5 := hid_mk (HA.out.below hn3.1)
      have HB5 := hid_mk (HB.out.below hn3.1)
      clear hl3 hr3 hn3 hh3 hc HA HB HN htc HLAST hsub htn b1 b2 k1 k2 q1 q2
      by_cases hF0 : E2 = 0
      · have hE3' : E3 = 0 := by rw [hE3, HTC.out, if_pos hF0]
        subst hF0 hE3'
        have HC3 := hid_mk (show ps3.map (·.1) = ps1.map (·.1) ++ ps2.map (·.1) by rw [← HL3.out, HTC.out, if_pos rfl, HL1.out, HL2.out])
        obtain ⟨n3, hn3⟩ : ∃ n, n = ps3.length := ⟨_, rfl⟩
        have hn33 : n3 = n1 + n2 := by
          have := congrArg List.length HC3.out
          rw [List.length_append, List.length_map, List.length_map, List.length_map, ← HN1.out, ← HN2.out, ← hn3] at this
          exact this
        have HN3 := hid_mk hn3
        rw [← hn3]
        clear hn3 hE3 hQ3
        have r5 : IntKind.i64.wrap ((n1 : Int) + (n2 : Int)) = (n3 : Int) := by rw [hn33, Int.natCast_add]; exact IntWalk.i64_in _ (by omega)
        obtain ⟨g3, c3, hv3⟩ := HC.out.some (by rw [← HN3.out]; omega)
        injection hv3 with hv3 _ _
        subst hv3
        have HRT := hid_mk (tokensL_right (sl (s ++ t)))
        have HSA := hid_mk (fun a b c d l w h1 h2 hl => sameAttrs_go a b c d l w h1 h2 hl)
        have hB2 : n2 = 0 ∨ ∃ g2, a2 = some ⟨g2, 0, none⟩ := by
          by_cases h : n2 = 0
          · exact .inl h
          · obtain ⟨g2, c22, hv2⟩ := HB5.out.some (by rw [← HN2.out]; omega)
            injection hv2 with hv2 _ _
            exact .inr ⟨g2, hv2⟩
        rcases hB2 with hB2 | ⟨g2, rfl⟩
        · go_wp2_with fail
          go_loopw [14] (fun i wr => ∃ k : Nat, k ≤ n3 ∧ i = .int .i64 k ∧ Hid (Below w5.heap.size w5 wr)) (fun i _ => n3 - (intOf i).toNat)
          case atStart => exact ⟨0, Nat.zero_le _, rfl, hid_mk (Below.refl _ _)⟩
          case round =>
            obtain ⟨k, hk, rfl, HW⟩ := hrel
            by_cases hlt : k < n3
            · have hlti : (k : Int) < (n3 : Int) := by omega
              have hk3 : k < ps3.length := by rw [← HN3.out]; exact hlt
              have hmap := congrArg (fun l => l[k]?) HC3.out
              try simp only at hmap
              obtain ⟨p3, hp3⟩ : ∃ p, p = ps3[k]'hk3 := ⟨_, rfl⟩
              rw [List.getElem?_map, List.getElem?_eq_getElem hk3, ← hp3] at hmap
              obtain ⟨T, V⟩ := p3
              have hcs := fun j hj => (HC.out.below HW.out).cells k hk3 j hj
              rw [← hp3] at hcs
              have hm3 : (T, V) ∈ ps3 := by rw [hp3]; exact List.getElem_mem hk3
              have hfew := (HRT.out.each T (by rw [HL3.out]; exact List.mem_map.2 ⟨_, hm3, rfl⟩)).few
              have hat3 := (HC.out.2 (T, V) hm3).below HW.out
              obtain ⟨va, vc, hv, hat⟩ := own_attrs hat3
              try simp only at hv
              subst hv
              clear hm3 hp3 hat3
              by_cases hk1 : k < n1
              · have hk1i : (k : Int) < (n1 : Int) := by omega
                have hk1' : k < ps1.length := by rw [← HN1.out]; exact hk1
                rw [List.getElem?_append_left (by rw [List.length_map]; exact hk1'), List.getElem?_map, List.getElem?_eq_getElem hk1'] at hmap
                obtain ⟨p1, hp1⟩ : ∃ p, p = ps1[k]'hk1' := ⟨_, rfl⟩
                rw [← hp1] at hmap
                obtain ⟨T', V'⟩ := p1
                simp only [Option.map_some, Option.some.injEq] at hmap
                subst hmap
                have hcs1 := fun j hj => (HA5.out.below HW.out).cells k hk1' j hj
                rw [← hp1] at hcs1
                have hm1 : (T, V') ∈ ps1 := by rw [hp1]; exact List.getElem_mem hk1'
                have hat1 := (HA5.out.2 (T, V') hm1).below HW.out
                obtain ⟨vb, vd, hv, hatb⟩ := own_attrs hat1
                try simp only at hv
                subst hv
                clear hm1 hp1 hat1
                obtain ⟨K1, nm, at1, sf, dt⟩ := T
                have e0 : wr.cell? ⟨g3, k * 5, none⟩ = some (.int .u8 (K1 : Int)) := hcs 0 (by decide)
                have e1 : wr.cell? ⟨g3, k * 5 + 1, none⟩ = some (.string (strOf nm)) := hcs 1 (by decide)
                have e2 : wr.cell? ⟨g3, k * 5 + 2, none⟩ = some (.slice va at1.length vc) := hcs 2 (by decide)
                have e3 : wr.cell? ⟨g3, k * 5 + 3, none⟩ = some (.bool sf) := hcs 3 (by decide)
                have e4 : wr.cell? ⟨g3, k * 5 + 4, none⟩ = some (.string (strOf dt)) := hcs 4 (by decide)
                have f0 : wr.cell? ⟨g, k * 5, none⟩ = some (.int .u8 (K1 : Int)) := hcs1 0 (by decide)
                have f1 : wr.cell? ⟨g, k * 5 + 1, none⟩ = some (.string (strOf nm)) := hcs1 1 (by decide)
                have f2 : wr.cell? ⟨g, k * 5 + 2, none⟩ = some (.slice vb at1.length vd) := hcs1 2 (by decide)
                have f3 : wr.cell? ⟨g, k * 5 + 3, none⟩ = some (.bool sf) := hcs1 3 (by decide)
                have f4 : wr.cell? ⟨g, k * 5 + 4, none⟩ = some (.string (strOf dt)) := hcs1 4 (by decide)
                have HSC := hid_mk (fun w' (hb : Below wr.heap.size wr w') => HSA.out va vb vc vd at1 w' (hat.below hb) (hatb.below hb) (by have := hfew; simp only at this; omega))
                obtain ⟨ln, hln⟩ : ∃ ln, ln = at1.length := ⟨_, rfl⟩
                rw [← hln] at HSC e2 f2
                obtain ⟨z1, hz1⟩ : ∃ z, z = strOf nm := ⟨_, rfl⟩
                obtain ⟨z2, hz2⟩ : ∃ z, z = strOf dt := ⟨_, rfl⟩
                rw [← hz1] at e1 f1
                rw [← hz2] at e4 f4
                clear hcs hcs1 hat hatb hfew hln hz1 hz2
                have y1 : (z1.toList == z1.toList) = true := beq_self_eq_true _
                have y2 : (z2.toList == z2.toList) = true := beq_self_eq_true _
                have hsz : ∀ (w : World) (o : Obj), (w.alloc o).heap.size = w.heap.size + 1 := fun w o => Array.size_push ..
                have hgl : g < wr.heap.size := World.block_lt_of_cell? wr _ f0
                have two : ∀ (j : Nat) (o1 o2 : Obj), ((wr.alloc o1).alloc o2).cell? ⟨g, j, none⟩ = wr.cell? ⟨g, j, none⟩ := fun j o1 o2 => by
                  rw [World.cell?_alloc_lt _ _ _ (by rw [hsz]; exact Nat.lt_succ_of_lt hgl), World.cell?_alloc_lt _ _ _ hgl]
                have g0 := fun o1 o2 => (two (k * 5) o1 o2).trans f0
                have g1 := fun o1 o2 => (two (k * 5 + 1) o1 o2).trans f1
                have g21 := fun o1 o2 => (two (k * 5 + 2) o1 o2).trans f2
                have g4 := fun o1 o2 => (two (k * 5 + 3) o1 o2).trans f3
                have g5 := fun o1 o2 => (two (k * 5 + 4) o1 o2).trans f4
                obtain ⟨X, hX⟩ : ∃ X, X = Obj.cells #[.int .u8 (K1 : Int), .string z1, .slice va ln vc, .bool sf, .string z2] 33 := ⟨_, rfl⟩
                have xx : ∀ (j : Nat) (o2 : Obj), ((wr.alloc X).alloc o2).cell? ⟨wr.heap.size, j, none⟩ = #[.int .u8 (K1 : Int), .string z1, .slice va ln vc, .bool sf, .string z2][j]? := fun j o2 => by
                  rw [World.cell?_alloc_lt _ _ _ (by rw [hsz]; exact Nat.lt_succ_self _), hX]
                  exact (Blk.new wr _).cell j
                have yy : ∀ (j : Nat), ((wr.alloc X).alloc (.cells #[.int .u8 (K1 : Int), .string z1, .slice vb ln vd, .bool sf, .string z2] 33)).cell? ⟨wr.heap.size + 1, j, none⟩ = #[.int .u8 (K1 : Int), .string z1, .slice vb ln vd, .bool sf, .string z2][j]? := fun j => by
                  have := (Blk.new (wr.alloc X) (.cells #[.int .u8 (K1 : Int), .string z1, .slice vb ln vd, .bool sf, .string z2] 33)).cell j
                  rw [hsz] at this
                  exact this
                rw [hX] at xx yy
                have x0 := xx 0
                have x1 := xx 1
                have x2 := xx 2
                have x3 := xx 3
                have x4 := xx 4
                have y10 := yy 0
                have y11 := yy 1
                have y12 := yy 2
                have y13 := yy 3
                have y14 := yy 4
                have HSZ := hid_mk hsz
                clear two xx yy hX hsz
                go_wp2_with fail
                refine (HSC.out _ (((Below.refl _ _).alloc (Nat.le_refl _) _).alloc (by rw [HSZ.out]; exact Nat.le_succ _) _)).mono ?_
                rintro e w6 ⟨rfl, hb6⟩
                have H6 := hid_mk (HW.out.trans (((((Below.refl _ _).alloc (Nat.le_refl _) _).alloc (by rw [HSZ.out]; exact Nat.le_succ _) _).trans (hb6.mono (by rw [HSZ.out, HSZ.out]; omega))).mono HW.out.size))
                clear hb6 g0 g1 g21 g4 g5 x0 x1 x2 x3 x4 y10 y11 y12 y13 y14
                go_wp2_with fail
                go_roundw
                case rel => exact ⟨k + 1, by omega, by go_num, H6⟩
                case measure => simp [intOf]; omega
              · exfalso
                omega
            · have hlti : ¬ (k : Int) < (n3 : Int) := by omega
              go_wp2_with fail
              refine (works_any _ (HN5.out.2.below HW.out)).mono ?_
              rintro e w6 ⟨rfl, hn6⟩
              have H6 := hid_mk (HN5.out.trans ((Next.of HN5.out.2 HW.out).trans hn6))
              clear hn6
              go_wp2
              go_ret
              exact ⟨rfl, H6.out⟩
        · go_wp2_with fail
          go_loopw [14] (fun i wr => ∃ k : Nat, k ≤ n3 ∧ i = .int .i64 k ∧ Hid (Below w5.heap.size w5 wr)) (fun i _ => n3 - (intOf i).toNat)
          case atStart => exact ⟨0, Nat.zero_le _, rfl, hid_mk (Below.refl _ _)⟩
          case round =>
            obtain ⟨k, hk, rfl, HW⟩ := hrel
            by_cases hlt : k < n3
            · have hlti : (k : Int) < (n3 : Int) := by omega
              have hk3 : k < ps3.length := by rw [← HN3.out]; exact hlt
              have hmap := congrArg (fun l => l[k]?) HC3.out
              try simp only at hmap
              obtain ⟨p3, hp3⟩ : ∃ p, p = ps3[k]'hk3 := ⟨_, rfl⟩
              rw [List.getElem?_map, List.getElem?_eq_getElem hk3, ← hp3] at hmap
              obtain ⟨T, V⟩ := p3
              have hcs := fun j hj => (HC.out.below HW.out).cells k hk3 j hj
              rw [← hp3] at hcs
              have hm3 : (T, V) ∈ ps3 := by rw [hp3]; exact List.getElem_mem hk3
              have hfew := (HRT.out.each T (by rw [HL3.out]; exact List.mem_map.2 ⟨_, hm3, rfl⟩)).few
              have hat3 := (HC.out.2 (T, V) hm3).below HW.out
              obtain ⟨va, vc, hv, hat⟩ := own_attrs hat3
              try simp only at hv
              subst hv
              clear hm3 hp3 hat3
              by_cases hk1 : k < n1
              · have hk1i : (k : Int) < (n1 : Int) := by omega
                have hk1' : k < ps1.length := by rw [← HN1.out]; exact hk1
                rw [List.getElem?_append_left (by rw [List.length_map]; exact hk1'), List.getElem?_map, List.getElem?_eq_getElem hk1'] at hmap
                obtain ⟨p1, hp1⟩ : ∃ p, p = ps1[k]'hk1' := ⟨_, rfl⟩
                rw [← hp1] at hmap
                obtain ⟨T', V'⟩ := p1
                simp only [Option.map_some, Option.some.injEq] at hmap
                subst hmap
                have hcs1 := fun j hj => (HA5.out.below HW.out).cells k hk1' j hj
                rw [← hp1] at hcs1
                have hm1 : (T, V') ∈ ps1 := by rw [hp1]; exact List.getElem_mem hk1'
                have hat1 := (HA5.out.2 (T, V') hm1).below HW.out
                obtain ⟨vb, vd, hv, hatb⟩ := own_attrs hat1
                try simp only at hv
                subst hv
                clear hm1 hp1 hat1
                obtain ⟨K1, nm, at1, sf, dt⟩ := T
                have e0 : wr.cell? ⟨g3, k * 5, none⟩ = some (.int .u8 (K1 : Int)) := hcs 0 (by decide)
                have e1 : wr.cell? ⟨g3, k * 5 + 1, none⟩ = some (.string (strOf nm)) := hcs 1 (by decide)
                have e2 : wr.cell? ⟨g3, k * 5 + 2, none⟩ = some (.slice va at1.length vc) := hcs 2 (by decide)
                have e3 : wr.cell? ⟨g3, k * 5 + 3, none⟩ = some (.bool sf) := hcs 3 (by decide)
                have e4 : wr.cell? ⟨g3, k * 5 + 4, none⟩ = some (.string (strOf dt)) := hcs 4 (by decide)
                have f0 : wr.cell? ⟨g, k * 5, none⟩ = some (.int .u8 (K1 : Int)) := hcs1 0 (by decide)
                have f1 : wr.cell? ⟨g, k * 5 + 1, none⟩ = some (.string (strOf nm)) := hcs1 1 (by decide)
                have f2 : wr.cell? ⟨g, k * 5 + 2, none⟩ = some (.slice vb at1.length vd) := hcs1 2 (by decide)
                have f3 : wr.cell? ⟨g, k * 5 + 3, none⟩ = some (.bool sf) := hcs1 3 (by decide)
                have f4 : wr.cell? ⟨g, k * 5 + 4, none⟩ = some (.string (strOf dt)) := hcs1 4 (by decide)
                have HSC := hid_mk (fun w' (hb : Below wr.heap.size wr w') => HSA.out va vb vc vd at1 w' (hat.below hb) (hatb.below hb) (by have := hfew; simp only at this; omega))
                obtain ⟨ln, hln⟩ : ∃ ln, ln = at1.length := ⟨_, rfl⟩
                rw [← hln] at HSC e2 f2
                obtain ⟨z1, hz1⟩ : ∃ z, z = strOf nm := ⟨_, rfl⟩
                obtain ⟨z2, hz2⟩ : ∃ z, z = strOf dt := ⟨_, rfl⟩
                rw [← hz1] at e1 f1
                rw [← hz2] at e4 f4
                clear hcs hcs1 hat hatb hfew hln hz1 hz2
                have y1 : (z1.toList == z1.toList) = true := beq_self_eq_true _
                have y2 : (z2.toList == z2.toList) = true := beq_self_eq_true _
                have hsz : ∀ (w : World) (o : Obj), (w.alloc o).heap.size = w.heap.size + 1 := fun w o => Array.size_push ..
                have hgl : g < wr.heap.size := World.block_lt_of_cell? wr _ f0
                have two : ∀ (j : Nat) (o1 o2 : Obj), ((wr.alloc o1).alloc o2).cell? ⟨g, j, none⟩ = wr.cell? ⟨g, j, none⟩ := fun j o1 o2 => by
                  rw [World.cell?_alloc_lt _ _ _ (by rw [hsz]; exact Nat.lt_succ_of_lt hgl), World.cell?_alloc_lt _ _ _ hgl]
                have g0 := fun o1 o2 => (two (k * 5) o1 o2).trans f0
                have g1 := fun o1 o2 => (two (k * 5 + 1) o1 o2).trans f1
                have g21 := fun o1 o2 => (two (k * 5 + 2) o1 o2).trans f2
                have g4 := fun o1 o2 => (two (k * 5 + 3) o1 o2).trans f3
                have g5 := fun o1 o2 => (two (k * 5 + 4) o1 o2).trans f4
                obtain ⟨X, hX⟩ : ∃ X, X = Obj.cells #[.int .u8 (K1 : Int), .string z1, .slice va ln vc, .bool sf, .string z2] 33 := ⟨_, rfl⟩
                have xx : ∀ (j : Nat) (o2 : Obj), ((wr.alloc X).alloc o2).cell? ⟨wr.heap.size, j, none⟩ = #[.int .u8 (K1 : Int), .string z1, .slice va ln vc, .bool sf, .string z2][j]? := fun j o2 => by
                  rw [World.cell?_alloc_lt _ _ _ (by rw [hsz]; exact Nat.lt_succ_self _), hX]
                  exact (Blk.new wr _).cell j
                have yy : ∀ (j : Nat), ((wr.alloc X).alloc (.cells #[.int .u8 (K1 : Int), .string z1, .slice vb ln vd, .bool sf, .string z2] 33)).cell? ⟨wr.heap.size + 1, j, none⟩ = #[.int .u8 (K1 : Int), .string z1, .slice vb ln vd, .bool sf, .string z2][j]? := fun j => by
                  have := (Blk.new (wr.alloc X) (.cells #[.int .u8 (K1 : Int), .string z1, .slice vb ln vd, .bool sf, .string z2] 33)).cell j
                  rw [hsz] at this
                  exact this
                rw [hX] at xx yy
                have x0 := xx 0
                have x1 := xx 1
                have x2 := xx 2
                have x3 := xx 3
                have x4 := xx 4
                have y10 := yy 0
                have y11 := yy 1
                have y12 := yy 2
                have y13 := yy 3
                have y14 := yy 4
                have HSZ := hid_mk hsz
                clear two xx yy hX hsz
                go_wp2_with fail
                refine (HSC.out _ (((Below.refl _ _).alloc (Nat.le_refl _) _).alloc (by rw [HSZ.out]; exact Nat.le_succ _) _)).mono ?_
                rintro e w6 ⟨rfl, hb6⟩
                have H6 := hid_mk (HW.out.trans (((((Below.refl _ _).alloc (Nat.le_refl _) _).alloc (by rw [HSZ.out]; exact Nat.le_succ _) _).trans (hb6.mono (by rw [HSZ.out, HSZ.out]; omega))).mono HW.out.size))
                clear hb6 g0 g1 g21 g4 g5 x0 x1 x2 x3 x4 y10 y11 y12 y13 y14
                go_wp2_with fail
                go_roundw
                case rel => exact ⟨k + 1, by omega, by go_num, H6⟩
                case measure => simp [intOf]; omega
              · have hk1i : ¬ (k : Int) < (n1 : Int) := by omega
                have hk2' : k - n1 < ps2.length := by rw [← HN2.out]; omega
                have c1 : (n1 : Int) ≤ (k : Int) := by omega
                have c1n : n1 ≤ k := by omega
                have c2 : (k : Int) - (n1 : Int) < (n2 : Int) := by omega
                have hsub : IntKind.i64.wrap ((k : Int) - (n1 : Int)) = (k : Int) - (n1 : Int) := IntWalk.i64_in _ (by omega)
                have htn : ((k : Int) - (n1 : Int)).toNat = k - n1 := by omega
                rw [List.getElem?_append_right (by rw [List.length_map, ← HN1.out]; exact c1n), List.length_map, ← HN1.out, List.getElem?_map, List.getElem?_eq_getElem hk2'] at hmap
                obtain ⟨p1, hp1⟩ : ∃ p, p = ps2[k - n1]'hk2' := ⟨_, rfl⟩
                rw [← hp1] at hmap
                obtain ⟨T', V'⟩ := p1
                simp only [Option.map_some, Option.some.injEq] at hmap
                subst hmap
                have hcs1 := fun j hj => (HB5.out.below HW.out).cells (k - n1) hk2' j hj
                rw [← hp1] at hcs1
                have hm1 : (T, V') ∈ ps2 := by rw [hp1]; exact List.getElem_mem hk2'
                have hat1 := (HB5.out.2 (T, V') hm1).below HW.out
                obtain ⟨vb, vd, hv, hatb⟩ := own_attrs hat1
                try simp only at hv
                subst hv
                clear hm1 hp1 hat1
                obtain ⟨K1, nm, at1, sf, dt⟩ := T
                have e0 : wr.cell? ⟨g3, k * 5, none⟩ = some (.int .u8 (K1 : Int)) := hcs 0 (by decide)
                have e1 : wr.cell? ⟨g3, k * 5 + 1, none⟩ = some (.string (strOf nm)) := hcs 1 (by decide)
                have e2 : wr.cell? ⟨g3, k * 5 + 2, none⟩ = some (.slice va at1.length vc) := hcs 2 (by decide)
                have e3 : wr.cell? ⟨g3, k * 5 + 3, none⟩ = some (.bool sf) := hcs 3 (by decide)
                have e4 : wr.cell? ⟨g3, k * 5 + 4, none⟩ = some (.string (strOf dt)) := hcs 4 (by decide)
                have f0 : wr.cell? ⟨g2, (k - n1) * 5, none⟩ = some (.int .u8 (K1 : Int)) := hcs1 0 (by decide)
                have f1 : wr.cell? ⟨g2, (k - n1) * 5 + 1, none⟩ = some (.string (strOf nm)) := hcs1 1 (by decide)
                have f2 : wr.cell? ⟨g2, (k - n1) * 5 + 2, none⟩ = some (.slice vb at1.length vd) := hcs1 2 (by decide)
                have f3 : wr.cell? ⟨g2, (k - n1) * 5 + 3, none⟩ = some (.bool sf) := hcs1 3 (by decide)
                have f4 : wr.cell? ⟨g2, (k - n1) * 5 + 4, none⟩ = some (.string (strOf dt)) := hcs1 4 (by decide)
                have HSC := hid_mk (fun w' (hb : Below wr.heap.size wr w') => HSA.out va vb vc vd at1 w' (hat.below hb) (hatb.below hb) (by have := hfew; simp only at this; omega))
                obtain ⟨ln, hln⟩ : ∃ ln, ln = at1.length := ⟨_, rfl⟩
                rw [← hln] at HSC e2 f2
                obtain ⟨z1, hz1⟩ : ∃ z, z = strOf nm := ⟨_, rfl⟩
                obtain ⟨z2, hz2⟩ : ∃ z, z = strOf dt := ⟨_, rfl⟩
                rw [← hz1] at e1 f1
                rw [← hz2] at e4 f4
                clear hcs hcs1 hat hatb hfew hln hz1 hz2
                have y1 : (z1.toList == z1.toList) = true := beq_self_eq_true _
                have y2 : (z2.toList == z2.toList) = true := beq_self_eq_true _
                have hsz : ∀ (w : World) (o : Obj), (w.alloc o).heap.size = w.heap.size + 1 := fun w o => Array.size_push ..
                have hgl : g2 < wr.heap.size := World.block_lt_of_cell? wr _ f0
                have two : ∀ (j : Nat) (o1 o2 : Obj), ((wr.alloc o1).alloc o2).cell? ⟨g2, j, none⟩ = wr.cell? ⟨g2, j, none⟩ := fun j o1 o2 => by
                  rw [World.cell?_alloc_lt _ _ _ (by rw [hsz]; exact Nat.lt_succ_of_lt hgl), World.cell?_alloc_lt _ _ _ hgl]
                have g0 := fun o1 o2 => (two ((k - n1) * 5) o1 o2).trans f0
                have g1 := fun o1 o2 => (two ((k - n1) * 5 + 1) o1 o2).trans f1
                have g21 := fun o1 o2 => (two ((k - n1) * 5 + 2) o1 o2).trans f2
                have g4 := fun o1 o2 => (two ((k - n1) * 5 + 3) o1 o2).trans f3
                have g5 := fun o1 o2 => (two ((k - n1) * 5 + 4) o1 o2).trans f4
                obtain ⟨X, hX⟩ : ∃ X, X = Obj.cells #[.int .u8 (K1 : Int), .string z1, .slice va ln vc, .bool sf, .string z2] 33 := ⟨_, rfl⟩
                have xx : ∀ (j : Nat) (o2 : Obj), ((wr.alloc X).alloc o2).cell? ⟨wr.heap.size, j, none⟩ = #[.int .u8 (K1 : Int), .string z1, .slice va ln vc, .bool sf, .string z2][j]? := fun j o2 => by
                  rw [World.cell?_alloc_lt _ _ _ (by rw [hsz]; exact Nat.lt_succ_self _), hX]
                  exact (Blk.new wr _).cell j
                have yy : ∀ (j : Nat), ((wr.alloc X).alloc (.cells #[.int .u8 (K1 : Int), .string z1, .slice vb ln vd, .bool sf, .string z2] 33)).cell? ⟨wr.heap.size + 1, j, none⟩ = #[.int .u8 (K1 : Int), .string z1, .slice vb ln vd, .bool sf, .string z2][j]? := fun j => by
                  have := (Blk.new (wr.alloc X) (.cells #[.int .u8 (K1 : Int), .string z1, .slice vb ln vd, .bool sf, .string z2] 33)).cell j
                  rw [hsz] at this
                  exact this
                rw [hX] at xx yy
                have x0 := xx 0
                have x1 := xx 1
                have x2 := xx 2
                have x3 := xx 3
                have x4 := xx 4
                have y10 := yy 0
                have y11 := yy 1
                have y12 := yy 2
                have y13 := yy 3
                have y14 := yy 4
                have HSZ := hid_mk hsz
                clear two xx yy hX hsz
                go_wp2_with fail
                refine (HSC.out _ (((Below.refl _ _).alloc (Nat.le_refl _) _).alloc (by rw [HSZ.out]; exact Nat.le_succ _) _)).mono ?_
                rintro e w6 ⟨rfl, hb6⟩
                have H6 := hid_mk (HW.out.trans (((((Below.refl _ _).alloc (Nat.le_refl _) _).alloc (by rw [HSZ.out]; exact Nat.le_succ _) _).trans (hb6.mono (by rw [HSZ.out, HSZ.out]; omega))).mono HW.out.size))
                clear hb6 g0 g1 g21 g4 g5 x0 x1 x2 x3 x4 y10 y11 y12 y13 y14
                go_wp2_with fail
                go_roundw
                case rel => exact ⟨k + 1, by omega, by go_num, H6⟩
                case measure => simp [intOf]; omega
            · have hlti : ¬ (k : Int) < (n3 : Int) := by omega
              go_wp2_with fail
              refine (works_any _ (HN5.out.2.below HW.out)).mono ?_
              rintro e w6 ⟨rfl, hn6⟩
              have H6 := hid_mk (HN5.out.trans ((Next.of HN5.out.2 HW.out).trans hn6))
              clear hn6
              go_wp2
              go_ret
              exact ⟨rfl, H6.out⟩
      · have hE3' : E3 = E2 := by rw [hE3, HTC.out, if_neg hF0]
        have hQ3' : Q3 = P2 + s.size := by rw [hQ3, HTC.out, if_neg hF0]
        clear hE3 hQ3
        subst hE3'
        have q1 : ((E3 : Int) == 0) = false := beq_false_of_ne (by omega)
        have q2 : (E3 == 0) = false := beq_false_of_ne hF0
        have q3 : ((E3 : Int) == (E3 : Int)) = true := beq_self_eq_true _
        have r4 : IntKind.i64.wrap ((P2 : Int) + (s.size : Int)) = (Q3 : Int) := by rw [hQ3', Int.natCast_add]; exact IntWalk.i64_in _ (by omega)
        clear hQ3'
        go_wp2_with fail
        refine (works_any _ HN5.out.2).mono ?_
        rintro e w6 ⟨rfl, hn6⟩
        have H6 := hid_mk (HN5.out.trans hn6)
        clear hn6
        go_wp2
        go_ret
        exact ⟨rfl, H6.out⟩
end Go.Proofs.YtakakaenlfilmaaGreatDoor
