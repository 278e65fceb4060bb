/-
  The law of layer 5 about texts cut by a comment: it returns true for every two texts. Condition: the world holds what Tab says.
-/
import Derived.Test.YtfjhljhgmbhklaaGreatDoorTrText
import Derived.Test.YtfjhljhgmbhklaaGreatDoorTrWell
namespace Go.Proofs.YtfjhljhgmbhklaaGreatDoor
open Go.RowKit
theorem wel0_well {l : List UInt8} (h : U.wel0 l = true) : U.wellL l = true ∧ ∀ c ∈ l, c ≠ 0 := by
  unfold U.wel0 at h
  rw [Bool.and_eq_true] at h
  refine ⟨h.1, fun c hc e => ?_⟩
  have := List.all_eq_true.1 (show (l.all fun c => c != 0) = true from h.2) c hc
  rw [e] at this
  exact absurd this (by decide)
theorem parse_cut {a b : List UInt8} (hs : ∀ c ∈ a ++ b, c ≠ 60 ∧ c ≠ 38 ∧ c ≠ 13) (ha : U.wel0 a = true) (hb : U.wel0 b = true) (hne : a ++ b ≠ []) (hl : a.length + b.length ≤ 60000) :
    parseL (a ++ (comM ++ b)) = (0, 0, [⟨0, [], [], [], -1, [1]⟩, ⟨2, [], [], a ++ b, 0, []⟩]) := by
  obtain ⟨wa, za⟩ := wel0_well ha
  obtain ⟨wb, zb⟩ := wel0_well hb
  have hw : U.wellL (a ++ (comM ++ b)) = true := U.well_app wa (U.well_app (U.well_ascii _ (by decide)) wb)
  have h13 : ∀ c ∈ a ++ (comM ++ b), c ≠ 13 := by
    intro c hc
    rw [List.mem_append, List.mem_append] at hc
    rcases hc with hc | hc | hc
    · exact (hs c (List.mem_append_left _ hc)).2.2
    · revert hc
      revert c
      decide
    · exact (hs c (List.mem_append_right _ hc)).2.2
  have ht := toks_cut (a := a) (b := b) (fun c hc => (hs c hc).1) (fun c hc => (hs c hc).2.1) (fun c hc => by rw [List.mem_append] at hc; rcases hc with hc | hc; exact za c hc; exact zb c hc) hl
  unfold parseL
  rw [if_neg (by rw [List.length_append, List.length_append]; show ¬ 65536 < a.length + (8 + b.length); omega), U.dec_well hw h13, ht, if_pos rfl, build_cut hne]
theorem all_take {P : UInt8 → Prop} {l : List UInt8} {k : Nat} (hk : k < l.length) (h : ∀ c ∈ l.take k, P c) (hc : P (l.getD k 0)) : ∀ c ∈ l.take (k + 1), P c := by
  intro c h2
  rw [List.take_add_one, List.mem_append] at h2
  rcases h2 with h2 | h2
  · exact h c h2
  · rw [List.getElem?_eq_getElem hk] at h2
    simp at h2
    rw [List.getD_eq_getElem?_getD, List.getElem?_eq_getElem hk] at hc
    rw [h2]
    exact hc
set_option maxHeartbeats 8000000 in
set_option maxRecDepth 100000 in
theorem treeTexts_w (a b : ByteArray) (w : World) (ha : a.size ≤ 140737488351232) (hb : b.size ≤ 140737488351232) (hT : Tab w) :
    Calls Tryz.prog 9 #[.string a, .string b] w fun e w' => e = .returned (.bool true) ∧ Next w w' := by
  have HT := hid_mk hT
  have hwo := hid_mk (fun w hT => works_any w hT)
  clear hT
  have hw0 := hid_mk (hwo.out w HT.out)
  have hsum : ¬ 9223372036854775807 < a.size + b.size := by omega
  obtain ⟨X, hX⟩ : ∃ X, X = a ++ b := ⟨_, rfl⟩
  have HX := hid_mk hX.symm
  have hXs : sl X = sl a ++ sl b := by rw [hX, sl_append]
  have hXz : X.size = a.size + b.size := by rw [hX, ByteArray.size_append]
  have HXS := hid_mk hXs
  have HXZ := hid_mk hXz
  clear hX hXs hXz
  by_cases h1 : 1000 < a.size
  · have hb1 : decide (1000 < a.size) = true := decide_eq_true h1
    have hb2 : decide ((1000 : Int) < (a.size : Int)) = true := decide_eq_true (by omega)
    clear h1
    go_enter Tryz.func9, Tryz.ntmps9
    go_wp2_with fail
    (with_reducible refine hw0.out.mono ?_)
    rintro e w1 ⟨rfl, hn1⟩
    have H1 := hid_mk hn1
    clear hn1
    go_wp2_with fail
    go_ret
    exact ⟨rfl, H1.out⟩
  have ha1 : decide (1000 < a.size) = false := decide_eq_false h1
  have ha2 : decide ((1000 : Int) < (a.size : Int)) = false := decide_eq_false (by omega)
  have ha3 : a.size ≤ 1000 := by omega
  clear h1
  by_cases h1 : 1000 < b.size
  · have hb1 : decide (1000 < b.size) = true := decide_eq_true h1
    have hb2 : decide ((1000 : Int) < (b.size : Int)) = true := decide_eq_true (by omega)
    clear h1
    go_enter Tryz.func9, Tryz.ntmps9
    go_wp2_with fail
    (with_reducible refine hw0.out.mono ?_)
    rintro e w1 ⟨rfl, hn1⟩
    have H1 := hid_mk hn1
    clear hn1
    go_wp2_with fail
    go_ret
    exact ⟨rfl, H1.out⟩
  have hb1 : decide (1000 < b.size) = false := decide_eq_false h1
  have hb2 : decide ((1000 : Int) < (b.size : Int)) = false := decide_eq_false (by omega)
  have hb3 : b.size ≤ 1000 := by omega
  clear h1 ha hb
  have hxe0 : (a ++ b).toList.isEmpty = (sl a ++ sl b).isEmpty := by rw [HX.out, Lib.toList_data]; exact congrArg List.isEmpty HXS.out
  have hse0 : (⟨#[]⟩ : ByteArray).toList = [] := by rw [Lib.toList_data]
  by_cases hs0 : sl a ++ sl b = []
  · rw [hs0] at hxe0
    have hxe : (a ++ b).toList.isEmpty = true := hxe0
    clear hs0 hxe0
    go_enter Tryz.func9, Tryz.ntmps9
    go_wp2_with fail
    (with_reducible refine hw0.out.mono ?_)
    rintro e w1 ⟨rfl, hn1⟩
    have H1 := hid_mk hn1
    clear hn1
    go_wp2_with fail
    go_ret
    exact ⟨rfl, H1.out⟩
  have hxe : (a ++ b).toList.isEmpty = false := by
    rw [hxe0]
    cases h : sl a ++ sl b with
    | nil => exact absurd h hs0
    | cons _ _ => rfl
  have HS0 := hid_mk hs0
  clear hs0 hxe0
  have hwa := hid_mk (show ∀ w, Calls Tryz.prog 27 #[.string a] w fun e w' => e = .returned (.bool (U.wel0 (sl a))) ∧ Below w.heap.size w w' from fun w => U.well_any a (by omega) w)
  have hwb := hid_mk (show ∀ w, Calls Tryz.prog 27 #[.string b] w fun e w' => e = .returned (.bool (U.wel0 (sl b))) ∧ Below w.heap.size w w' from fun w => U.well_any b (by omega) w)
  cases hA : U.wel0 (sl a) with
  | false =>
    rw [hA] at hwa
    clear hA
    go_enter Tryz.func9, Tryz.ntmps9
    go_wp2_with fail
    (with_reducible refine (hwa.out _).mono ?_)
    rintro e w1 ⟨rfl, hb1⟩
    have H1 := hid_mk (Next.of HT.out hb1)
    have hw1 := hid_mk (hwo.out w1 H1.out.2)
    clear hb1
    go_wp2_with fail
    (with_reducible refine hw1.out.mono ?_)
    rintro e w2 ⟨rfl, hn2⟩
    have H2 := hid_mk (H1.out.trans hn2)
    clear hn2
    go_wp2_with fail
    go_ret
    exact ⟨rfl, H2.out⟩
  | true =>
  rw [hA] at hwa
  cases hB : U.wel0 (sl b) with
  | false =>
    rw [hB] at hwb
    clear hA hB
    go_enter Tryz.func9, Tryz.ntmps9
    go_wp2_with fail
    (with_reducible refine (hwa.out _).mono ?_)
    rintro e w1 ⟨rfl, hb1⟩
    have H1 := hid_mk (Next.of HT.out hb1)
    clear hb1
    go_wp2_with fail
    (with_reducible refine (hwb.out _).mono ?_)
    rintro e w2 ⟨rfl, hb2⟩
    have H2 := hid_mk (H1.out.trans (Next.of H1.out.2 hb2))
    have hw1 := hid_mk (hwo.out w2 H2.out.2)
    clear hb2
    go_wp2_with fail
    (with_reducible refine hw1.out.mono ?_)
    rintro e w3 ⟨rfl, hn2⟩
    have H3 := hid_mk (H2.out.trans hn2)
    clear hn2
    go_wp2_with fail
    go_ret
    exact ⟨rfl, H3.out⟩
  | true =>
  rw [hB] at hwb
  have HAB := hid_mk (And.intro hA hB)
  clear hA hB
  have hYl : a ++ (⟨#[60, 33, 45, 45, 120, 45, 45, 62]⟩ : ByteArray) ++ b = strOf (sl a ++ (comM ++ sl b)) := by
    rw [← strOf_sl (a ++ (⟨#[60, 33, 45, 45, 120, 45, 45, 62]⟩ : ByteArray) ++ b), sl_append, sl_append, List.append_assoc]
    rfl
  have hln : (sl a ++ (comM ++ sl b)).length = a.size + (8 + b.size) := by
    rw [List.length_append, List.length_append, len_sl, len_sl]
    rfl
  have hpt := hid_mk (fun w hT => parse_text (sl a ++ (comM ++ sl b)) (by rw [hln]; omega) w hT)
  rw [← hYl, hln] at hpt
  clear hYl hln
  go_enter Tryz.func9, Tryz.ntmps9
  go_wp2_with fail
  (with_reducible refine (hwa.out _).mono ?_)
  rintro e w1 ⟨rfl, hb1⟩
  have H1 := hid_mk (Next.of HT.out hb1)
  clear hb1 hwa
  go_wp2_with fail
  (with_reducible refine (hwb.out _).mono ?_)
  rintro e w2 ⟨rfl, hb2⟩
  have H2 := hid_mk (H1.out.trans (Next.of H1.out.2 hb2))
  clear hb2 hwb H1
  go_wp2_with fail
  rw [HX.out]
  have hXle : X.size ≤ 2000 := by have := HXZ.out; omega
  clear hxe
  go_loop [6] (fun i => ∃ k : Nat, k ≤ X.size ∧ i = .int .i64 k ∧ Hid (∀ c ∈ (sl X).take k, c ≠ 60 ∧ c ≠ 38 ∧ c ≠ 13)) (fun i => X.size - (intOf i).toNat)
  case atStart => exact ⟨0, Nat.zero_le _, rfl, hid_mk (fun c hc => by simp at hc)⟩
  case round =>
    obtain ⟨k, hk, rfl, hm⟩ := hrel
    by_cases hlt : k < X.size
    · have hlti : (k : Int) < (X.size : Int) := by omega
      have hat := hid_mk (all_take (P := fun c => c ≠ 60 ∧ c ≠ 38 ∧ c ≠ 13) (l := sl X) (k := k) (by rw [len_sl]; exact hlt) hm.out)
      rw [getD_sl X k hlt] at hat
      by_cases hc : (X[k]'hlt) ≠ 60 ∧ (X[k]'hlt) ≠ 38 ∧ (X[k]'hlt) ≠ 13
      · have HN := hid_mk (hat.out hc)
        have n1 : (((X[k]'hlt).toNat : Int) == 60) = false := beq_false_of_ne fun h => hc.1 (UInt8.toNat_inj.1 (show (X[k]'hlt).toNat = 60 by omega))
        have n2 : (((X[k]'hlt).toNat : Int) == 38) = false := beq_false_of_ne fun h => hc.2.1 (UInt8.toNat_inj.1 (show (X[k]'hlt).toNat = 38 by omega))
        have n3 : (((X[k]'hlt).toNat : Int) == 13) = false := beq_false_of_ne fun h => hc.2.2 (UInt8.toNat_inj.1 (show (X[k]'hlt).toNat = 13 by omega))
        clear hc
        go_wp2_with fail
        go_round
        case rel => exact ⟨k + 1, by omega, by go_num, HN⟩
        case measure => simp [intOf]; omega
      · have hcc : (X[k]'hlt).toNat = 60 ∨ (X[k]'hlt).toNat = 38 ∨ (X[k]'hlt).toNat = 13 := by
          by_cases e1 : (X[k]'hlt) = 60
          · exact .inl (by rw [e1]; rfl)
          · by_cases e2 : (X[k]'hlt) = 38
            · exact .inr (.inl (by rw [e2]; rfl))
            · by_cases e3 : (X[k]'hlt) = 13
              · exact .inr (.inr (by rw [e3]; rfl))
              · exact absurd ⟨e1, e2, e3⟩ hc
        have hw2 := hid_mk (hwo.out w2 H2.out.2)
        clear hc
        by_cases e1 : (X[k]'hlt).toNat = 60
        · have n1 : (((X[k]'hlt).toNat : Int) == 60) = true := by rw [e1]; rfl
          clear hcc e1
          go_wp2_with fail
          (with_reducible refine hw2.out.mono ?_)
          rintro e w3 ⟨rfl, hn2⟩
          have H3 := hid_mk (H2.out.trans hn2)
          clear hn2
          go_wp2_with fail
          go_ret
          exact ⟨rfl, H3.out⟩
        · have n1 : (((X[k]'hlt).toNat : Int) == 60) = false := beq_false_of_ne (by omega)
          by_cases e2 : (X[k]'hlt).toNat = 38
          · have n2 : (((X[k]'hlt).toNat : Int) == 38) = true := by rw [e2]; rfl
            clear hcc e1 e2
            go_wp2_with fail
            (with_reducible refine hw2.out.mono ?_)
            rintro e w3 ⟨rfl, hn2⟩
            have H3 := hid_mk (H2.out.trans hn2)
            clear hn2
            go_wp2_with fail
            go_ret
            exact ⟨rfl, H3.out⟩
          · have n2 : (((X[k]'hlt).toNat : Int) == 38) = false := beq_false_of_ne (by omega)
            have n3 : (((X[k]'hlt).toNat : Int) == 13) = true := by rw [show (X[k]'hlt).toNat = 13 by omega]; rfl
            clear hcc e1 e2
            go_wp2_with fail
            (with_reducible refine hw2.out.mono ?_)
            rintro e w3 ⟨rfl, hn2⟩
            have H3 := hid_mk (H2.out.trans hn2)
            clear hn2
            go_wp2_with fail
            go_ret
            exact ⟨rfl, H3.out⟩
    · have hlti : ¬ (k : Int) < (X.size : Int) := by omega
      have hall := hm.out
      rw [List.take_of_length_le (by rw [len_sl]; omega), HXS.out] at hall
      have HK := hid_mk (parse_cut hall HAB.out.1 HAB.out.2 HS0.out (by rw [len_sl, len_sl]; omega))
      clear hall hm
      rw [← HXS.out] at HK
      obtain ⟨gc, w3, hcv, hn3, hpa⟩ := hpt.out w2 H2.out.2
      have HN3 := hid_mk (H2.out.trans hn3)
      have HPA := hid_mk hpa
      have hsum2 : ¬ 9223372036854775807 < a.size + 8 := by omega
      have hsum3 : ¬ 9223372036854775807 < a.size + 8 + b.size := by omega
      clear hn3 hpa hpt hw0
      go_wp2_with fail
      (with_reducible refine HPA.out.mono ?_)
      rintro e w4 ⟨v, ns, rfl, hns, htr, hn4⟩
      rw [HK.out] at hns ⊢
      simp only at hns ⊢
      rw [show ((0 : Nat) : Int) = 0 from rfl]
      have HN4 := hid_mk (HN3.out.trans hn4)
      have hlen : ns.length = 2 := by simpa using (congrArg List.length hns).symm
      match ns, hlen, hns, htr with
      | [p0, p1], hl3, hns, htr =>
      clear hl3
      simp only [List.map_cons, List.map_nil, List.cons.injEq, and_true] at hns
      obtain ⟨hz0, hz1⟩ := hns
      obtain ⟨g, cap, cur, hv, hr1, hr2, hr3, hr4, hc⟩ := htr.look (by simp)
      rw [show ([p0, p1] : List NdM).length = 2 from rfl] at hv
      subst hv
      clear hr1 hr2 hr3 hr4
      have d6 : w4.cell? ⟨g, 6, none⟩ = some (.int .u8 2) := by
        have := hc 1 (by simp) 0 (by decide)
        simp only [List.getElem_cons_succ, List.getElem_cons_zero, ndF] at this
        rw [← hz1] at this
        exact this
      have d9 : w4.cell? ⟨g, 9, none⟩ = some (.string X) := by
        have := hc 1 (by simp) 3 (by decide)
        simp only [List.getElem_cons_succ, List.getElem_cons_zero, ndF] at this
        rw [← hz1] at this
        have e : strOf (sl X) = X := strOf_sl X
        rw [← e]
        exact this
      have hw4 := hid_mk (hwo.out w4 HN4.out.2)
      clear hc hz0 hz1 htr hn4 HPA hcv hlen
      go_wp2_with fail
      (with_reducible refine hw4.out.mono ?_)
      rintro e w5 ⟨rfl, hn5⟩
      have HN5 := hid_mk (HN4.out.trans hn5)
      clear hn5
      go_wp2_with fail
      go_ret
      exact ⟨rfl, HN5.out⟩
theorem treeTexts_c (a b : ByteArray) (w : World) {c d : Prop} (_ : c) (_ : d) (ha : a.size ≤ 140737488351232) (hb : b.size ≤ 140737488351232) (hT : Tab w) :
    Calls Tryz.prog 9 #[.string a, .string b] w fun e w' => e = .returned (.bool true) ∧ Next w w' := treeTexts_w a b w ha hb hT
end Go.Proofs.YtfjhljhgmbhklaaGreatDoor
