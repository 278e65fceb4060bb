/-
  What is escaped, its references read, is what it was; the law of layer 6 about it: it returns true for every text. Condition: the world holds Go's own tables and the table of replaced characters.
-/
import Derived.Test.YtnooofnlbfhopaaDoorSByte
import Derived.Test.YtnooofnlbfhopaaDoorRMath
import Derived.Test.YtnooofnlbfhopaaDoorSWorks
import Derived.Test.YtnooofnlbfhopaaDoorSPure
import Derived.Test.YtnooofnlbfhopaaDoorSWell
import Derived.Test.YtnooofnlbfhopaaDoorDecC
namespace Go.Proofs.YtnooofnlbfhopaaDoor
/-- A name with its ; is its character. -/
theorem findL_name (e : NameE) (he : e ∈ nameTab) (t : List UInt8) (attr : Bool) : findL (38 :: (e.1 ++ 59 :: t)) attr = some (e.2.1, e.1.length + 2) := by
  have hl1 := (tab_facts e he).1
  have hpe : pfx e.1 (e.1 ++ 59 :: t) = true := by
    unfold pfx
    rw [List.take_append_of_le_length (Nat.le_refl _), List.take_length]
    exact decide_eq_true rfl
  have h59 : atL (e.1 ++ 59 :: t) e.1.length = 59 := by
    unfold atL
    rw [List.getElem?_append_right (Nat.le_refl _), Nat.sub_self]
    rfl
  have hc : candM (e.1 ++ 59 :: t) e = e.1.length + 2 := by
    unfold candM
    rw [if_pos hpe, if_pos h59]
  have h35 : ¬ atL (38 :: (e.1 ++ 59 :: t)) 1 = 35 := by
    rw [show atL (38 :: (e.1 ++ 59 :: t)) 1 = atL (e.1 ++ 59 :: t) 0 from rfl, pfx_at hpe (by omega)]
    intro h
    have := (at_name he (i := 0) (by omega)).1
    rw [h] at this
    exact absurd this (by decide)
  unfold findL
  rw [if_pos (by rfl), if_neg h35]
  have hf := nameF_facts (e.1 ++ 59 :: t) attr 6
  have h6 := (tab_facts e he).2.1
  cases hn : nameF (38 :: (e.1 ++ 59 :: t)) attr 6 with
  | none =>
    rcases hf.2 hn e he h6 with h | h
    · omega
    · have := h.1
      omega
  | some p =>
    obtain ⟨e1, he1, _, hpos, hc1, hr1, _, hbig⟩ := hf.1 p hn
    have hee : e1 = e := by
      rcases Nat.lt_trichotomy e1.1.length e.1.length with hlt | heq | hgt
      · exfalso
        rcases hbig e he h6 hlt with h | h
        · omega
        · have := h.1
          omega
      · exact tab_inj he1 he (pfx_same (cand_pfx hpos) hpe heq)
      · exfalso
        have := pfx_at (cand_pfx hpos) hgt
        rw [h59] at this
        exact (at_name he1 hgt).2 this.symm
    subst hee
    obtain ⟨p1, p2⟩ := p
    simp only at hc1 hr1
    rw [← hr1, ← hc1, hc]
theorem ref_find {v : Bool} {r : Nat} (h : refL v r ≠ []) (t : List UInt8) (attr : Bool) : findL (refL v r ++ t) attr = some (r, (refL v r).length) := by
  have m1 : (([97, 109, 112], 38, true) : NameE) ∈ nameTab := by decide
  have m2 : (([110, 98, 115, 112], 160, true) : NameE) ∈ nameTab := by decide
  have m3 : (([108, 116], 60, true) : NameE) ∈ nameTab := by decide
  have m4 : (([103, 116], 62, true) : NameE) ∈ nameTab := by decide
  have m5 : (([113, 117, 111, 116], 34, true) : NameE) ∈ nameTab := by decide
  have f1 := findL_name _ m1 t attr
  have f2 := findL_name _ m2 t attr
  have f3 := findL_name _ m3 t attr
  have f4 := findL_name _ m4 t attr
  have f5 := findL_name _ m5 t attr
  have f6 : findL ([38, 35, 49, 51, 59] ++ t) attr = some (13, 5) := rfl
  rcases refL_is h with rfl | rfl | rfl | rfl | rfl | rfl <;> cases v
  all_goals first
    | exact f1
    | exact f2
    | exact f3
    | exact f4
    | exact f5
    | exact f6
    | exact absurd rfl h
theorem dec_ref {v : Bool} {r : Nat} (h : refL v r ≠ []) (t : List UInt8) (attr : Bool) : decL (refL v r ++ t) attr = Lib.encodeRune (r : Int) ++ decL t attr := by
  rw [decL_some (ref_find h t attr)]
  simp only
  rw [List.drop_left]
theorem escB_inv (v attr : Bool) : ∀ (n : Nat) (l : List UInt8), l.length ≤ n → decL (escB v l) attr = l
  | _, [], _ => rfl
  | 0, c :: t, h => by simp at h
  | n + 1, c :: t, h => by
    have ht : t.length ≤ n := by simpa using h
    have skip : ∀ x : List UInt8, c.toNat ≠ 38 → decL (c :: x) attr = c :: decL x attr := fun x hc => decL_skip attr x [c] (fun d hd => by simp at hd; rw [hd]; exact hc)
    by_cases h1 : c.toNat < 128
    · rw [escB_low t h1]
      by_cases h2 : refL v c.toNat = []
      · rw [if_pos h2]
        show decL (c :: escB v t) attr = _
        rw [skip _ (fun e => by rw [e] at h2; cases v <;> exact absurd h2 (by decide)), escB_inv v attr n t ht]
      · rw [if_neg h2, dec_ref h2, escB_inv v attr n t ht]
        have he : Lib.encodeRune ((c.toNat : Nat) : Int) = [c] := by
          unfold Lib.encodeRune
          rw [Lib.encodeRuneZ_one (by omega) (by omega)]
          simp
        rw [he]
        rfl
    · by_cases h2 : c.toNat = 194 ∧ U.atL t 0 = 160
      · cases t with
        | nil => exact absurd h2.2 (by decide)
        | cons d t =>
          have h3 : d.toNat = 160 := h2.2
          rw [escB_nb t h2.1 h3, dec_ref (by cases v <;> decide), escB_inv v attr n t (by simp at ht; omega)]
          have e1 : c = 194 := UInt8.toNat_inj.1 h2.1
          have e2 : d = 160 := UInt8.toNat_inj.1 h3
          rw [e1, e2]
          rfl
      · rw [escB_high t (by omega) h2, skip _ (by omega), escB_inv v attr n t ht]
theorem escL_inv (v attr : Bool) (l : List UInt8) : decL (escL v l) attr = l := by
  rw [esc_eq v _ l (Nat.le_refl _)]
  exact escB_inv v attr _ l (Nat.le_refl _)
end Go.Proofs.YtnooofnlbfhopaaDoor
namespace Go.Proofs.YtnooofnlbfhopaaDoor
open Go.RowKit
set_option maxHeartbeats 4000000 in
set_option maxRecDepth 100000 in
theorem serialBack_w (s : ByteArray) (w : World) (hT : TabV w ∧ Tab w) :
    Calls Tryd.prog 4 #[.string s] w fun e w' => e = .returned (.bool true) ∧ Below w.heap.size w w' := by
  have hwo := hid_mk (fun w' (hb : Below w.heap.size w w') => Pg.works_any w' (hT.1.below hb))
  have HT := hid_mk (fun w' (hb : Below w.heap.size w w') => hT.2.below hb)
  clear hT
  by_cases h1 : 3000 < s.size
  · have q1 : decide (3000 < (s.size : Int)) = true := by simp; omega
    have q2 : decide (3000 < s.size) = true := by simp; omega
    go_enter Tryd.func4, Tryd.ntmps4
    have hw4 := hid_mk (hwo.out _ (Below.refl w.heap.size w))
    clear hwo
    go_wp2_with fail
    with_reducible refine hw4.out.mono ?_
    rintro e w9 ⟨rfl, hb9⟩
    have H9 := hid_mk ((Below.refl w.heap.size w).trans (hb9.mono (Below.refl w.heap.size w).size))
    clear hb9
    go_wp2
    go_ret
    exact ⟨rfl, H9.out⟩
  have q1 : decide (3000 < (s.size : Int)) = false := by simp; omega
  have q2 : decide (3000 < s.size) = false := by simp; omega
  have hwa := hid_mk (U.well_any s (by omega) w)
  rw [show U.sl s = sl s from rfl] at hwa
  cases hv : U.wel0 (sl s) with
  | false =>
    rw [hv] at hwa
    clear hv
    go_enter Tryd.func4, Tryd.ntmps4
    go_wp2_with fail
    with_reducible refine hwa.out.mono ?_
    rintro e w1 ⟨rfl, hb1⟩
    have H1 := hid_mk hb1
    clear hb1
    have hw4 := hid_mk (hwo.out _ (H1.out))
    clear hwo
    go_wp2_with fail
    with_reducible refine hw4.out.mono ?_
    rintro e w9 ⟨rfl, hb9⟩
    have H9 := hid_mk ((H1.out).trans (hb9.mono (H1.out).size))
    clear hb9
    go_wp2
    go_ret
    exact ⟨rfl, H9.out⟩
  | true =>
    rw [hv] at hwa
    have hp1 := hid_mk (fun w => escapeText_any s (by omega) w)
    have hp2 := hid_mk (fun w => escapeValue_any s (by omega) w)
    have hd1 := hid_mk (fun w hT => decode_any (strOf (escL false (sl s))) (by have := escL_len false (sl s); rw [len_sl] at this; rw [size_strOf]; omega) false w hT)
    have hd2 := hid_mk (fun w hT => decode_any (strOf (escL true (sl s))) (by have := escL_len true (sl s); rw [len_sl] at this; rw [size_strOf]; omega) true w hT)
    rw [sl_strOf, escL_inv, strOf_sl] at hd1 hd2
    generalize strOf (escL false (sl s)) = A1 at *
    generalize strOf (escL true (sl s)) = A2 at *
    clear hv
    go_enter Tryd.func4, Tryd.ntmps4
    go_wp2_with fail
    with_reducible refine (hwa.out).mono ?_
    rintro e w1 ⟨rfl, hb1⟩
    have H1 := hid_mk (hb1)
    clear hb1
    go_wp2_with fail
    with_reducible refine (hp1.out _).mono ?_
    rintro e w2 ⟨rfl, hb2⟩
    have H2 := hid_mk (H1.out.trans ((hb2).mono H1.out.size))
    clear hb2
    go_wp2_with fail
    with_reducible refine (hd1.out _ (HT.out _ H2.out)).mono ?_
    rintro e w3 ⟨rfl, hb3⟩
    have H3 := hid_mk (H2.out.trans ((hb3.1).mono H2.out.size))
    clear hb3
    go_wp2_with fail
    with_reducible refine (hp2.out _).mono ?_
    rintro e w4 ⟨rfl, hb4⟩
    have H4 := hid_mk (H3.out.trans ((hb4).mono H3.out.size))
    clear hb4
    go_wp2_with fail
    with_reducible refine (hd2.out _ (HT.out _ H4.out)).mono ?_
    rintro e w5 ⟨rfl, hb5⟩
    have H5 := hid_mk (H4.out.trans ((hb5.1).mono H4.out.size))
    clear hb5
    have hw4 := hid_mk (hwo.out _ (H5.out))
    clear hwo
    go_wp2_with fail
    with_reducible refine hw4.out.mono ?_
    rintro e w9 ⟨rfl, hb9⟩
    have H9 := hid_mk ((H5.out).trans (hb9.mono (H5.out).size))
    clear hb9
    go_wp2
    go_ret
    exact ⟨rfl, H9.out⟩
theorem serialBack_c (s : ByteArray) (w : World) {c : Prop} (_ : c) (hT : TabV w ∧ Tab w) :
    Calls Tryd.prog 4 #[.string s] w fun e w' => e = .returned (.bool true) ∧ Below w.heap.size w w' ∧ True :=
  (serialBack_w s w hT).mono fun _ _ h => ⟨h.1, h.2, trivial⟩
end Go.Proofs.YtnooofnlbfhopaaDoor
