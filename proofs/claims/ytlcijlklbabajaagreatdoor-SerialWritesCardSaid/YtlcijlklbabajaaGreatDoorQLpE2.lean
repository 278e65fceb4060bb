/-
  The reference's way to the longest name comes to the same as the program's. Plain; no condition.
-/
import Derived.Test.YtlcijlklbabajaaGreatDoorQFiDe
import Derived.Test.YtlcijlklbabajaaGreatDoorQSPbp
import Derived.Test.YtlcijlklbabajaaGreatDoorQLpDD
import Derived.Test.YtlcijlklbabajaaGreatDoorQBParse
namespace Go.Proofs.YtlcijlklbabajaaGreatDoor
abbrev NameE := List UInt8 × Nat × Bool
/-- How many bytes the reference by a name has with which & and m begin; 0: none. -/
def candM (m : List UInt8) (e : NameE) : Nat := if pfx e.1 m then (if atL m e.1.length = 59 then e.1.length + 2 else if e.2.2 then e.1.length + 1 else 0) else 0
def rejM (m : List UInt8) (attr : Bool) (e : NameE) : Prop := candM m e = e.1.length + 1 ∧ attr = true ∧ goesB (atL m e.1.length) = true
theorem pfx_at {p m : List UInt8} (h : pfx p m = true) {i : Nat} (hi : i < p.length) : atL m i = atL p i := by
 unfold pfx at h
 have h := of_decide_eq_true h
 rw [← h]
 unfold atL
 rw [List.getElem?_take, if_pos hi]
theorem pfx_len {p m : List UInt8} (h : pfx p m = true) : p.length ≤ m.length := by
 unfold pfx at h
 have h := congrArg List.length (of_decide_eq_true h)
 rw [List.length_take] at h
 omega
theorem pfx_same {p q m : List UInt8} (h : pfx p m = true) (k : pfx q m = true) (hl : p.length = q.length) : p = q := by
 unfold pfx at h k
 rw [← of_decide_eq_true h, hl, of_decide_eq_true k]
theorem at_name {e : NameE} (h : e ∈ nameTab) {i : Nat} (hi : i < e.1.length) : goesB (atL e.1 i) = true ∧ atL e.1 i ≠ 59 := by
 have hc := (tab_facts e h).2.2.2 (e.1[i]) (List.getElem_mem hi)
 have e1 : atL e.1 i = (e.1[i]).toNat := by unfold atL; rw [List.getElem?_eq_getElem hi]; rfl
 rw [e1]
 refine ⟨hc.1, fun h59 => ?_⟩
 have := hc.1
 rw [h59] at this
 exact absurd this (by decide)
theorem cand_pfx {m : List UInt8} {e : NameE} (h : 0 < candM m e) : pfx e.1 m = true := by
 unfold candM at h
 split at h
 ·assumption
 ·omega
theorem pfx_take {p m : List UInt8} (h : pfx p m = true) : m.take p.length = p := of_decide_eq_true h
/-- What the program's way tells, for names of at most k bytes. -/
theorem nameF_facts (m : List UInt8) (attr : Bool) : ∀ k : Nat,
 (∀ p, nameF (38 :: m) attr k = some p → ∃ e ∈ nameTab, e.1.length ≤ k ∧ 0 < candM m e ∧ candM m e = p.2 ∧ e.2.1 = p.1 ∧ ¬ rejM m attr e ∧ ∀ e' ∈ nameTab, e'.1.length ≤ k → e.1.length < e'.1.length → candM m e' = 0 ∨ rejM m attr e') ∧
 (nameF (38 :: m) attr k = none → ∀ e ∈ nameTab, e.1.length ≤ k → candM m e = 0 ∨ rejM m attr e)
 | 0 => ⟨fun p h => (by cases h), fun _ e he hl => by have := (tab_facts e he).1; omega⟩
 | k + 1 => by
   have ih := nameF_facts m attr k
   -- the step from k on: names of k + 1 bytes are none or set aside
   have step : nameF (38 :: m) attr (k + 1) = nameF (38 :: m) attr k → (∀ e ∈ nameTab, e.1.length = k + 1 → candM m e = 0 ∨ rejM m attr e) →
    (∀ p, nameF (38 :: m) attr (k + 1) = some p → ∃ e ∈ nameTab, e.1.length ≤ k + 1 ∧ 0 < candM m e ∧ candM m e = p.2 ∧ e.2.1 = p.1 ∧ ¬ rejM m attr e ∧ ∀ e' ∈ nameTab, e'.1.length ≤ k + 1 → e.1.length < e'.1.length → candM m e' = 0 ∨ rejM m attr e') ∧
    (nameF (38 :: m) attr (k + 1) = none → ∀ e ∈ nameTab, e.1.length ≤ k + 1 → candM m e = 0 ∨ rejM m attr e) := by
    intro hs hk
    rw [hs]
    refine ⟨fun p hp => ?_, fun hn e he hl => ?_⟩
    ·obtain ⟨e, he, h1, h2, h3, h4, h5, h6⟩ := ih.1 p hp
     refine ⟨e, he, by omega, h2, h3, h4, h5, fun e' he' hl hlt => ?_⟩
     by_cases hc : e'.1.length = k + 1
     ·exact hk e' he' hc
     ·exact h6 e' he' (by omega) hlt
    ·by_cases hc : e.1.length = k + 1
     ·exact hk e he hc
     ·exact ih.2 hn e he (by omega)
   have hun : nameF (38 :: m) attr (k + 1) = if k + 2 ≤ (38 :: m).length then
    (match lookT (m.take (k + 1)) with
    | some e => if atL (38 :: m) (k + 2) = 59 then some (e.2.1, k + 3) else if e.2.2 && !(attr && goesB (atL (38 :: m) (k + 2))) then some (e.2.1, k + 2) else nameF (38 :: m) attr k
    | none => nameF (38 :: m) attr k) else nameF (38 :: m) attr k := rfl
   have hat : atL (38 :: m) (k + 2) = atL m (k + 1) := rfl
   rw [hat] at hun
   by_cases hlen : k + 2 ≤ (38 :: m).length
   ·rw [if_pos hlen] at hun
    have hml : k + 1 ≤ m.length := by simpa using hlen
    cases hl : lookT (m.take (k + 1)) with
    | none =>
      rw [hl] at hun
      refine step hun (fun e he hel => .inl ?_)
      rcases Nat.eq_zero_or_pos (candM m e) with h0 | h0
      ·exact h0
      ·have := pfx_take (cand_pfx h0)
       rw [hel] at this
       rw [this, lookT_mem he] at hl
       cases hl
    | some e =>
      obtain ⟨hem, het⟩ := lookT_some hl
      have hel : e.1.length = k + 1 := by rw [het, List.length_take]; omega
      have hpe : pfx e.1 m = true := by
       unfold pfx
       rw [hel]
       exact decide_eq_true het.symm
      have huniq : ∀ e' ∈ nameTab, e'.1.length = k + 1 → 0 < candM m e' → e' = e := fun e' he' hl' h0 => by
       refine tab_inj he' hem ?_
       have := pfx_take (cand_pfx h0)
       rw [hl'] at this
       rw [← this, het]
      rw [hl] at hun
      simp only at hun
      by_cases h59 : atL m (k + 1) = 59
      ·rw [if_pos h59] at hun
       have hc : candM m e = k + 3 := by
        unfold candM
        rw [if_pos hpe, hel, if_pos h59]
       refine ⟨fun p hp => ?_, fun hn => by rw [hun] at hn; cases hn⟩
       rw [hun] at hp
       injection hp with hp
       subst hp
       exact ⟨e, hem, by omega, by omega, hc, rfl, fun hr => by have := hr.1; omega, fun e' _ h1 h2 => by omega⟩
      ·rw [if_neg h59] at hun
       by_cases ha : e.2.2 = true
       ·have hc : candM m e = k + 2 := by
         unfold candM
         rw [if_pos hpe, hel, if_neg h59, if_pos ha]
        by_cases hr : attr = true ∧ goesB (atL m (k + 1)) = true
        ·have hcond : (e.2.2 && !(attr && goesB (atL m (k + 1)))) = false := by
          rw [ha, hr.1, hr.2]
          rfl
         rw [hcond] at hun
         simp only [Bool.false_eq_true, if_false] at hun
         refine step hun (fun e' he' hl' => ?_)
         rcases Nat.eq_zero_or_pos (candM m e') with h0 | h0
         ·exact .inl h0
         ·have := huniq e' he' hl' h0
          subst this
          exact .inr ⟨by rw [hc, hel], hr.1, by rw [hel]; exact hr.2⟩
        ·have hb : (attr && goesB (atL m (k + 1))) = false := by
          rw [Bool.eq_false_iff]
          intro h
          rw [Bool.and_eq_true] at h
          exact hr h
         rw [ha, hb] at hun
         simp only [Bool.not_false, Bool.and_self, if_true] at hun
         refine ⟨fun p hp => ?_, fun hn => by rw [hun] at hn; cases hn⟩
         rw [hun] at hp
         injection hp with hp
         subst hp
         exact ⟨e, hem, by omega, by omega, hc, rfl, fun hh => hr ⟨hh.2.1, by have := hh.2.2; rwa [hel] at this⟩, fun e' _ h1 h2 => by omega⟩
       ·have hc : candM m e = 0 := by
         unfold candM
         rw [if_pos hpe, hel, if_neg h59, if_neg ha]
        have ha' : e.2.2 = false := by simpa using ha
        rw [ha'] at hun
        simp only [Bool.false_and, Bool.false_eq_true, if_false] at hun
        refine step hun (fun e' he' hl' => ?_)
        rcases Nat.eq_zero_or_pos (candM m e') with h0 | h0
        ·exact .inl h0
        ·have := huniq e' he' hl' h0
         subst this
         exact .inl hc
   ·rw [if_neg hlen] at hun
    refine step hun (fun e he hel => .inl ?_)
    rcases Nat.eq_zero_or_pos (candM m e) with h0 | h0
    ·exact h0
    ·have := pfx_len (cand_pfx h0)
     simp only [List.length_cons] at hlen
     omega
end Go.Proofs.YtlcijlklbabajaaGreatDoor
namespace Go.Proofs.YtlcijlklbabajaaGreatDoor
/-- A name with its ; is its character. -/
theorem findL_name (e : NameE) (he : e ∈ nameTab) (t : List UInt8) (attr : Bool) : findL (38 :: (e.1 ++ 59 :: t)) attr = some (e.2.1, e.1.length + 2) := by
 have hl1 := (tab_facts e he).1
 have hpe : pfx e.1 (e.1 ++ 59 :: t) = true := by
  unfold pfx
  rw [List.take_append_of_le_length (Nat.le_refl _), List.take_length]
  exact decide_eq_true rfl
 have h59 : atL (e.1 ++ 59 :: t) e.1.length = 59 := by
  unfold atL
  rw [List.getElem?_append_right (Nat.le_refl _), Nat.sub_self]
  rfl
 have hc : candM (e.1 ++ 59 :: t) e = e.1.length + 2 := by
  unfold candM
  rw [if_pos hpe, if_pos h59]
 have h35 : ¬ atL (38 :: (e.1 ++ 59 :: t)) 1 = 35 := by
  rw [show atL (38 :: (e.1 ++ 59 :: t)) 1 = atL (e.1 ++ 59 :: t) 0 from rfl, pfx_at hpe (by omega)]
  intro h
  have := (at_name he (i := 0) (by omega)).1
  rw [h] at this
  exact absurd this (by decide)
 unfold findL
 rw [if_pos (by rfl), if_neg h35]
 have hf := nameF_facts (e.1 ++ 59 :: t) attr 6
 have h6 := (tab_facts e he).2.1
 cases hn : nameF (38 :: (e.1 ++ 59 :: t)) attr 6 with
 | none =>
   rcases hf.2 hn e he h6 with h | h
   ·omega
   ·have := h.1
    omega
 | some p =>
   obtain ⟨e1, he1, _, hpos, hc1, hr1, _, hbig⟩ := hf.1 p hn
   have hee : e1 = e := by
    rcases Nat.lt_trichotomy e1.1.length e.1.length with hlt | heq | hgt
    ·exfalso
     rcases hbig e he h6 hlt with h | h
     ·omega
     ·have := h.1
      omega
    ·exact tab_inj he1 he (pfx_same (cand_pfx hpos) hpe heq)
    ·exfalso
     have := pfx_at (cand_pfx hpos) hgt
     rw [h59] at this
     exact (at_name he1 hgt).2 this.symm
   subst hee
   obtain ⟨p1, p2⟩ := p
   simp only at hc1 hr1
   rw [← hr1, ← hc1, hc]
theorem ref_find {v : Bool} {r : Nat} (h : refL v r ≠ []) (t : List UInt8) (attr : Bool) : findL (refL v r ++ t) attr = some (r, (refL v r).length) := by
 have m1 : (([97, 109, 112], 38, true) : NameE) ∈ nameTab := by decide
 have m2 : (([110, 98, 115, 112], 160, true) : NameE) ∈ nameTab := by decide
 have m3 : (([108, 116], 60, true) : NameE) ∈ nameTab := by decide
 have m4 : (([103, 116], 62, true) : NameE) ∈ nameTab := by decide
 have m5 : (([113, 117, 111, 116], 34, true) : NameE) ∈ nameTab := by decide
 have f1 := findL_name _ m1 t attr
 have f2 := findL_name _ m2 t attr
 have f3 := findL_name _ m3 t attr
 have f4 := findL_name _ m4 t attr
 have f5 := findL_name _ m5 t attr
 have f6 : findL ([38, 35, 49, 51, 59] ++ t) attr = some (13, 5) := rfl
 rcases refL_is h with rfl | rfl | rfl | rfl | rfl | rfl <;> cases v
 all_goals first
  | exact f1
  | exact f2
  | exact f3
  | exact f4
  | exact f5
  | exact f6
  | exact absurd rfl h
theorem dec_ref {v : Bool} {r : Nat} (h : refL v r ≠ []) (t : List UInt8) (attr : Bool) : decL (refL v r ++ t) attr = Lib.encodeRune (r : Int) ++ decL t attr := by
 rw [decL_some (ref_find h t attr)]
 simp only
 rw [List.drop_left]
theorem escB_inv (v attr : Bool) : ∀ (n : Nat) (l : List UInt8), l.length ≤ n → decL (escB v l) attr = l
 | _, [], _ => rfl
 | 0, c :: t, h => by simp at h
 | n + 1, c :: t, h => by
   have ht : t.length ≤ n := by simpa using h
   have skip : ∀ x : List UInt8, c.toNat ≠ 38 → decL (c :: x) attr = c :: decL x attr := fun x hc => decL_skip attr x [c] (fun d hd => by simp at hd; rw [hd]; exact hc)
   by_cases h1 : c.toNat < 128
   ·rw [escB_low t h1]
    by_cases h2 : refL v c.toNat = []
    ·rw [if_pos h2]
     show decL (c :: escB v t) attr = _
     rw [skip _ (fun e => by rw [e] at h2; cases v <;> exact absurd h2 (by decide)), escB_inv v attr n t ht]
    ·rw [if_neg h2, dec_ref h2, escB_inv v attr n t ht]
     have he : Lib.encodeRune ((c.toNat : Nat) : Int) = [c] := by
      unfold Lib.encodeRune
      rw [Lib.encodeRuneZ_one (by omega) (by omega)]
      simp
     rw [he]
     rfl
   ·by_cases h2 : c.toNat = 194 ∧ U.atL t 0 = 160
    ·cases t with
     | nil => exact absurd h2.2 (by decide)
     | cons d t =>
       have h3 : d.toNat = 160 := h2.2
       rw [escB_nb t h2.1 h3, dec_ref (by cases v <;> decide), escB_inv v attr n t (by simp at ht; omega)]
       have e1 : c = 194 := UInt8.toNat_inj.1 h2.1
       have e2 : d = 160 := UInt8.toNat_inj.1 h3
       rw [e1, e2]
       rfl
    ·rw [escB_high t (by omega) h2, skip _ (by omega), escB_inv v attr n t ht]
theorem escL_inv (v attr : Bool) (l : List UInt8) : decL (escL v l) attr = l := by
 rw [esc_eq v _ l (Nat.le_refl _)]
 exact escB_inv v attr _ l (Nat.le_refl _)
end Go.Proofs.YtlcijlklbabajaaGreatDoor
/-
  Documents of one kind, plain: an escaped text as an element's content, and as an attribute's value. No Go in sight; no condition.
-/
namespace Go.Proofs.YtlcijlklbabajaaGreatDoor
theorem ref_byte {v : Bool} {r : Nat} {x : UInt8} (hr : x ∈ refL v r) : x.toNat < 128 ∧ x ≠ 0 := by
 by_cases h0 : refL v r = []
 ·rw [h0] at hr; cases hr
 ·have key : ∀ r ∈ [38, 160, 13, 34, 60, 62], ∀ x ∈ refL v r, x.toNat < 128 ∧ x ≠ 0 := by cases v <;> decide
  refine key r ?_ x hr
  rcases refL_is h0 with rfl | rfl | rfl | rfl | rfl | rfl <;> simp
theorem escB_mem (v : Bool) : ∀ (n : Nat) (l : List UInt8), l.length ≤ n → ∀ c ∈ escB v l, c ∈ l ∨ (c.toNat < 128 ∧ c ≠ 0)
 | _, [], _, c, h => by cases h
 | 0, _ :: _, h, _, _ => by simp at h
 | n + 1, c :: t, h, x, hx => by
   have ht : t.length ≤ n := by simpa using h
   have href : ∀ r : Nat, x ∈ refL v r → x.toNat < 128 ∧ x ≠ 0 := fun r hr => ref_byte hr
   by_cases h1 : c.toNat < 128
   ·rw [escB_low t h1, List.mem_append] at hx
    rcases hx with hx | hx
    ·by_cases h2 : refL v c.toNat = []
     ·rw [if_pos h2, List.mem_singleton] at hx
      exact .inl (hx ▸ List.mem_cons_self ..)
     ·rw [if_neg h2] at hx
      exact .inr (href _ hx)
    ·exact (escB_mem v n t ht x hx).imp (List.mem_cons_of_mem _) id
   ·by_cases h2 : c.toNat = 194 ∧ U.atL t 0 = 160
    ·cases t with
     | nil => exact absurd h2.2 (by decide)
     | cons d t =>
       have h3 : d.toNat = 160 := h2.2
       rw [escB_nb t h2.1 h3, List.mem_append] at hx
       rcases hx with hx | hx
       ·exact .inr (href _ hx)
       ·exact (escB_mem v n t (by simp at ht; omega) x hx).imp (fun m => List.mem_cons_of_mem _ (List.mem_cons_of_mem _ m)) id
    ·rw [escB_high t (by omega) h2, List.mem_cons] at hx
     rcases hx with rfl | hx
     ·exact .inl (List.mem_cons_self ..)
     ·exact (escB_mem v n t ht x hx).imp (List.mem_cons_of_mem _) id
theorem escL_nz {v : Bool} {l : List UInt8} (h : ∀ c ∈ l, c ≠ 0) : ∀ c ∈ escL v l, c ≠ 0 := fun c hc => by
 rw [esc_eq v _ l (Nat.le_refl _)] at hc
 rcases escB_mem v _ l (Nat.le_refl _) c hc with hc | hc
 ·exact h c hc
 ·exact hc.2
theorem escL_well (v : Bool) : ∀ (n : Nat) (l : List UInt8), l.length ≤ n → U.wellL l = true → U.wellL (escL v l) = true
 | _, [], _, _ => rfl
 | 0, _ :: _, h, _ => by simp at h
 | n + 1, c :: t, h, hw => by
   have h0 : 0 < (c :: t).length := Nat.succ_pos _
   obtain ⟨n1, n2, _⟩ := U.cut_facts (c :: t) h0
   have hw0 := hw
   rw [U.wellL_cons _ h0, Bool.and_eq_true] at hw
   have hd2 : (U.decL (c :: t)).2 = (U.cutL (c :: t)).n := by unfold U.decL; rw [if_pos hw.1]
   have ih := escL_well v n ((c :: t).drop (U.cutL (c :: t)).n) (by rw [List.length_drop]; simp only [List.length_cons] at h ⊢; omega) hw.2
   rw [escL_cons v _ h0, hd2]
   refine U.well_app ?_ ih
   split
   ·rename_i hr
    have he := U.cut_enc (c :: t) h0 hw.1
    rw [he]
    have := (U.encL_app [((U.cutL (c :: t)).r : Int)] []).2
    rw [List.append_nil, show encL [((U.cutL (c :: t)).r : Int)] = Lib.encodeRune ((U.cutL (c :: t)).r : Int) by simp [encL]] at this
    rw [this]
    rfl
   ·rename_i hr
    exact U.well_ascii _ fun b hb => (ref_byte hb).1
theorem one_textR {a : List UInt8} (hne : a ≠ []) (h60 : ∀ c ∈ a, c ≠ 60) (m : List UInt8) (hm : m = [] ∨ leavesL m = true) : oneL (a ++ m) = (0, ⟨3, [], [], false, decL a false⟩, m) := by
 cases a with
 | nil => exact absurd rfl hne
 | cons c t =>
   unfold oneL
   have h1 : textN ((c :: t ++ m).drop 1) = t.length := by
    show textN (t ++ m) = t.length
    rcases hm with rfl | hm
    ·rw [List.append_nil]
     exact textN_all t (fun x hx => h60 x (List.mem_cons_of_mem _ hx))
    ·exact textN_pre m hm t (fun x hx => h60 x (List.mem_cons_of_mem _ hx))
   rw [show leavesL (c :: t ++ m) = false from leaves_lt _ (h60 c (List.mem_cons_self ..)), h1]
   simp only [Bool.not_false, if_true]
   have e1 : (c :: t ++ m).take (t.length + 1) = c :: t := by
    rw [List.take_append_of_le_length (by simp)]
    exact List.take_of_length_le (by simp)
   have e2 : (c :: t ++ m).drop (t.length + 1) = m := by
    have := List.drop_left (l₁ := c :: t) (l₂ := m)
    exact this
   rw [e1, e2]
theorem safe_mem {v : Bool} {l : List UInt8} (h : SafeL v l) : ∀ c ∈ l, ¬ badB v c := by
 intro c hc
 obtain ⟨i, hi, rfl⟩ := List.mem_iff_getElem.1 hc
 have := h i
 rw [List.drop_eq_getElem_cons hi] at this
 exact this.1
end Go.Proofs.YtlcijlklbabajaaGreatDoor
