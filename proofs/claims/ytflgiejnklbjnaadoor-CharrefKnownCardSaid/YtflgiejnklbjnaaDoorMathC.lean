/-
  What follows from the words on references: names with ;, texts with each & escaped, two texts with a blank between. Plain; no condition.
-/
import Derived.Test.YtflgiejnklbjnaaDoorRMath
namespace Go.Proofs.YtflgiejnklbjnaaDoor
/-- A name with its ; is its character. -/
theorem findL_name (e : NameE) (he : e ∈ nameTab) (t : List UInt8) (attr : Bool) : findL (38 :: (e.1 ++ 59 :: t)) attr = some (e.2.1, e.1.length + 2) := by
  have hl1 := (tab_facts e he).1
  have hpe : pfx e.1 (e.1 ++ 59 :: t) = true := by
    unfold pfx
    rw [List.take_append_of_le_length (Nat.le_refl _), List.take_length]
    exact decide_eq_true rfl
  have h59 : atL (e.1 ++ 59 :: t) e.1.length = 59 := by
    unfold atL
    rw [List.getElem?_append_right (Nat.le_refl _), Nat.sub_self]
    rfl
  have hc : candM (e.1 ++ 59 :: t) e = e.1.length + 2 := by
    unfold candM
    rw [if_pos hpe, if_pos h59]
  have h35 : ¬ atL (38 :: (e.1 ++ 59 :: t)) 1 = 35 := by
    rw [show atL (38 :: (e.1 ++ 59 :: t)) 1 = atL (e.1 ++ 59 :: t) 0 from rfl, pfx_at hpe (by omega)]
    intro h
    have := (at_name he (i := 0) (by omega)).1
    rw [h] at this
    exact absurd this (by decide)
  unfold findL
  rw [if_pos (by rfl), if_neg h35]
  have hf := nameF_facts (e.1 ++ 59 :: t) attr 6
  have h6 := (tab_facts e he).2.1
  cases hn : nameF (38 :: (e.1 ++ 59 :: t)) attr 6 with
  | none =>
    rcases hf.2 hn e he h6 with h | h
    · omega
    · have := h.1
      omega
  | some p =>
    obtain ⟨e1, he1, _, hpos, hc1, hr1, _, hbig⟩ := hf.1 p hn
    have hee : e1 = e := by
      rcases Nat.lt_trichotomy e1.1.length e.1.length with hlt | heq | hgt
      · exfalso
        rcases hbig e he h6 hlt with h | h
        · omega
        · have := h.1
          omega
      · exact tab_inj he1 he (pfx_same (cand_pfx hpos) hpe heq)
      · exfalso
        have := pfx_at (cand_pfx hpos) hgt
        rw [h59] at this
        exact (at_name he1 hgt).2 this.symm
    subst hee
    obtain ⟨p1, p2⟩ := p
    simp only at hc1 hr1
    rw [← hr1, ← hc1, hc]
theorem decL_name (e : NameE) (he : e ∈ nameTab) (ahead behind : List UInt8) (attr : Bool) (ha : ∀ c ∈ ahead, c.toNat ≠ 38) : decL (ahead ++ 38 :: (e.1 ++ 59 :: behind)) attr = ahead ++ Lib.encodeRune (e.2.1 : Int) ++ decL behind attr := by
  rw [decL_skip attr _ ahead ha, decL_some (findL_name e he behind attr), List.append_assoc]
  congr 2
  show decL (List.drop (e.1.length + 2) (38 :: (e.1 ++ 59 :: behind))) attr = decL behind attr
  rw [show e.1.length + 2 = (e.1.length + 1) + 1 from rfl, List.drop_succ_cons, List.drop_append, List.drop_eq_nil_of_le (by omega), List.nil_append]
  rw [show e.1.length + 1 - e.1.length = 1 by omega]
  rfl
/-- A text with each & escaped. -/
def escL : List UInt8 → List UInt8
  | [] => []
  | c :: l => (if c = 38 then [38, 97, 109, 112, 59] else [c]) ++ escL l
theorem amp_mem : (([97, 109, 112], 38, true) : NameE) ∈ nameTab := by decide
theorem decL_esc (attr : Bool) : ∀ l : List UInt8, decL (escL l) attr = l
  | [] => rfl
  | c :: l => by
    have ih := decL_esc attr l
    unfold escL
    by_cases h : c = 38
    · rw [if_pos h, h]
      have := decL_name _ amp_mem [] (escL l) attr (fun c hc => by cases hc)
      rw [ih] at this
      exact this
    · rw [if_neg h]
      show decL (c :: escL l) attr = _
      rw [decL_none (findL_other (fun h38 => h (UInt8.toNat_inj.1 h38))), ih]
theorem decL_same (attr : Bool) (l : List UInt8) (h : ∀ c ∈ l, c.toNat ≠ 38) : decL l attr = l := by
  have := decL_skip attr [] l h
  rwa [List.append_nil, decL_nil, List.append_nil] at this
/-! Two texts with a blank between. -/
theorem at_sep (x b : List UInt8) (k : Nat) (hk : k ≤ x.length) : atL (x ++ 32 :: b) k = atL x k ∨ (k = x.length ∧ atL (x ++ 32 :: b) k = 32 ∧ atL x k = 0) := by
  rcases Nat.lt_or_ge k x.length with h | h
  · left
    unfold atL
    rw [List.getElem?_append_left h]
  · right
    have : k = x.length := by omega
    subst this
    refine ⟨rfl, ?_, ?_⟩
    · unfold atL
      rw [List.getElem?_append_right (Nat.le_refl _), Nat.sub_self]
      rfl
    · unfold atL
      rw [List.getElem?_eq_none (Nat.le_refl _)]
      rfl
theorem at_sep_iff (x b : List UInt8) (k : Nat) (hk : k ≤ x.length) (c : Nat) (h1 : c ≠ 32) (h2 : c ≠ 0) : (atL (x ++ 32 :: b) k = c) ↔ (atL x k = c) := by
  rcases at_sep x b k hk with h | ⟨_, h3, h4⟩
  · rw [h]
  · rw [h3, h4]
    omega
theorem sumD_sep (q : Nat) (hq : q ≤ 16) (t : List UInt8) : ∀ (y : List UInt8) (n : Nat), sumD q (y ++ 32 :: t) n = sumD q y n
  | [], n => by
    show (if digV (32 : UInt8).toNat < q then _ else (n, 0)) = (n, 0)
    rw [if_neg]
    have : digV (32 : UInt8).toNat = 16 := by decide
    omega
  | c :: y, n => by
    rw [List.cons_append]
    unfold sumD
    rw [sumD_sep q hq t y]
theorem nameF_sep (x b : List UInt8) (attr : Bool) (hx : 0 < x.length) : ∀ k : Nat, nameF (x ++ 32 :: b) attr k = nameF x attr k
  | 0 => rfl
  | k + 1 => by
    have ih := nameF_sep x b attr hx k
    conv => lhs; unfold nameF
    conv => rhs; unfold nameF
    rw [ih]
    have hd : (x ++ 32 :: b).drop 1 = x.drop 1 ++ 32 :: b := by rw [List.drop_append_of_le_length (by omega)]
    by_cases h : k + 2 ≤ x.length
    · rw [if_pos h, if_pos (by rw [List.length_append]; omega), hd, List.take_append_of_le_length (by rw [List.length_drop]; omega)]
      cases lookT ((x.drop 1).take (k + 1)) with
      | none => rfl
      | some e =>
        simp only
        rcases at_sep x b (k + 2) h with h3 | ⟨_, h3, h4⟩
        · rw [h3]
        · rw [h3, h4]
          rfl
    · rw [if_neg h]
      by_cases h2 : k + 2 ≤ (x ++ 32 :: b).length
      · rw [if_pos h2]
        have hnone : lookT (((x ++ 32 :: b).drop 1).take (k + 1)) = none := by
          cases hl : lookT (((x ++ 32 :: b).drop 1).take (k + 1)) with
          | none => rfl
          | some e =>
            exfalso
            obtain ⟨he, het⟩ := lookT_some hl
            have hin : (32 : UInt8) ∈ e.1 := by
              rw [het, hd, List.take_append]
              refine List.mem_append_right _ ?_
              rw [List.length_drop, show k + 1 - (x.length - 1) = (k + 1 - (x.length - 1) - 1) + 1 by omega, List.take_succ_cons]
              exact List.mem_cons_self ..
            have := ((tab_facts e he).2.2.2 32 hin).1
            exact absurd this (by decide)
        rw [hnone]
      · rw [if_neg h2]
theorem findNum_sep (x b : List UInt8) (h2 : 2 ≤ x.length) : findNum (x ++ 32 :: b) = findNum x := by
  have hc : (atL (x ++ 32 :: b) 2 = 120 ∨ atL (x ++ 32 :: b) 2 = 88) ↔ (atL x 2 = 120 ∨ atL x 2 = 88) := by
    rw [at_sep_iff x b 2 h2 120 (by decide) (by decide), at_sep_iff x b 2 h2 88 (by decide) (by decide)]
  have hb : baseOf (x ++ 32 :: b) = baseOf x := by unfold baseOf; simp only [hc]
  have hf : fromOf (x ++ 32 :: b) = fromOf x := by unfold fromOf; simp only [hc]
  have hle : fromOf x ≤ x.length := by
    unfold fromOf
    split
    · rename_i h
      rcases Nat.lt_or_ge 2 x.length with h3 | h3
      · omega
      · unfold atL at h
        rw [List.getElem?_eq_none h3] at h
        simp at h
    · exact h2
  have hbb : baseOf x ≤ 16 := by unfold baseOf; split <;> omega
  have hs : sumD (baseOf x) ((x ++ 32 :: b).drop (fromOf x)) 0 = sumD (baseOf x) (x.drop (fromOf x)) 0 := by
    rw [List.drop_append_of_le_length hle, sumD_sep _ hbb]
  have hcn := (sumD_le (baseOf x) (x.drop (fromOf x)) 0 (by omega)).2
  rw [List.length_drop] at hcn
  unfold findNum
  rw [hb, hf, hs]
  simp only [at_sep_iff x b (fromOf x + (sumD (baseOf x) (x.drop (fromOf x)) 0).2) (by omega) 59 (by decide) (by decide)]
theorem findL_sep (x b : List UInt8) (attr : Bool) (hx : 0 < x.length) : findL (x ++ 32 :: b) attr = findL x attr := by
  unfold findL
  rw [nameF_sep x b attr hx 6]
  simp only [at_sep_iff x b 0 (by omega) 38 (by decide) (by decide), at_sep_iff x b 1 (by omega) 35 (by decide) (by decide)]
  by_cases h38 : atL x 0 = 38
  · rw [if_pos h38, if_pos h38]
    by_cases h35 : atL x 1 = 35
    · rw [if_pos h35, if_pos h35]
      have := atL_pos (l := x) (k := 1) (by omega)
      exact findNum_sep x b (by omega)
    · rw [if_neg h35, if_neg h35]
  · rw [if_neg h38, if_neg h38]
/-- Two texts with a blank between are decoded as if each stood alone. -/
theorem decL_sep (b : List UInt8) (attr : Bool) : ∀ (n : Nat) (a : List UInt8), a.length ≤ n → decL (a ++ 32 :: b) attr = decL a attr ++ 32 :: decL b attr
  | 0, a, h => by
    have : a = [] := List.eq_nil_of_length_eq_zero (by omega)
    subst this
    exact decL_none (findL_other (by decide))
  | n + 1, [], _ => decL_none (findL_other (by decide))
  | n + 1, c :: a, h => by
    have hs := findL_sep (c :: a) b attr (by simp)
    cases hf : findL (c :: a) attr with
    | none =>
      rw [hf] at hs
      have hs' : findL (c :: (a ++ 32 :: b)) attr = none := hs
      rw [List.cons_append, decL_none hs', decL_none hf, decL_sep b attr n a (by simpa using h)]
      rfl
    | some p =>
      have hp := findL_le hf
      rw [hf] at hs
      rw [decL_some hs, decL_some hf, List.drop_append_of_le_length hp.2.1, decL_sep b attr n _ (by rw [List.length_drop]; simp only [List.length_cons] at *; omega), List.append_assoc]
end Go.Proofs.YtflgiejnklbjnaaDoor
