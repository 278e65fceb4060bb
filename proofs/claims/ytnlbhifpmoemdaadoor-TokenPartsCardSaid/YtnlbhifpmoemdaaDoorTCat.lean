/-
  Tokens of a text behind a text that ends with a token of its own, plain. No Go in sight; no condition.
-/
import Derived.Test.YtnlbhifpmoemdaaDoorTMathT
namespace Go.Proofs.YtnlbhifpmoemdaaDoor
section
variable {l b st : List UInt8}
theorem up_app (h : downL l st ≠ []) : upL (l ++ b) st = upL l st ∧ downL (l ++ b) st = downL l st ++ b := by
  induction l with
  | nil => exact absurd rfl h
  | cons c t ih =>
    unfold upL downL at ih ⊢
    unfold downL at h
    rw [List.cons_append, List.takeWhile_cons, List.takeWhile_cons, List.dropWhile_cons, List.dropWhile_cons]
    rw [List.dropWhile_cons] at h
    cases hc : st.contains c with
    | true => exact ⟨rfl, rfl⟩
    | false =>
      rw [hc] at h
      simp only [Bool.not_false, if_true] at h ⊢
      obtain ⟨h1, h2⟩ := ih h
      rw [h1, h2]
      exact ⟨rfl, rfl⟩
theorem sk_app (h : skB l ≠ []) : skB (l ++ b) = skB l ++ b := by
  induction l with
  | nil => exact absurd rfl h
  | cons c t ih =>
    cases hc : blanksL.contains c with
    | true =>
      rw [skB_yes hc] at h ⊢
      rw [List.cons_append, skB_yes hc]
      exact ih h
    | false => rw [List.cons_append, skB_no hc, skB_no hc, List.cons_append]
theorem pre_app {p : List UInt8} (h : Lib.hasPrefix l p = true) : Lib.hasPrefix (l ++ b) p = true := by
  unfold Lib.hasPrefix at h ⊢
  rw [List.isPrefixOf_iff_prefix] at h ⊢
  exact h.trans (List.prefix_append _ _)
theorem pre_same {p : List UInt8} (hl : p.length ≤ l.length) : Lib.hasPrefix (l ++ b) p = Lib.hasPrefix l p := by
  rw [Bool.eq_iff_iff]
  unfold Lib.hasPrefix
  rw [List.isPrefixOf_iff_prefix, List.isPrefixOf_iff_prefix]
  constructor
  · intro h
    exact List.prefix_of_prefix_length_le h (List.prefix_append _ _) hl
  · intro h
    exact h.trans (List.prefix_append _ _)
theorem drop_app {k : Nat} (h : k ≤ l.length) : (l ++ b).drop k = l.drop k ++ b := by
  rw [List.drop_append, show k - l.length = 0 by omega, List.drop_zero]
theorem nil_pre {p : List UInt8} (hp : p ≠ []) : Lib.hasPrefix [] p = false := by
  cases p with
  | nil => exact absurd rfl hp
  | cons _ _ => rfl
theorem ne_of_pre {p : List UInt8} (hp : p ≠ []) (h : Lib.hasPrefix l p = true) : l ≠ [] := by
  intro e
  rw [e, nil_pre hp] at h
  cases h
theorem pos_of_ne (h : l ≠ []) : 1 ≤ l.length := List.length_pos_iff.2 h
theorem pre_same1 {c : UInt8} (h : l ≠ []) : Lib.hasPrefix (l ++ b) [c] = Lib.hasPrefix l [c] := pre_same (p := [c]) (pos_of_ne h)
theorem value_app {v r : List UInt8} (h : valueL l = some (v, r)) (hr : r ≠ []) : valueL (l ++ b) = some (v, r ++ b) := by
  unfold valueL at h ⊢
  by_cases hl : l = []
  · subst hl
    simp [nil_pre, upL] at h
  · rw [pre_same (p := [34]) (by have := pos_of_ne hl; simp; omega), pre_same (p := [39]) (by have := pos_of_ne hl; simp; omega), drop_app (pos_of_ne hl)]
    split at h
    · rename_i h34
      rw [if_pos h34]
      split at h
      · rename_i hq
        obtain ⟨u1, u2⟩ := up_app (b := b) (ne_of_pre (by simp) hq)
        injection h with h
        injection h with h1 h2
        rw [u1, u2, pre_app hq, if_pos rfl, drop_app (k := 1) (pre_le hq), h1, h2]
      · cases h
    · rename_i h34
      rw [if_neg h34]
      split at h
      · rename_i h39
        rw [if_pos h39]
        split at h
        · rename_i hq
          obtain ⟨u1, u2⟩ := up_app (b := b) (ne_of_pre (by simp) hq)
          injection h with h
          injection h with h1 h2
          rw [u1, u2, pre_app hq, if_pos rfl, drop_app (k := 1) (pre_le hq), h1, h2]
        · cases h
      · rename_i h39
        rw [if_neg h39]
        split at h
        · cases h
        · rename_i hu
          injection h with h
          injection h with h1 h2
          obtain ⟨u1, u2⟩ := up_app (b := b) (l := l) (st := [9, 10, 12, 32, 62]) (by rw [h2]; exact hr)
          rw [u1, u2, if_neg hu, h1, h2]
theorem valueL_ne {v r : List UInt8} (h : valueL l = some (v, r)) : l ≠ [] := by
  intro e
  subst e
  simp [valueL, nil_pre, upL] at h
theorem attr_app {a : List UInt8 × List UInt8} {r : List UInt8} (h : attrL l = some (a, r)) (hr : r ≠ []) : attrL (l ++ b) = some (a, r ++ b) := by
  unfold attrL at h ⊢
  by_cases hD : downL l [9, 10, 12, 32, 61, 47, 62] = []
  · rw [hD] at h
    split at h
    · cases h
    · rw [show skB [] = [] from rfl, nil_pre (by simp), if_neg Bool.false_ne_true] at h
      injection h with h
      injection h with _ h2
      exact absurd h2.symm hr
  · obtain ⟨u1, u2⟩ := up_app (b := b) hD
    rw [u1, u2]
    split at h
    · cases h
    · rename_i hn
      rw [if_neg hn]
      split at h
      · rename_i h61
        have hE := ne_of_pre (by simp) h61
        rw [sk_app hE, pre_app h61, if_pos rfl, drop_app (k := 1) (pre_le h61)]
        cases hv : valueL (skB ((skB (downL l [9, 10, 12, 32, 61, 47, 62])).drop 1)) with
        | none => rw [hv] at h; cases h
        | some p =>
          obtain ⟨v, r'⟩ := p
          rw [hv] at h
          simp only at h
          injection h with h
          injection h with h1 h2
          subst h2
          rw [sk_app (valueL_ne hv), value_app hv hr]
          simp only
          rw [h1]
      · rename_i h61
        injection h with h
        injection h with h1 h2
        have hE : skB (downL l [9, 10, 12, 32, 61, 47, 62]) ≠ [] := by rw [h2]; exact hr
        rw [sk_app hE, pre_same1 hE, if_neg h61, h1, h2]
theorem attrs_app : ∀ (n : Nat) {l : List UInt8} {al al' : List (List UInt8 × List UInt8)} {sf : Bool} {r : List UInt8}, attrsF n l al = (0, al', sf, r) → attrsF n (l ++ b) al = (0, al', sf, r ++ b)
  | 0, _, _, _, _, _, h => by cases h
  | n + 1, l, al, al', sf, r, h => by
    unfold attrsF at h
    split at h
    · rename_i h1
      injection h with _ h; injection h with h2 h; injection h with h3 h4
      rw [attrsF_gt (S := skB l ++ b) (sk_app (ne_of_pre (by simp) h1)).symm (pre_app h1), drop_app (k := 1) (pre_le h1), h2, h3, h4]
    · rename_i h1
      split at h
      · rename_i h2
        injection h with _ h; injection h with h3 h; injection h with h4 h5
        have hS := ne_of_pre (by simp) h2
        rw [attrsF_self (S := skB l ++ b) (sk_app hS).symm (by rw [pre_same1 hS]; exact Bool.eq_false_iff.2 h1) (pre_app h2), drop_app (k := 2) (pre_le h2), h3, h4, h5]
      · rename_i h2
        split at h
        · injection h with h _; cases h
        · rename_i h3
          simp only [Bool.or_eq_true, not_or] at h3
          have hS : skB l ≠ [] := by
            intro e
            rw [e] at h3
            exact h3.1 rfl
          have h47 : (atL (skB l) 0 == 47) = false := Bool.eq_false_iff.2 h3.2
          have hat0 : atL (skB l ++ b) 0 = atL (skB l) 0 := by
            unfold atL
            rw [List.getElem?_append_left (pos_of_ne hS)]
          have hbad : ((skB l ++ b).isEmpty || atL (skB l ++ b) 0 == 47) = false := by
            rw [hat0, h47, Bool.or_false]
            cases hs : skB l with
            | nil => exact absurd hs hS
            | cons _ _ => rfl
          have hsl : Lib.hasPrefix (skB l ++ b) [47, 62] = false := by
            cases hs : skB l with
            | nil => exact absurd hs hS
            | cons c t =>
              rw [List.cons_append]
              refine pre_ne _ _ (fun e => ?_)
              rw [hs, e] at h47
              exact absurd h47 (by simp [atL])
          have hgt : Lib.hasPrefix (skB l ++ b) [62] = false := by rw [pre_same1 hS]; exact Bool.eq_false_iff.2 h1
          cases ha : attrL (skB l) with
          | none => rw [ha] at h; injection h with h _; cases h
          | some p =>
            obtain ⟨a, r'⟩ := p
            rw [ha] at h
            simp only at h
            split at h
            · injection h with h _; cases h
            · rename_i hd
              have hr' : r' ≠ [] := by
                intro e
                subst e
                cases n with
                | zero => injection h with h _; cases h
                | succ m =>
                  unfold attrsF at h
                  rw [show skB [] = [] from rfl, nil_pre (by simp), nil_pre (by simp)] at h
                  injection h with h _
                  cases h
              rw [attrsF_more (S := skB l ++ b) (sk_app hS).symm hgt hsl hbad (attr_app ha hr') (Bool.eq_false_iff.2 hd)]
              exact attrs_app n h
theorem tag_app {k : Nat} {t : Tk} {r : List UInt8} (h : tagL k l = (0, t, r)) : tagL k (l ++ b) = (0, t, r ++ b) := by
  unfold tagL at h ⊢
  by_cases hD : downL l [9, 10, 12, 32, 47, 62] = []
  · exfalso
    rw [hD] at h
    split at h
    · injection h with h _; cases h
    · have : attrsF 17 [] [] = (40, [], false, []) := by decide
      rw [this] at h
      injection h with h _
      cases h
  · obtain ⟨u1, u2⟩ := up_app (b := b) hD
    rw [u1, u2]
    split at h
    · injection h with h _; cases h
    · rename_i hn
      rw [if_neg hn]
      cases ha : attrsF 17 (downL l [9, 10, 12, 32, 47, 62]) [] with
      | mk e q =>
        obtain ⟨al, sf, r'⟩ := q
        rw [ha] at h
        cases e with
        | succ e => injection h with h _; cases h
        | zero =>
          injection h with _ h
          injection h with h1 h2
          rw [attrs_app 17 ha]
          simp only
          rw [h1, h2]
theorem getD_app {k : Nat} (h : k < l.length) : (l ++ b).getD k 0 = l.getD k 0 := by
  rw [List.getD_eq_getElem?_getD, List.getElem?_append_left h, ← List.getD_eq_getElem?_getD]
theorem atL_app {k : Nat} (h : k < l.length) : atL (l ++ b) k = atL l k := by
  unfold atL
  rw [List.getElem?_append_left h]
theorem end_app {t : Tk} {r : List UInt8} (h : endL l = (0, t, r)) : endL (l ++ b) = (0, t, r ++ b) := by
  by_cases hl : l = []
  · subst hl
    cases h
  · unfold endL at h ⊢
    have he : l.isEmpty = false := by
      cases l with
      | nil => exact absurd rfl hl
      | cons _ _ => rfl
    have he2 : (l ++ b).isEmpty = false := by
      cases l with
      | nil => exact absurd rfl hl
      | cons _ _ => rfl
    rw [he] at h
    rw [he2, getD_app (pos_of_ne hl)]
    split at h
    · injection h with h _; cases h
    · rename_i h1
      rw [if_neg h1]
      split at h
      · injection h with h _; cases h
      · rename_i h2
        rw [h] at h2
        rw [tag_app h]
        simp only at h2 ⊢
        rw [if_neg h2]
theorem index_app {s : List UInt8} (h : 0 ≤ Lib.index l s) (hs : s ≠ []) : Lib.index (l ++ b) s = Lib.index l s := by
  induction l with
  | nil =>
    cases s with
    | nil => exact absurd rfl hs
    | cons _ _ => unfold Lib.index at h; simp at h
  | cons c t ih =>
    rw [List.cons_append]
    unfold Lib.index at h ⊢
    cases hp : s.isPrefixOf (c :: t) with
    | true =>
      have : s.isPrefixOf (c :: (t ++ b)) = true := by
        rw [List.isPrefixOf_iff_prefix] at hp ⊢
        rw [← List.cons_append]
        exact hp.trans (List.prefix_append _ _)
      rw [this]
      rfl
    | false =>
      rw [hp] at h
      simp only [Bool.false_eq_true, if_false] at h ⊢
      split at h
      · simp at h
      · rename_i h1
        have h0 : 0 ≤ Lib.index t s := by
          have := beq_eq_false_iff_ne.1 (Bool.eq_false_iff.2 h1)
          omega
        have ht := ih h0
        have hpf : s.isPrefixOf (c :: (t ++ b)) = false := by
          cases hq : s.isPrefixOf (c :: (t ++ b)) with
          | false => rfl
          | true =>
            exfalso
            have hlen : s.length ≤ (c :: t).length := by
              have := Lib.index_room t s h0
              simp only [List.length_cons]
              omega
            rw [List.isPrefixOf_iff_prefix, ← List.cons_append] at hq
            have := List.prefix_of_prefix_length_le hq (List.prefix_append _ _) hlen
            rw [← List.isPrefixOf_iff_prefix, hp] at this
            cases this
        rw [hpf]
        simp only [Bool.false_eq_true, if_false]
        rw [ht]
theorem cut_app {s : List UInt8} (hs : s ≠ []) (h : (Lib.cut l s).2.2 = true) : Lib.cut (l ++ b) s = ((Lib.cut l s).1, (Lib.cut l s).2.1 ++ b, true) := by
  unfold Lib.cut at h ⊢
  by_cases h0 : 0 ≤ Lib.index l s
  · have hr := Lib.index_room l s h0
    rw [index_app h0 hs, if_pos h0, if_pos h0]
    rw [List.take_append_of_le_length (by omega), drop_app (by omega)]
  · rw [if_neg h0] at h
    cases h
theorem leaves_app (h : leavesL l = true) : leavesL (l ++ b) = true := by
  have h2 := (leaves_facts h).1
  unfold leavesL at h ⊢
  rw [getD_app h2, atL_app (by omega)]
  rw [decide_eq_true (show 2 ≤ (l ++ b).length by rw [List.length_append]; omega)]
  rw [decide_eq_true h2] at h
  exact h
theorem leaves_same (h2 : 2 ≤ l.length) : leavesL (l ++ b) = leavesL l := by
  unfold leavesL
  rw [getD_app h2, atL_app (by omega), decide_eq_true h2, decide_eq_true (show 2 ≤ (l ++ b).length by rw [List.length_append]; omega)]
/-- Where a text's bytes end amid the text, they end there too if more stands behind. -/
theorem textN_app : ∀ {l : List UInt8}, textN l < l.length → textN (l ++ b) = textN l
  | [], h => by simp [textN] at h
  | c :: t, h => by
    cases hl : leavesL (c :: t) with
    | true => rw [textN_stop hl, textN_stop (leaves_app hl)]
    | false =>
      unfold textN at h
      rw [if_neg (by rw [hl]; exact Bool.false_ne_true)] at h
      simp only [List.length_cons] at h
      have ht : textN t < t.length := by omega
      have hlen : 2 ≤ (c :: t).length := by simp only [List.length_cons]; omega
      have ih := textN_app ht
      rw [List.cons_append]
      unfold textN
      rw [← List.cons_append, leaves_same hlen, hl, ih]
/-- A token that has ended is the same with more behind it; but a text must end ahead of what leaves it. -/
theorem one_app {t : Tk} {r : List UInt8} (hl : l ≠ []) (h : oneL l = (0, t, r)) (hk : t.kind ≠ 3 ∨ r ≠ []) : oneL (l ++ b) = (0, t, r ++ b) := by
  have hpos := pos_of_ne hl
  unfold oneL at h ⊢
  cases hL : leavesL l with
  | false =>
    rw [hL] at h
    simp only [Bool.not_false, if_true] at h
    injection h with _ h
    injection h with h1 h2
    have hr : r ≠ [] := by
      rcases hk with hk | hk
      · rw [← h1] at hk; exact absurd rfl hk
      · exact hk
    have hlt : textN (l.drop 1) + 1 < l.length := by
      rcases Nat.lt_or_ge (textN (l.drop 1) + 1) l.length with h | h
      · exact h
      · rw [List.drop_eq_nil_of_le h] at h2
        exact absurd h2.symm hr
    have hL2 : leavesL (l ++ b) = false := by
      rw [leaves_same (by omega)]
      exact hL
    have ht : textN ((l ++ b).drop 1) = textN (l.drop 1) := by
      rw [drop_app hpos]
      exact textN_app (by rw [List.length_drop]; omega)
    rw [hL2, ht]
    simp only [Bool.not_false, if_true]
    rw [List.take_append_of_le_length (by omega), drop_app (by omega), h1, h2]
  | true =>
    rw [hL] at h
    rw [leaves_app hL]
    have h2 := (leaves_facts hL).1
    simp only [Bool.not_true, Bool.false_eq_true, if_false] at h ⊢
    rw [getD_app h2, atL_app h2, drop_app hpos, drop_app h2]
    split at h
    · rename_i h1
      rw [if_pos h1]
      exact tag_app h
    · rename_i h1
      rw [if_neg h1]
      split at h
      · rename_i h3
        rw [if_pos h3]
        exact end_app h
      · rename_i h3
        rw [if_neg h3]
        split at h
        · rename_i h4
          rw [if_pos (pre_app h4), drop_app (k := 4) (pre_le h4)]
          unfold comL at h ⊢
          split at h
          · injection h with h _; cases h
          · rename_i h5
            have hc : (Lib.cut (l.drop 4) [45, 45, 62]).2.2 = true := by
              cases hc : (Lib.cut (l.drop 4) [45, 45, 62]).2.2 with
              | true => rfl
              | false => rw [hc] at h5; exact absurd rfl h5
            injection h with _ h
            injection h with h6 h7
            rw [cut_app (by simp) hc]
            rw [hc] at h5
            simp only at h5 ⊢
            rw [if_neg h5, h6, h7]
        · rename_i h4
          split at h
          · rename_i h5
            have h9 := docO_len h5
            have h4' : Lib.hasPrefix (l ++ b) [60, 33, 45, 45] = false := by rw [pre_same (p := [60, 33, 45, 45]) (by show 4 ≤ l.length; omega)]; exact Bool.eq_false_iff.2 h4
            have hd : docO (l ++ b) = true := by
              unfold docO at h5 ⊢
              rw [List.take_append_of_le_length h9, decide_eq_true (show 9 ≤ (l ++ b).length by rw [List.length_append]; omega)]
              rw [decide_eq_true h9] at h5
              exact h5
            rw [h4', if_neg Bool.false_ne_true, if_pos hd, drop_app h9]
            unfold docL at h ⊢
            split at h
            · rename_i hc
              injection h with _ h
              injection h with h6 h7
              rw [cut_app (by simp) hc]
              simp only [if_true]
              rw [h6, h7]
            · injection h with h _; cases h
          · injection h with h _; cases h
theorem toksL_place : ∀ {r : List UInt8}, (toksL r).1 = 0 → (toksL r).2.1 = 0 := by
  intro r h
  by_cases hr : r = []
  · subst hr; rfl
  · rw [toksL_step r hr] at h ⊢
    split at h
    · rename_i h1
      rw [if_pos h1]
      split at h
      · rename_i h2
        rw [if_pos h2]
      · rename_i h2
        exact absurd h h2
    · rename_i h1
      exact absurd h h1
theorem toksL_zero_nil {r : List UInt8} (h : toksL r = (0, 0, [])) : r = [] := by
  by_cases hr : r = []
  · exact hr
  · rw [toksL_step r hr] at h
    split at h
    · split at h
      · injection h with _ h; injection h with _ h; cases h
      · rename_i h1
        injection h with h _
        exact absurd h h1
    · rename_i h1
      injection h with h _
      exact absurd h h1
/-- What follows a row of tokens that ends with none of a text. -/
theorem toks_app : ∀ (ts : List Tk) {l : List UInt8}, toksL l = (0, 0, ts) → (∀ t, ts.getLast? = some t → t.kind ≠ 3) → ts ≠ [] →
    toksL (l ++ b) = if (toksL b).1 = 0 then (0, 0, ts ++ (toksL b).2.2) else ((toksL b).1, (toksL b).2.1, [])
  | [], _, _, _, h => absurd rfl h
  | t :: ts, l, h, hlast, _ => by
    have hl : l ≠ [] := by
      intro e
      rw [e, toksL_nil] at h
      injection h with _ h; injection h with _ h; cases h
    have h0 := h
    rw [toksL_step l hl] at h
    split at h
    · rename_i h1
      split at h
      · rename_i h2
        injection h with _ h
        injection h with _ h
        injection h with h3 h4
        have hone : oneL l = (0, t, (oneL l).2.2) := by
          rw [← h3, ← h1]
        have hr : toksL (oneL l).2.2 = (0, 0, ts) := by
          have h5 : (toksL (oneL l).2.2).2.1 = 0 := toksL_place h2
          generalize toksL (oneL l).2.2 = R at *
          obtain ⟨r1, r2, r3⟩ := R
          simp only at h2 h4 h5
          rw [h2, h4, h5]
        have hk : t.kind ≠ 3 ∨ (oneL l).2.2 ≠ [] := by
          by_cases hts : ts = []
          · left
            subst hts
            exact hlast t rfl
          · right
            intro e
            rw [e, toksL_nil] at hr
            injection hr with _ hr; injection hr with _ hr
            exact hts hr.symm
        have hap := one_app (b := b) hl hone hk
        have hne : l ++ b ≠ [] := by
          intro e
          exact hl (List.append_eq_nil_iff.1 e).1
        rw [toksL_step (l ++ b) hne, hap, if_pos rfl]
        simp only
        by_cases hts : ts = []
        · subst hts
          rw [toksL_zero_nil hr, List.nil_append]
          split <;> rfl
        · rw [toks_app ts hr (fun u hu => hlast u (by
            cases ts with
            | nil => exact absurd rfl hts
            | cons _ _ => rw [List.getLast?_cons_cons]; exact hu)) hts]
          by_cases hb : (toksL b).1 = 0
          · rw [if_pos hb, if_pos hb, if_pos rfl]
            rfl
          · rw [if_neg hb, if_neg hb, if_neg hb]
      · rename_i h2
        injection h with h _
        exact absurd h h2
    · rename_i h1
      injection h with h _
      exact absurd h h1
end
end Go.Proofs.YtnlbhifpmoemdaaDoor
