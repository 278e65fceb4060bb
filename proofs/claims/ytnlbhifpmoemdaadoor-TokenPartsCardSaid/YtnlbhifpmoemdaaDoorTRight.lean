/-
  What tokens may be, plain. No Go in sight; no condition.
-/
import Derived.Test.YtnlbhifpmoemdaaDoorTCat
namespace Go.Proofs.YtnlbhifpmoemdaaDoor
def distinctN (al : List (List UInt8 × List UInt8)) : Prop := ∀ j k, j < k → k < al.length → (al.getD j ([], [])).1 ≠ (al.getD k ([], [])).1
structure RightT (t : Tk) : Prop where
  lo : 1 ≤ t.kind
  hi : t.kind ≤ 5
  small : smL t.name = t.name
  named : t.name ≠ [] ↔ t.kind ≤ 2
  few : t.attrs.length ≤ 16
  only : t.kind ≠ 1 → t.attrs = [] ∧ t.self = false
  apart : distinctN t.attrs
theorem smC_smC (c : UInt8) : smC (smC c) = smC c := by
  by_cases h : 65 ≤ c.toNat ∧ c.toNat ≤ 90
  · have := smC_up c h
    refine smC_no _ ?_
    omega
  · rw [smC_no c h, smC_no c h]
theorem smL_smL (l : List UInt8) : smL (smL l) = smL l := by
  unfold smL
  rw [List.map_map]
  refine List.map_congr_left fun c _ => smC_smC c
theorem distinct_nil : distinctN [] := fun j k h1 h2 => by simp at h2
theorem distinct_snoc {al : List (List UInt8 × List UInt8)} {a : List UInt8 × List UInt8} (h : distinctN al) (hn : al.any (fun b => b.1 == a.1) = false) : distinctN (al ++ [a]) := by
  intro j k h1 h2
  rw [List.length_append, List.length_singleton] at h2
  rcases Nat.lt_or_ge k al.length with hk | hk
  · have := h j k h1 hk
    simp only [List.getD_eq_getElem?_getD] at this ⊢
    rw [List.getElem?_append_left (by omega), List.getElem?_append_left hk]
    exact this
  · obtain rfl : k = al.length := by omega
    simp only [List.getD_eq_getElem?_getD]
    rw [List.getElem?_append_left h1, List.getElem?_append_right (Nat.le_refl _), Nat.sub_self, List.getElem?_eq_getElem h1]
    intro e
    have hm := List.any_eq_false.1 hn al[j] (List.getElem_mem h1)
    exact hm (by simpa using e)
theorem attrs_right : ∀ (n : Nat) {l : List UInt8} {al al' : List (List UInt8 × List UInt8)} {sf : Bool} {r : List UInt8}, attrsF n l al = (0, al', sf, r) → distinctN al → distinctN al' ∧ al'.length + 1 ≤ al.length + n
  | 0, _, _, _, _, _, h, _ => by cases h
  | n + 1, l, al, al', sf, r, h, hd => by
    unfold attrsF at h
    split at h
    · injection h with _ h; injection h with h2 _
      subst h2
      exact ⟨hd, by omega⟩
    · split at h
      · injection h with _ h; injection h with h2 _
        subst h2
        exact ⟨hd, by omega⟩
      · split at h
        · injection h with h _; cases h
        · cases ha : attrL (skB l) with
          | none => rw [ha] at h; injection h with h _; cases h
          | some p =>
            obtain ⟨a, r'⟩ := p
            rw [ha] at h
            simp only at h
            split at h
            · injection h with h _; cases h
            · rename_i hn
              have := attrs_right n h (distinct_snoc hd (Bool.eq_false_iff.2 hn))
              rw [List.length_append, List.length_singleton] at this
              exact ⟨this.1, by omega⟩
theorem up_ne {l st : List UInt8} (hl : l ≠ []) (h : st.contains (l.getD 0 0) = false) : upL l st ≠ [] := by
  cases l with
  | nil => exact absurd rfl hl
  | cons c t =>
    have h' : st.contains c = false := h
    unfold upL
    rw [List.takeWhile_cons, h']
    exact List.cons_ne_nil _ _
theorem ne_of_let {l : List UInt8} (h : isLet (l.getD 0 0) = true) : l ≠ [] := by
  intro e
  subst e
  revert h
  decide
theorem tag_right {k : Nat} {l : List UInt8} {t : Tk} {r : List UInt8} (h : tagL k l = (0, t, r)) (hl : isLet (l.getD 0 0) = true) :
    t.kind = k ∧ smL t.name = t.name ∧ t.name ≠ [] ∧ t.attrs.length ≤ 16 ∧ distinctN t.attrs := by
  unfold tagL at h
  split at h
  · injection h with h _; cases h
  · cases ha : attrsF 17 (downL l [9, 10, 12, 32, 47, 62]) [] with
    | mk e q =>
      obtain ⟨al, sf, r'⟩ := q
      rw [ha] at h
      cases e with
      | succ e => injection h with h _; cases h
      | zero =>
        injection h with _ h
        injection h with h1 h2
        subst h1
        have hd := attrs_right 17 ha distinct_nil
        refine ⟨rfl, smL_smL _, ?_, by have := hd.2; simp only [List.length_nil] at this; show al.length ≤ 16; omega, hd.1⟩
        have hu := up_ne (st := [9, 10, 12, 32, 47, 62]) (ne_of_let hl) (not_in (by decide) (by unfold alnB; rw [hl]; rfl))
        show smL (upL l [9, 10, 12, 32, 47, 62]) ≠ []
        unfold smL
        intro e
        exact hu (List.map_eq_nil_iff.1 e)
theorem one_right {l : List UInt8} {t : Tk} {r : List UInt8} (hl : l ≠ []) (h : oneL l = (0, t, r)) : RightT t ∧ (t.kind = 3 → r = [] ∨ leavesL r = true) ∧ (leavesL l = true → t.kind ≠ 3) := by
  have hpos := pos_of_ne hl
  unfold oneL at h
  cases hL : leavesL l with
  | false =>
    rw [hL] at h
    simp only [Bool.not_false, if_true] at h
    injection h with _ h
    injection h with h1 h2
    subst h1
    refine ⟨⟨by show 1 ≤ 3; omega, by show 3 ≤ 5; omega, rfl, ⟨fun h => absurd rfl h, fun h => by have : (3 : Nat) ≤ 2 := h; omega⟩, Nat.zero_le _, fun _ => ⟨rfl, rfl⟩, distinct_nil⟩, fun _ => ?_, fun h => by cases h⟩
    subst h2
    have key : ∀ m : List UInt8, m.drop (textN m) = [] ∨ leavesL (m.drop (textN m)) = true := by
      intro m
      induction m with
      | nil => exact .inl rfl
      | cons c m ih =>
        cases hm : leavesL (c :: m) with
        | true => rw [textN_stop hm]; exact .inr hm
        | false =>
          unfold textN
          rw [if_neg (by rw [hm]; exact Bool.false_ne_true), List.drop_succ_cons]
          exact ih
    have := key (l.drop 1)
    rw [List.drop_drop] at this
    rw [Nat.add_comm]
    exact this
  | true =>
    rw [hL] at h
    simp only [Bool.not_true, Bool.false_eq_true, if_false] at h
    have h2 := (leaves_facts hL).1
    split at h
    · rename_i h1
      have hg : (l.drop 1).getD 0 0 = l.getD 1 0 := by simp [List.getD_eq_getElem?_getD]
      obtain ⟨a, b, c, d, e⟩ := tag_right h (by rw [hg]; exact h1)
      exact ⟨⟨by omega, by omega, b, ⟨fun _ => by omega, fun _ => c⟩, d, fun hk => absurd a hk, e⟩, fun hk => by omega, fun _ => by omega⟩
    · split at h
      · unfold endL at h
        split at h
        · injection h with h _; cases h
        · rename_i h4
          split at h
          · injection h with h _; cases h
          · rename_i h5
            simp only [Bool.or_eq_true, not_or, Bool.not_eq_true', Bool.not_eq_false] at h4 h5
            obtain ⟨a, b, c, d, e⟩ := tag_right h h4.2
            rw [h] at h5
            have h6 : t.attrs = [] := by simpa using h5.1
            have h7 : t.self = false := by simpa using h5.2
            exact ⟨⟨by omega, by omega, b, ⟨fun _ => by omega, fun _ => c⟩, d, fun _ => ⟨h6, h7⟩, e⟩, fun hk => by omega, fun _ => by omega⟩
      · split at h
        · unfold comL at h
          split at h
          · injection h with h _; cases h
          · injection h with _ h
            injection h with h1 _
            subst h1
            exact ⟨⟨by show 1 ≤ 4; omega, by show 4 ≤ 5; omega, rfl, ⟨fun h => absurd rfl h, fun h => by have : (4 : Nat) ≤ 2 := h; omega⟩, Nat.zero_le _, fun _ => ⟨rfl, rfl⟩, distinct_nil⟩, fun h => by have : (4 : Nat) = 3 := h; omega, fun _ h => by have : (4 : Nat) = 3 := h; omega⟩
        · split at h
          · unfold docL at h
            split at h
            · injection h with _ h
              injection h with h1 _
              subst h1
              exact ⟨⟨by show 1 ≤ 5; omega, by show 5 ≤ 5; omega, rfl, ⟨fun h => absurd rfl h, fun h => by have : (5 : Nat) ≤ 2 := h; omega⟩, Nat.zero_le _, fun _ => ⟨rfl, rfl⟩, distinct_nil⟩, fun h => by have : (5 : Nat) = 3 := h; omega, fun _ h => by have : (5 : Nat) = 3 := h; omega⟩
            · injection h with h _; cases h
          · injection h with h _; cases h
structure RightL (ts : List Tk) : Prop where
  each : ∀ t ∈ ts, RightT t
  texts : ∀ i, i + 1 < ts.length → (ts.getD (i + 1) .none).kind = 3 → (ts.getD i .none).kind ≠ 3
theorem toks_right : ∀ (ts : List Tk) {l : List UInt8}, toksL l = (0, 0, ts) → RightL ts ∧ (leavesL l = true → (ts.getD 0 .none).kind ≠ 3)
  | [], _, _ => ⟨⟨(fun t h => nomatch h), (fun i h => by simp at h)⟩, fun _ => by decide⟩
  | t :: ts, l, h => by
    have hl : l ≠ [] := by
      intro e
      rw [e, toksL_nil] at h
      injection h with _ h; injection h with _ h; cases h
    rw [toksL_step l hl] at h
    split at h
    · rename_i h1
      split at h
      · rename_i h2
        injection h with _ h
        injection h with _ h
        injection h with h3 h4
        have hone : oneL l = (0, t, (oneL l).2.2) := by rw [← h3, ← h1]
        have hr : toksL (oneL l).2.2 = (0, 0, ts) := by
          have h5 : (toksL (oneL l).2.2).2.1 = 0 := toksL_place h2
          generalize toksL (oneL l).2.2 = R at *
          obtain ⟨r1, r2, r3⟩ := R
          simp only at h2 h4 h5
          rw [h2, h4, h5]
        obtain ⟨a, b, c⟩ := one_right hl hone
        obtain ⟨d, e⟩ := toks_right ts hr
        refine ⟨⟨fun u hu => ?_, fun i hi hk => ?_⟩, c⟩
        · rcases List.mem_cons.1 hu with rfl | hu
          · exact a
          · exact d.each u hu
        · cases i with
          | zero =>
            intro h3k
            have hk' : (ts.getD 0 .none).kind = 3 := hk
            have h3k' : t.kind = 3 := h3k
            rcases b h3k' with hb | hb
            · rw [hb, toksL_nil] at hr
              injection hr with _ hr; injection hr with _ hr
              subst hr
              simp at hi
            · exact e hb hk'
          | succ i => exact d.texts i (by simpa using hi) hk
      · rename_i h2
        injection h with h _
        exact absurd h h2
    · rename_i h1
      injection h with h _
      exact absurd h h1
theorem tokensL_right (l : List UInt8) : RightL (tokensL l).2.2 := by
  have hn : RightL [] := ⟨(fun t h => nomatch h), (fun i h => by simp at h)⟩
  unfold tokensL
  split
  · exact hn
  · split
    · exact hn
    · split
      · rename_i h
        have hp := toksL_place h
        refine (toks_right _ (l := l) ?_).1
        generalize toksL l = R at *
        obtain ⟨r1, r2, r3⟩ := R
        simp only at h hp
        rw [h, hp]
      · exact hn
theorem nul_app (a b : List UInt8) (ha : ¬ 0 ≤ Lib.indexByte a 0) (hb : ¬ 0 ≤ Lib.indexByte b 0) : ¬ 0 ≤ Lib.indexByte (a ++ b) 0 := by
  refine no_nul ?_
  rw [nz_app]
  have key : ∀ l : List UInt8, ¬ 0 ≤ Lib.indexByte l 0 → nz l = true := fun l h => by
    have hge := Lib.indexByte_ge l 0
    have hno := Lib.indexByte_none (l := l) (c := 0) (by omega)
    unfold nz
    rw [List.all_eq_true]
    intro x hx
    rw [bne_iff_ne]
    intro e
    subst e
    obtain ⟨k, hk⟩ := List.mem_iff_getElem?.1 hx
    exact hno k hk
  rw [key a ha, key b hb]
  rfl
theorem toksL_rem : ∀ (n : Nat) (l : List UInt8), l.length ≤ n → (toksL l).2.1 ≤ l.length
  | 0, l, h => by
    have : l = [] := List.eq_nil_of_length_eq_zero (by omega)
    subst this
    exact Nat.le_refl _
  | n + 1, l, h => by
    by_cases hl : l = []
    · subst hl; exact Nat.le_refl _
    · have hc := oneL_cases l hl
      rw [toksL_step l hl]
      split
      · rename_i h1
        split
        · exact Nat.zero_le _
        · have := toksL_rem n (oneL l).2.2 (by omega)
          show (toksL (oneL l).2.2).2.1 ≤ l.length
          omega
      · exact Nat.le_refl _
theorem toksL_codes : ∀ (n : Nat) (l : List UInt8), l.length ≤ n → (toksL l).1 ≠ 42
  | 0, l, h => by
    have : l = [] := List.eq_nil_of_length_eq_zero (by omega)
    subst this
    decide
  | n + 1, l, h => by
    by_cases hl : l = []
    · subst hl; decide
    · have hc := oneL_cases l hl
      rw [toksL_step l hl]
      split
      · rename_i h1
        split
        · show (0 : Nat) ≠ 42
          omega
        · have := toksL_codes n (oneL l).2.2 (by omega)
          exact this
      · omega
/-- The whole of what the law about parts asks. -/
theorem tokensL_app {a b : List UInt8} (ha : a.length ≤ 2000) (hb : b.length ≤ 2000) (h0 : (tokensL a).1 = 0) (hne : (tokensL a).2.2 ≠ []) (hlast : ∀ t, (tokensL a).2.2.getLast? = some t → t.kind ≠ 3) (h42 : (tokensL b).1 ≠ 42) :
    tokensL (a ++ b) = if (tokensL b).1 = 0 then (0, 0, (tokensL a).2.2 ++ (tokensL b).2.2) else ((tokensL b).1, (tokensL b).2.1 + a.length, []) := by
  have hza : ¬ 0 ≤ Lib.indexByte a 0 := by
    intro h
    unfold tokensL at h0
    rw [if_neg (by omega), if_pos h] at h0
    cases h0
  have hzb : ¬ 0 ≤ Lib.indexByte b 0 := by
    intro h
    unfold tokensL at h42
    rw [if_neg (by omega), if_pos h] at h42
    exact h42 rfl
  have eA : tokensL a = if (toksL a).1 = 0 then (0, 0, (toksL a).2.2) else ((toksL a).1, a.length - (toksL a).2.1, []) := by unfold tokensL; rw [if_neg (by omega), if_neg hza]
  have eB : tokensL b = if (toksL b).1 = 0 then (0, 0, (toksL b).2.2) else ((toksL b).1, b.length - (toksL b).2.1, []) := by unfold tokensL; rw [if_neg (by omega), if_neg hzb]
  have eC : tokensL (a ++ b) = if (toksL (a ++ b)).1 = 0 then (0, 0, (toksL (a ++ b)).2.2) else ((toksL (a ++ b)).1, (a ++ b).length - (toksL (a ++ b)).2.1, []) := by
    unfold tokensL
    rw [if_neg (by rw [List.length_append]; omega), if_neg (nul_app a b hza hzb)]
  have hA0 : (toksL a).1 = 0 := by
    rw [eA] at h0
    split at h0
    · assumption
    · exact h0
  rw [eA, if_pos hA0] at hne hlast ⊢
  have hA : toksL a = (0, 0, (toksL a).2.2) := by
    have hp := toksL_place hA0
    generalize toksL a = R at *
    obtain ⟨r1, r2, r3⟩ := R
    simp only at hA0 hp
    rw [hA0, hp]
  have happ := toks_app (b := b) _ hA hlast hne
  rw [eC, happ, eB]
  have hrem := toksL_rem b.length b (Nat.le_refl _)
  by_cases hb0 : (toksL b).1 = 0
  · rw [if_pos hb0, if_pos hb0, if_pos rfl, if_pos rfl]
  · rw [if_neg hb0, if_neg hb0, if_neg hb0, if_neg hb0]
    simp only
    rw [List.length_append, show a.length + b.length - (toksL b).2.1 = b.length - (toksL b).2.1 + a.length by omega]
end Go.Proofs.YtnlbhifpmoemdaaDoor
