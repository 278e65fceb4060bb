/-
  How many tokens, how long their names, their data, their attributes: plain. No Go in sight; no condition.
-/
import Derived.Test.YtfjhljhgmbhklaaGreatDoorTRight
namespace Go.Proofs.YtfjhljhgmbhklaaGreatDoor
theorem tag_name {k : Nat} {l r : List UInt8} {t : Tk} (h : tagL k l = (0, t, r)) : t.name.length ≤ l.length := by
  unfold tagL at h
  split at h
  · injection h with h _; cases h
  · split at h
    · injection h with _ h
      injection h with h1 _
      subst h1
      show (smL (upL l _)).length ≤ _
      unfold smL
      rw [List.length_map]
      exact up_le l _
    · injection h with h _; cases h
theorem one_name {l r : List UInt8} {t : Tk} (h : oneL l = (0, t, r)) : t.name.length ≤ l.length := by
  have hd : ∀ n, (l.drop n).length ≤ l.length := fun n => by rw [List.length_drop]; omega
  unfold oneL at h
  split at h
  · injection h with _ h; injection h with h1 _; subst h1; exact Nat.zero_le _
  · split at h
    · exact Nat.le_trans (tag_name h) (hd 1)
    · split at h
      · unfold endL at h
        split at h
        · injection h with h _; cases h
        · split at h
          · injection h with h _; cases h
          · exact Nat.le_trans (tag_name h) (hd 2)
      · split at h
        · unfold comL at h
          split at h
          · injection h with h _; cases h
          · injection h with _ h; injection h with h1 _; subst h1; exact Nat.zero_le _
        · split at h
          · unfold docL at h
            split at h
            · injection h with _ h; injection h with h1 _; subst h1; exact Nat.zero_le _
            · injection h with h _; cases h
          · injection h with h _; cases h
theorem toks_size : ∀ (ts : List Tk) {l : List UInt8}, toksL l = (0, 0, ts) → ts.length ≤ l.length ∧ ∀ t ∈ ts, t.name.length ≤ l.length
  | [], _, _ => ⟨Nat.zero_le _, fun t h => nomatch h⟩
  | t :: ts, l, h => by
    have hl : l ≠ [] := by
      intro e
      rw [e, toksL_nil] at h
      injection h with _ h; injection h with _ h; cases h
    rw [toksL_step l hl] at h
    split at h
    · rename_i h1
      split at h
      · rename_i h2
        injection h with _ h
        injection h with _ h
        injection h with h3 h4
        have hone : oneL l = (0, t, (oneL l).2.2) := by rw [← h3, ← h1]
        have hr : toksL (oneL l).2.2 = (0, 0, ts) := by
          have h5 : (toksL (oneL l).2.2).2.1 = 0 := toksL_place h2
          generalize toksL (oneL l).2.2 = R at *
          obtain ⟨r1, r2, r3⟩ := R
          simp only at h2 h4 h5
          rw [h2, h4, h5]
        have hlt : (oneL l).2.2.length < l.length := by
          rcases oneL_cases l hl with ⟨_, h⟩ | h | h | h | h
          · exact h
          all_goals omega
        obtain ⟨d, e⟩ := toks_size ts hr
        refine ⟨by rw [List.length_cons]; omega, fun u hu => ?_⟩
        rcases List.mem_cons.1 hu with rfl | hu
        · exact one_name hone
        · have := e u hu; omega
      · rename_i h2
        injection h with h _
        exact absurd h h2
    · rename_i h1
      injection h with h _
      exact absurd h h1
theorem tokensL_size (l : List UInt8) : (tokensL l).2.2.length ≤ 65536 ∧ ∀ t ∈ (tokensL l).2.2, t.name.length ≤ 65536 := by
  have hn : ([] : List Tk).length ≤ 65536 ∧ ∀ t ∈ ([] : List Tk), t.name.length ≤ 65536 := ⟨by simp, fun t h => nomatch h⟩
  unfold tokensL
  split
  · exact hn
  · rename_i hl
    split
    · exact hn
    · split
      · rename_i h
        have hp := toksL_place h
        have := toks_size (toksL l).2.2 (l := l) (by
          generalize toksL l = R at *
          obtain ⟨r1, r2, r3⟩ := R
          simp only at h hp
          rw [h, hp])
        exact ⟨Nat.le_trans this.1 (by omega), fun t ht => Nat.le_trans (this.2 t ht) (by omega)⟩
      · exact hn
theorem trimS_len (l s : List UInt8) : (Lib.trimS l s).length ≤ l.length := by
  unfold Lib.trimS Lib.trimLeftS Lib.trimRightS
  have h1 := (List.dropWhile_suffix (l := l.reverse) (s.contains ·)).length_le
  have h2 := (List.dropWhile_suffix (l := (l.reverse.dropWhile (s.contains ·)).reverse) (s.contains ·)).length_le
  rw [List.length_reverse] at h1
  rw [List.length_reverse] at h2
  exact Nat.le_trans h2 h1
theorem value_len {l v r : List UInt8} (h : valueL l = some (v, r)) : v.length ≤ l.length := by have := valueL_le h; omega
theorem attr_len {l r : List UInt8} {a : List UInt8 × List UInt8} (h : attrL l = some (a, r)) : a.1.length ≤ l.length ∧ a.2.length ≤ 4 * l.length ∧ r.length ≤ l.length := by
  have hr := attrL_le h
  unfold attrL at h
  have u1 := up_le l [9, 10, 12, 32, 61, 47, 62]
  have d1 := down_le l [9, 10, 12, 32, 61, 47, 62]
  have s1 := sk_le (downL l [9, 10, 12, 32, 61, 47, 62])
  have s2 := sk_le ((skB (downL l [9, 10, 12, 32, 61, 47, 62])).drop 1)
  simp only [List.length_drop] at s2
  split at h
  · cases h
  · split at h
    · split at h
      · cases h
      · rename_i v r' hv
        have hvl := value_len hv
        have hd := decL_len true v.length v (Nat.le_refl _)
        injection h with h; injection h with ha hb
        rw [← ha]
        refine ⟨?_, ?_, by omega⟩
        · show (smL _).length ≤ _
          unfold smL
          rw [List.length_map]
          exact u1
        · show (decL v true).length ≤ _
          omega
    · injection h with h; injection h with ha hb
      rw [← ha]
      refine ⟨?_, Nat.zero_le _, by omega⟩
      show (smL _).length ≤ _
      unfold smL
      rw [List.length_map]
      exact u1
theorem attrs_len (M : Nat) : ∀ (n : Nat) {l : List UInt8} {al al' : List (List UInt8 × List UInt8)} {sf : Bool} {r : List UInt8}, l.length ≤ M → attrsF n l al = (0, al', sf, r) → (∀ a ∈ al, a.1.length ≤ 4 * M ∧ a.2.length ≤ 4 * M) → ∀ a ∈ al', a.1.length ≤ 4 * M ∧ a.2.length ≤ 4 * M
  | 0, _, _, _, _, _, _, h, _ => by cases h
  | n + 1, l, al, al', sf, r, hM, h, hd => by
    unfold attrsF at h
    have s1 := sk_le l
    split at h
    · injection h with _ h; injection h with h2 _
      subst h2
      exact hd
    · split at h
      · injection h with _ h; injection h with h2 _
        subst h2
        exact hd
      · split at h
        · injection h with h _; cases h
        · cases ha : attrL (skB l) with
          | none => rw [ha] at h; injection h with h _; cases h
          | some p =>
            obtain ⟨a, r'⟩ := p
            rw [ha] at h
            simp only at h
            have hl := attr_len ha
            split at h
            · injection h with h _; cases h
            · refine attrs_len M n (by omega) h (fun b hb => ?_)
              rw [List.mem_append, List.mem_singleton] at hb
              rcases hb with hb | rfl
              · exact hd b hb
              · omega
theorem tag_len {k : Nat} {l r : List UInt8} {t : Tk} (h : tagL k l = (0, t, r)) : t.data = [] ∧ ∀ a ∈ t.attrs, a.1.length ≤ 4 * l.length ∧ a.2.length ≤ 4 * l.length := by
  unfold tagL at h
  have hd := down_le l [9, 10, 12, 32, 47, 62]
  split at h
  · injection h with h _; cases h
  · cases ha : attrsF 17 (downL l [9, 10, 12, 32, 47, 62]) [] with
    | mk e q =>
      obtain ⟨al, sf, r'⟩ := q
      rw [ha] at h
      cases e with
      | succ e => injection h with h _; cases h
      | zero =>
        injection h with _ h
        injection h with h1 h2
        subst h1
        exact ⟨rfl, attrs_len l.length 17 hd ha (fun a ha => nomatch ha)⟩
theorem one_len {l r : List UInt8} {t : Tk} (hl : l ≠ []) (h : oneL l = (0, t, r)) : t.data.length + 4 * r.length ≤ 4 * l.length ∧ ∀ a ∈ t.attrs, a.1.length ≤ 4 * l.length ∧ a.2.length ≤ 4 * l.length := by
  have hd : ∀ n, (l.drop n).length ≤ l.length := fun n => by rw [List.length_drop]; omega
  have hc := oneL_cases l hl
  rw [h] at hc
  have hlt : r.length < l.length := by
    rcases hc with ⟨_, h⟩ | h | h | h | h
    · exact h
    all_goals (simp only at h; omega)
  unfold oneL at h
  split at h
  · injection h with _ h; injection h with h1 h2; subst h1 h2
    refine ⟨?_, fun a ha => nomatch ha⟩
    have h3 := decL_len false _ (l.take (textN (l.drop 1) + 1)) (Nat.le_refl _)
    show (decL _ false).length + _ ≤ _
    rw [List.length_drop] at hlt ⊢
    rw [List.length_take] at h3
    omega
  · split at h
    · obtain ⟨a, b⟩ := tag_len h
      rw [a]
      refine ⟨by simp; omega, fun x hx => ?_⟩
      have := b x hx
      have := hd 1
      omega
    · split at h
      · have he : tagL 2 (l.drop 2) = (0, t, r) := by
          unfold endL at h
          split at h
          · injection h with h _; cases h
          · split at h
            · injection h with h _; cases h
            · exact h
        obtain ⟨a, b⟩ := tag_len he
        rw [a]
        refine ⟨by simp; omega, fun x hx => ?_⟩
        have := b x hx
        have := hd 2
        omega
      · split at h
        · unfold comL at h
          split at h
          · injection h with h _; cases h
          · rename_i hcc
            injection h with _ h; injection h with h1 h2; subst h1 h2
            refine ⟨?_, fun a ha => nomatch ha⟩
            show (Lib.cut (l.drop 4) [45, 45, 62]).1.length + _ ≤ _
            have hcut : (Lib.cut (l.drop 4) [45, 45, 62]).1.length + (Lib.cut (l.drop 4) [45, 45, 62]).2.1.length ≤ (l.drop 4).length := by
              unfold Lib.cut
              split
              · simp only [List.length_take, List.length_drop]; omega
              · simp
            have := hd 4
            omega
        · split at h
          · unfold docL at h
            split at h
            · injection h with _ h; injection h with h1 h2; subst h1 h2
              refine ⟨?_, fun a ha => nomatch ha⟩
              show (Lib.trimS (Lib.cut (l.drop 9) [62]).1 blanksL).length + _ ≤ _
              have ht := trimS_len (Lib.cut (l.drop 9) [62]).1 blanksL
              have hcut : (Lib.cut (l.drop 9) [62]).1.length + (Lib.cut (l.drop 9) [62]).2.1.length ≤ (l.drop 9).length := by
                unfold Lib.cut
                split
                · simp only [List.length_take, List.length_drop]; omega
                · simp
              have := hd 9
              omega
            · injection h with h _; cases h
          · injection h with h _; cases h
def sumTk (l : List Tk) : Nat := (l.map fun t => t.data.length).sum
theorem toks_len : ∀ (ts : List Tk) {l : List UInt8}, toksL l = (0, 0, ts) → sumTk ts ≤ 4 * l.length ∧ ∀ t ∈ ts, ∀ a ∈ t.attrs, a.1.length ≤ 4 * l.length ∧ a.2.length ≤ 4 * l.length
  | [], _, _ => ⟨Nat.zero_le _, fun t h => nomatch h⟩
  | t :: ts, l, h => by
    have hl : l ≠ [] := by
      intro e
      rw [e, toksL_nil] at h
      injection h with _ h; injection h with _ h; cases h
    rw [toksL_step l hl] at h
    split at h
    · rename_i h1
      split at h
      · rename_i h2
        injection h with _ h
        injection h with _ h
        injection h with h3 h4
        have hone : oneL l = (0, t, (oneL l).2.2) := by rw [← h3, ← h1]
        have hr : toksL (oneL l).2.2 = (0, 0, ts) := by
          have h5 : (toksL (oneL l).2.2).2.1 = 0 := toksL_place h2
          generalize toksL (oneL l).2.2 = R at *
          obtain ⟨r1, r2, r3⟩ := R
          simp only at h2 h4 h5
          rw [h2, h4, h5]
        obtain ⟨a, b⟩ := one_len hl hone
        obtain ⟨d, e⟩ := toks_len ts hr
        refine ⟨?_, fun u hu => ?_⟩
        · unfold sumTk at d ⊢
          rw [List.map_cons, List.sum_cons]
          omega
        · rcases List.mem_cons.1 hu with rfl | hu
          · exact b
          · intro x hx
            have := e u hu x hx
            omega
      · rename_i h2
        injection h with h _
        exact absurd h h2
    · rename_i h1
      injection h with h _
      exact absurd h h1
theorem tokensL_len (l : List UInt8) : sumTk (tokensL l).2.2 ≤ 262144 ∧ ∀ t ∈ (tokensL l).2.2, ∀ a ∈ t.attrs, a.1.length ≤ 262144 ∧ a.2.length ≤ 262144 := by
  have hn : sumTk [] ≤ 262144 ∧ ∀ t ∈ ([] : List Tk), ∀ a ∈ t.attrs, a.1.length ≤ 262144 ∧ a.2.length ≤ 262144 := ⟨by decide, fun t h => nomatch h⟩
  unfold tokensL
  split
  · exact hn
  · rename_i hl
    split
    · exact hn
    · split
      · rename_i h
        have hp := toksL_place h
        obtain ⟨a, b⟩ := toks_len (toksL l).2.2 (l := l) (by
          generalize toksL l = R at *
          obtain ⟨r1, r2, r3⟩ := R
          simp only at h hp
          rw [h, hp])
        exact ⟨Nat.le_trans a (by omega), fun t ht x hx => by have := b t ht x hx; omega⟩
      · exact hn
end Go.Proofs.YtfjhljhgmbhklaaGreatDoor
