/-
  The reference tokenizer's ways, plain: what they tell, by the program's words. No Go in sight.
-/
import Derived.Test.YtakakaenlfilmaaGreatDoorTPlain
import Derived.Lib.IndexMore
import Derived.Lib.IndexBytes
namespace Go.Proofs.YtakakaenlfilmaaGreatDoor
/-- Where a word is from a place on; -1: nowhere. -/
def findZ (l : List UInt8) (i : Nat) (p : List UInt8) : Int := if Lib.index (l.drop i) p = -1 then -1 else Lib.index (l.drop i) p + i
theorem occ_drop (l p : List UInt8) (i j : Nat) : Lib.occAt (l.drop i) p j = Lib.hasPrefix (l.drop (i + j)) p := by
  unfold Lib.occAt Lib.hasPrefix
  rw [List.drop_drop]
theorem findZ_hit {l p : List UInt8} {i k : Nat} (h : Lib.NoOcc (l.drop i) p k) (hk : i + k ≤ l.length) (ho : Lib.hasPrefix (l.drop (i + k)) p = true) : findZ l i p = ((i + k : Nat) : Int) := by
  have := Lib.index_hit h (by rw [List.length_drop]; omega) (by rw [occ_drop]; exact ho)
  unfold findZ
  rw [this, if_neg (by omega)]
  omega
theorem findZ_none {l p : List UInt8} {i k : Nat} (hp : p ≠ []) (h : Lib.NoOcc (l.drop i) p k) (hi : i ≤ l.length) (hk : l.length < i + k + p.length) : findZ l i p = -1 := by
  have := Lib.index_past hp h (by rw [List.length_drop]; omega)
  unfold findZ
  rw [if_pos this]
theorem findZ_zero (l : List UInt8) (p : List UInt8) : findZ l 0 p = Lib.index l p := by
  unfold findZ
  rw [List.drop_zero]
  have := Lib.index_ge l p
  split <;> omega
theorem findZ_cases (l : List UInt8) (i : Nat) (p : List UInt8) (hi : i ≤ l.length) : (findZ l i p = -1 ∧ Lib.index (l.drop i) p = -1) ∨ ∃ j : Nat, Lib.index (l.drop i) p = j ∧ findZ l i p = ((i + j : Nat) : Int) ∧ i + j + p.length ≤ l.length := by
  have hg := Lib.index_ge (l.drop i) p
  by_cases h : Lib.index (l.drop i) p = -1
  · exact .inl ⟨by unfold findZ; rw [if_pos h], h⟩
  · refine .inr ⟨(Lib.index (l.drop i) p).toNat, by omega, ?_, ?_⟩
    · unfold findZ; rw [if_neg h]; omega
    · have := Lib.index_room (l.drop i) p (by omega)
      rw [List.length_drop] at this
      omega
def blB (c : UInt8) : Bool := decide (c.toNat = 9) || decide (c.toNat = 10) || decide (c.toNat = 12) || decide (c.toNat = 32)
theorem blB_iff (c : UInt8) : blanksL.contains c = blB c := by
  have : ∀ n : Fin 256, blanksL.contains (UInt8.ofNat n.val) = blB (UInt8.ofNat n.val) := by decide +kernel
  have h := this ⟨c.toNat, UInt8.toNat_lt c⟩
  simpa using h
/-- The place behind blanks. -/
def skipN (l : List UInt8) (i : Nat) : Nat := i + ((l.drop i).takeWhile fun c => blanksL.contains c).length
theorem take_drop_while {α : Type} (p : α → Bool) (l : List α) : l.drop (l.takeWhile p).length = l.dropWhile p := by
  induction l with
  | nil => rfl
  | cons a t ih =>
    rw [List.takeWhile_cons, List.dropWhile_cons]
    cases p a with
    | true => simpa using ih
    | false => simp
theorem take_take_while {α : Type} (p : α → Bool) (l : List α) : l.take (l.takeWhile p).length = l.takeWhile p := by
  induction l with
  | nil => rfl
  | cons a t ih =>
    rw [List.takeWhile_cons]
    cases p a with
    | true => simpa using ih
    | false => simp
theorem skipN_drop (l : List UInt8) (i : Nat) : l.drop (skipN l i) = skB (l.drop i) := by
  unfold skipN
  rw [← List.drop_drop, take_drop_while]
  rfl
theorem skipN_le (l : List UInt8) (i : Nat) (hi : i ≤ l.length) : i ≤ skipN l i ∧ skipN l i ≤ l.length := by
  unfold skipN
  have := (List.takeWhile_prefix (l := l.drop i) (fun c => blanksL.contains c)).length_le
  rw [List.length_drop] at this
  omega
theorem skipN_step (l : List UInt8) (i : Nat) (hi : i < l.length) (h : blanksL.contains (l.getD i 0) = true) : skipN l i = skipN l (i + 1) := by
  unfold skipN
  rw [List.drop_eq_getElem_cons hi]
  have e : l.getD i 0 = l[i] := by simp [List.getD, hi]
  rw [e] at h
  rw [List.takeWhile_cons, h]
  simp
  omega
theorem skipN_stop (l : List UInt8) (i : Nat) (h : i < l.length → blanksL.contains (l.getD i 0) = false) : skipN l i = i := by
  unfold skipN
  by_cases hi : i < l.length
  · have h := h hi
    rw [List.drop_eq_getElem_cons hi]
    have e : l.getD i 0 = l[i] := by simp [List.getD, hi]
    rw [e] at h
    rw [List.takeWhile_cons, h]
    simp
  · rw [List.drop_eq_nil_of_le (by omega)]
    rfl
/-- The place of the first stop from a place on. -/
def wordN (l : List UInt8) (i : Nat) (st : List UInt8) : Nat := i + (upL (l.drop i) st).length
theorem wordN_drop (l : List UInt8) (i : Nat) (st : List UInt8) : l.drop (wordN l i st) = downL (l.drop i) st := by
  unfold wordN upL downL
  rw [← List.drop_drop, take_drop_while]
theorem wordN_take (l : List UInt8) (i : Nat) (st : List UInt8) : (l.drop i).take (wordN l i st - i) = upL (l.drop i) st := by
  unfold wordN upL
  rw [Nat.add_sub_cancel_left, take_take_while]
theorem wordN_le (l : List UInt8) (i : Nat) (st : List UInt8) (hi : i ≤ l.length) : i ≤ wordN l i st ∧ wordN l i st ≤ l.length := by
  unfold wordN
  have := up_le (l.drop i) st
  rw [List.length_drop] at this
  omega
theorem wordN_step (l : List UInt8) (i : Nat) (st : List UInt8) (hi : i < l.length) (h : st.contains (l.getD i 0) = false) : wordN l i st = wordN l (i + 1) st := by
  unfold wordN upL
  rw [List.drop_eq_getElem_cons hi]
  have e : l.getD i 0 = l[i] := by simp [List.getD, hi]
  rw [e] at h
  rw [List.takeWhile_cons, h]
  simp
  omega
theorem wordN_stop (l : List UInt8) (i : Nat) (st : List UInt8) (h : i < l.length → st.contains (l.getD i 0) = true) : wordN l i st = i := by
  unfold wordN upL
  by_cases hi : i < l.length
  · have h := h hi
    rw [List.drop_eq_getElem_cons hi]
    have e : l.getD i 0 = l[i] := by simp [List.getD, hi]
    rw [e] at h
    rw [List.takeWhile_cons, h]
    simp
  · rw [List.drop_eq_nil_of_le (by omega)]
    rfl
theorem index_in (st : List UInt8) (c : UInt8) : decide (Lib.index st [c] < 0) = !st.contains c := by
  rw [Lib.index_one, Lib.contains_iff_indexByte]
  by_cases h : Lib.indexByte st c < 0
  · rw [decide_eq_true h, decide_eq_false (by omega)]; rfl
  · rw [decide_eq_false h, decide_eq_true (by omega)]; rfl
/-- Up to a byte. -/
theorem up_one (m : List UInt8) (c : UInt8) : (Lib.index m [c] = -1 ∧ Lib.hasPrefix (downL m [c]) [c] = false) ∨ ∃ j : Nat, Lib.index m [c] = j ∧ j < m.length ∧ upL m [c] = m.take j ∧ downL m [c] = m.drop j ∧ Lib.hasPrefix (downL m [c]) [c] = true := by
  rw [Lib.index_one, ← Lib.indexAny_one]
  induction m with
  | nil => exact .inl ⟨rfl, rfl⟩
  | cons b t ih =>
    unfold Lib.indexAny
    by_cases hb : b = c
    · subst hb
      refine .inr ⟨0, by simp, by simp, ?_, ?_, ?_⟩
      · unfold upL; rw [List.takeWhile_cons]; simp
      · unfold downL; rw [List.dropWhile_cons]; simp
      · unfold downL; rw [List.dropWhile_cons]; simp [Lib.hasPrefix, List.isPrefixOf]
    · have hc : ([c] : List UInt8).contains b = false := by simp [hb]
      have e1 : upL (b :: t) [c] = b :: upL t [c] := by unfold upL; rw [List.takeWhile_cons, hc]; rfl
      have e2 : downL (b :: t) [c] = downL t [c] := by unfold downL; rw [List.dropWhile_cons, hc]; rfl
      rw [hc, e1, e2]
      simp only [Bool.false_eq_true, if_false]
      rcases ih with ⟨h1, h2⟩ | ⟨j, h1, h2, h3, h4, h5⟩
      · exact .inl ⟨by rw [h1]; rfl, h2⟩
      · refine .inr ⟨j + 1, ?_, by simp; omega, by rw [h3]; rfl, by rw [h4]; rfl, h5⟩
        rw [h1, if_neg (by simp)]
        omega
end Go.Proofs.YtakakaenlfilmaaGreatDoor
/-
  The reference tokenizer's comment, doctype and attribute, plain: they come to the program's. No Go in sight.
-/
namespace Go.Proofs.YtakakaenlfilmaaGreatDoor
theorem occ_head {l p : List UInt8} {j : Nat} (h : Lib.index l p = j) : Lib.hasPrefix (l.drop j) p = true := by
  rcases Lib.index_spec l p with ⟨h1, _⟩ | ⟨i, h1, _, h2, _⟩
  · omega
  · obtain rfl : i = j := by omega
    exact h2
theorem com_cut_no {l p : List UInt8} (h : Lib.index l p = -1) : Lib.cut l p = (l, [], false) := by unfold Lib.cut; rw [h]; rfl
theorem com_cut {l p : List UInt8} {j : Nat} (h : Lib.index l p = j) : Lib.cut l p = (l.take j, l.drop (j + p.length), true) := by
  unfold Lib.cut
  rw [h, if_pos (by omega)]
  rfl
theorem com_pre1 {l : List UInt8} {j : Nat} (h : Lib.index l [45, 45, 62] = j) : Lib.hasPrefix (l.take j) [62] = Lib.hasPrefix l [62] := by
  have ho := occ_head h
  match j, l, h, ho with
  | 0, [], _, ho => simp [Lib.hasPrefix] at ho
  | 0, c :: t, _, ho =>
    simp [Lib.hasPrefix, List.isPrefixOf] at ho ⊢
    rw [← ho.1]; decide
  | j + 1, [], _, _ => rfl
  | j + 1, c :: t, _, _ => simp [Lib.hasPrefix, List.isPrefixOf]
theorem com_pre2 {l : List UInt8} {j : Nat} (h : Lib.index l [45, 45, 62] = j) : Lib.hasPrefix (l.take j) [45, 62] = Lib.hasPrefix l [45, 62] := by
  have ho := occ_head h
  match j, l, h, ho with
  | 0, [], _, ho => simp [Lib.hasPrefix] at ho
  | 0, [c], _, ho => simp [Lib.hasPrefix, List.isPrefixOf] at ho
  | 0, c :: d :: t, _, ho =>
    simp [Lib.hasPrefix, List.isPrefixOf] at ho ⊢
    rw [← ho.2.1]; intro; decide
  | 1, [], _, ho => simp [Lib.hasPrefix] at ho
  | 1, [c], _, ho => simp [Lib.hasPrefix] at ho
  | 1, c :: d :: t, _, ho =>
    simp [Lib.hasPrefix, List.isPrefixOf] at ho ⊢
    rw [← ho.1]; intro; decide
  | j + 2, [], _, _ => rfl
  | j + 2, [c], _, _ => simp [Lib.hasPrefix, List.isPrefixOf]
  | j + 2, c :: d :: t, _, _ => simp [Lib.hasPrefix, List.isPrefixOf]
theorem suf_three (d p : List UInt8) (hp : p.length = 3) : Lib.hasSuffix d p = (decide (3 ≤ d.length) && (d.drop (d.length - 3) == p)) := by
  unfold Lib.hasSuffix
  rw [Bool.eq_iff_iff, List.isSuffixOf_iff_suffix, List.suffix_iff_eq_drop, hp]
  simp only [Bool.and_eq_true, decide_eq_true_eq, beq_iff_eq]
  constructor
  · intro h
    refine ⟨?_, h.symm⟩
    have := congrArg List.length h
    rw [hp, List.length_drop] at this
    omega
  · rintro ⟨_, h⟩
    exact h.symm
theorem comL_no {l : List UInt8} (h : Lib.index l [45, 45, 62] = -1) : comL l = (43, .none, []) := by
  unfold comL
  rw [com_cut_no h]
  rfl
theorem comL_at {l : List UInt8} {j : Nat} (h : Lib.index l [45, 45, 62] = j) : comL l =
    if Lib.hasPrefix l [62] || Lib.hasPrefix l [45, 62] || Lib.contains (l.take j) [45, 45, 33, 62] || Lib.contains (l.take j) [60, 33, 45, 45] || Lib.hasSuffix (l.take j) [60, 33, 45] then (43, .none, [])
    else (0, ⟨4, [], [], false, l.take j⟩, l.drop (j + 3)) := by
  unfold comL
  rw [com_cut h]
  unfold comData
  rw [com_pre1 h, com_pre2 h]
  simp only [Bool.not_true, Bool.false_or, Bool.not_and, Bool.not_not]
  rfl
/-- How many bytes are left of the first j, blanks at the end but for the first n left away. -/
def backN (l : List UInt8) (n : Nat) : Nat → Nat
  | 0 => 0
  | j + 1 => if n ≤ j ∧ blanksL.contains (l.getD j 0) = true then backN l n j else j + 1
theorem backN_le (l : List UInt8) (n : Nat) : ∀ j, backN l n j ≤ j
  | 0 => Nat.le_refl _
  | j + 1 => by
    unfold backN
    split
    · have := backN_le l n j; omega
    · exact Nat.le_refl _
theorem backN_ge (l : List UInt8) (n : Nat) : ∀ j, n ≤ j → n ≤ backN l n j
  | 0, h => h
  | j + 1, h => by
    unfold backN
    split
    · rename_i h1; exact backN_ge l n j h1.1
    · exact h
theorem backN_blank (l : List UInt8) (n : Nat) : ∀ j k, backN l n j ≤ k → k < j → blanksL.contains (l.getD k 0) = true
  | 0, k, _, h => by omega
  | j + 1, k, h1, h2 => by
    unfold backN at h1
    split at h1
    · rename_i h
      by_cases e : k = j
      · subst e; exact h.2
      · exact backN_blank l n j k h1 (by omega)
    · omega
theorem backN_stop (l : List UInt8) (n : Nat) : ∀ j, n < backN l n j → blanksL.contains (l.getD (backN l n j - 1) 0) = false
  | 0, h => by simp [backN] at h
  | j + 1, h => by
    by_cases hc : n ≤ j ∧ blanksL.contains (l.getD j 0) = true
    · have e : backN l n (j + 1) = backN l n j := by
        conv => lhs; unfold backN
        rw [if_pos hc]
      rw [e] at h ⊢
      exact backN_stop l n j h
    · have e : backN l n (j + 1) = j + 1 := by
        conv => lhs; unfold backN
        rw [if_neg hc]
      rw [e] at h ⊢
      rw [Nat.add_sub_cancel]
      cases hb : blanksL.contains (l.getD j 0) with
      | false => rfl
      | true => exact absurd ⟨by omega, hb⟩ hc
theorem getD_of {l : List UInt8} {k : Nat} {b : UInt8} (h : l[k]? = some b) : l.getD k 0 = b := by rw [List.getD_eq_getElem?_getD, h]; rfl
/-- A text up to j, trimmed: what lies between the leading and the trailing blanks. -/
theorem trim_between (m : List UInt8) (j : Nat) (hj : j ≤ m.length) (hn : skipN m 0 ≤ j) : Lib.trimS (m.take j) blanksL = (m.take (backN m (skipN m 0) j)).drop (skipN m 0) := by
  obtain ⟨n, hn'⟩ : ∃ n, n = skipN m 0 := ⟨_, rfl⟩
  obtain ⟨t, ht⟩ : ∃ t, t = backN m n j := ⟨_, rfl⟩
  rw [← hn'] at hn ⊢
  rw [← ht]
  have h1 := backN_le m n j
  have h2 := backN_ge m n j hn
  have hbl := backN_blank m n j
  have hst := backN_stop m n j
  rw [← ht] at h1 h2 hbl hst
  have hlead : ∀ (k : Nat) b, k < n → m[k]? = some b → blanksL.contains b = true := by
    intro k b hk hb
    rw [hn'] at hk
    unfold skipN at hk
    rw [Nat.zero_add, List.drop_zero] at hk
    have hm : b ∈ m.takeWhile fun c => blanksL.contains c := by
      rw [List.mem_iff_getElem?]
      refine ⟨k, ?_⟩
      rw [← take_take_while, List.getElem?_take, if_pos hk]
      exact hb
    exact (List.all_eq_true.1 (List.all_takeWhile (p := fun c => blanksL.contains c) (l := m))) b hm
  have hnot : ∀ b, m[n]? = some b → blanksL.contains b = false := by
    intro b hb
    have hd := skipN_drop m 0
    rw [← hn', List.drop_zero] at hd
    unfold skB Lib.trimLeftS at hd
    have hb0 : (m.drop n)[0]? = some b := by rw [List.getElem?_drop]; exact hb
    rw [hd] at hb0
    cases hc : blanksL.contains b with
    | false => rfl
    | true =>
      exfalso
      have := List.head?_dropWhile_not (fun c => blanksL.contains c) m
      rw [List.head?_eq_getElem?, hb0] at this
      have h2 : blanksL.contains b = false := this
      rw [hc] at h2
      cases h2
  unfold Lib.trimS
  by_cases hnt : n < t
  · have hR : Lib.trimRightS (m.take j) blanksL = m.take t := by
      rw [Lib.trimRightS_take (m.take j) blanksL t (by rw [List.length_take]; omega) ?_ ?_]
      · rw [List.take_take, Nat.min_eq_left h1]
      · intro k b hk hb
        rw [List.getElem?_take] at hb
        split at hb
        · rename_i hkj
          have := hbl k hk hkj
          rw [getD_of hb] at this
          exact this
        · cases hb
      · intro b _ hb
        rw [List.getElem?_take] at hb
        split at hb
        · have := hst hnt
          rw [getD_of hb] at this
          exact this
        · cases hb
    rw [hR]
    rw [Lib.trimLeftS_drop (m.take t) blanksL n (by rw [List.length_take]; omega) ?_ ?_]
    · intro k b hk hb
      rw [List.getElem?_take, if_pos (by omega)] at hb
      exact hlead k b hk hb
    · intro b hb
      rw [List.getElem?_take, if_pos hnt] at hb
      exact hnot b hb
  · obtain rfl : n = t := by omega
    have hR : Lib.trimRightS (m.take j) blanksL = [] := by
      rw [Lib.trimRightS_take (m.take j) blanksL 0 (Nat.zero_le _) ?_ (fun b h => by omega)]
      · rfl
      · intro k b _ hb
        rw [List.getElem?_take] at hb
        split at hb
        · rename_i hkj
          by_cases hkn : k < n
          · exact hlead k b hkn hb
          · have := hbl k (by omega) hkj
            rw [getD_of hb] at this
            exact this
        · cases hb
    rw [hR]
    have : (m.take n).drop n = [] := List.drop_eq_nil_of_le (by rw [List.length_take]; omega)
    rw [this]
    rfl
theorem docL_no {m : List UInt8} (h : Lib.index m [62] = -1) : docL m = (43, .none, []) := by
  unfold docL
  rw [com_cut_no h]
  rfl
theorem skip_lt {m : List UInt8} {j : Nat} (h : Lib.index m [62] = j) : skipN m 0 ≤ j := by
  have ho := occ_head h
  by_cases hn : skipN m 0 ≤ j
  · exact hn
  · exfalso
    have hlt : j < skipN m 0 := by omega
    have hlt2 := hlt
    unfold skipN at hlt2
    rw [Nat.zero_add, List.drop_zero] at hlt2
    have h62 : m[j]? = some 62 := by
      have : (m.drop j)[0]? = some 62 := by
        cases hm : m.drop j with
        | nil => rw [hm] at ho; simp [Lib.hasPrefix] at ho
        | cons c t => rw [hm] at ho; simp [Lib.hasPrefix, List.isPrefixOf] at ho; rw [← ho]; rfl
      rw [List.getElem?_drop] at this
      exact this
    have hm : (62 : UInt8) ∈ m.takeWhile fun c => blanksL.contains c := by
      rw [List.mem_iff_getElem?]
      refine ⟨j, ?_⟩
      rw [← take_take_while, List.getElem?_take, if_pos hlt2]
      exact h62
    have := (List.all_eq_true.1 (List.all_takeWhile (p := fun c => blanksL.contains c) (l := m))) _ hm
    exact absurd this (by decide)
theorem docL_at {m : List UInt8} {j : Nat} (h : Lib.index m [62] = j) : docL m = (0, ⟨5, [], [], false, (m.take (backN m (skipN m 0) j)).drop (skipN m 0)⟩, m.drop (j + 1)) := by
  have hj : j ≤ m.length := by
    have := Lib.index_room m [62] (by omega)
    simp at this
    omega
  unfold docL
  rw [com_cut h, trim_between m j hj (skip_lt h)]
  rfl
theorem skipN_shift (l : List UInt8) (i : Nat) : skipN l i = i + skipN (l.drop i) 0 := by
  unfold skipN
  rw [List.drop_zero, Nat.zero_add]
/-- The value in quotes. -/
theorem value_quote {l : List UInt8} {c : UInt8} (hc : c = 34 ∨ c = 39) (hp : Lib.hasPrefix l [c] = true) :
    (Lib.index (l.drop 1) [c] = -1 ∧ valueL l = none) ∨ ∃ j : Nat, Lib.index (l.drop 1) [c] = j ∧ valueL l = some ((l.drop 1).take j, (l.drop 1).drop (j + 1)) := by
  have hv : valueL l = (if Lib.hasPrefix (downL (l.drop 1) [c]) [c] then some (upL (l.drop 1) [c], (downL (l.drop 1) [c]).drop 1) else none) := by
    unfold valueL
    rcases hc with rfl | rfl
    · rw [if_pos hp]
    · have h34 : Lib.hasPrefix l [34] = false := by
        cases l with
        | nil => rfl
        | cons d t =>
          simp [Lib.hasPrefix, List.isPrefixOf] at hp ⊢
          rw [← hp]; decide
      rw [if_neg (by rw [h34]; exact Bool.false_ne_true), if_pos hp]
  rcases up_one (l.drop 1) c with ⟨h1, h2⟩ | ⟨j, h1, _, h3, h4, h5⟩
  · exact .inl ⟨h1, by rw [hv, h2]; rfl⟩
  · exact .inr ⟨j, h1, by rw [hv, if_pos h5, h3, h4, List.drop_drop]⟩
theorem value_plain {l : List UInt8} (h1 : Lib.hasPrefix l [34] = false) (h2 : Lib.hasPrefix l [39] = false) :
    valueL l = if (upL l [9, 10, 12, 32, 62]).isEmpty || Lib.containsAny (upL l [9, 10, 12, 32, 62]) [34, 39, 60, 61, 96] then none else some (upL l [9, 10, 12, 32, 62], downL l [9, 10, 12, 32, 62]) := by
  unfold valueL
  rw [if_neg (by rw [h1]; exact Bool.false_ne_true), if_neg (by rw [h2]; exact Bool.false_ne_true)]
theorem any_bad {v : List UInt8} {k : Nat} (hk : k < v.length) (h : ([34, 39, 60, 61, 96] : List UInt8).contains (v.getD k 0) = true) : Lib.containsAny v [34, 39, 60, 61, 96] = true := by
  unfold Lib.containsAny
  rw [decide_eq_true_eq]
  induction v generalizing k with
  | nil => simp at hk
  | cons c t ih =>
    unfold Lib.indexAny
    cases hc : ([34, 39, 60, 61, 96] : List UInt8).contains c with
    | true => simp
    | false =>
      cases k with
      | zero =>
        have e : (c :: t).getD 0 0 = c := rfl
        rw [e, hc] at h; cases h
      | succ k =>
        have := ih (k := k) (by simpa using hk) (by simpa [List.getD] using h)
        simp only [Bool.false_eq_true, if_false]
        split <;> rename_i h9
        · have := beq_iff_eq.1 h9; omega
        · omega
theorem any_none {v : List UInt8} (h : ∀ k < v.length, ([34, 39, 60, 61, 96] : List UInt8).contains (v.getD k 0) = false) : Lib.containsAny v [34, 39, 60, 61, 96] = false := by
  unfold Lib.containsAny
  rw [Lib.indexAny_none]
  · rfl
  · intro j x hj hx
    have := h j hj
    rwa [getD_of hx] at this
def bad5 (c : UInt8) : Bool := decide (c.toNat = 34) || decide (c.toNat = 39) || decide (c.toNat = 60) || decide (c.toNat = 61) || decide (c.toNat = 96)
theorem bad5_iff (c : UInt8) : ([34, 39, 60, 61, 96] : List UInt8).contains c = bad5 c := by
  have : ∀ n : Fin 256, ([34, 39, 60, 61, 96] : List UInt8).contains (UInt8.ofNat n.val) = bad5 (UInt8.ofNat n.val) := by decide +kernel
  have h := this ⟨c.toNat, UInt8.toNat_lt c⟩
  simpa using h
theorem pre_one_at (l : List UInt8) (c : UInt8) (hc : c ≠ 0) : Lib.hasPrefix l [c] = decide (atL l 0 = c.toNat) := by
  cases l with
  | nil =>
    have : c.toNat ≠ 0 := fun h => hc (UInt8.toNat_inj.1 h)
    simp [Lib.hasPrefix, atL]
    omega
  | cons d t =>
    simp only [Lib.hasPrefix, List.isPrefixOf, Bool.and_true, atL, List.getElem?_cons_zero, Option.getD_some]
    rw [Bool.eq_iff_iff, beq_iff_eq]
    exact ⟨fun h => by rw [h]; exact decide_eq_true rfl, fun h => (UInt8.toNat_inj.1 (of_decide_eq_true h)).symm⟩
end Go.Proofs.YtakakaenlfilmaaGreatDoor
