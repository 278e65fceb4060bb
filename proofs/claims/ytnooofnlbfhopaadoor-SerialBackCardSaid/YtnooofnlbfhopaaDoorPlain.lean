/-
  Character references, plain: by number, by name; a text without them. No Go in sight; no condition.
-/
import Derived.Test.YtnooofnlbfhopaaDoorWords
namespace Go.Proofs.YtnooofnlbfhopaaDoor
/-- The names, rising: bytes, character, does it stand alone? -/
def nameTab : List (List UInt8 × Nat × Bool) := [([65, 77, 80], 38, true), ([67, 79, 80, 89], 169, true), ([71, 84], 62, true), ([76, 84], 60, true), ([81, 85, 79, 84], 34, true), ([82, 69, 71], 174, true), ([97, 109, 112], 38, true), ([97, 112, 111, 115], 39, false), ([98, 117, 108, 108], 8226, false), ([99, 101, 110, 116], 162, true), ([99, 111, 112, 121], 169, true), ([100, 97, 114, 114], 8595, false), ([100, 101, 103], 176, true), ([100, 105, 118, 105, 100, 101], 247, true), ([101, 109, 115, 112], 8195, false), ([101, 110, 115, 112], 8194, false), ([101, 117, 114, 111], 8364, false), ([103, 101], 8805, false), ([103, 116], 62, true), ([104, 101, 108, 108, 105, 112], 8230, false), ([105, 110], 8712, false), ([105, 110, 102, 105, 110], 8734, false), ([108, 97, 110, 103], 10216, false), ([108, 97, 113, 117, 111], 171, true), ([108, 97, 114, 114], 8592, false), ([108, 100, 113, 117, 111], 8220, false), ([108, 101], 8804, false), ([108, 114, 109], 8206, false), ([108, 115, 97, 113, 117, 111], 8249, false), ([108, 115, 113, 117, 111], 8216, false), ([108, 116], 60, true), ([109, 100, 97, 115, 104], 8212, false), ([109, 105, 100, 100, 111, 116], 183, true), ([109, 105, 110, 117, 115], 8722, false), ([110, 98, 115, 112], 160, true), ([110, 100, 97, 115, 104], 8211, false), ([110, 101], 8800, false), ([110, 111, 116], 172, true), ([110, 111, 116, 105, 110], 8713, false), ([112, 97, 114, 97], 182, true), ([112, 108, 117, 115, 109, 110], 177, true), ([112, 111, 117, 110, 100], 163, true), ([113, 117, 111, 116], 34, true), ([114, 97, 110, 103], 10217, false), ([114, 97, 113, 117, 111], 187, true), ([114, 97, 114, 114], 8594, false), ([114, 100, 113, 117, 111], 8221, false), ([114, 101, 103], 174, true), ([114, 108, 109], 8207, false), ([114, 115, 97, 113, 117, 111], 8250, false), ([114, 115, 113, 117, 111], 8217, false), ([115, 101, 99, 116], 167, true), ([115, 104, 121], 173, true), ([116, 104, 105, 110, 115, 112], 8201, false), ([116, 105, 109, 101, 115], 215, true), ([117, 97, 114, 114], 8593, false), ([121, 101, 110], 165, true), ([122, 119, 106], 8205, false), ([122, 119, 110, 106], 8204, false)]
/-- The names in the reference's order. -/
def refTab : List (List UInt8 × Nat × Bool) := [([97, 109, 112], 38, true), ([108, 116], 60, true), ([103, 116], 62, true), ([113, 117, 111, 116], 34, true), ([65, 77, 80], 38, true), ([76, 84], 60, true), ([71, 84], 62, true), ([81, 85, 79, 84], 34, true), ([67, 79, 80, 89], 169, true), ([82, 69, 71], 174, true), ([110, 98, 115, 112], 160, true), ([99, 101, 110, 116], 162, true), ([112, 111, 117, 110, 100], 163, true), ([121, 101, 110], 165, true), ([115, 101, 99, 116], 167, true), ([99, 111, 112, 121], 169, true), ([108, 97, 113, 117, 111], 171, true), ([110, 111, 116], 172, true), ([115, 104, 121], 173, true), ([114, 101, 103], 174, true), ([100, 101, 103], 176, true), ([112, 108, 117, 115, 109, 110], 177, true), ([112, 97, 114, 97], 182, true), ([109, 105, 100, 100, 111, 116], 183, true), ([114, 97, 113, 117, 111], 187, true), ([116, 105, 109, 101, 115], 215, true), ([100, 105, 118, 105, 100, 101], 247, true), ([97, 112, 111, 115], 39, false), ([101, 110, 115, 112], 8194, false), ([101, 109, 115, 112], 8195, false), ([116, 104, 105, 110, 115, 112], 8201, false), ([122, 119, 110, 106], 8204, false), ([122, 119, 106], 8205, false), ([108, 114, 109], 8206, false), ([114, 108, 109], 8207, false), ([110, 100, 97, 115, 104], 8211, false), ([109, 100, 97, 115, 104], 8212, false), ([108, 115, 113, 117, 111], 8216, false), ([114, 115, 113, 117, 111], 8217, false), ([108, 100, 113, 117, 111], 8220, false), ([114, 100, 113, 117, 111], 8221, false), ([98, 117, 108, 108], 8226, false), ([104, 101, 108, 108, 105, 112], 8230, false), ([108, 115, 97, 113, 117, 111], 8249, false), ([114, 115, 97, 113, 117, 111], 8250, false), ([101, 117, 114, 111], 8364, false), ([108, 97, 114, 114], 8592, false), ([117, 97, 114, 114], 8593, false), ([114, 97, 114, 114], 8594, false), ([100, 97, 114, 114], 8595, false), ([105, 110], 8712, false), ([110, 111, 116, 105, 110], 8713, false), ([109, 105, 110, 117, 115], 8722, false), ([105, 110, 102, 105, 110], 8734, false), ([110, 101], 8800, false), ([108, 101], 8804, false), ([103, 101], 8805, false), ([108, 97, 110, 103], 10216, false), ([114, 97, 110, 103], 10217, false)]
/-- What the numbers from 128 to 159 are told as. -/
def replT : List Nat := [8364, 129, 8218, 402, 8222, 8230, 8224, 8225, 710, 8240, 352, 8249, 338, 141, 381, 143, 144, 8216, 8217, 8220, 8221, 8226, 8211, 8212, 732, 8482, 353, 8250, 339, 157, 382, 376]
/-- The reference's pairs of these. -/
def twoTab : List (Nat × Nat) := [(128, 8364), (130, 8218), (131, 402), (132, 8222), (133, 8230), (134, 8224), (135, 8225), (136, 710), (137, 8240), (138, 352), (139, 8249), (140, 338), (142, 381), (145, 8216), (146, 8217), (147, 8220), (148, 8221), (149, 8226), (150, 8211), (151, 8212), (152, 732), (153, 8482), (154, 353), (155, 8250), (156, 339), (158, 382), (159, 376)]
def digV (c : Nat) : Nat := if 48 ≤ c ∧ c ≤ 57 then c - 48 else if 97 ≤ c ∧ c ≤ 102 then c - 87 else if 65 ≤ c ∧ c ≤ 70 then c - 55 else 16
/-- The number of the digits with which a list begins, held at 1114112, and how many they are. -/
def sumD (b : Nat) : List UInt8 → Nat → Nat × Nat
  | [], n => (n, 0)
  | c :: l, n => if digV c.toNat < b then ((sumD b l (min (n * b + digV c.toNat) 1114112)).1, (sumD b l (min (n * b + digV c.toNat) 1114112)).2 + 1) else (n, 0)
def numC (n : Nat) : Nat := if n = 0 ∨ (55296 ≤ n ∧ n ≤ 57343) ∨ 1114111 < n then 65533 else if 128 ≤ n ∧ n < 160 then replT.getD (n - 128) 0 else n
def baseOf (l : List UInt8) : Nat := if atL l 2 = 120 ∨ atL l 2 = 88 then 16 else 10
def fromOf (l : List UInt8) : Nat := if atL l 2 = 120 ∨ atL l 2 = 88 then 3 else 2
/-- A reference by number: the text begins with & and #. -/
def findNum (l : List UInt8) : Option (Nat × Nat) :=
  if (sumD (baseOf l) (l.drop (fromOf l)) 0).2 = 0 then none
  else some (numC (sumD (baseOf l) (l.drop (fromOf l)) 0).1, fromOf l + (sumD (baseOf l) (l.drop (fromOf l)) 0).2 + if atL l (fromOf l + (sumD (baseOf l) (l.drop (fromOf l)) 0).2) = 59 then 1 else 0)
def goesB (c : Nat) : Bool := decide (c = 61 ∨ (48 ≤ c ∧ c ≤ 57) ∨ (65 ≤ c ∧ c ≤ 90) ∨ (97 ≤ c ∧ c ≤ 122))
def lookT (t : List UInt8) : Option (List UInt8 × Nat × Bool) := nameTab.find? (fun e => e.1 == t)
/-- A reference by name of at most k bytes, the longest ones first: the text begins with &. -/
def nameF (l : List UInt8) (attr : Bool) : Nat → Option (Nat × Nat)
  | 0 => none
  | k + 1 =>
    if k + 2 ≤ l.length then
      match lookT ((l.drop 1).take (k + 1)) with
      | some e => if atL l (k + 2) = 59 then some (e.2.1, k + 3) else if e.2.2 && !(attr && goesB (atL l (k + 2))) then some (e.2.1, k + 2) else nameF l attr k
      | none => nameF l attr k
    else nameF l attr k
/-- The reference with which a text begins: its character, how many bytes. -/
def findL (l : List UInt8) (attr : Bool) : Option (Nat × Nat) := if atL l 0 = 38 then (if atL l 1 = 35 then findNum l else nameF l attr 6) else none
def resV (o : Option (Nat × Nat)) : Value := match o with
  | some p => .tuple #[.int .i32 (p.1 : Int), .int .i64 (p.2 : Int), .bool true]
  | none => .tuple #[.int .i32 0, .int .i64 0, .bool false]
def decF : Nat → List UInt8 → Bool → List UInt8
  | 0, _, _ => []
  | _ + 1, [], _ => []
  | f + 1, c :: l, attr => match findL (c :: l) attr with
    | some p => Lib.encodeRune (p.1 : Int) ++ decF f ((c :: l).drop p.2) attr
    | none => c :: decF f l attr
/-- A text without references. -/
def decL (l : List UInt8) (attr : Bool) : List UInt8 := decF l.length l attr
theorem sumD_le (b : Nat) : ∀ (l : List UInt8) (n : Nat), n ≤ 1114112 → (sumD b l n).1 ≤ 1114112 ∧ (sumD b l n).2 ≤ l.length
  | [], n, h => ⟨h, Nat.le_refl _⟩
  | c :: l, n, h => by
    have ih := sumD_le b l (min (n * b + digV c.toNat) 1114112) (Nat.min_le_right ..)
    unfold sumD
    split
    · exact ⟨ih.1, by simp only [List.length_cons]; omega⟩
    · exact ⟨h, Nat.zero_le _⟩
theorem repl_le : ∀ k < 32, 0 < replT.getD k 0 ∧ replT.getD k 0 ≤ 65533 ∧ ¬ (55296 ≤ replT.getD k 0 ∧ replT.getD k 0 ≤ 57343) := by decide +kernel
theorem numC_val (n : Nat) : numC n < 55296 ∨ (57344 ≤ numC n ∧ numC n ≤ 1114111) := by
  unfold numC
  split
  · omega
  · split
    · have := repl_le (n - 128) (by omega)
      omega
    · omega
theorem tab_facts : ∀ e ∈ nameTab, 1 ≤ e.1.length ∧ e.1.length ≤ 6 ∧ e.2.1 < 55296 ∧ (∀ c ∈ e.1, goesB c.toNat = true ∧ c.toNat ≠ 61) := by decide +kernel
theorem tab_nodup : ∀ i < 59, ∀ j < 59, (nameTab.getD i ([], 0, false)).1 = (nameTab.getD j ([], 0, false)).1 → i = j := by decide +kernel
theorem refTab_perm : (∀ e ∈ refTab, e ∈ nameTab) ∧ (∀ e ∈ nameTab, e ∈ refTab) := by decide +kernel
theorem lookT_some {t : List UInt8} {e : List UInt8 × Nat × Bool} (h : lookT t = some e) : e ∈ nameTab ∧ e.1 = t := by
  unfold lookT at h
  exact ⟨List.mem_of_find?_eq_some h, by have := List.find?_some h; simpa using this⟩
theorem tab_inj {e e' : List UInt8 × Nat × Bool} (h : e ∈ nameTab) (h' : e' ∈ nameTab) (he : e.1 = e'.1) : e = e' := by
  obtain ⟨i, hi, rfl⟩ := List.mem_iff_getElem.1 h
  obtain ⟨j, hj, rfl⟩ := List.mem_iff_getElem.1 h'
  have hl : nameTab.length = 59 := by decide
  have := tab_nodup i (by omega) j (by omega) (by simpa [List.getD, hi, hj] using he)
  subst this
  rfl
theorem lookT_mem {e : List UInt8 × Nat × Bool} (h : e ∈ nameTab) : lookT e.1 = some e := by
  cases hl : lookT e.1 with
  | none =>
    unfold lookT at hl
    rw [List.find?_eq_none] at hl
    exact absurd (by simp) (hl e h)
  | some e' =>
    have := lookT_some hl
    rw [tab_inj this.1 h this.2]
theorem findNum_le {l : List UInt8} {p : Nat × Nat} (h : findNum l = some p) : 1 ≤ p.2 ∧ p.2 ≤ l.length ∧ (p.1 < 55296 ∨ (57344 ≤ p.1 ∧ p.1 ≤ 1114111)) := by
  unfold findNum at h
  split at h
  · cases h
  · rename_i h0
    have hd := (sumD_le (baseOf l) (l.drop (fromOf l)) 0 (by omega)).2
    rw [List.length_drop] at hd
    have hf : 2 ≤ fromOf l ∧ fromOf l ≤ 3 := by unfold fromOf; split <;> omega
    injection h with h
    subst h
    refine ⟨by simp only; omega, ?_, numC_val _⟩
    simp only
    split
    · rename_i h59
      have : fromOf l + (sumD (baseOf l) (l.drop (fromOf l)) 0).2 < l.length := by
        rcases Nat.lt_or_ge (fromOf l + (sumD (baseOf l) (l.drop (fromOf l)) 0).2) l.length with h | h
        · exact h
        · unfold atL at h59
          rw [List.getElem?_eq_none h] at h59
          cases h59
      omega
    · omega
theorem nameF_le {l : List UInt8} {attr : Bool} : ∀ {k : Nat} {p : Nat × Nat}, nameF l attr k = some p → 1 ≤ p.2 ∧ p.2 ≤ l.length ∧ p.1 < 55296
  | 0, p, h => by cases h
  | k + 1, p, h => by
    unfold nameF at h
    split at h
    · rename_i hk
      cases hl : lookT ((l.drop 1).take (k + 1)) with
      | none => rw [hl] at h; exact nameF_le h
      | some e =>
        rw [hl] at h
        simp only at h
        have he := (tab_facts e (lookT_some hl).1).2.2.1
        split at h
        · rename_i h59
          injection h with h
          subst h
          have : k + 2 < l.length := by
            rcases Nat.lt_or_ge (k + 2) l.length with h | h
            · exact h
            · unfold atL at h59
              rw [List.getElem?_eq_none h] at h59
              cases h59
          exact ⟨by simp only; omega, by simp only; omega, he⟩
        · split at h
          · injection h with h
            subst h
            exact ⟨by simp only; omega, hk, he⟩
          · exact nameF_le h
    · exact nameF_le h
theorem findL_le {l : List UInt8} {attr : Bool} {p : Nat × Nat} (h : findL l attr = some p) : 1 ≤ p.2 ∧ p.2 ≤ l.length ∧ (p.1 < 55296 ∨ (57344 ≤ p.1 ∧ p.1 ≤ 1114111)) := by
  unfold findL at h
  split at h
  · split at h
    · exact findNum_le h
    · have := nameF_le h
      exact ⟨this.1, this.2.1, .inl this.2.2⟩
  · cases h
theorem decF_fuel (attr : Bool) : ∀ (f g : Nat) (l : List UInt8), l.length ≤ f → l.length ≤ g → decF f l attr = decF g l attr
  | 0, 0, _, _, _ => rfl
  | 0, g + 1, l, h, _ => by
    have : l = [] := List.eq_nil_of_length_eq_zero (by omega)
    subst this
    rfl
  | f + 1, 0, l, _, h => by
    have : l = [] := List.eq_nil_of_length_eq_zero (by omega)
    subst this
    rfl
  | f + 1, g + 1, [], _, _ => rfl
  | f + 1, g + 1, c :: l, h1, h2 => by
    unfold decF
    cases hf : findL (c :: l) attr with
    | none => simp only; rw [decF_fuel attr f g l (by simpa using h1) (by simpa using h2)]
    | some p =>
      have hp := findL_le hf
      simp only
      rw [decF_fuel attr f g _ (by rw [List.length_drop]; simp only [List.length_cons] at *; omega) (by rw [List.length_drop]; simp only [List.length_cons] at *; omega)]
theorem decL_nil (attr : Bool) : decL [] attr = [] := rfl
theorem decL_none {c : UInt8} {l : List UInt8} {attr : Bool} (h : findL (c :: l) attr = none) : decL (c :: l) attr = c :: decL l attr := by
  show decF (l.length + 1) (c :: l) attr = _
  unfold decF
  rw [h]
  rfl
theorem decL_some {l : List UInt8} {attr : Bool} {p : Nat × Nat} (h : findL l attr = some p) : decL l attr = Lib.encodeRune (p.1 : Int) ++ decL (l.drop p.2) attr := by
  have hp := findL_le h
  cases l with
  | nil => simp at hp; omega
  | cons c l =>
    show decF (l.length + 1) (c :: l) attr = _
    unfold decF
    rw [h]
    simp only
    rw [decF_fuel attr l.length ((c :: l).drop p.2).length _ (by rw [List.length_drop]; simp only [List.length_cons] at *; omega) (Nat.le_refl _)]
    rfl
theorem findL_other {c : UInt8} {l : List UInt8} {attr : Bool} (h : c.toNat ≠ 38) : findL (c :: l) attr = none := by
  unfold findL
  rw [if_neg (by exact h)]
/-- Bytes that are no & stay. -/
theorem decL_skip (attr : Bool) (r : List UInt8) : ∀ x : List UInt8, (∀ c ∈ x, c.toNat ≠ 38) → decL (x ++ r) attr = x ++ decL r attr
  | [], _ => rfl
  | c :: x, h => by
    rw [List.cons_append, decL_none (findL_other (h c (List.mem_cons_self ..))), decL_skip attr r x (fun d hd => h d (List.mem_cons_of_mem _ hd))]
    rfl
theorem decL_len (attr : Bool) : ∀ (n : Nat) (l : List UInt8), l.length ≤ n → (decL l attr).length ≤ 4 * l.length
  | 0, l, h => by
    have : l = [] := List.eq_nil_of_length_eq_zero (by omega)
    subst this
    exact Nat.zero_le _
  | n + 1, [], _ => Nat.zero_le _
  | n + 1, c :: l, h => by
    cases hf : findL (c :: l) attr with
    | none =>
      rw [decL_none hf]
      have := decL_len attr n l (by simpa using h)
      simp only [List.length_cons]
      omega
    | some p =>
      have hp := findL_le hf
      rw [decL_some hf]
      have := decL_len attr n ((c :: l).drop p.2) (by rw [List.length_drop]; simp only [List.length_cons] at *; omega)
      have he := (enc_le (p.1 : Int)).2
      rw [List.length_append]
      rw [List.length_drop] at this
      simp only [List.length_cons] at *
      omega
end Go.Proofs.YtnooofnlbfhopaaDoor
