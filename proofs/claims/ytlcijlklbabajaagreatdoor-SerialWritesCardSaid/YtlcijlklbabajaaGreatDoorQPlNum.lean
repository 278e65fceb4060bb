/-
  Character references, plain: by number, by name; a text without them. No Go in sight; no condition.
-/
import Derived.Test.YtlcijlklbabajaaGreatDoorQWords
namespace Go.Proofs.YtlcijlklbabajaaGreatDoor
/-- The names, rising: bytes, character, does it stand alone? -/
def nameTab : List (List UInt8 × Nat × Bool) := [([65, 77, 80], 38, true), ([67, 79, 80, 89], 169, true), ([71, 84], 62, true), ([76, 84], 60, true), ([81, 85, 79, 84], 34, true), ([82, 69, 71], 174, true), ([97, 109, 112], 38, true), ([97, 112, 111, 115], 39, false), ([98, 117, 108, 108], 8226, false), ([99, 101, 110, 116], 162, true), ([99, 111, 112, 121], 169, true), ([100, 97, 114, 114], 8595, false), ([100, 101, 103], 176, true), ([100, 105, 118, 105, 100, 101], 247, true), ([101, 109, 115, 112], 8195, false), ([101, 110, 115, 112], 8194, false), ([101, 117, 114, 111], 8364, false), ([103, 101], 8805, false), ([103, 116], 62, true), ([104, 101, 108, 108, 105, 112], 8230, false), ([105, 110], 8712, false), ([105, 110, 102, 105, 110], 8734, false), ([108, 97, 110, 103], 10216, false), ([108, 97, 113, 117, 111], 171, true), ([108, 97, 114, 114], 8592, false), ([108, 100, 113, 117, 111], 8220, false), ([108, 101], 8804, false), ([108, 114, 109], 8206, false), ([108, 115, 97, 113, 117, 111], 8249, false), ([108, 115, 113, 117, 111], 8216, false), ([108, 116], 60, true), ([109, 100, 97, 115, 104], 8212, false), ([109, 105, 100, 100, 111, 116], 183, true), ([109, 105, 110, 117, 115], 8722, false), ([110, 98, 115, 112], 160, true), ([110, 100, 97, 115, 104], 8211, false), ([110, 101], 8800, false), ([110, 111, 116], 172, true), ([110, 111, 116, 105, 110], 8713, false), ([112, 97, 114, 97], 182, true), ([112, 108, 117, 115, 109, 110], 177, true), ([112, 111, 117, 110, 100], 163, true), ([113, 117, 111, 116], 34, true), ([114, 97, 110, 103], 10217, false), ([114, 97, 113, 117, 111], 187, true), ([114, 97, 114, 114], 8594, false), ([114, 100, 113, 117, 111], 8221, false), ([114, 101, 103], 174, true), ([114, 108, 109], 8207, false), ([114, 115, 97, 113, 117, 111], 8250, false), ([114, 115, 113, 117, 111], 8217, false), ([115, 101, 99, 116], 167, true), ([115, 104, 121], 173, true), ([116, 104, 105, 110, 115, 112], 8201, false), ([116, 105, 109, 101, 115], 215, true), ([117, 97, 114, 114], 8593, false), ([121, 101, 110], 165, true), ([122, 119, 106], 8205, false), ([122, 119, 110, 106], 8204, false)]
/-- What the numbers from 128 to 159 are told as. -/
def replT : List Nat := [8364, 129, 8218, 402, 8222, 8230, 8224, 8225, 710, 8240, 352, 8249, 338, 141, 381, 143, 144, 8216, 8217, 8220, 8221, 8226, 8211, 8212, 732, 8482, 353, 8250, 339, 157, 382, 376]
def digV (c : Nat) : Nat := if 48 ≤ c ∧ c ≤ 57 then c - 48 else if 97 ≤ c ∧ c ≤ 102 then c - 87 else if 65 ≤ c ∧ c ≤ 70 then c - 55 else 16
/-- The number of the digits with which a list begins, held at 1114112, and how many they are. -/
def sumD (b : Nat) : List UInt8 → Nat → Nat × Nat
 | [], n => (n, 0)
 | c :: l, n => if digV c.toNat < b then ((sumD b l (min (n * b + digV c.toNat) 1114112)).1, (sumD b l (min (n * b + digV c.toNat) 1114112)).2 + 1) else (n, 0)
def numC (n : Nat) : Nat := if n = 0 ∨ (55296 ≤ n ∧ n ≤ 57343) ∨ 1114111 < n then 65533 else if 128 ≤ n ∧ n < 160 then replT.getD (n - 128) 0 else n
def baseOf (l : List UInt8) : Nat := if atL l 2 = 120 ∨ atL l 2 = 88 then 16 else 10
def fromOf (l : List UInt8) : Nat := if atL l 2 = 120 ∨ atL l 2 = 88 then 3 else 2
/-- A reference by number: the text begins with & and #. -/
def findNum (l : List UInt8) : Option (Nat × Nat) :=
 if (sumD (baseOf l) (l.drop (fromOf l)) 0).2 = 0 then none
 else some (numC (sumD (baseOf l) (l.drop (fromOf l)) 0).1, fromOf l + (sumD (baseOf l) (l.drop (fromOf l)) 0).2 + if atL l (fromOf l + (sumD (baseOf l) (l.drop (fromOf l)) 0).2) = 59 then 1 else 0)
def goesB (c : Nat) : Bool := decide (c = 61 ∨ (48 ≤ c ∧ c ≤ 57) ∨ (65 ≤ c ∧ c ≤ 90) ∨ (97 ≤ c ∧ c ≤ 122))
def lookT (t : List UInt8) : Option (List UInt8 × Nat × Bool) := nameTab.find? (fun e => e.1 == t)
/-- A reference by name of at most k bytes, the longest ones first: the text begins with &. -/
def nameF (l : List UInt8) (attr : Bool) : Nat → Option (Nat × Nat)
 | 0 => none
 | k + 1 =>
   if k + 2 ≤ l.length then
    match lookT ((l.drop 1).take (k + 1)) with
    | some e => if atL l (k + 2) = 59 then some (e.2.1, k + 3) else if e.2.2 && !(attr && goesB (atL l (k + 2))) then some (e.2.1, k + 2) else nameF l attr k
    | none => nameF l attr k
   else nameF l attr k
/-- The reference with which a text begins: its character, how many bytes. -/
def findL (l : List UInt8) (attr : Bool) : Option (Nat × Nat) := if atL l 0 = 38 then (if atL l 1 = 35 then findNum l else nameF l attr 6) else none
def resV (o : Option (Nat × Nat)) : Value := match o with
 | some p => .tuple #[.int .i32 (p.1 : Int), .int .i64 (p.2 : Int), .bool true]
 | none => .tuple #[.int .i32 0, .int .i64 0, .bool false]
def decF : Nat → List UInt8 → Bool → List UInt8
 | 0, _, _ => []
 | _ + 1, [], _ => []
 | f + 1, c :: l, attr => match findL (c :: l) attr with
   | some p => Lib.encodeRune (p.1 : Int) ++ decF f ((c :: l).drop p.2) attr
   | none => c :: decF f l attr
/-- A text without references. -/
def decL (l : List UInt8) (attr : Bool) : List UInt8 := decF l.length l attr
theorem sumD_le (b : Nat) : ∀ (l : List UInt8) (n : Nat), n ≤ 1114112 → (sumD b l n).1 ≤ 1114112 ∧ (sumD b l n).2 ≤ l.length
 | [], n, h => ⟨h, Nat.le_refl _⟩
 | c :: l, n, h => by
   have ih := sumD_le b l (min (n * b + digV c.toNat) 1114112) (Nat.min_le_right ..)
   unfold sumD
   split
   ·exact ⟨ih.1, by simp only [List.length_cons]; omega⟩
   ·exact ⟨h, Nat.zero_le _⟩
theorem repl_le : ∀ k < 32, 0 < replT.getD k 0 ∧ replT.getD k 0 ≤ 65533 ∧ ¬ (55296 ≤ replT.getD k 0 ∧ replT.getD k 0 ≤ 57343) := by decide +kernel
theorem numC_val (n : Nat) : numC n < 55296 ∨ (57344 ≤ numC n ∧ numC n ≤ 1114111) := by
 unfold numC
 split
 ·omega
 ·split
  ·have := repl_le (n - 128) (by omega)
   omega
  ·omega
theorem tab_facts : ∀ e ∈ nameTab, 1 ≤ e.1.length ∧ e.1.length ≤ 6 ∧ e.2.1 < 55296 ∧ (∀ c ∈ e.1, goesB c.toNat = true ∧ c.toNat ≠ 61) := by decide +kernel
theorem tab_nodup : ∀ i < 59, ∀ j < 59, (nameTab.getD i ([], 0, false)).1 = (nameTab.getD j ([], 0, false)).1 → i = j := by decide +kernel
theorem lookT_some {t : List UInt8} {e : List UInt8 × Nat × Bool} (h : lookT t = some e) : e ∈ nameTab ∧ e.1 = t := by
 unfold lookT at h
 exact ⟨List.mem_of_find?_eq_some h, by have := List.find?_some h; simpa using this⟩
theorem tab_inj {e e' : List UInt8 × Nat × Bool} (h : e ∈ nameTab) (h' : e' ∈ nameTab) (he : e.1 = e'.1) : e = e' := by
 obtain ⟨i, hi, rfl⟩ := List.mem_iff_getElem.1 h
 obtain ⟨j, hj, rfl⟩ := List.mem_iff_getElem.1 h'
 have hl : nameTab.length = 59 := by decide
 have := tab_nodup i (by omega) j (by omega) (by simpa [List.getD, hi, hj] using he)
 subst this
 rfl
theorem lookT_mem {e : List UInt8 × Nat × Bool} (h : e ∈ nameTab) : lookT e.1 = some e := by
 cases hl : lookT e.1 with
 | none =>
   unfold lookT at hl
   rw [List.find?_eq_none] at hl
   exact absurd (by simp) (hl e h)
 | some e' =>
   have := lookT_some hl
   rw [tab_inj this.1 h this.2]
theorem findNum_le {l : List UInt8} {p : Nat × Nat} (h : findNum l = some p) : 1 ≤ p.2 ∧ p.2 ≤ l.length ∧ (p.1 < 55296 ∨ (57344 ≤ p.1 ∧ p.1 ≤ 1114111)) := by
 unfold findNum at h
 split at h
 ·cases h
 ·rename_i h0
  have hd := (sumD_le (baseOf l) (l.drop (fromOf l)) 0 (by omega)).2
  rw [List.length_drop] at hd
  have hf : 2 ≤ fromOf l ∧ fromOf l ≤ 3 := by unfold fromOf; split <;> omega
  injection h with h
  subst h
  refine ⟨by simp only; omega, ?_, numC_val _⟩
  simp only
  split
  ·rename_i h59
   have : fromOf l + (sumD (baseOf l) (l.drop (fromOf l)) 0).2 < l.length := by
    rcases Nat.lt_or_ge (fromOf l + (sumD (baseOf l) (l.drop (fromOf l)) 0).2) l.length with h | h
    ·exact h
    ·unfold atL at h59
     rw [List.getElem?_eq_none h] at h59
     cases h59
   omega
  ·omega
theorem nameF_le {l : List UInt8} {attr : Bool} : ∀ {k : Nat} {p : Nat × Nat}, nameF l attr k = some p → 1 ≤ p.2 ∧ p.2 ≤ l.length ∧ p.1 < 55296
 | 0, p, h => by cases h
 | k + 1, p, h => by
   unfold nameF at h
   split at h
   ·rename_i hk
    cases hl : lookT ((l.drop 1).take (k + 1)) with
    | none => rw [hl] at h; exact nameF_le h
    | some e =>
      rw [hl] at h
      simp only at h
      have he := (tab_facts e (lookT_some hl).1).2.2.1
      split at h
      ·rename_i h59
       injection h with h
       subst h
       have : k + 2 < l.length := by
        rcases Nat.lt_or_ge (k + 2) l.length with h | h
        ·exact h
        ·unfold atL at h59
         rw [List.getElem?_eq_none h] at h59
         cases h59
       exact ⟨by simp only; omega, by simp only; omega, he⟩
      ·split at h
       ·injection h with h
        subst h
        exact ⟨by simp only; omega, hk, he⟩
       ·exact nameF_le h
   ·exact nameF_le h
theorem findL_le {l : List UInt8} {attr : Bool} {p : Nat × Nat} (h : findL l attr = some p) : 1 ≤ p.2 ∧ p.2 ≤ l.length ∧ (p.1 < 55296 ∨ (57344 ≤ p.1 ∧ p.1 ≤ 1114111)) := by
 unfold findL at h
 split at h
 ·split at h
  ·exact findNum_le h
  ·have := nameF_le h
   exact ⟨this.1, this.2.1, .inl this.2.2⟩
 ·cases h
theorem decF_fuel (attr : Bool) : ∀ (f g : Nat) (l : List UInt8), l.length ≤ f → l.length ≤ g → decF f l attr = decF g l attr
 | 0, 0, _, _, _ => rfl
 | 0, g + 1, l, h, _ => by
   have : l = [] := List.eq_nil_of_length_eq_zero (by omega)
   subst this
   rfl
 | f + 1, 0, l, _, h => by
   have : l = [] := List.eq_nil_of_length_eq_zero (by omega)
   subst this
   rfl
 | f + 1, g + 1, [], _, _ => rfl
 | f + 1, g + 1, c :: l, h1, h2 => by
   unfold decF
   cases hf : findL (c :: l) attr with
   | none => simp only; rw [decF_fuel attr f g l (by simpa using h1) (by simpa using h2)]
   | some p =>
     have hp := findL_le hf
     simp only
     rw [decF_fuel attr f g _ (by rw [List.length_drop]; simp only [List.length_cons] at *; omega) (by rw [List.length_drop]; simp only [List.length_cons] at *; omega)]
theorem decL_nil (attr : Bool) : decL [] attr = [] := rfl
theorem decL_none {c : UInt8} {l : List UInt8} {attr : Bool} (h : findL (c :: l) attr = none) : decL (c :: l) attr = c :: decL l attr := by
 show decF (l.length + 1) (c :: l) attr = _
 unfold decF
 rw [h]
 rfl
theorem decL_some {l : List UInt8} {attr : Bool} {p : Nat × Nat} (h : findL l attr = some p) : decL l attr = Lib.encodeRune (p.1 : Int) ++ decL (l.drop p.2) attr := by
 have hp := findL_le h
 cases l with
 | nil => simp at hp; omega
 | cons c l =>
   show decF (l.length + 1) (c :: l) attr = _
   unfold decF
   rw [h]
   simp only
   rw [decF_fuel attr l.length ((c :: l).drop p.2).length _ (by rw [List.length_drop]; simp only [List.length_cons] at *; omega) (Nat.le_refl _)]
   rfl
theorem findL_other {c : UInt8} {l : List UInt8} {attr : Bool} (h : c.toNat ≠ 38) : findL (c :: l) attr = none := by
 unfold findL
 rw [if_neg (by exact h)]
/-- Bytes that are no & stay. -/
theorem decL_skip (attr : Bool) (r : List UInt8) : ∀ x : List UInt8, (∀ c ∈ x, c.toNat ≠ 38) → decL (x ++ r) attr = x ++ decL r attr
 | [], _ => rfl
 | c :: x, h => by
   rw [List.cons_append, decL_none (findL_other (h c (List.mem_cons_self ..))), decL_skip attr r x (fun d hd => h d (List.mem_cons_of_mem _ hd))]
   rfl
theorem decL_len (attr : Bool) : ∀ (n : Nat) (l : List UInt8), l.length ≤ n → (decL l attr).length ≤ 4 * l.length
 | 0, l, h => by
   have : l = [] := List.eq_nil_of_length_eq_zero (by omega)
   subst this
   exact Nat.zero_le _
 | n + 1, [], _ => Nat.zero_le _
 | n + 1, c :: l, h => by
   cases hf : findL (c :: l) attr with
   | none =>
     rw [decL_none hf]
     have := decL_len attr n l (by simpa using h)
     simp only [List.length_cons]
     omega
   | some p =>
     have hp := findL_le hf
     rw [decL_some hf]
     have := decL_len attr n ((c :: l).drop p.2) (by rw [List.length_drop]; simp only [List.length_cons] at *; omega)
     have he := (enc_le (p.1 : Int)).2
     rw [List.length_append]
     rw [List.length_drop] at this
     simp only [List.length_cons] at *
     omega
end Go.Proofs.YtlcijlklbabajaaGreatDoor
namespace Go.Proofs.YtlcijlklbabajaaGreatDoor
open Go.RowKit
set_option maxRecDepth 100000 in
set_option maxHeartbeats 1000000 in
theorem digit_any (c : Nat) (hc : c < 256) (w : World) :
 Calls Tryz.prog 217 #[.int .u8 (c : Int)] w fun e w' => e = .returned (.int .i32 (digV c : Int)) ∧ w = w' := by
 have h0 : (0 : Int) ≤ (c : Int) := by omega
 have hc2 : (c : Int) < 256 := by omega
 have hcase : (48 ≤ c ∧ c ≤ 57) ∨ (97 ≤ c ∧ c ≤ 102) ∨ (65 ≤ c ∧ c ≤ 70) ∨ (¬ (48 ≤ c ∧ c ≤ 57) ∧ ¬ (97 ≤ c ∧ c ≤ 102) ∧ ¬ (65 ≤ c ∧ c ≤ 70)) := by omega
 rcases hcase with h | h | h | h
 ·have hv : Hid (((digV c : Nat) : Int) = (c : Int) - 48) := hid_mk (by unfold digV; rw [if_pos h]; omega)
  obtain ⟨a1, a2⟩ := h
  go_enter Tryz.func217, Tryz.ntmps217
  go_wp2
  all_goals
   go_ret
   rw [hv.out]
   exact ⟨rfl, rfl⟩
 ·have hv : Hid (((digV c : Nat) : Int) = (c : Int) - 97 + 10) := hid_mk (by unfold digV; rw [if_neg (by omega), if_pos h]; omega)
  obtain ⟨a1, a2⟩ := h
  go_enter Tryz.func217, Tryz.ntmps217
  go_wp2
  all_goals
   go_ret
   rw [hv.out]
   exact ⟨rfl, rfl⟩
 ·have hv : Hid (((digV c : Nat) : Int) = (c : Int) - 65 + 10) := hid_mk (by unfold digV; rw [if_neg (by omega), if_neg (by omega), if_pos h]; omega)
  obtain ⟨a1, a2⟩ := h
  go_enter Tryz.func217, Tryz.ntmps217
  go_wp2
  all_goals
   go_ret
   rw [hv.out]
   exact ⟨rfl, rfl⟩
 ·have hv : Hid (((digV c : Nat) : Int) = 16) := hid_mk (by unfold digV; rw [if_neg h.1, if_neg h.2.1, if_neg h.2.2]; rfl)
  go_enter Tryz.func217, Tryz.ntmps217
  go_wp2
  all_goals first
   | (exfalso; omega)
   | (go_ret
      rw [hv.out]
      exact ⟨rfl, rfl⟩)
theorem digV_le (c : Nat) : digV c ≤ 16 := by
 unfold digV
 (repeat' split) <;> omega
theorem sumD_step (b : Nat) (l : List UInt8) (k n : Nat) (h : k < l.length) : sumD b (l.drop k) n = if digV (atL l k) < b then ((sumD b (l.drop (k + 1)) (min (n * b + digV (atL l k)) 1114112)).1, (sumD b (l.drop (k + 1)) (min (n * b + digV (atL l k)) 1114112)).2 + 1) else (n, 0) := by
 rw [List.drop_eq_getElem_cons h]
 have e : atL l k = l[k].toNat := by unfold atL; rw [List.getElem?_eq_getElem h]; rfl
 rw [e]
 rfl
set_option maxHeartbeats 2000000 in
theorem sumDigits_any (s : ByteArray) (hs : s.size ≤ 9223372036854775806) (b : Nat) (hb : b = 10 ∨ b = 16) (w : World) :
 Calls Tryz.prog 203 #[.string s, .int .i32 (b : Int)] w fun e w' => e = .returned (.tuple #[.int .i32 ((sumD b (sl s) 0).1 : Int), .int .i64 ((sumD b (sl s) 0).2 : Int)]) ∧ w = w' := by
 have hb2 : b ≤ 16 := by omega
 have hb3 : (b : Int) ≤ 16 := by omega
 have hb4 : (0 : Int) ≤ (b : Int) := by omega
 clear hb
 obtain ⟨R, hR⟩ : ∃ R, R = sumD b (sl s) 0 := ⟨_, rfl⟩
 rw [← hR]
 have HR := hid_mk hR
 clear hR
 go_enter Tryz.func203, Tryz.ntmps203
 go_wp2_with fail
 go_loop [6, 11] (fun vn vi => ∃ i n : Nat, i ≤ s.size ∧ n ≤ 1114112 ∧ vi = .int .i64 (i : Int) ∧ vn = .int .i32 (n : Int) ∧ Hid (R.1 = (sumD b ((sl s).drop i) n).1 ∧ R.2 = (sumD b ((sl s).drop i) n).2 + i)) (fun _ vi => s.size - (intOf vi).toNat)
 case atStart => exact ⟨0, 0, by omega, by omega, rfl, rfl, hid_mk (by rw [HR.out]; exact ⟨rfl, rfl⟩)⟩
 case round =>
  obtain ⟨i, n, hi, hn, rfl, rfl, hr⟩ := hrel
  by_cases hin : i < s.size
  ·have hin' : (i : Int) < (s.size : Int) := by omega
   have hi0 : (0 : Int) ≤ (i : Int) := by omega
   have hst := sumD_step b (sl s) i n (by rw [len_sl]; exact hin)
   have hby := byte_atL s i hin
   rw [← hby] at hst
   have hx := byte_lt (s[i]'hin)
   generalize hxx : (s[i]'hin).toNat = x at *
   have hd := digV_le x
   by_cases hlt : digV x < b
   ·rw [if_pos hlt] at hst
    have hst := hid_mk hst
    have hlt' : (digV x : Int) < (b : Int) := by omega
    clear hby
    have hm1 : n * b ≤ 17825792 := Nat.le_trans (Nat.mul_le_mul hn hb2) (by decide)
    have hm2 : (n : Int) * (b : Int) ≤ 17825792 := by rw [← Int.natCast_mul]; omega
    have hm3 : (0 : Int) ≤ (n : Int) * (b : Int) := by rw [← Int.natCast_mul]; omega
    go_wp2_with fail
    refine (digit_any x hx w).mono ?_
    rintro e w' ⟨rfl, rfl⟩
    generalize digV x = d at *
    have hmin : Hid ((if (1114112 : Int) < (n : Int) * (b : Int) + (d : Int) then (1114112 : Int) else (n : Int) * (b : Int) + (d : Int)) = ((min (n * b + d) 1114112 : Nat) : Int)) := hid_mk (by
     rw [← Int.natCast_mul]
     split <;> omega)
    go_wp2
    refine ⟨⟨i + 1, min (n * b + d) 1114112, by omega, Nat.min_le_right .., by go_num, by rw [hmin.out], hid_mk ?_⟩, ?_⟩
    ·have h1 := hr.out
     rw [hst.out] at h1
     exact ⟨h1.1, by rw [h1.2]; simp only; omega⟩
    ·simp [intOf]
     omega
   ·rw [if_neg hlt] at hst
    have hst' := hid_mk hst
    have hlt' : ¬ (digV x : Int) < (b : Int) := by omega
    have hlt2 : (b : Int) ≤ (digV x : Int) := by omega
    clear hby
    go_wp2_with fail
    refine (digit_any x hx w).mono ?_
    rintro e w' ⟨rfl, rfl⟩
    generalize digV x = d at *
    clear hst hlt
    have h1 := hr.out
    rw [hst'.out] at h1
    have HV := hid_mk (show (R.1 : Int) = (n : Int) ∧ (R.2 : Int) = (i : Int) from ⟨by rw [h1.1], by rw [h1.2]; simp⟩)
    clear h1
    go_wp2
    go_ret2
    rw [HV.out.1, HV.out.2]
    exact ⟨rfl, rfl⟩
  ·obtain rfl : i = s.size := by omega
   have h1 := hr.out
   rw [List.drop_eq_nil_of_le (by rw [len_sl]; omega)] at h1
   have HV := hid_mk (show (R.1 : Int) = (n : Int) ∧ (R.2 : Int) = (s.size : Int) from ⟨by rw [h1.1]; rfl, by rw [h1.2]; simp [sumD]⟩)
   clear h1 hr
   have hin' : ¬ (s.size : Int) < (s.size : Int) := by omega
   go_wp2
   go_ret2
   rw [HV.out.1, HV.out.2]
   exact ⟨rfl, rfl⟩
/-- The table of replaced characters lies in its package-level variable; the search's bound is some number. -/
def replCells : Array Value := (replT.map fun (r : Nat) => Value.int .i32 (r : Int)).toArray
def Tab (w : World) : Prop := (∃ (T : TypeId) (fr : Nat × Nat), w.heap[3]? = some (.cells replCells T fr)) ∧ ∃ m : Int, w.cell? ⟨0, 0, none⟩ = some (.int .i64 m)
theorem tab_pos {w : World} (h : Tab w) : 3 < w.heap.size := by
 obtain ⟨⟨T, fr, h⟩, _⟩ := h
 exact (Array.getElem?_eq_some_iff.1 h).1
theorem max_lt {w : World} (h : Tab w) : 0 < w.heap.size := by
 obtain ⟨_, m, h⟩ := h
 exact World.block_lt_of_cell? w _ h
theorem Tab.of_blocks {w w' : World} (h : Tab w) (hr : w'.heap[3]? = w.heap[3]?) (hm : w'.heap[0]? = w.heap[0]?) : Tab w' := by
 obtain ⟨⟨T, fr, h1⟩, m, h2⟩ := h
 exact ⟨⟨T, fr, hr.trans h1⟩, m, (World.cell?_of_block (w := w) (a := ⟨0, 0, none⟩) hm).trans h2⟩
theorem Tab.below {w w' : World} (h : Tab w) (hb : Below w.heap.size w w') : Tab w' := h.of_blocks (hb.block _ (tab_pos h)) (hb.block _ (max_lt h))
/-- What is grown behind a call: nothing that was there is written, and the table is there still. -/
def Next (w w' : World) : Prop := Below w.heap.size w w' ∧ Tab w'
theorem Next.trans {a b c : World} (h : Next a b) (k : Next b c) : Next a c := ⟨h.1.trans (k.1.mono h.1.size), k.2⟩
theorem Next.refl {w : World} (h : Tab w) : Next w w := ⟨Below.refl _ _, h⟩
theorem Next.of {w w' : World} (h : Tab w) (hb : Below w.heap.size w w') : Next w w' := ⟨hb, h.below hb⟩
theorem repl_cell (w : World) (h : Tab w) (k : Nat) (hk : k < 32) : w.cell? ⟨3, k, none⟩ = some (.int .i32 (replT.getD k 0 : Int)) := by
 obtain ⟨⟨T, fr, h⟩, _⟩ := h
 rw [cell_of_row w _ k _ _ _ h]
 unfold replCells
 have hl : replT.length = 32 := by decide
 simp [List.getD, hl, hk]
set_option maxHeartbeats 1000000 in
set_option maxRecDepth 100000 in
theorem numbered_any (n : Nat) (hn : n ≤ 1114112) (w : World) (hT : Tab w) :
 Calls Tryz.prog 204 #[.int .i32 (n : Int)] w fun e w' => e = .returned (.int .i32 (numC n : Int)) ∧ w = w' := by
 have h0 : (0 : Int) ≤ (n : Int) := by omega
 have hn2 : (n : Int) ≤ 1114112 := by omega
 have HT := hid_mk hT
 clear hT
 by_cases c1 : n = 0
 ·subst c1
  have hv : Hid (((numC 0 : Nat) : Int) = 65533) := hid_mk (by decide)
  go_enter Tryz.func204, Tryz.ntmps204
  go_wp2
  go_ret
  rw [hv.out]
  exact ⟨rfl, rfl⟩
 have c1' : ((n : Int) == 0) = false := beq_false_of_ne (by omega)
 by_cases c2 : 55296 ≤ n ∧ n ≤ 57343
 ·have hv : Hid (((numC n : Nat) : Int) = 65533) := hid_mk (by unfold numC; rw [if_pos (.inr (.inl c2))]; rfl)
  obtain ⟨a1, a2⟩ := c2
  go_enter Tryz.func204, Tryz.ntmps204
  go_wp2
  go_ret
  rw [hv.out]
  exact ⟨rfl, rfl⟩
 by_cases c3 : 1114111 < n
 ·have hv : Hid (((numC n : Nat) : Int) = 65533) := hid_mk (by unfold numC; rw [if_pos (.inr (.inr c3))]; rfl)
  have a1 : 55296 ≤ n := by omega
  have a2 : ¬ n ≤ 57343 := by omega
  clear c2
  go_enter Tryz.func204, Tryz.ntmps204
  go_wp2
  go_ret
  rw [hv.out]
  exact ⟨rfl, rfl⟩
 by_cases c4 : 128 ≤ n ∧ n < 160
 ·have hv : Hid (numC n = replT.getD (n - 128) 0) := hid_mk (by unfold numC; rw [if_neg (by omega), if_pos c4])
  obtain ⟨a1, a2⟩ := c4
  have hc := repl_cell w HT.out (n - 128) (by omega)
  have a3 : ¬ 55296 ≤ n := by omega
  have e1 : ((n : Int) - 128).toNat = n - 128 := by omega
  have a4 : (128 : Int) ≤ (n : Int) := by omega
  have a5 : (n : Int) < 160 := by omega
  have a6 : ¬ (55296 : Int) ≤ (n : Int) := by omega
  have a7 : ¬ (1114111 : Int) < (n : Int) := by omega
  have a8 : (n : Int) - 128 < 32 := by omega
  have a9 : (0 : Int) ≤ (n : Int) - 128 := by omega
  clear c2 c3
  generalize replT.getD (n - 128) 0 = x at *
  go_enter Tryz.func204, Tryz.ntmps204
  go_wp2
  go_ret
  rw [hv.out]
  exact ⟨rfl, rfl⟩
 ·have hv : Hid (numC n = n) := hid_mk (by unfold numC; rw [if_neg (by omega), if_neg c4])
  have c3' : n ≤ 1114111 := by omega
  have hcase : n < 128 ∨ (128 ≤ n ∧ 160 ≤ n ∧ n < 55296) ∨ (128 ≤ n ∧ 160 ≤ n ∧ 55296 ≤ n ∧ 57343 < n) := by omega
  clear c2 c4 c3
  rcases hcase with a1 | ⟨a1, a2, a3⟩ | ⟨a1, a2, a3, a4⟩
  ·have a5 : ¬ 55296 ≤ n := by omega
   have a6 : ¬ 128 ≤ n := by omega
   go_enter Tryz.func204, Tryz.ntmps204
   go_wp2
   go_ret
   rw [hv.out]
   exact ⟨rfl, rfl⟩
  ·have a5 : ¬ 55296 ≤ n := by omega
   have a6 : ¬ n < 160 := by omega
   go_enter Tryz.func204, Tryz.ntmps204
   go_wp2
   go_ret
   rw [hv.out]
   exact ⟨rfl, rfl⟩
  ·have a5 : ¬ n ≤ 57343 := by omega
   have a6 : ¬ n < 160 := by omega
   go_enter Tryz.func204, Tryz.ntmps204
   go_wp2
   go_ret
   rw [hv.out]
   exact ⟨rfl, rfl⟩
set_option maxHeartbeats 4000000 in
set_option maxRecDepth 100000 in
theorem findNumber_any (s : ByteArray) (h2 : 2 ≤ s.size) (hs : s.size ≤ 9223372036854775000) (w : World) (hT' : Tab w) :
 Calls Tryz.prog 187 #[.string s] w fun e w' => e = .returned (resV (findNum (sl s))) ∧ w = w' := by
 have hT := hid_mk hT'
 clear hT'
 obtain ⟨F, hF⟩ : ∃ F, F = findNum (sl s) := ⟨_, rfl⟩
 rw [← hF]
 have HF := hF
 clear hF
 unfold findNum baseOf fromOf at HF
 by_cases hx : atL (sl s) 2 = 120 ∨ atL (sl s) 2 = 88
 ·simp only [if_pos hx] at HF
  have h3 : 2 < s.size := by
   rcases Nat.lt_or_ge 2 s.size with h | h
   ·exact h
   ·unfold atL at hx
    rw [List.getElem?_eq_none (by rw [len_sl]; omega)] at hx
    simp at hx
  have h3' : (2 : Int) < (s.size : Int) := by omega
  have h3'' : (3 : Int) ≤ (s.size : Int) := by omega
  have hby := byte_atL s 2 h3
  rw [← hby] at hx
  rcases hx with hx | hx
  ·have hx1 : (((s[2]'h3).toNat : Int) == 120) = true := by rw [hx]; rfl
   clear hx hby
   go_enter Tryz.func187, Tryz.ntmps187
   have hsl : sl (s.extract 3 s.size) = (sl s).drop 3 := sl_extract s 3
   have hes : (s.extract 3 s.size).size ≤ 9223372036854775806 := by rw [size_extract]; omega
   have HSD := hid_mk (sumDigits_any (s.extract 3 s.size) hes 16 (by decide) w)
   rw [hsl] at HSD
   have hle := sumD_le 16 ((sl s).drop 3) 0 (by omega)
   rw [List.length_drop, len_sl] at hle
   obtain ⟨D, hD⟩ : ∃ D, D = sumD 16 ((sl s).drop 3) 0 := ⟨_, rfl⟩
   rw [← hD] at HSD hle HF
   have HD := hid_mk hD
   clear hD hsl hes
   obtain ⟨d1, d2⟩ := D
   simp only at HSD hle HF
   obtain ⟨hle1, hle2⟩ := hle
   go_wp2_with fail
   refine HSD.out.mono ?_
   rintro e w' ⟨rfl, rfl⟩
   by_cases hz : d2 = 0
   ·rw [if_pos hz] at HF
    have HF' := hid_mk HF
    clear HF
    have hz' : ((d2 : Int) == 0) = true := by rw [hz]; rfl
    clear hz
    go_wp2
    go_ret3
    rw [HF'.out]
    exact ⟨rfl, rfl⟩
   ·rw [if_neg hz] at HF
    have hz' : ((d2 : Int) == 0) = false := beq_false_of_ne (by omega)
    by_cases hend : 3 + d2 < s.size
    ·have hend' : (3 : Int) + (d2 : Int) < (s.size : Int) := by omega
     have htn : ((3 : Int) + (d2 : Int)).toNat = 3 + d2 := by omega
     have hby := byte_atL s (3 + d2) hend
     rw [← hby] at HF
     by_cases h59 : (s[3 + d2]'hend).toNat = 59
     ·rw [if_pos h59] at HF
      have HF' := hid_mk HF
      have h59' : (((s[3 + d2]'hend).toNat : Int) == 59) = true := by rw [h59]; rfl
      clear h59 hby HF
      go_wp2_with fail
      refine (numbered_any d1 hle1 w hT.out).mono ?_
      rintro e w' ⟨rfl, rfl⟩
      generalize numC d1 = x at *
      go_wp2
      go_ret3
      rw [HF'.out]
      exact ⟨by simp [resV], rfl⟩
     ·rw [if_neg h59] at HF
      have HF' := hid_mk HF
      have h59' : (((s[3 + d2]'hend).toNat : Int) == 59) = false := beq_false_of_ne (by omega)
      clear h59 hby HF
      go_wp2_with fail
      refine (numbered_any d1 hle1 w hT.out).mono ?_
      rintro e w' ⟨rfl, rfl⟩
      generalize numC d1 = x at *
      go_wp2
      go_ret3
      rw [HF'.out]
      exact ⟨by simp [resV], rfl⟩
    ·have hend' : ¬ (3 : Int) + (d2 : Int) < (s.size : Int) := by omega
     have h59 : ¬ atL (sl s) (3 + d2) = 59 := by
      unfold atL
      rw [List.getElem?_eq_none (by rw [len_sl]; omega)]
      decide
     rw [if_neg h59] at HF
     have HF' := hid_mk HF
     clear HF h59
     go_wp2_with fail
     refine (numbered_any d1 hle1 w hT.out).mono ?_
     rintro e w' ⟨rfl, rfl⟩
     generalize numC d1 = x at *
     go_wp2
     go_ret3
     rw [HF'.out]
     exact ⟨by simp [resV], rfl⟩
  ·have hx1 : (((s[2]'h3).toNat : Int) == 120) = false := by rw [hx]; rfl
   have hx2 : (((s[2]'h3).toNat : Int) == 88) = true := by rw [hx]; rfl
   clear hx hby
   go_enter Tryz.func187, Tryz.ntmps187
   have hsl : sl (s.extract 3 s.size) = (sl s).drop 3 := sl_extract s 3
   have hes : (s.extract 3 s.size).size ≤ 9223372036854775806 := by rw [size_extract]; omega
   have HSD := hid_mk (sumDigits_any (s.extract 3 s.size) hes 16 (by decide) w)
   rw [hsl] at HSD
   have hle := sumD_le 16 ((sl s).drop 3) 0 (by omega)
   rw [List.length_drop, len_sl] at hle
   obtain ⟨D, hD⟩ : ∃ D, D = sumD 16 ((sl s).drop 3) 0 := ⟨_, rfl⟩
   rw [← hD] at HSD hle HF
   have HD := hid_mk hD
   clear hD hsl hes
   obtain ⟨d1, d2⟩ := D
   simp only at HSD hle HF
   obtain ⟨hle1, hle2⟩ := hle
   go_wp2_with fail
   refine HSD.out.mono ?_
   rintro e w' ⟨rfl, rfl⟩
   by_cases hz : d2 = 0
   ·rw [if_pos hz] at HF
    have HF' := hid_mk HF
    clear HF
    have hz' : ((d2 : Int) == 0) = true := by rw [hz]; rfl
    clear hz
    go_wp2
    go_ret3
    rw [HF'.out]
    exact ⟨rfl, rfl⟩
   ·rw [if_neg hz] at HF
    have hz' : ((d2 : Int) == 0) = false := beq_false_of_ne (by omega)
    by_cases hend : 3 + d2 < s.size
    ·have hend' : (3 : Int) + (d2 : Int) < (s.size : Int) := by omega
     have htn : ((3 : Int) + (d2 : Int)).toNat = 3 + d2 := by omega
     have hby := byte_atL s (3 + d2) hend
     rw [← hby] at HF
     by_cases h59 : (s[3 + d2]'hend).toNat = 59
     ·rw [if_pos h59] at HF
      have HF' := hid_mk HF
      have h59' : (((s[3 + d2]'hend).toNat : Int) == 59) = true := by rw [h59]; rfl
      clear h59 hby HF
      go_wp2_with fail
      refine (numbered_any d1 hle1 w hT.out).mono ?_
      rintro e w' ⟨rfl, rfl⟩
      generalize numC d1 = x at *
      go_wp2
      go_ret3
      rw [HF'.out]
      exact ⟨by simp [resV], rfl⟩
     ·rw [if_neg h59] at HF
      have HF' := hid_mk HF
      have h59' : (((s[3 + d2]'hend).toNat : Int) == 59) = false := beq_false_of_ne (by omega)
      clear h59 hby HF
      go_wp2_with fail
      refine (numbered_any d1 hle1 w hT.out).mono ?_
      rintro e w' ⟨rfl, rfl⟩
      generalize numC d1 = x at *
      go_wp2
      go_ret3
      rw [HF'.out]
      exact ⟨by simp [resV], rfl⟩
    ·have hend' : ¬ (3 : Int) + (d2 : Int) < (s.size : Int) := by omega
     have h59 : ¬ atL (sl s) (3 + d2) = 59 := by
      unfold atL
      rw [List.getElem?_eq_none (by rw [len_sl]; omega)]
      decide
     rw [if_neg h59] at HF
     have HF' := hid_mk HF
     clear HF h59
     go_wp2_with fail
     refine (numbered_any d1 hle1 w hT.out).mono ?_
     rintro e w' ⟨rfl, rfl⟩
     generalize numC d1 = x at *
     go_wp2
     go_ret3
     rw [HF'.out]
     exact ⟨by simp [resV], rfl⟩
 ·simp only [if_neg hx] at HF
  by_cases h3 : 2 < s.size
  ·have h3' : (2 : Int) < (s.size : Int) := by omega
   have hby := byte_atL s 2 h3
   rw [← hby] at hx
   have hx1 : (((s[2]'h3).toNat : Int) == 120) = false := beq_false_of_ne (by omega)
   have hx2 : (((s[2]'h3).toNat : Int) == 88) = false := beq_false_of_ne (by omega)
   clear hx hby
   go_enter Tryz.func187, Tryz.ntmps187
   have hsl : sl (s.extract 2 s.size) = (sl s).drop 2 := sl_extract s 2
   have hes : (s.extract 2 s.size).size ≤ 9223372036854775806 := by rw [size_extract]; omega
   have HSD := hid_mk (sumDigits_any (s.extract 2 s.size) hes 10 (by decide) w)
   rw [hsl] at HSD
   have hle := sumD_le 10 ((sl s).drop 2) 0 (by omega)
   rw [List.length_drop, len_sl] at hle
   obtain ⟨D, hD⟩ : ∃ D, D = sumD 10 ((sl s).drop 2) 0 := ⟨_, rfl⟩
   rw [← hD] at HSD hle HF
   have HD := hid_mk hD
   clear hD hsl hes
   obtain ⟨d1, d2⟩ := D
   simp only at HSD hle HF
   obtain ⟨hle1, hle2⟩ := hle
   go_wp2_with fail
   refine HSD.out.mono ?_
   rintro e w' ⟨rfl, rfl⟩
   by_cases hz : d2 = 0
   ·rw [if_pos hz] at HF
    have HF' := hid_mk HF
    clear HF
    have hz' : ((d2 : Int) == 0) = true := by rw [hz]; rfl
    clear hz
    go_wp2
    go_ret3
    rw [HF'.out]
    exact ⟨rfl, rfl⟩
   ·rw [if_neg hz] at HF
    have hz' : ((d2 : Int) == 0) = false := beq_false_of_ne (by omega)
    by_cases hend : 2 + d2 < s.size
    ·have hend' : (2 : Int) + (d2 : Int) < (s.size : Int) := by omega
     have htn : ((2 : Int) + (d2 : Int)).toNat = 2 + d2 := by omega
     have hby := byte_atL s (2 + d2) hend
     rw [← hby] at HF
     by_cases h59 : (s[2 + d2]'hend).toNat = 59
     ·rw [if_pos h59] at HF
      have HF' := hid_mk HF
      have h59' : (((s[2 + d2]'hend).toNat : Int) == 59) = true := by rw [h59]; rfl
      clear h59 hby HF
      go_wp2_with fail
      refine (numbered_any d1 hle1 w hT.out).mono ?_
      rintro e w' ⟨rfl, rfl⟩
      generalize numC d1 = x at *
      go_wp2
      go_ret3
      rw [HF'.out]
      exact ⟨by simp [resV], rfl⟩
     ·rw [if_neg h59] at HF
      have HF' := hid_mk HF
      have h59' : (((s[2 + d2]'hend).toNat : Int) == 59) = false := beq_false_of_ne (by omega)
      clear h59 hby HF
      go_wp2_with fail
      refine (numbered_any d1 hle1 w hT.out).mono ?_
      rintro e w' ⟨rfl, rfl⟩
      generalize numC d1 = x at *
      go_wp2
      go_ret3
      rw [HF'.out]
      exact ⟨by simp [resV], rfl⟩
    ·have hend' : ¬ (2 : Int) + (d2 : Int) < (s.size : Int) := by omega
     have h59 : ¬ atL (sl s) (2 + d2) = 59 := by
      unfold atL
      rw [List.getElem?_eq_none (by rw [len_sl]; omega)]
      decide
     rw [if_neg h59] at HF
     have HF' := hid_mk HF
     clear HF h59
     go_wp2_with fail
     refine (numbered_any d1 hle1 w hT.out).mono ?_
     rintro e w' ⟨rfl, rfl⟩
     generalize numC d1 = x at *
     go_wp2
     go_ret3
     rw [HF'.out]
     exact ⟨by simp [resV], rfl⟩
  ·have h3' : ¬ (2 : Int) < (s.size : Int) := by omega
   have h3'' : (2 : Int) ≤ (s.size : Int) := by omega
   clear hx
   go_enter Tryz.func187, Tryz.ntmps187
   have hsl : sl (s.extract 2 s.size) = (sl s).drop 2 := sl_extract s 2
   have hes : (s.extract 2 s.size).size ≤ 9223372036854775806 := by rw [size_extract]; omega
   have HSD := hid_mk (sumDigits_any (s.extract 2 s.size) hes 10 (by decide) w)
   rw [hsl] at HSD
   have hle := sumD_le 10 ((sl s).drop 2) 0 (by omega)
   rw [List.length_drop, len_sl] at hle
   obtain ⟨D, hD⟩ : ∃ D, D = sumD 10 ((sl s).drop 2) 0 := ⟨_, rfl⟩
   rw [← hD] at HSD hle HF
   have HD := hid_mk hD
   clear hD hsl hes
   obtain ⟨d1, d2⟩ := D
   simp only at HSD hle HF
   obtain ⟨hle1, hle2⟩ := hle
   go_wp2_with fail
   refine HSD.out.mono ?_
   rintro e w' ⟨rfl, rfl⟩
   by_cases hz : d2 = 0
   ·rw [if_pos hz] at HF
    have HF' := hid_mk HF
    clear HF
    have hz' : ((d2 : Int) == 0) = true := by rw [hz]; rfl
    clear hz
    go_wp2
    go_ret3
    rw [HF'.out]
    exact ⟨rfl, rfl⟩
   ·exact absurd (by omega) hz
end Go.Proofs.YtlcijlklbabajaaGreatDoor
