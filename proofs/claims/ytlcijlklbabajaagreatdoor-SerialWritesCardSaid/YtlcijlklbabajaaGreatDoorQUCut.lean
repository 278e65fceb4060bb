/-
  UTF-8, plain: parts, characters, well-formed texts, decoding; there and back. No Go text in sight; no condition.
-/
import Derived.WalkKit
import Derived.WalkSpells
import Derived.WalkLawsBesides
import Derived.Lib.OthersKept
import Derived.Lib.Strings
import Derived.Lib.IndexBytes
import Derived.WalkSmall
import Derived.Laws.BytesString
import Derived.Laws.Cells
import Derived.Test.YtlcijlklbabajaaGreatDoorQWords
namespace Go.Proofs.YtlcijlklbabajaaGreatDoor.U
open Go.RowKit
def Cont (b : Nat) : Prop := 128 ≤ b ∧ b ≤ 191
def Sec (a b : Nat) : Prop := if a = 224 then 160 ≤ b ∧ b ≤ 191 else if a = 237 then 128 ≤ b ∧ b ≤ 159 else if a = 240 then 144 ≤ b ∧ b ≤ 191 else if a = 244 then 128 ≤ b ∧ b ≤ 143 else 128 ≤ b ∧ b ≤ 191
instance (b : Nat) : Decidable (Cont b) := by unfold Cont; infer_instance
instance (a b : Nat) : Decidable (Sec a b) := by unfold Sec; infer_instance
def sizeB (b : Nat) : Nat := if b < 128 then 1 else if 194 ≤ b ∧ b ≤ 223 then 2 else if 224 ≤ b ∧ b ≤ 239 then 3 else if 240 ≤ b ∧ b ≤ 244 then 4 else 0
/-- A part: its character, how many bytes, whether it is well-formed. -/
structure Cutp where
 r : Nat
 n : Nat
 ok : Bool
def bad (n : Nat) : Cutp := ⟨65533, n, false⟩
def cutN (n b0 b1 b2 b3 : Nat) : Cutp :=
 if b0 < 128 then ⟨b0, 1, true⟩
 else if 194 ≤ b0 ∧ b0 ≤ 223 then (if 1 < n ∧ Sec b0 b1 then ⟨b0 % 32 * 64 + b1 % 64, 2, true⟩ else bad 1)
 else if 224 ≤ b0 ∧ b0 ≤ 239 then
  (if 1 < n ∧ Sec b0 b1 then (if 2 < n ∧ Cont b2 then ⟨b0 % 16 * 4096 + b1 % 64 * 64 + b2 % 64, 3, true⟩ else bad 2) else bad 1)
 else if 240 ≤ b0 ∧ b0 ≤ 244 then
  (if 1 < n ∧ Sec b0 b1 then (if 2 < n ∧ Cont b2 then (if 3 < n ∧ Cont b3 then ⟨b0 % 8 * 262144 + b1 % 64 * 4096 + b2 % 64 * 64 + b3 % 64, 4, true⟩ else bad 3) else bad 2) else bad 1)
 else bad 1
def atL (l : List UInt8) (k : Nat) : Nat := (l[k]?.getD 0).toNat
/-- The first part of a row of bytes. -/
def cutL (l : List UInt8) : Cutp := cutN l.length (atL l 0) (atL l 1) (atL l 2) (atL l 3)
/-- The model's decoding, over a list. -/
def decL (l : List UInt8) : Nat × Nat := if (cutL l).ok then ((cutL l).r, (cutL l).n) else (65533, 1)
theorem byte_lt (c : UInt8) : c.toNat < 256 := c.toNat_lt
theorem valid_iff (c : Nat) : Utf8.valid (c : Int) = true ↔ (c < 55296 ∨ (57344 ≤ c ∧ c ≤ 1114111)) := by
 unfold Utf8.valid
 simp
 omega
theorem get_list (s : ByteArray) (i k : Nat) : (s.get! (i + k)) = (s.data.toList.drop i)[k]?.getD 0 := by
 rw [List.getElem?_drop]
 show s.data[i + k]! = _
 rw [getElem!_def, ← Array.getElem?_toList]
 cases s.data.toList[i + k]? <;> rfl
def contL (l : List UInt8) (k : Nat) : Bool := decide (k < l.length) && (atL l k / 64 == 2)
def decM (l : List UInt8) : Nat × Nat :=
 if atL l 0 < 0x80 then (atL l 0, 1)
 else if (atL l 0 / 32 == 6 && contL l 1) = true then
  (if (atL l 0 % 32) * 64 + atL l 1 % 64 ≥ 0x80 then ((atL l 0 % 32) * 64 + atL l 1 % 64, 2) else (65533, 1))
 else if (atL l 0 / 16 == 14 && contL l 1 && contL l 2) = true then
  (if ((atL l 0 % 16) * 4096 + (atL l 1 % 64) * 64 + atL l 2 % 64 ≥ 0x800 && Utf8.valid (((atL l 0 % 16) * 4096 + (atL l 1 % 64) * 64 + atL l 2 % 64 : Nat) : Int)) = true then ((atL l 0 % 16) * 4096 + (atL l 1 % 64) * 64 + atL l 2 % 64, 3) else (65533, 1))
 else if (atL l 0 / 8 == 30 && contL l 1 && contL l 2 && contL l 3) = true then
  (if ((atL l 0 % 8) * 262144 + (atL l 1 % 64) * 4096 + (atL l 2 % 64) * 64 + atL l 3 % 64 ≥ 0x10000 && Utf8.valid (((atL l 0 % 8) * 262144 + (atL l 1 % 64) * 4096 + (atL l 2 % 64) * 64 + atL l 3 % 64 : Nat) : Int)) = true then ((atL l 0 % 8) * 262144 + (atL l 1 % 64) * 4096 + (atL l 2 % 64) * 64 + atL l 3 % 64, 4) else (65533, 1))
 else (65533, 1)
theorem decode_decM (s : ByteArray) (i : Nat) : Utf8.decode s i = decM (s.data.toList.drop i) := by
 have ha : ∀ k, (s.get! (i + k)).toNat = atL (s.data.toList.drop i) k := fun k => by rw [get_list]; rfl
 have hc : ∀ k, (decide (i + k < s.size) && (atL (s.data.toList.drop i) k / 64 == 2)) = contL (s.data.toList.drop i) k := fun k => by
  unfold contL
  congr 1
  have : (i + k < s.size) ↔ (k < (s.data.toList.drop i).length) := by
   rw [List.length_drop]
   show i + k < s.data.size ↔ _
   rw [← Array.length_toList]
   omega
  simp only [this]
 unfold Utf8.decode decM
 simp only [ha, hc]
 rfl
theorem atL_lt (l : List UInt8) (k : Nat) : atL l k < 256 := byte_lt _
set_option maxHeartbeats 2000000 in
theorem decM_decL (l : List UInt8) : decM l = decL l := by
 have h0 := atL_lt l 0
 have h1 := atL_lt l 1
 have h2 := atL_lt l 2
 have h3 := atL_lt l 3
 unfold decM decL cutL contL
 generalize atL l 0 = b0 at *
 generalize atL l 1 = b1 at *
 generalize atL l 2 = b2 at *
 generalize atL l 3 = b3 at *
 generalize l.length = n
 simp only [Bool.and_eq_true, beq_iff_eq, decide_eq_true_eq, valid_iff, ge_iff_le]
 unfold cutN
 by_cases a0 : b0 < 128
 ·simp [a0]
 ·rw [if_neg (by omega), if_neg a0]
  by_cases a1 : 194 ≤ b0 ∧ b0 ≤ 223
  ·have e : b0 / 32 = 6 := by omega
   rw [if_pos a1]
   by_cases c : 1 < n ∧ Sec b0 b1
   ·have c2 : b1 / 64 = 2 := by have := c.2; unfold Sec at this; (repeat' split at this) <;> omega
    rw [if_pos c, if_pos ⟨e, c.1, c2⟩, if_pos (by omega)]
    rfl
   ·have c2 : ¬ (1 < n ∧ b1 / 64 = 2) := by
     intro hc
     apply c
     refine ⟨hc.1, ?_⟩
     unfold Sec
     rw [if_neg (by omega), if_neg (by omega), if_neg (by omega), if_neg (by omega)]
     omega
    rw [if_neg c, if_neg (fun h => c2 h.2), if_neg (by omega), if_neg (by omega)]
    rfl
  ·rw [if_neg a1]
   by_cases a2 : 224 ≤ b0 ∧ b0 ≤ 239
   ·have e : b0 / 16 = 14 := by omega
    rw [if_pos a2, if_neg (by omega)]
    by_cases c : 1 < n ∧ Sec b0 b1
    ·have c2 : b1 / 64 = 2 := by have := c.2; unfold Sec at this; (repeat' split at this) <;> omega
     rw [if_pos c]
     by_cases d : 2 < n ∧ Cont b2
     ·have d2 : b2 / 64 = 2 := by have := d.2; unfold Cont at this; omega
      rw [if_pos d, if_pos ⟨⟨e, c.1, c2⟩, d.1, d2⟩, if_pos (by have := c.2; unfold Sec at this; (repeat' split at this) <;> omega)]
      rfl
     ·have d2 : ¬ (2 < n ∧ b2 / 64 = 2) := by
       intro hc
       apply d
       refine ⟨hc.1, ?_⟩
       unfold Cont
       omega
      rw [if_neg d, if_neg (fun h => d2 h.2), if_neg (by omega)]
      rfl
    ·rw [if_neg c]
     by_cases d : (b0 / 16 = 14 ∧ 1 < n ∧ b1 / 64 = 2) ∧ 2 < n ∧ b2 / 64 = 2
     ·rw [if_pos d, if_neg (by
       intro hv
       apply c
       refine ⟨d.1.2.1, ?_⟩
       unfold Sec
       (repeat' split) <;> omega)]
      rfl
     ·rw [if_neg d, if_neg (by omega)]
      rfl
   ·rw [if_neg a2]
    by_cases a3 : 240 ≤ b0 ∧ b0 ≤ 244
    ·have e : b0 / 8 = 30 := by omega
     rw [if_neg (by omega), if_neg (by omega), if_pos a3]
     by_cases c : 1 < n ∧ Sec b0 b1
     ·have c2 : b1 / 64 = 2 := by have := c.2; unfold Sec at this; (repeat' split at this) <;> omega
      rw [if_pos c]
      by_cases d : 2 < n ∧ Cont b2
      ·have d2 : b2 / 64 = 2 := by have := d.2; unfold Cont at this; omega
       rw [if_pos d]
       by_cases f : 3 < n ∧ Cont b3
       ·have f2 : b3 / 64 = 2 := by have := f.2; unfold Cont at this; omega
        rw [if_pos f, if_pos ⟨⟨⟨e, c.1, c2⟩, d.1, d2⟩, f.1, f2⟩, if_pos (by have := c.2; unfold Sec at this; (repeat' split at this) <;> omega)]
        rfl
       ·have f2 : ¬ (3 < n ∧ b3 / 64 = 2) := by
         intro hc
         apply f
         refine ⟨hc.1, ?_⟩
         unfold Cont
         omega
        rw [if_neg f, if_neg (fun h => f2 h.2)]
        rfl
      ·have d2 : ¬ (2 < n ∧ b2 / 64 = 2) := by
        intro hc
        apply d
        refine ⟨hc.1, ?_⟩
        unfold Cont
        omega
       rw [if_neg d, if_neg (fun h => d2 h.1.2)]
       rfl
     ·rw [if_neg c]
      by_cases d : ((b0 / 8 = 30 ∧ 1 < n ∧ b1 / 64 = 2) ∧ 2 < n ∧ b2 / 64 = 2) ∧ 3 < n ∧ b3 / 64 = 2
      ·rw [if_pos d, if_neg (by
        intro hv
        apply c
        refine ⟨d.1.1.2.1, ?_⟩
        unfold Sec
        (repeat' split) <;> omega)]
       rfl
      ·rw [if_neg d]
       rfl
    ·rw [if_neg a3]
     by_cases g : b0 / 32 = 6 ∧ 1 < n ∧ b1 / 64 = 2
     ·rw [if_pos g, if_neg (by omega)]
      rfl
     rw [if_neg g, if_neg (by omega)]
     by_cases d : ((b0 / 8 = 30 ∧ 1 < n ∧ b1 / 64 = 2) ∧ 2 < n ∧ b2 / 64 = 2) ∧ 3 < n ∧ b3 / 64 = 2
     ·rw [if_pos d, if_neg (by omega)]
      rfl
     ·rw [if_neg d]
      rfl
theorem decode_list (s : ByteArray) (i : Nat) : Utf8.decode s i = decL (s.data.toList.drop i) := by
 rw [decode_decM, decM_decL]
theorem hid_mk {p : Prop} (h : p) : Hid p := h
def wh (b : Nat) : Nat := if 194 ≤ b ∧ b ≤ 223 then 2 else if 224 ≤ b ∧ b ≤ 239 then 3 else if 240 ≤ b ∧ b ≤ 244 then 4 else 1
def lo2 (b : Nat) : Nat := if b = 224 then 160 else if b = 240 then 144 else if 194 ≤ b ∧ b ≤ 244 then 128 else 0
def hi2 (b : Nat) : Nat := if b = 237 then 159 else if b = 244 then 143 else if 194 ≤ b ∧ b ≤ 244 then 191 else 0
def okAt (a j b : Nat) : Prop := if j = 1 then Sec a b else Cont b
theorem cut_stop (l : List UInt8) (k : Nat) (h1 : 1 ≤ k) (hk : k ≤ wh (atL l 0)) (acc : ∀ j, 1 ≤ j → j < k → j < l.length ∧ okAt (atL l 0) j (atL l j))
 (stop : k = wh (atL l 0) ∨ l.length ≤ k ∨ ¬ okAt (atL l 0) k (atL l k)) : (cutL l).n = k := by
 unfold cutL cutN
 have a1 := acc 1 (by omega)
 have a2 := acc 2 (by omega)
 have a3 := acc 3 (by omega)
 have hw4 : wh (atL l 0) ≤ 4 := by unfold wh; (repeat' split) <;> omega
 have hk4 : k = 1 ∨ k = 2 ∨ k = 3 ∨ k = 4 := by omega
 generalize atL l 0 = b0 at *
 generalize l.length = n at *
 unfold okAt at a1 a2 a3 stop
 simp only [if_true, show (2 : Nat) ≠ 1 from by decide, show (3 : Nat) ≠ 1 from by decide, if_false] at a1 a2 a3
 unfold wh at hk stop
 rcases hk4 with rfl | rfl | rfl | rfl
 all_goals
  simp at a1 a2 a3 stop
  (repeat' split at hk) <;> (repeat' split at stop) <;> (repeat' split) <;> first | rfl | (exfalso; omega) | (simp_all [bad]; done) | (simp_all [bad]; omega)
def sl (s : ByteArray) : List UInt8 := s.data.toList
theorem byte_atL (s : ByteArray) (k : Nat) (h : k < s.size) : (s[k]'h).toNat = atL (sl s) k := by
 unfold atL sl
 have h2 : k < s.data.toList.length := by rw [Array.length_toList]; exact h
 rw [List.getElem?_eq_getElem h2]
 rfl
theorem len_sl (s : ByteArray) : (sl s).length = s.size := Array.length_toList
theorem sec_cont {a b : Nat} (h : Sec a b) : Cont b := by
 unfold Sec at h
 unfold Cont
 (repeat' split at h) <;> omega
theorem cut_facts (l : List UInt8) (h : 0 < l.length) : 1 ≤ (cutL l).n ∧ (cutL l).n ≤ l.length ∧ (cutL l).n ≤ 4 ∧ (cutL l).r ≤ 1114111 ∧ ((cutL l).ok = false → (cutL l).r = 65533 ∧ ∀ j, 1 ≤ j → j < (cutL l).n → Cont (atL l j)) := by
 have h0 := atL_lt l 0
 unfold cutL cutN
 by_cases a0 : atL l 0 < 128
 ·rw [if_pos a0]
  exact ⟨by simp, h, by simp, by simp; omega, fun hf => by cases hf⟩
 rw [if_neg a0]
 by_cases a1 : 194 ≤ atL l 0 ∧ atL l 0 ≤ 223
 ·rw [if_pos a1]
  by_cases c : 1 < l.length ∧ Sec (atL l 0) (atL l 1)
  ·rw [if_pos c]
   exact ⟨by simp, c.1, by simp, by simp; omega, fun hf => by cases hf⟩
  ·rw [if_neg c]
   exact ⟨by simp [bad], h, by simp [bad], by simp [bad], fun _ => ⟨rfl, fun j j1 j2 => absurd j2 (by simp [bad]; omega)⟩⟩
 rw [if_neg a1]
 by_cases a2 : 224 ≤ atL l 0 ∧ atL l 0 ≤ 239
 ·rw [if_pos a2]
  by_cases c : 1 < l.length ∧ Sec (atL l 0) (atL l 1)
  ·rw [if_pos c]
   by_cases d : 2 < l.length ∧ Cont (atL l 2)
   ·rw [if_pos d]
    exact ⟨by simp, d.1, by simp, by simp; omega, fun hf => by cases hf⟩
   ·rw [if_neg d]
    refine ⟨by simp [bad], c.1, by simp [bad], by simp [bad], fun _ => ⟨rfl, fun j j1 j2 => ?_⟩⟩
    obtain rfl : j = 1 := by simp [bad] at j2; omega
    exact sec_cont c.2
  ·rw [if_neg c]
   exact ⟨by simp [bad], h, by simp [bad], by simp [bad], fun _ => ⟨rfl, fun j j1 j2 => absurd j2 (by simp [bad]; omega)⟩⟩
 rw [if_neg a2]
 by_cases a3 : 240 ≤ atL l 0 ∧ atL l 0 ≤ 244
 ·rw [if_pos a3]
  by_cases c : 1 < l.length ∧ Sec (atL l 0) (atL l 1)
  ·rw [if_pos c]
   by_cases d : 2 < l.length ∧ Cont (atL l 2)
   ·rw [if_pos d]
    by_cases f : 3 < l.length ∧ Cont (atL l 3)
    ·rw [if_pos f]
     refine ⟨by simp, f.1, by simp, ?_, fun hf => by cases hf⟩
     have := c.2
     unfold Sec at this
     simp only
     (repeat' split at this) <;> omega
    ·rw [if_neg f]
     refine ⟨by simp [bad], d.1, by simp [bad], by simp [bad], fun _ => ⟨rfl, fun j j1 j2 => ?_⟩⟩
     have : j = 1 ∨ j = 2 := by simp [bad] at j2; omega
     rcases this with rfl | rfl
     ·exact sec_cont c.2
     ·exact d.2
   ·rw [if_neg d]
    refine ⟨by simp [bad], c.1, by simp [bad], by simp [bad], fun _ => ⟨rfl, fun j j1 j2 => ?_⟩⟩
    obtain rfl : j = 1 := by simp [bad] at j2; omega
    exact sec_cont c.2
  ·rw [if_neg c]
   exact ⟨by simp [bad], h, by simp [bad], by simp [bad], fun _ => ⟨rfl, fun j j1 j2 => absurd j2 (by simp [bad]; omega)⟩⟩
 ·rw [if_neg a3]
  exact ⟨by simp [bad], h, by simp [bad], by simp [bad], fun _ => ⟨rfl, fun j j1 j2 => absurd j2 (by simp [bad]; omega)⟩⟩
/-- A byte of a later part stands for itself, ill-formed, one byte wide. -/
theorem decL_cont (l : List UInt8) (h : Cont (atL l 0)) : decL l = (65533, 1) := by
 unfold Cont at h
 have e : cutL l = bad 1 := by
  unfold cutL cutN
  rw [if_neg (by omega), if_neg (by omega), if_neg (by omega), if_neg (by omega)]
 unfold decL
 rw [e]
 rfl
def runesF : Nat → List UInt8 → List Nat
 | 0, _ => []
 | _ + 1, [] => []
 | f + 1, c :: l => (cutL (c :: l)).r :: runesF f ((c :: l).drop (cutL (c :: l)).n)
def runesL (l : List UInt8) : List Nat := runesF l.length l
theorem runesF_fuel : ∀ (f g : Nat) (l : List UInt8), l.length ≤ f → l.length ≤ g → runesF f l = runesF g l
 | 0, 0, _, _, _ => rfl
 | 0, g + 1, l, h, _ => by
   have : l = [] := List.eq_nil_of_length_eq_zero (by omega)
   subst this
   rfl
 | f + 1, 0, l, _, h => by
   have : l = [] := List.eq_nil_of_length_eq_zero (by omega)
   subst this
   rfl
 | f + 1, g + 1, [], _, _ => rfl
 | f + 1, g + 1, c :: l, h1, h2 => by
   have hc := cut_facts (c :: l) (by simp)
   unfold runesF
   rw [runesF_fuel f g _ (by rw [List.length_drop]; simp at h1; simp; omega) (by rw [List.length_drop]; simp at h2; simp; omega)]
theorem runesL_nil : runesL [] = [] := rfl
theorem runesL_cons (l : List UInt8) (h : 0 < l.length) : runesL l = (cutL l).r :: runesL (l.drop (cutL l).n) := by
 have hc := cut_facts l h
 obtain ⟨c, t, rfl⟩ : ∃ c t, l = c :: t := by
  cases l with
  | nil => simp at h
  | cons c t => exact ⟨c, t, rfl⟩
 unfold runesL
 rw [List.length_cons]
 show _ :: _ = _
 rw [runesF_fuel t.length ((c :: t).drop (cutL (c :: t)).n).length _ (by rw [List.length_drop, List.length_cons]; omega) (Nat.le_refl _)]
def IterKept (w w' : World) : Prop := ∀ (k : Nat) (s : ByteArray) (pos : Nat), w.heap[k]? = some (.stringIter s pos) → w'.heap[k]? = some (.stringIter s pos)
theorem sl_extract (s : ByteArray) (i : Nat) : sl (s.extract i s.size) = (sl s).drop i := by
 exact Lib.extract_to_end s i
theorem size_extract (s : ByteArray) (i : Nat) : (s.extract i s.size).size = s.size - i := by
 rw [← len_sl, sl_extract, List.length_drop, len_sl]
theorem atL_drop (l : List UInt8) (i k : Nat) : atL (l.drop i) k = atL l (i + k) := by
 unfold atL
 rw [List.getElem?_drop]
theorem decode_sl (s : ByteArray) (i : Nat) : Utf8.decode s i = decL ((sl s).drop i) := decode_list s i
/-- Where the loop stands: at a part's beginning, or within an ill-formed one. -/
def St (s : ByteArray) (pos e : Nat) (acc : List Nat) : Prop :=
 (e ≤ pos ∧ acc ++ runesL ((sl s).drop pos) = runesL (sl s)) ∨
 (pos < e ∧ e ≤ s.size ∧ (∀ j, pos ≤ j → j < e → Cont (atL (sl s) j)) ∧ acc ++ runesL ((sl s).drop e) = runesL (sl s))
theorem St.inside {s : ByteArray} {pos e : Nat} {acc : List Nat} (h : St s pos e acc) (hp : pos < e) : decL ((sl s).drop pos) = (65533, 1) ∧ St s (pos + 1) e acc := by
 rcases h with ⟨h1, _⟩ | ⟨_, h2, h3, h4⟩
 ·omega
 ·refine ⟨decL_cont _ ?_, ?_⟩
  ·rw [atL_drop]; exact h3 pos (Nat.le_refl _) hp
  ·by_cases he : pos + 1 = e
   ·subst he; exact .inl ⟨Nat.le_refl _, h4⟩
   ·exact .inr ⟨by omega, h2, fun j j1 j2 => h3 j (by omega) j2, h4⟩
theorem St.begin {s : ByteArray} {pos e : Nat} {acc : List Nat} (h : St s pos e acc) (hp : e ≤ pos) (hs : pos < s.size) :
 (decL ((sl s).drop pos)).1 ≤ 1114111 ∧ 1 ≤ (decL ((sl s).drop pos)).2 ∧ (cutL ((sl s).drop pos)).n ≤ s.size - pos ∧ pos + (decL ((sl s).drop pos)).2 ≤ s.size ∧ St s (pos + (decL ((sl s).drop pos)).2) (pos + (cutL ((sl s).drop pos)).n) (acc ++ [(decL ((sl s).drop pos)).1]) := by
 have hl : 0 < ((sl s).drop pos).length := by rw [List.length_drop, len_sl]; omega
 obtain ⟨n1, n2, _, r1, hb⟩ := cut_facts _ hl
 rw [List.length_drop, len_sl] at n2
 rcases h with ⟨_, h2⟩ | ⟨h1, _⟩
 ·rw [runesL_cons _ hl, List.drop_drop] at h2
  unfold decL
  cases hok : (cutL ((sl s).drop pos)).ok with
  | true =>
    rw [if_pos rfl]
    exact ⟨r1, n1, by omega, by omega, .inl ⟨Nat.le_refl _, by rw [List.append_assoc]; exact h2⟩⟩
  | false =>
    obtain ⟨hr, hc⟩ := hb hok
    rw [if_neg (by simp)]
    rw [hr] at h2
    refine ⟨by simp, by simp, by omega, by simp; omega, ?_⟩
    by_cases hn : (cutL ((sl s).drop pos)).n = 1
    ·rw [hn] at h2 ⊢
     exact .inl ⟨Nat.le_refl _, by rw [List.append_assoc]; exact h2⟩
    ·refine .inr ⟨by simp; omega, by omega, fun j j1 j2 => ?_, by rw [List.append_assoc]; exact h2⟩
     have := hc (j - pos) (by simp at j1; omega) (by omega)
     rw [atL_drop] at this
     rwa [show pos + (j - pos) = j from by simp at j1; omega] at this
 ·omega
theorem St.done {s : ByteArray} {pos e : Nat} {acc : List Nat} (h : St s pos e acc) (hp : ¬ pos < s.size) : acc = runesL (sl s) := by
 rcases h with ⟨_, h2⟩ | ⟨h1, h2, _⟩
 ·rw [List.drop_eq_nil_of_le (by rw [len_sl]; omega), runesL_nil, List.append_nil] at h2
  exact h2
 ·omega
def piece (before r : Nat) : List UInt8 := if r = 13 then [10] else if r = 10 ∧ before = 13 then [] else Lib.encodeRune r
def decStep (st : Nat × List UInt8) (r : Nat) : Nat × List UInt8 := (r, st.2 ++ piece st.1 r)
def decSt (rs : List Nat) : Nat × List UInt8 := rs.foldl decStep (0, [])
theorem decSt_snoc (rs : List Nat) (r : Nat) : decSt (rs ++ [r]) = decStep (decSt rs) r := by
 unfold decSt
 rw [List.foldl_append]
 rfl
theorem piece_len (b r : Nat) : (piece b r).length ≤ 4 := by
 unfold piece
 have := Lib.runeCells_le r
 rw [Lib.runeCells_length] at this
 (repeat' split) <;> simp <;> omega
theorem decSt_len : ∀ (rs : List Nat) (st : Nat × List UInt8), (rs.foldl decStep st).2.length ≤ st.2.length + 4 * rs.length
 | [], st => by simp
 | r :: rs, st => by
   have h1 := decSt_len rs (decStep st r)
   have h2 := piece_len st.1 r
   simp only [List.foldl_cons, List.length_cons]
   have h3 : (decStep st r).2.length = st.2.length + (piece st.1 r).length := by simp [decStep]
   omega
theorem u8_back (x : Int) (b : UInt8) (h : x = (b.toNat : Int)) : x.toNat.toUInt8 = b := by
 subst h
 simp
theorem back_map : ∀ (l : List UInt8) (z : List Int), z = (l.map fun b => ((b.toNat : Nat) : Int)) → l = z.map (fun x => x.toNat.toUInt8)
 | [], z, h => by subst h; rfl
 | b :: l, z, h => by
   subst h
   rw [List.map_cons, List.map_cons, ← back_map l _ rfl, u8_back _ b rfl]
theorem runesF_len : ∀ (f : Nat) (l : List UInt8), (runesF f l).length ≤ f
 | 0, _ => Nat.le_refl _
 | _ + 1, [] => Nat.zero_le _
 | f + 1, c :: l => by
   unfold runesF
   rw [List.length_cons]
   exact Nat.succ_le_succ (runesF_len f _)
set_option maxRecDepth 100000 in
theorem cut_enc (l : List UInt8) (hl : 0 < l.length) (hok : (cutL l).ok = true) : l.take (cutL l).n = Lib.encodeRune ((cutL l).r : Nat) := by
 have hf := cut_facts l hl
 unfold Lib.encodeRune
 have k0 := atL_lt l 0
 unfold cutL cutN at hok hf ⊢
 by_cases a0 : atL l 0 < 128
 ·rw [if_pos a0] at hok hf ⊢
  obtain ⟨a, t, rfl⟩ : ∃ a t, l = a :: t := by
   match l, hl with
   | a :: t, _ => exact ⟨a, t, rfl⟩
  rw [Lib.encodeRuneZ_one (by simp) (by simp; omega)]
  exact back_map [a] _ rfl
 rw [if_neg a0] at hok hf ⊢
 by_cases a1 : 194 ≤ atL l 0 ∧ atL l 0 ≤ 223
 ·rw [if_pos a1] at hok hf ⊢
  by_cases c : 1 < l.length ∧ Sec (atL l 0) (atL l 1)
  ·rw [if_pos c] at hok hf ⊢
   obtain ⟨a, b, t, rfl⟩ : ∃ a b t, l = a :: b :: t := by
    match l, c.1 with
    | a :: b :: t, _ => exact ⟨a, b, t, rfl⟩
   have hc := sec_cont c.2
   unfold Cont at hc
   have e0 : atL (a :: b :: t) 0 = a.toNat := rfl
   have e1 : atL (a :: b :: t) 1 = b.toNat := rfl
   rw [e0] at a1
   rw [e1] at hc
   simp only [e0, e1]
   rw [Lib.encodeRuneZ_two (by omega) (by omega)]
   refine back_map [a, b] _ ?_
   simp only [List.map_cons, List.map_nil, List.cons.injEq, and_true]
   (repeat' apply And.intro) <;> omega
  ·rw [if_neg c] at hok; cases hok
 rw [if_neg a1] at hok hf ⊢
 by_cases a2 : 224 ≤ atL l 0 ∧ atL l 0 ≤ 239
 ·rw [if_pos a2] at hok hf ⊢
  by_cases c : 1 < l.length ∧ Sec (atL l 0) (atL l 1)
  ·rw [if_pos c] at hok hf ⊢
   by_cases d : 2 < l.length ∧ Cont (atL l 2)
   ·rw [if_pos d] at hok hf ⊢
    obtain ⟨a, b, e, t, rfl⟩ : ∃ a b e t, l = a :: b :: e :: t := by
     match l, d.1 with
     | a :: b :: e :: t, _ => exact ⟨a, b, e, t, rfl⟩
    have hc := c.2
    have hd := d.2
    unfold Sec at hc
    unfold Cont at hd
    have e0 : atL (a :: b :: e :: t) 0 = a.toNat := rfl
    have e1 : atL (a :: b :: e :: t) 1 = b.toNat := rfl
    have e2 : atL (a :: b :: e :: t) 2 = e.toNat := rfl
    rw [e0] at a2
    rw [e0, e1] at hc
    rw [e2] at hd
    simp only [e0, e1, e2]
    have hb : 128 ≤ b.toNat ∧ b.toNat ≤ 191 ∧ (a.toNat = 224 → 160 ≤ b.toNat) ∧ (a.toNat = 237 → b.toNat ≤ 159) := by
     (repeat' split at hc) <;> omega
    rw [Lib.encodeRuneZ_three (by omega)]
    refine back_map [a, b, e] _ ?_
    simp only [List.map_cons, List.map_nil, List.cons.injEq, and_true]
    (repeat' apply And.intro) <;> omega
   ·rw [if_neg d] at hok; cases hok
  ·rw [if_neg c] at hok; cases hok
 rw [if_neg a2] at hok hf ⊢
 by_cases a3 : 240 ≤ atL l 0 ∧ atL l 0 ≤ 244
 ·rw [if_pos a3] at hok hf ⊢
  by_cases c : 1 < l.length ∧ Sec (atL l 0) (atL l 1)
  ·rw [if_pos c] at hok hf ⊢
   by_cases d : 2 < l.length ∧ Cont (atL l 2)
   ·rw [if_pos d] at hok hf ⊢
    by_cases f : 3 < l.length ∧ Cont (atL l 3)
    ·rw [if_pos f] at hok hf ⊢
     obtain ⟨a, b, e, g, t, rfl⟩ : ∃ a b e g t, l = a :: b :: e :: g :: t := by
      match l, f.1 with
      | a :: b :: e :: g :: t, _ => exact ⟨a, b, e, g, t, rfl⟩
     have hc := c.2
     have hd := d.2
     have hf2 := f.2
     unfold Sec at hc
     unfold Cont at hd hf2
     have e0 : atL (a :: b :: e :: g :: t) 0 = a.toNat := rfl
     have e1 : atL (a :: b :: e :: g :: t) 1 = b.toNat := rfl
     have e2 : atL (a :: b :: e :: g :: t) 2 = e.toNat := rfl
     have e3 : atL (a :: b :: e :: g :: t) 3 = g.toNat := rfl
     rw [e0] at a3
     rw [e0, e1] at hc
     rw [e2] at hd
     rw [e3] at hf2
     simp only [e0, e1, e2, e3]
     have hb : 128 ≤ b.toNat ∧ b.toNat ≤ 191 ∧ (a.toNat = 240 → 144 ≤ b.toNat) ∧ (a.toNat = 244 → b.toNat ≤ 143) := by
      (repeat' split at hc) <;> omega
     rw [Lib.encodeRuneZ_four (by omega) (by omega)]
     refine back_map [a, b, e, g] _ ?_
     simp only [List.map_cons, List.map_nil, List.cons.injEq, and_true]
     (repeat' apply And.intro) <;> omega
    ·rw [if_neg f] at hok; cases hok
   ·rw [if_neg d] at hok; cases hok
  ·rw [if_neg c] at hok; cases hok
 ·rw [if_neg a3] at hok; cases hok
theorem runesL_len (l : List UInt8) : (runesL l).length ≤ l.length := runesF_len _ _
def wellF : Nat → List UInt8 → Bool
 | 0, _ => true
 | _ + 1, [] => true
 | f + 1, c :: l => (cutL (c :: l)).ok && wellF f ((c :: l).drop (cutL (c :: l)).n)
def wellL (l : List UInt8) : Bool := wellF l.length l
theorem wellF_fuel : ∀ (f g : Nat) (l : List UInt8), l.length ≤ f → l.length ≤ g → wellF f l = wellF g l
 | 0, 0, _, _, _ => rfl
 | 0, g + 1, l, h, _ => by
   have : l = [] := List.eq_nil_of_length_eq_zero (by omega)
   subst this
   rfl
 | f + 1, 0, l, _, h => by
   have : l = [] := List.eq_nil_of_length_eq_zero (by omega)
   subst this
   rfl
 | f + 1, g + 1, [], _, _ => rfl
 | f + 1, g + 1, c :: l, h1, h2 => by
   have hc := cut_facts (c :: l) (by simp)
   unfold wellF
   rw [wellF_fuel f g _ (by rw [List.length_drop]; simp at h1; simp; omega) (by rw [List.length_drop]; simp at h2; simp; omega)]
theorem wellL_cons (l : List UInt8) (h : 0 < l.length) : wellL l = ((cutL l).ok && wellL (l.drop (cutL l).n)) := by
 have hc := cut_facts l h
 obtain ⟨c, t, rfl⟩ : ∃ c t, l = c :: t := by
  cases l with
  | nil => simp at h
  | cons c t => exact ⟨c, t, rfl⟩
 unfold wellL
 rw [List.length_cons]
 show (_ && _) = _
 rw [wellF_fuel t.length ((c :: t).drop (cutL (c :: t)).n).length _ (by rw [List.length_drop, List.length_cons]; omega) (Nat.le_refl _)]
theorem atL_app (l t : List UInt8) (k : Nat) (h : k < l.length) : atL (l ++ t) k = atL l k := by
 unfold atL
 rw [List.getElem?_append_left h]
theorem cut_app (l t : List UInt8) (hl : 0 < l.length) (hok : (cutL l).ok = true) : cutL (l ++ t) = cutL l := by
 have hL : (l ++ t).length = l.length + t.length := List.length_append
 have e0 := atL_app l t 0 hl
 unfold cutL cutN at hok ⊢
 rw [hL, e0]
 by_cases a0 : atL l 0 < 128
 ·rw [if_pos a0, if_pos a0]
 rw [if_neg a0] at hok ⊢
 rw [if_neg a0]
 by_cases a1 : 194 ≤ atL l 0 ∧ atL l 0 ≤ 223
 ·rw [if_pos a1] at hok ⊢
  rw [if_pos a1]
  by_cases c : 1 < l.length ∧ Sec (atL l 0) (atL l 1)
  ·rw [atL_app l t 1 c.1, if_pos c, if_pos ⟨by omega, c.2⟩]
  ·rw [if_neg c] at hok; cases hok
 rw [if_neg a1] at hok ⊢
 rw [if_neg a1]
 by_cases a2 : 224 ≤ atL l 0 ∧ atL l 0 ≤ 239
 ·rw [if_pos a2] at hok ⊢
  rw [if_pos a2]
  by_cases c : 1 < l.length ∧ Sec (atL l 0) (atL l 1)
  ·rw [if_pos c] at hok
   by_cases d : 2 < l.length ∧ Cont (atL l 2)
   ·rw [atL_app l t 1 c.1, atL_app l t 2 d.1, if_pos c, if_pos d, if_pos ⟨by omega, c.2⟩, if_pos ⟨by omega, d.2⟩]
   ·rw [if_neg d] at hok; cases hok
  ·rw [if_neg c] at hok; cases hok
 rw [if_neg a2] at hok ⊢
 rw [if_neg a2]
 by_cases a3 : 240 ≤ atL l 0 ∧ atL l 0 ≤ 244
 ·rw [if_pos a3] at hok ⊢
  rw [if_pos a3]
  by_cases c : 1 < l.length ∧ Sec (atL l 0) (atL l 1)
  ·rw [if_pos c] at hok
   by_cases d : 2 < l.length ∧ Cont (atL l 2)
   ·rw [if_pos d] at hok
    by_cases f : 3 < l.length ∧ Cont (atL l 3)
    ·rw [atL_app l t 1 c.1, atL_app l t 2 d.1, atL_app l t 3 f.1, if_pos c, if_pos d, if_pos f, if_pos ⟨by omega, c.2⟩, if_pos ⟨by omega, d.2⟩, if_pos ⟨by omega, f.2⟩]
    ·rw [if_neg f] at hok; cases hok
   ·rw [if_neg d] at hok; cases hok
  ·rw [if_neg c] at hok; cases hok
 ·rw [if_neg a3] at hok; cases hok
theorem runesL_app (b : List UInt8) : ∀ (n : Nat) (a : List UInt8), a.length ≤ n → wellL a = true → runesL (a ++ b) = runesL a ++ runesL b
 | 0, a, h, _ => by
   have : a = [] := List.eq_nil_of_length_eq_zero (by omega)
   subst this
   rfl
 | n + 1, a, h, hw => by
   by_cases h0 : 0 < a.length
   ·have hc := cut_facts a h0
    rw [wellL_cons a h0, Bool.and_eq_true] at hw
    have hca := cut_app a b h0 hw.1
    rw [runesL_cons (a ++ b) (by rw [List.length_append]; omega), runesL_cons a h0, hca, List.drop_append_of_le_length hc.2.1, runesL_app b n _ (by rw [List.length_drop]; omega) hw.2]
    rfl
   ·have : a = [] := List.eq_nil_of_length_eq_zero (by omega)
    subst this
    rfl
/-- The characters of a well-formed text are its bytes again. -/
theorem encL_runes : ∀ (n : Nat) (a : List UInt8), a.length ≤ n → wellL a = true → encL ((runesL a).map fun (r : Nat) => (r : Int)) = a
 | 0, a, h, _ => by
   have : a = [] := List.eq_nil_of_length_eq_zero (by omega)
   subst this
   rfl
 | n + 1, a, h, hw => by
   by_cases h0 : 0 < a.length
   ·have hc := cut_facts a h0
    rw [wellL_cons a h0, Bool.and_eq_true] at hw
    have ih := encL_runes n _ (by rw [List.length_drop]; omega) hw.2
    rw [runesL_cons a h0, List.map_cons]
    unfold encL at ih ⊢
    rw [List.flatMap_cons, ih, ← cut_enc a h0 hw.1, List.take_append_drop]
   ·have : a = [] := List.eq_nil_of_length_eq_zero (by omega)
    subst this
    rfl
theorem u8_of (x : Int) (n : Nat) (h : x = (n : Int)) (h2 : n < 256) : (x.toNat.toUInt8).toNat = n := by
 subst h
 simp
 omega
theorem cut_of_enc (r : Nat) (t : List UInt8) (hv : r < 55296 ∨ (57344 ≤ r ∧ r ≤ 1114111)) : cutL (Lib.encodeRune (r : Int) ++ t) = ⟨r, (Lib.encodeRune (r : Int)).length, true⟩ := by
 unfold Lib.encodeRune
 by_cases c1 : r < 128
 ·rw [Lib.encodeRuneZ_one (by omega) (by omega)]
  simp only [List.map_cons, List.map_nil, List.cons_append, List.nil_append, List.length_cons, List.length_nil]
  have ha := u8_of (r : Int) r rfl (by omega)
  generalize ((r : Int).toNat.toUInt8) = a at *
  have e0 : atL (a :: t) 0 = a.toNat := rfl
  unfold cutL cutN
  rw [e0, ha, if_pos c1]
 by_cases c2 : r < 2048
 ·rw [Lib.encodeRuneZ_two (by omega) (by omega)]
  simp only [List.map_cons, List.map_nil, List.cons_append, List.nil_append, List.length_cons, List.length_nil]
  have ha := u8_of (192 + (r : Int) / 64) (192 + r / 64) (by omega) (by omega)
  have hb := u8_of (128 + (r : Int) % 64) (128 + r % 64) (by omega) (by omega)
  generalize ((192 + (r : Int) / 64).toNat.toUInt8) = a at *
  generalize ((128 + (r : Int) % 64).toNat.toUInt8) = b at *
  have e0 : atL (a :: b :: t) 0 = a.toNat := rfl
  have e1 : atL (a :: b :: t) 1 = b.toNat := rfl
  have hs : Sec a.toNat b.toNat := by
   unfold Sec
   (repeat' split) <;> omega
  unfold cutL cutN
  rw [e0, e1, if_neg (by omega), if_pos (by omega), if_pos ⟨by simp, hs⟩]
  congr 1
  omega
 by_cases c3 : r < 65536
 ·rw [Lib.encodeRuneZ_three (by omega)]
  simp only [List.map_cons, List.map_nil, List.cons_append, List.nil_append, List.length_cons, List.length_nil]
  have ha := u8_of (224 + (r : Int) / 4096) (224 + r / 4096) (by omega) (by omega)
  have hb := u8_of (128 + (r : Int) / 64 % 64) (128 + r / 64 % 64) (by omega) (by omega)
  have hd := u8_of (128 + (r : Int) % 64) (128 + r % 64) (by omega) (by omega)
  generalize ((224 + (r : Int) / 4096).toNat.toUInt8) = a at *
  generalize ((128 + (r : Int) / 64 % 64).toNat.toUInt8) = b at *
  generalize ((128 + (r : Int) % 64).toNat.toUInt8) = d at *
  have e0 : atL (a :: b :: d :: t) 0 = a.toNat := rfl
  have e1 : atL (a :: b :: d :: t) 1 = b.toNat := rfl
  have e2 : atL (a :: b :: d :: t) 2 = d.toNat := rfl
  have hs : Sec a.toNat b.toNat := by
   unfold Sec
   (repeat' split) <;> omega
  have hs2 : Cont d.toNat := by unfold Cont; omega
  unfold cutL cutN
  rw [e0, e1, e2, if_neg (by omega), if_neg (by omega), if_pos (by omega), if_pos ⟨by simp, hs⟩, if_pos ⟨by simp, hs2⟩]
  congr 1
  omega
 ·rw [Lib.encodeRuneZ_four (by omega) (by omega)]
  simp only [List.map_cons, List.map_nil, List.cons_append, List.nil_append, List.length_cons, List.length_nil]
  have ha := u8_of (240 + (r : Int) / 262144) (240 + r / 262144) (by omega) (by omega)
  have hb := u8_of (128 + (r : Int) / 4096 % 64) (128 + r / 4096 % 64) (by omega) (by omega)
  have hd := u8_of (128 + (r : Int) / 64 % 64) (128 + r / 64 % 64) (by omega) (by omega)
  have hf := u8_of (128 + (r : Int) % 64) (128 + r % 64) (by omega) (by omega)
  generalize ((240 + (r : Int) / 262144).toNat.toUInt8) = a at *
  generalize ((128 + (r : Int) / 4096 % 64).toNat.toUInt8) = b at *
  generalize ((128 + (r : Int) / 64 % 64).toNat.toUInt8) = d at *
  generalize ((128 + (r : Int) % 64).toNat.toUInt8) = f at *
  have e0 : atL (a :: b :: d :: f :: t) 0 = a.toNat := rfl
  have e1 : atL (a :: b :: d :: f :: t) 1 = b.toNat := rfl
  have e2 : atL (a :: b :: d :: f :: t) 2 = d.toNat := rfl
  have e3 : atL (a :: b :: d :: f :: t) 3 = f.toNat := rfl
  have hs : Sec a.toNat b.toNat := by
   unfold Sec
   (repeat' split) <;> omega
  have hs2 : Cont d.toNat := by unfold Cont; omega
  have hs3 : Cont f.toNat := by unfold Cont; omega
  unfold cutL cutN
  rw [e0, e1, e2, e3, if_neg (by omega), if_neg (by omega), if_neg (by omega), if_pos (by omega), if_pos ⟨by simp, hs⟩, if_pos ⟨by simp, hs2⟩, if_pos ⟨by simp, hs3⟩]
  congr 1
  omega
def Val (r : Nat) : Prop := r < 55296 ∨ (57344 ≤ r ∧ r ≤ 1114111)
def fixR (r : Int) : Nat := if r < 0 ∨ (55296 ≤ r ∧ r ≤ 57343) ∨ 1114111 < r then 65533 else r.toNat
theorem fix_val (r : Int) : Val (fixR r) := by
 unfold fixR Val
 split <;> omega
theorem enc_fix (r : Int) : Lib.encodeRune r = Lib.encodeRune ((fixR r : Nat) : Int) := by
 unfold fixR
 split
 ·rename_i h
  unfold Lib.encodeRune
  rw [Lib.encodeRuneZ_bad h]
  decide
 ·rename_i h
  congr 1
  omega
theorem fix_of (r : Nat) (h : Val r) : fixR (r : Int) = r := by
 unfold fixR
 unfold Val at h
 rw [if_neg (by omega)]
 rfl
theorem one_app (r : Int) (t : List UInt8) : runesL (Lib.encodeRune r ++ t) = fixR r :: runesL t ∧ wellL (Lib.encodeRune r ++ t) = wellL t := by
 have hl : 0 < (Lib.encodeRune r ++ t).length := by
  have := (enc_le r).1
  rw [List.length_append]
  omega
 have hc := cut_of_enc (fixR r) t (fix_val r)
 rw [← enc_fix] at hc
 rw [runesL_cons _ hl, wellL_cons _ hl, hc]
 simp
theorem encL_app (l : List Int) (t : List UInt8) : runesL (encL l ++ t) = l.map fixR ++ runesL t ∧ wellL (encL l ++ t) = wellL t := by
 induction l with
 | nil => exact ⟨rfl, rfl⟩
 | cons r l ih =>
   have h := one_app r (encL l ++ t)
   rw [ih.1, ih.2] at h
   have e : encL (r :: l) ++ t = Lib.encodeRune r ++ (encL l ++ t) := by
    unfold encL
    rw [List.flatMap_cons, List.append_assoc]
   rw [e]
   exact h
/-- Characters as a text, and back: what is no character is told as FFFD. -/
theorem runes_encL (l : List Int) : runesL (encL l) = l.map fixR ∧ wellL (encL l) = true := by
 have h := encL_app l []
 rw [List.append_nil, runesL_nil, List.append_nil] at h
 exact h
theorem cut_val (l : List UInt8) : Val (cutL l).r := by
 have h0 := atL_lt l 0
 have h1 := atL_lt l 1
 have h2 := atL_lt l 2
 have h3 := atL_lt l 3
 unfold Val cutL cutN Sec Cont bad
 (repeat' split) <;> simp_all <;> omega
theorem runesF_val : ∀ (f : Nat) (l : List UInt8), ∀ r ∈ runesF f l, Val r
 | 0, _, r, h => by cases h
 | _ + 1, [], r, h => by cases h
 | f + 1, c :: l, r, h => by
   unfold runesF at h
   rcases List.mem_cons.1 h with rfl | h
   ·exact cut_val _
   ·exact runesF_val f _ r h
theorem runesL_val (l : List UInt8) : ∀ r ∈ runesL l, Val r := runesF_val _ l
/-- The characters with their line ends made one. -/
def normL : Nat → List Nat → List Nat
 | _, [] => []
 | b, r :: rs => (if r = 13 then [10] else if r = 10 ∧ b = 13 then [] else [r]) ++ normL r rs
theorem normL_cons (b r : Nat) (rs : List Nat) : normL b (r :: rs) = (if r = 13 then [10] else if r = 10 ∧ b = 13 then [] else [r]) ++ normL r rs := rfl
theorem dec_norm : ∀ (rs : List Nat) (b : Nat) (acc : List UInt8), (rs.foldl decStep (b, acc)).2 = acc ++ encL ((normL b rs).map fun (r : Nat) => (r : Int))
 | [], b, acc => by simp [normL, encL]
 | r :: rs, b, acc => by
   rw [List.foldl_cons]
   show (rs.foldl decStep (r, acc ++ piece b r)).2 = _
   rw [dec_norm rs r, normL_cons]
   unfold piece encL
   by_cases h13 : r = 13
   ·rw [if_pos h13, if_pos h13, List.map_append, List.flatMap_append, List.append_assoc]
    rfl
   ·rw [if_neg h13, if_neg h13]
    by_cases h10 : r = 10 ∧ b = 13
    ·rw [if_pos h10, if_pos h10, List.append_nil, List.nil_append]
    ·rw [if_neg h10, if_neg h10, List.map_append, List.flatMap_append, List.append_assoc]
     simp
theorem norm_mem : ∀ (rs : List Nat) (b : Nat), (∀ r ∈ rs, Val r) → ∀ r ∈ normL b rs, Val r ∧ r ≠ 13
 | [], _, _, r, h => by cases h
 | q :: rs, b, hv, r, h => by
   unfold normL at h
   rcases List.mem_append.1 h with h | h
   ·split at h
    ·simp at h
     subst h
     exact ⟨by unfold Val; omega, by decide⟩
    ·split at h
     ·cases h
     ·simp at h
      subst h
      exact ⟨hv _ (List.mem_cons_self ..), by assumption⟩
   ·exact norm_mem rs q (fun x hx => hv x (List.mem_cons_of_mem _ hx)) r h
theorem norm_same : ∀ (rs : List Nat) (b : Nat), b ≠ 13 → (∀ r ∈ rs, r ≠ 13) → normL b rs = rs
 | [], _, _, _ => rfl
 | r :: rs, b, hb, h => by
   unfold normL
   have hr := h r (List.mem_cons_self ..)
   rw [if_neg hr, if_neg (fun hh => hb hh.2), norm_same rs r hr (fun x hx => h x (List.mem_cons_of_mem _ hx))]
   rfl
/-- The text that bytes are decoded as. -/
def decT (bs : List UInt8) : List UInt8 := (decSt (runesL bs)).2
theorem decT_eq (bs : List UInt8) : decT bs = encL ((normL 0 (runesL bs)).map fun (r : Nat) => (r : Int)) := by
 have h := dec_norm (runesL bs) 0 []
 rw [List.nil_append] at h
 exact h
theorem decT_runes (bs : List UInt8) : runesL (decT bs) = normL 0 (runesL bs) ∧ wellL (decT bs) = true := by
 rw [decT_eq]
 have h := runes_encL ((normL 0 (runesL bs)).map fun (r : Nat) => (r : Int))
 refine ⟨?_, h.2⟩
 rw [h.1, List.map_map]
 have hm := norm_mem (runesL bs) 0 (runesL_val bs)
 generalize normL 0 (runesL bs) = l at hm
 induction l with
 | nil => rfl
 | cons r l ih =>
   rw [List.map_cons, ih (fun x hx => hm x (List.mem_cons_of_mem _ hx))]
   show fixR (r : Int) :: l = _
   rw [fix_of r (hm r (List.mem_cons_self ..)).1]
theorem decT_len (bs : List UInt8) : (decT bs).length ≤ 4 * bs.length := by
 have h1 := decSt_len (runesL bs) (0, [])
 have h2 := runesL_len bs
 have h1' : (decT bs).length ≤ 4 * (runesL bs).length := by simpa [decT, decSt] using h1
 omega
end Go.Proofs.YtlcijlklbabajaaGreatDoor.U
