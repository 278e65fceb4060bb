/-
  UTF-8, plain: the first part of a row of bytes; what the model's own decoding tells there. No Go text in sight; no condition.
-/
import Derived.WalkKit
namespace Go.Proofs.Ytflgiejnklbjnaa
def Cont (b : Nat) : Prop := 128 ≤ b ∧ b ≤ 191
def Sec (a b : Nat) : Prop := if a = 224 then 160 ≤ b ∧ b ≤ 191 else if a = 237 then 128 ≤ b ∧ b ≤ 159 else if a = 240 then 144 ≤ b ∧ b ≤ 191 else if a = 244 then 128 ≤ b ∧ b ≤ 143 else 128 ≤ b ∧ b ≤ 191
instance (b : Nat) : Decidable (Cont b) := by unfold Cont; infer_instance
instance (a b : Nat) : Decidable (Sec a b) := by unfold Sec; infer_instance
def sizeB (b : Nat) : Nat := if b < 128 then 1 else if 194 ≤ b ∧ b ≤ 223 then 2 else if 224 ≤ b ∧ b ≤ 239 then 3 else if 240 ≤ b ∧ b ≤ 244 then 4 else 0
/-- A part: its character, how many bytes, whether it is well-formed. -/
structure Cutp where
  r : Nat
  n : Nat
  ok : Bool
def bad (n : Nat) : Cutp := ⟨65533, n, false⟩
def cutN (n b0 b1 b2 b3 : Nat) : Cutp :=
  if b0 < 128 then ⟨b0, 1, true⟩
  else if 194 ≤ b0 ∧ b0 ≤ 223 then (if 1 < n ∧ Sec b0 b1 then ⟨b0 % 32 * 64 + b1 % 64, 2, true⟩ else bad 1)
  else if 224 ≤ b0 ∧ b0 ≤ 239 then
    (if 1 < n ∧ Sec b0 b1 then (if 2 < n ∧ Cont b2 then ⟨b0 % 16 * 4096 + b1 % 64 * 64 + b2 % 64, 3, true⟩ else bad 2) else bad 1)
  else if 240 ≤ b0 ∧ b0 ≤ 244 then
    (if 1 < n ∧ Sec b0 b1 then (if 2 < n ∧ Cont b2 then (if 3 < n ∧ Cont b3 then ⟨b0 % 8 * 262144 + b1 % 64 * 4096 + b2 % 64 * 64 + b3 % 64, 4, true⟩ else bad 3) else bad 2) else bad 1)
  else bad 1
def atL (l : List UInt8) (k : Nat) : Nat := (l[k]?.getD 0).toNat
/-- The first part of a row of bytes. -/
def cutL (l : List UInt8) : Cutp := cutN l.length (atL l 0) (atL l 1) (atL l 2) (atL l 3)
/-- The model's decoding, over a list. -/
def decL (l : List UInt8) : Nat × Nat := if (cutL l).ok then ((cutL l).r, (cutL l).n) else (65533, 1)
theorem byte_lt (c : UInt8) : c.toNat < 256 := c.toNat_lt
theorem valid_iff (c : Nat) : Utf8.valid (c : Int) = true ↔ (c < 55296 ∨ (57344 ≤ c ∧ c ≤ 1114111)) := by
  unfold Utf8.valid
  simp
  omega
theorem get_list (s : ByteArray) (i k : Nat) : (s.get! (i + k)) = (s.data.toList.drop i)[k]?.getD 0 := by
  rw [List.getElem?_drop]
  show s.data[i + k]! = _
  rw [getElem!_def, ← Array.getElem?_toList]
  cases s.data.toList[i + k]? <;> rfl
def contL (l : List UInt8) (k : Nat) : Bool := decide (k < l.length) && (atL l k / 64 == 2)
def decM (l : List UInt8) : Nat × Nat :=
  if atL l 0 < 0x80 then (atL l 0, 1)
  else if (atL l 0 / 32 == 6 && contL l 1) = true then
    (if (atL l 0 % 32) * 64 + atL l 1 % 64 ≥ 0x80 then ((atL l 0 % 32) * 64 + atL l 1 % 64, 2) else (65533, 1))
  else if (atL l 0 / 16 == 14 && contL l 1 && contL l 2) = true then
    (if ((atL l 0 % 16) * 4096 + (atL l 1 % 64) * 64 + atL l 2 % 64 ≥ 0x800 && Utf8.valid (((atL l 0 % 16) * 4096 + (atL l 1 % 64) * 64 + atL l 2 % 64 : Nat) : Int)) = true then ((atL l 0 % 16) * 4096 + (atL l 1 % 64) * 64 + atL l 2 % 64, 3) else (65533, 1))
  else if (atL l 0 / 8 == 30 && contL l 1 && contL l 2 && contL l 3) = true then
    (if ((atL l 0 % 8) * 262144 + (atL l 1 % 64) * 4096 + (atL l 2 % 64) * 64 + atL l 3 % 64 ≥ 0x10000 && Utf8.valid (((atL l 0 % 8) * 262144 + (atL l 1 % 64) * 4096 + (atL l 2 % 64) * 64 + atL l 3 % 64 : Nat) : Int)) = true then ((atL l 0 % 8) * 262144 + (atL l 1 % 64) * 4096 + (atL l 2 % 64) * 64 + atL l 3 % 64, 4) else (65533, 1))
  else (65533, 1)
theorem decode_decM (s : ByteArray) (i : Nat) : Utf8.decode s i = decM (s.data.toList.drop i) := by
  have ha : ∀ k, (s.get! (i + k)).toNat = atL (s.data.toList.drop i) k := fun k => by rw [get_list]; rfl
  have hc : ∀ k, (decide (i + k < s.size) && (atL (s.data.toList.drop i) k / 64 == 2)) = contL (s.data.toList.drop i) k := fun k => by
    unfold contL
    congr 1
    have : (i + k < s.size) ↔ (k < (s.data.toList.drop i).length) := by
      rw [List.length_drop]
      show i + k < s.data.size ↔ _
      rw [← Array.length_toList]
      omega
    simp only [this]
  unfold Utf8.decode decM
  simp only [ha, hc]
  rfl
theorem atL_lt (l : List UInt8) (k : Nat) : atL l k < 256 := byte_lt _
set_option maxHeartbeats 2000000 in
theorem decM_decL (l : List UInt8) : decM l = decL l := by
  have h0 := atL_lt l 0
  have h1 := atL_lt l 1
  have h2 := atL_lt l 2
  have h3 := atL_lt l 3
  unfold decM decL cutL contL
  generalize atL l 0 = b0 at *
  generalize atL l 1 = b1 at *
  generalize atL l 2 = b2 at *
  generalize atL l 3 = b3 at *
  generalize l.length = n
  simp only [Bool.and_eq_true, beq_iff_eq, decide_eq_true_eq, valid_iff, ge_iff_le]
  unfold cutN
  by_cases a0 : b0 < 128
  · simp [a0]
  · rw [if_neg (by omega), if_neg a0]
    by_cases a1 : 194 ≤ b0 ∧ b0 ≤ 223
    · have e : b0 / 32 = 6 := by omega
      rw [if_pos a1]
      by_cases c : 1 < n ∧ Sec b0 b1
      · have c2 : b1 / 64 = 2 := by have := c.2; unfold Sec at this; (repeat' split at this) <;> omega
        rw [if_pos c, if_pos ⟨e, c.1, c2⟩, if_pos (by omega)]
        rfl
      · have c2 : ¬ (1 < n ∧ b1 / 64 = 2) := by
          intro hc
          apply c
          refine ⟨hc.1, ?_⟩
          unfold Sec
          rw [if_neg (by omega), if_neg (by omega), if_neg (by omega), if_neg (by omega)]
          omega
        rw [if_neg c, if_neg (fun h => c2 h.2), if_neg (by omega), if_neg (by omega)]
        rfl
    · rw [if_neg a1]
      by_cases a2 : 224 ≤ b0 ∧ b0 ≤ 239
      · have e : b0 / 16 = 14 := by omega
        rw [if_pos a2, if_neg (by omega)]
        by_cases c : 1 < n ∧ Sec b0 b1
        · have c2 : b1 / 64 = 2 := by have := c.2; unfold Sec at this; (repeat' split at this) <;> omega
          rw [if_pos c]
          by_cases d : 2 < n ∧ Cont b2
          · have d2 : b2 / 64 = 2 := by have := d.2; unfold Cont at this; omega
            rw [if_pos d, if_pos ⟨⟨e, c.1, c2⟩, d.1, d2⟩, if_pos (by have := c.2; unfold Sec at this; (repeat' split at this) <;> omega)]
            rfl
          · have d2 : ¬ (2 < n ∧ b2 / 64 = 2) := by
              intro hc
              apply d
              refine ⟨hc.1, ?_⟩
              unfold Cont
              omega
            rw [if_neg d, if_neg (fun h => d2 h.2), if_neg (by omega)]
            rfl
        · rw [if_neg c]
          by_cases d : (b0 / 16 = 14 ∧ 1 < n ∧ b1 / 64 = 2) ∧ 2 < n ∧ b2 / 64 = 2
          · rw [if_pos d, if_neg (by
              intro hv
              apply c
              refine ⟨d.1.2.1, ?_⟩
              unfold Sec
              (repeat' split) <;> omega)]
            rfl
          · rw [if_neg d, if_neg (by omega)]
            rfl
      · rw [if_neg a2]
        by_cases a3 : 240 ≤ b0 ∧ b0 ≤ 244
        · have e : b0 / 8 = 30 := by omega
          rw [if_neg (by omega), if_neg (by omega), if_pos a3]
          by_cases c : 1 < n ∧ Sec b0 b1
          · have c2 : b1 / 64 = 2 := by have := c.2; unfold Sec at this; (repeat' split at this) <;> omega
            rw [if_pos c]
            by_cases d : 2 < n ∧ Cont b2
            · have d2 : b2 / 64 = 2 := by have := d.2; unfold Cont at this; omega
              rw [if_pos d]
              by_cases f : 3 < n ∧ Cont b3
              · have f2 : b3 / 64 = 2 := by have := f.2; unfold Cont at this; omega
                rw [if_pos f, if_pos ⟨⟨⟨e, c.1, c2⟩, d.1, d2⟩, f.1, f2⟩, if_pos (by have := c.2; unfold Sec at this; (repeat' split at this) <;> omega)]
                rfl
              · have f2 : ¬ (3 < n ∧ b3 / 64 = 2) := by
                  intro hc
                  apply f
                  refine ⟨hc.1, ?_⟩
                  unfold Cont
                  omega
                rw [if_neg f, if_neg (fun h => f2 h.2)]
                rfl
            · have d2 : ¬ (2 < n ∧ b2 / 64 = 2) := by
                intro hc
                apply d
                refine ⟨hc.1, ?_⟩
                unfold Cont
                omega
              rw [if_neg d, if_neg (fun h => d2 h.1.2)]
              rfl
          · rw [if_neg c]
            by_cases d : ((b0 / 8 = 30 ∧ 1 < n ∧ b1 / 64 = 2) ∧ 2 < n ∧ b2 / 64 = 2) ∧ 3 < n ∧ b3 / 64 = 2
            · rw [if_pos d, if_neg (by
                intro hv
                apply c
                refine ⟨d.1.1.2.1, ?_⟩
                unfold Sec
                (repeat' split) <;> omega)]
              rfl
            · rw [if_neg d]
              rfl
        · rw [if_neg a3]
          by_cases g : b0 / 32 = 6 ∧ 1 < n ∧ b1 / 64 = 2
          · rw [if_pos g, if_neg (by omega)]
            rfl
          rw [if_neg g, if_neg (by omega)]
          by_cases d : ((b0 / 8 = 30 ∧ 1 < n ∧ b1 / 64 = 2) ∧ 2 < n ∧ b2 / 64 = 2) ∧ 3 < n ∧ b3 / 64 = 2
          · rw [if_pos d, if_neg (by omega)]
            rfl
          · rw [if_neg d]
            rfl
theorem decode_list (s : ByteArray) (i : Nat) : Utf8.decode s i = decL (s.data.toList.drop i) := by
  rw [decode_decM, decM_decL]
end Go.Proofs.Ytflgiejnklbjnaa
