/-
  UTF-8, plain: the first part of a row of bytes; what the model's own decoding tells there. No Go text in sight; no condition.
-/
import Derived.WalkKit
import Derived.Test.YtfjhljhgmbhklaaGreatDoorProg
import Derived.WalkSpells
import Derived.WalkLawsBesides
import Derived.Lib.OthersKept
import Derived.Lib.Strings
import Derived.Lib.IndexBytes
import Derived.WalkSmall
import Derived.Deep.AppendLies
import Derived.Test.YtfjhljhgmbhklaaGreatDoorShelf
import Derived.Shelf.Strings.BuilderK
import Derived.Shelf.Strings.BuilderRune
import Derived.Shelf.Utf8.AppendRune
import Derived.Laws.BytesString
import Derived.Laws.Cells
namespace Go.Proofs.YtfjhljhgmbhklaaGreatDoor.U
def Cont (b : Nat) : Prop := 128 ≤ b ∧ b ≤ 191
def Sec (a b : Nat) : Prop := if a = 224 then 160 ≤ b ∧ b ≤ 191 else if a = 237 then 128 ≤ b ∧ b ≤ 159 else if a = 240 then 144 ≤ b ∧ b ≤ 191 else if a = 244 then 128 ≤ b ∧ b ≤ 143 else 128 ≤ b ∧ b ≤ 191
instance (b : Nat) : Decidable (Cont b) := by unfold Cont; infer_instance
instance (a b : Nat) : Decidable (Sec a b) := by unfold Sec; infer_instance
def sizeB (b : Nat) : Nat := if b < 128 then 1 else if 194 ≤ b ∧ b ≤ 223 then 2 else if 224 ≤ b ∧ b ≤ 239 then 3 else if 240 ≤ b ∧ b ≤ 244 then 4 else 0
/-- A part: its character, how many bytes, whether it is well-formed. -/
structure Cutp where
  r : Nat
  n : Nat
  ok : Bool
def bad (n : Nat) : Cutp := ⟨65533, n, false⟩
def cutN (n b0 b1 b2 b3 : Nat) : Cutp :=
  if b0 < 128 then ⟨b0, 1, true⟩
  else if 194 ≤ b0 ∧ b0 ≤ 223 then (if 1 < n ∧ Sec b0 b1 then ⟨b0 % 32 * 64 + b1 % 64, 2, true⟩ else bad 1)
  else if 224 ≤ b0 ∧ b0 ≤ 239 then
    (if 1 < n ∧ Sec b0 b1 then (if 2 < n ∧ Cont b2 then ⟨b0 % 16 * 4096 + b1 % 64 * 64 + b2 % 64, 3, true⟩ else bad 2) else bad 1)
  else if 240 ≤ b0 ∧ b0 ≤ 244 then
    (if 1 < n ∧ Sec b0 b1 then (if 2 < n ∧ Cont b2 then (if 3 < n ∧ Cont b3 then ⟨b0 % 8 * 262144 + b1 % 64 * 4096 + b2 % 64 * 64 + b3 % 64, 4, true⟩ else bad 3) else bad 2) else bad 1)
  else bad 1
def atL (l : List UInt8) (k : Nat) : Nat := (l[k]?.getD 0).toNat
/-- The first part of a row of bytes. -/
def cutL (l : List UInt8) : Cutp := cutN l.length (atL l 0) (atL l 1) (atL l 2) (atL l 3)
/-- The model's decoding, over a list. -/
def decL (l : List UInt8) : Nat × Nat := if (cutL l).ok then ((cutL l).r, (cutL l).n) else (65533, 1)
theorem byte_lt (c : UInt8) : c.toNat < 256 := c.toNat_lt
theorem valid_iff (c : Nat) : Utf8.valid (c : Int) = true ↔ (c < 55296 ∨ (57344 ≤ c ∧ c ≤ 1114111)) := by
  unfold Utf8.valid
  simp
  omega
theorem get_list (s : ByteArray) (i k : Nat) : (s.get! (i + k)) = (s.data.toList.drop i)[k]?.getD 0 := by
  rw [List.getElem?_drop]
  show s.data[i + k]! = _
  rw [getElem!_def, ← Array.getElem?_toList]
  cases s.data.toList[i + k]? <;> rfl
def contL (l : List UInt8) (k : Nat) : Bool := decide (k < l.length) && (atL l k / 64 == 2)
def decM (l : List UInt8) : Nat × Nat :=
  if atL l 0 < 0x80 then (atL l 0, 1)
  else if (atL l 0 / 32 == 6 && contL l 1) = true then
    (if (atL l 0 % 32) * 64 + atL l 1 % 64 ≥ 0x80 then ((atL l 0 % 32) * 64 + atL l 1 % 64, 2) else (65533, 1))
  else if (atL l 0 / 16 == 14 && contL l 1 && contL l 2) = true then
    (if ((atL l 0 % 16) * 4096 + (atL l 1 % 64) * 64 + atL l 2 % 64 ≥ 0x800 && Utf8.valid (((atL l 0 % 16) * 4096 + (atL l 1 % 64) * 64 + atL l 2 % 64 : Nat) : Int)) = true then ((atL l 0 % 16) * 4096 + (atL l 1 % 64) * 64 + atL l 2 % 64, 3) else (65533, 1))
  else if (atL l 0 / 8 == 30 && contL l 1 && contL l 2 && contL l 3) = true then
    (if ((atL l 0 % 8) * 262144 + (atL l 1 % 64) * 4096 + (atL l 2 % 64) * 64 + atL l 3 % 64 ≥ 0x10000 && Utf8.valid (((atL l 0 % 8) * 262144 + (atL l 1 % 64) * 4096 + (atL l 2 % 64) * 64 + atL l 3 % 64 : Nat) : Int)) = true then ((atL l 0 % 8) * 262144 + (atL l 1 % 64) * 4096 + (atL l 2 % 64) * 64 + atL l 3 % 64, 4) else (65533, 1))
  else (65533, 1)
theorem decode_decM (s : ByteArray) (i : Nat) : Utf8.decode s i = decM (s.data.toList.drop i) := by
  have ha : ∀ k, (s.get! (i + k)).toNat = atL (s.data.toList.drop i) k := fun k => by rw [get_list]; rfl
  have hc : ∀ k, (decide (i + k < s.size) && (atL (s.data.toList.drop i) k / 64 == 2)) = contL (s.data.toList.drop i) k := fun k => by
    unfold contL
    congr 1
    have : (i + k < s.size) ↔ (k < (s.data.toList.drop i).length) := by
      rw [List.length_drop]
      show i + k < s.data.size ↔ _
      rw [← Array.length_toList]
      omega
    simp only [this]
  unfold Utf8.decode decM
  simp only [ha, hc]
  rfl
theorem atL_lt (l : List UInt8) (k : Nat) : atL l k < 256 := byte_lt _
set_option maxHeartbeats 2000000 in
theorem decM_decL (l : List UInt8) : decM l = decL l := by
  have h0 := atL_lt l 0
  have h1 := atL_lt l 1
  have h2 := atL_lt l 2
  have h3 := atL_lt l 3
  unfold decM decL cutL contL
  generalize atL l 0 = b0 at *
  generalize atL l 1 = b1 at *
  generalize atL l 2 = b2 at *
  generalize atL l 3 = b3 at *
  generalize l.length = n
  simp only [Bool.and_eq_true, beq_iff_eq, decide_eq_true_eq, valid_iff, ge_iff_le]
  unfold cutN
  by_cases a0 : b0 < 128
  · simp [a0]
  · rw [if_neg (by omega), if_neg a0]
    by_cases a1 : 194 ≤ b0 ∧ b0 ≤ 223
    · have e : b0 / 32 = 6 := by omega
      rw [if_pos a1]
      by_cases c : 1 < n ∧ Sec b0 b1
      · have c2 : b1 / 64 = 2 := by have := c.2; unfold Sec at this; (repeat' split at this) <;> omega
        rw [if_pos c, if_pos ⟨e, c.1, c2⟩, if_pos (by omega)]
        rfl
      · have c2 : ¬ (1 < n ∧ b1 / 64 = 2) := by
          intro hc
          apply c
          refine ⟨hc.1, ?_⟩
          unfold Sec
          rw [if_neg (by omega), if_neg (by omega), if_neg (by omega), if_neg (by omega)]
          omega
        rw [if_neg c, if_neg (fun h => c2 h.2), if_neg (by omega), if_neg (by omega)]
        rfl
    · rw [if_neg a1]
      by_cases a2 : 224 ≤ b0 ∧ b0 ≤ 239
      · have e : b0 / 16 = 14 := by omega
        rw [if_pos a2, if_neg (by omega)]
        by_cases c : 1 < n ∧ Sec b0 b1
        · have c2 : b1 / 64 = 2 := by have := c.2; unfold Sec at this; (repeat' split at this) <;> omega
          rw [if_pos c]
          by_cases d : 2 < n ∧ Cont b2
          · have d2 : b2 / 64 = 2 := by have := d.2; unfold Cont at this; omega
            rw [if_pos d, if_pos ⟨⟨e, c.1, c2⟩, d.1, d2⟩, if_pos (by have := c.2; unfold Sec at this; (repeat' split at this) <;> omega)]
            rfl
          · have d2 : ¬ (2 < n ∧ b2 / 64 = 2) := by
              intro hc
              apply d
              refine ⟨hc.1, ?_⟩
              unfold Cont
              omega
            rw [if_neg d, if_neg (fun h => d2 h.2), if_neg (by omega)]
            rfl
        · rw [if_neg c]
          by_cases d : (b0 / 16 = 14 ∧ 1 < n ∧ b1 / 64 = 2) ∧ 2 < n ∧ b2 / 64 = 2
          · rw [if_pos d, if_neg (by
              intro hv
              apply c
              refine ⟨d.1.2.1, ?_⟩
              unfold Sec
              (repeat' split) <;> omega)]
            rfl
          · rw [if_neg d, if_neg (by omega)]
            rfl
      · rw [if_neg a2]
        by_cases a3 : 240 ≤ b0 ∧ b0 ≤ 244
        · have e : b0 / 8 = 30 := by omega
          rw [if_neg (by omega), if_neg (by omega), if_pos a3]
          by_cases c : 1 < n ∧ Sec b0 b1
          · have c2 : b1 / 64 = 2 := by have := c.2; unfold Sec at this; (repeat' split at this) <;> omega
            rw [if_pos c]
            by_cases d : 2 < n ∧ Cont b2
            · have d2 : b2 / 64 = 2 := by have := d.2; unfold Cont at this; omega
              rw [if_pos d]
              by_cases f : 3 < n ∧ Cont b3
              · have f2 : b3 / 64 = 2 := by have := f.2; unfold Cont at this; omega
                rw [if_pos f, if_pos ⟨⟨⟨e, c.1, c2⟩, d.1, d2⟩, f.1, f2⟩, if_pos (by have := c.2; unfold Sec at this; (repeat' split at this) <;> omega)]
                rfl
              · have f2 : ¬ (3 < n ∧ b3 / 64 = 2) := by
                  intro hc
                  apply f
                  refine ⟨hc.1, ?_⟩
                  unfold Cont
                  omega
                rw [if_neg f, if_neg (fun h => f2 h.2)]
                rfl
            · have d2 : ¬ (2 < n ∧ b2 / 64 = 2) := by
                intro hc
                apply d
                refine ⟨hc.1, ?_⟩
                unfold Cont
                omega
              rw [if_neg d, if_neg (fun h => d2 h.1.2)]
              rfl
          · rw [if_neg c]
            by_cases d : ((b0 / 8 = 30 ∧ 1 < n ∧ b1 / 64 = 2) ∧ 2 < n ∧ b2 / 64 = 2) ∧ 3 < n ∧ b3 / 64 = 2
            · rw [if_pos d, if_neg (by
                intro hv
                apply c
                refine ⟨d.1.1.2.1, ?_⟩
                unfold Sec
                (repeat' split) <;> omega)]
              rfl
            · rw [if_neg d]
              rfl
        · rw [if_neg a3]
          by_cases g : b0 / 32 = 6 ∧ 1 < n ∧ b1 / 64 = 2
          · rw [if_pos g, if_neg (by omega)]
            rfl
          rw [if_neg g, if_neg (by omega)]
          by_cases d : ((b0 / 8 = 30 ∧ 1 < n ∧ b1 / 64 = 2) ∧ 2 < n ∧ b2 / 64 = 2) ∧ 3 < n ∧ b3 / 64 = 2
          · rw [if_pos d, if_neg (by omega)]
            rfl
          · rw [if_neg d]
            rfl
theorem decode_list (s : ByteArray) (i : Nat) : Utf8.decode s i = decL (s.data.toList.drop i) := by
  rw [decode_decM, decM_decL]
end Go.Proofs.YtfjhljhgmbhklaaGreatDoor.U
/-
  partLength of the program: how many bytes the first part has. Condition: there is a byte.
-/
namespace Go.Proofs.YtfjhljhgmbhklaaGreatDoor.U
open Go.RowKit
theorem hid_mk {p : Prop} (h : p) : Hid p := h
def wh (b : Nat) : Nat := if 194 ≤ b ∧ b ≤ 223 then 2 else if 224 ≤ b ∧ b ≤ 239 then 3 else if 240 ≤ b ∧ b ≤ 244 then 4 else 1
def lo2 (b : Nat) : Nat := if b = 224 then 160 else if b = 240 then 144 else if 194 ≤ b ∧ b ≤ 244 then 128 else 0
def hi2 (b : Nat) : Nat := if b = 237 then 159 else if b = 244 then 143 else if 194 ≤ b ∧ b ≤ 244 then 191 else 0
theorem wellFormed_any (b : Nat) (hb : b < 256) (w : World) : Calls Tryz.prog 118 #[.int .u8 b] w fun e w' => e = .returned (.tuple #[.int .i64 (wh b), .int .u8 (lo2 b), .int .u8 (hi2 b)]) ∧ w = w' := by
  have hcase : b = 224 ∨ b = 237 ∨ b = 240 ∨ b = 244 ∨ (194 ≤ b ∧ b ≤ 223) ∨ (225 ≤ b ∧ b ≤ 236) ∨ (238 ≤ b ∧ b ≤ 239) ∨ (241 ≤ b ∧ b ≤ 243) ∨ b < 194 ∨ 244 < b := by omega
  rcases hcase with rfl | rfl | rfl | rfl | h | h | h | h | h | h
  · go_enter Tryz.func118, Tryz.ntmps118
    go_wp2
    go_ret3
    exact ⟨rfl, rfl⟩
  · go_enter Tryz.func118, Tryz.ntmps118
    go_wp2
    go_ret3
    exact ⟨rfl, rfl⟩
  · go_enter Tryz.func118, Tryz.ntmps118
    go_wp2
    go_ret3
    exact ⟨rfl, rfl⟩
  · go_enter Tryz.func118, Tryz.ntmps118
    go_wp2
    go_ret3
    exact ⟨rfl, rfl⟩
  · have hv : Hid (wh b = 2 ∧ lo2 b = 128 ∧ hi2 b = 191) := hid_mk (by unfold wh lo2 hi2; refine ⟨?_, ?_, ?_⟩ <;> (repeat' split) <;> omega)
    go_enter Tryz.func118, Tryz.ntmps118
    go_wp2
    all_goals
      go_ret3
      rw [hv.out.1, hv.out.2.1, hv.out.2.2]
      exact ⟨rfl, rfl⟩
  · have hv : Hid (wh b = 3 ∧ lo2 b = 128 ∧ hi2 b = 191) := hid_mk (by unfold wh lo2 hi2; refine ⟨?_, ?_, ?_⟩ <;> (repeat' split) <;> omega)
    go_enter Tryz.func118, Tryz.ntmps118
    go_wp2
    all_goals
      go_ret3
      rw [hv.out.1, hv.out.2.1, hv.out.2.2]
      exact ⟨rfl, rfl⟩
  · have hv : Hid (wh b = 3 ∧ lo2 b = 128 ∧ hi2 b = 191) := hid_mk (by unfold wh lo2 hi2; refine ⟨?_, ?_, ?_⟩ <;> (repeat' split) <;> omega)
    go_enter Tryz.func118, Tryz.ntmps118
    go_wp2
    all_goals
      go_ret3
      rw [hv.out.1, hv.out.2.1, hv.out.2.2]
      exact ⟨rfl, rfl⟩
  · have hv : Hid (wh b = 4 ∧ lo2 b = 128 ∧ hi2 b = 191) := hid_mk (by unfold wh lo2 hi2; refine ⟨?_, ?_, ?_⟩ <;> (repeat' split) <;> omega)
    go_enter Tryz.func118, Tryz.ntmps118
    go_wp2
    all_goals
      go_ret3
      rw [hv.out.1, hv.out.2.1, hv.out.2.2]
      exact ⟨rfl, rfl⟩
  · have hv : Hid (wh b = 1 ∧ lo2 b = 0 ∧ hi2 b = 0) := hid_mk (by unfold wh lo2 hi2; refine ⟨?_, ?_, ?_⟩ <;> (repeat' split) <;> omega)
    go_enter Tryz.func118, Tryz.ntmps118
    go_wp2
    all_goals
      go_ret3
      rw [hv.out.1, hv.out.2.1, hv.out.2.2]
      exact ⟨rfl, rfl⟩
  · have hv : Hid (wh b = 1 ∧ lo2 b = 0 ∧ hi2 b = 0) := hid_mk (by unfold wh lo2 hi2; refine ⟨?_, ?_, ?_⟩ <;> (repeat' split) <;> omega)
    go_enter Tryz.func118, Tryz.ntmps118
    go_wp2
    all_goals
      go_ret3
      rw [hv.out.1, hv.out.2.1, hv.out.2.2]
      exact ⟨rfl, rfl⟩
def okAt (a j b : Nat) : Prop := if j = 1 then Sec a b else Cont b
theorem cut_stop (l : List UInt8) (k : Nat) (h1 : 1 ≤ k) (hk : k ≤ wh (atL l 0)) (acc : ∀ j, 1 ≤ j → j < k → j < l.length ∧ okAt (atL l 0) j (atL l j))
    (stop : k = wh (atL l 0) ∨ l.length ≤ k ∨ ¬ okAt (atL l 0) k (atL l k)) : (cutL l).n = k := by
  unfold cutL cutN
  have a1 := acc 1 (by omega)
  have a2 := acc 2 (by omega)
  have a3 := acc 3 (by omega)
  have hw4 : wh (atL l 0) ≤ 4 := by unfold wh; (repeat' split) <;> omega
  have hk4 : k = 1 ∨ k = 2 ∨ k = 3 ∨ k = 4 := by omega
  generalize atL l 0 = b0 at *
  generalize l.length = n at *
  unfold okAt at a1 a2 a3 stop
  simp only [if_true, show (2 : Nat) ≠ 1 from by decide, show (3 : Nat) ≠ 1 from by decide, if_false] at a1 a2 a3
  unfold wh at hk stop
  rcases hk4 with rfl | rfl | rfl | rfl
  all_goals
    simp at a1 a2 a3 stop
    (repeat' split at hk) <;> (repeat' split at stop) <;> (repeat' split) <;> first | rfl | (exfalso; omega) | (simp_all [bad]; done) | (simp_all [bad]; omega)
def sl (s : ByteArray) : List UInt8 := s.data.toList
theorem byte_atL (s : ByteArray) (k : Nat) (h : k < s.size) : (s[k]'h).toNat = atL (sl s) k := by
  unfold atL sl
  have h2 : k < s.data.toList.length := by rw [Array.length_toList]; exact h
  rw [List.getElem?_eq_getElem h2]
  rfl
theorem len_sl (s : ByteArray) : (sl s).length = s.size := Array.length_toList
set_option maxHeartbeats 2000000 in
theorem partLength_any (s : ByteArray) (hs : 0 < s.size) (hm : s.size ≤ 9223372036854775807) (w : World) :
    Calls Tryz.prog 88 #[.string s] w fun e w' => e = .returned (.int .i64 (cutL (sl s)).n) ∧ w = w' := by
  have hb0 := byte_atL s 0 hs
  have h256 := atL_lt (sl s) 0
  have B0 : Hid _ := hb0
  clear hb0
  go_enter Tryz.func88, Tryz.ntmps88
  go_wp2_with fail
  rw [B0.out]
  refine (wellFormed_any _ h256 w).mono ?_
  rintro e w1 ⟨rfl, rfl⟩
  obtain ⟨b0, hb⟩ : ∃ b0, b0 = atL (sl s) 0 := ⟨_, rfl⟩
  rw [← hb]
  have HB : Hid _ := hb
  clear hb B0
  have hw4 : wh b0 ≤ 4 := by unfold wh; (repeat' split) <;> omega
  have hw1 : 1 ≤ wh b0 := by unfold wh; (repeat' split) <;> omega
  have hlh : lo2 b0 ≤ 255 ∧ hi2 b0 ≤ 255 := by unfold lo2 hi2; constructor <;> (repeat' split) <;> omega
  have hsec : Hid (1 < wh b0 → ∀ x, okAt b0 1 x ↔ lo2 b0 ≤ x ∧ x ≤ hi2 b0) := hid_mk (fun h x => by
    unfold okAt Sec lo2 hi2 wh at *
    rw [if_pos rfl]
    (repeat' split at h) <;> (repeat' split) <;> omega)
  go_wp2_with fail
  go_loop [6, 4, 5] (fun vk vl vh => ∃ k lo hi : Nat, 1 ≤ k ∧ k ≤ wh b0 ∧ lo ≤ 255 ∧ hi ≤ 255 ∧ vk = .int .i64 k ∧ vl = .int .u8 lo ∧ vh = .int .u8 hi ∧ Hid (k = 1 → lo = lo2 b0 ∧ hi = hi2 b0) ∧ Hid (1 < k → lo = 128 ∧ hi = 191) ∧ Hid (∀ j, 1 ≤ j → j < k → j < (sl s).length ∧ okAt b0 j (atL (sl s) j))) (fun vk _ _ => 4 - (intOf vk).toNat)
  case atStart => exact ⟨1, lo2 b0, hi2 b0, by omega, hw1, hlh.1, hlh.2, rfl, rfl, rfl, fun _ => ⟨rfl, rfl⟩, fun h => absurd h (by omega), fun j h1 h2 => absurd h2 (by omega)⟩
  case round =>
    obtain ⟨k, lo, hi, h1, hk, hl1, hh1, rfl, rfl, rfl, e1, e2, acc⟩ := hrel
    have hstop : Hid (k = wh b0 ∨ (sl s).length ≤ k ∨ ¬ okAt b0 k (atL (sl s) k) → (cutL (sl s)).n = k) := hid_mk (fun st => cut_stop (sl s) k h1 (HB.out ▸ hk) (HB.out ▸ acc.out) (HB.out ▸ st))
    by_cases c1 : k < wh b0
    · have c1' : (k : Int) < (wh b0 : Int) := by omega
      by_cases c2 : k < s.size
      · have c2' : (k : Int) < (s.size : Int) := by omega
        have hby := byte_atL s k c2
        have hok : Hid (okAt b0 k (atL (sl s) k) ↔ lo ≤ (s[k]'c2).toNat ∧ (s[k]'c2).toNat ≤ hi) := hid_mk (by
          rw [hby]
          rcases Nat.lt_or_ge 1 k with hk1 | hk1
          · obtain ⟨rfl, rfl⟩ := e2.out hk1
            unfold okAt Cont
            rw [if_neg (by omega)]
          · obtain rfl : k = 1 := by omega
            obtain ⟨rfl, rfl⟩ := e1.out rfl
            exact hsec.out (by omega) _)
        clear hby
        by_cases c3 : lo ≤ (s[k]'c2).toNat
        · have c3' : (lo : Int) ≤ ((s[k]'c2).toNat : Int) := by omega
          by_cases c4 : (s[k]'c2).toNat ≤ hi
          · have c4' : ((s[k]'c2).toNat : Int) ≤ (hi : Int) := by omega
            go_wp2
            go_round
            case rel =>
              refine ⟨k + 1, 128, 191, by omega, by omega, by omega, by omega, by go_num, rfl, rfl, fun h => absurd h (by omega), fun _ => ⟨rfl, rfl⟩, fun j j1 j2 => ?_⟩
              rcases Nat.lt_or_ge j k with hj | hj
              · exact acc.out j j1 hj
              · obtain rfl : j = k := by omega
                exact ⟨by rw [len_sl]; exact c2, hok.out.2 ⟨c3, c4⟩⟩
            case measure => simp [intOf]; omega
          · have hv : Hid ((cutL (sl s)).n = k) := hid_mk (hstop.out (.inr (.inr (fun h => c4 (hok.out.1 h).2))))
            have c4' : ¬ ((s[k]'c2).toNat : Int) ≤ (hi : Int) := by omega
            go_wp2
            go_ret
            rw [hv.out]
            exact ⟨rfl, rfl⟩
        · have hv : Hid ((cutL (sl s)).n = k) := hid_mk (hstop.out (.inr (.inr (fun h => c3 (hok.out.1 h).1))))
          have c3' : ¬ (lo : Int) ≤ ((s[k]'c2).toNat : Int) := by omega
          go_wp2
          go_ret
          rw [hv.out]
          exact ⟨rfl, rfl⟩
      · have hv : Hid ((cutL (sl s)).n = k) := hid_mk (hstop.out (.inr (.inl (by rw [len_sl]; omega))))
        have c2' : ¬ (k : Int) < (s.size : Int) := by omega
        go_wp2
        go_ret
        rw [hv.out]
        exact ⟨rfl, rfl⟩
    · have hv : Hid ((cutL (sl s)).n = k) := hid_mk (hstop.out (.inl (by omega)))
      have c1' : ¬ (k : Int) < (wh b0 : Int) := by omega
      go_wp2
      go_ret
      rw [hv.out]
      exact ⟨rfl, rfl⟩
end Go.Proofs.YtfjhljhgmbhklaaGreatDoor.U
/-
  The characters of a row of bytes, plain: part by part. No Go in sight; no condition.
-/
namespace Go.Proofs.YtfjhljhgmbhklaaGreatDoor.U
theorem sec_cont {a b : Nat} (h : Sec a b) : Cont b := by
  unfold Sec at h
  unfold Cont
  (repeat' split at h) <;> omega
theorem cut_facts (l : List UInt8) (h : 0 < l.length) : 1 ≤ (cutL l).n ∧ (cutL l).n ≤ l.length ∧ (cutL l).n ≤ 4 ∧ (cutL l).r ≤ 1114111 ∧ ((cutL l).ok = false → (cutL l).r = 65533 ∧ ∀ j, 1 ≤ j → j < (cutL l).n → Cont (atL l j)) := by
  have h0 := atL_lt l 0
  unfold cutL cutN
  by_cases a0 : atL l 0 < 128
  · rw [if_pos a0]
    exact ⟨by simp, h, by simp, by simp; omega, fun hf => by cases hf⟩
  rw [if_neg a0]
  by_cases a1 : 194 ≤ atL l 0 ∧ atL l 0 ≤ 223
  · rw [if_pos a1]
    by_cases c : 1 < l.length ∧ Sec (atL l 0) (atL l 1)
    · rw [if_pos c]
      exact ⟨by simp, c.1, by simp, by simp; omega, fun hf => by cases hf⟩
    · rw [if_neg c]
      exact ⟨by simp [bad], h, by simp [bad], by simp [bad], fun _ => ⟨rfl, fun j j1 j2 => absurd j2 (by simp [bad]; omega)⟩⟩
  rw [if_neg a1]
  by_cases a2 : 224 ≤ atL l 0 ∧ atL l 0 ≤ 239
  · rw [if_pos a2]
    by_cases c : 1 < l.length ∧ Sec (atL l 0) (atL l 1)
    · rw [if_pos c]
      by_cases d : 2 < l.length ∧ Cont (atL l 2)
      · rw [if_pos d]
        exact ⟨by simp, d.1, by simp, by simp; omega, fun hf => by cases hf⟩
      · rw [if_neg d]
        refine ⟨by simp [bad], c.1, by simp [bad], by simp [bad], fun _ => ⟨rfl, fun j j1 j2 => ?_⟩⟩
        obtain rfl : j = 1 := by simp [bad] at j2; omega
        exact sec_cont c.2
    · rw [if_neg c]
      exact ⟨by simp [bad], h, by simp [bad], by simp [bad], fun _ => ⟨rfl, fun j j1 j2 => absurd j2 (by simp [bad]; omega)⟩⟩
  rw [if_neg a2]
  by_cases a3 : 240 ≤ atL l 0 ∧ atL l 0 ≤ 244
  · rw [if_pos a3]
    by_cases c : 1 < l.length ∧ Sec (atL l 0) (atL l 1)
    · rw [if_pos c]
      by_cases d : 2 < l.length ∧ Cont (atL l 2)
      · rw [if_pos d]
        by_cases f : 3 < l.length ∧ Cont (atL l 3)
        · rw [if_pos f]
          refine ⟨by simp, f.1, by simp, ?_, fun hf => by cases hf⟩
          have := c.2
          unfold Sec at this
          simp only
          (repeat' split at this) <;> omega
        · rw [if_neg f]
          refine ⟨by simp [bad], d.1, by simp [bad], by simp [bad], fun _ => ⟨rfl, fun j j1 j2 => ?_⟩⟩
          have : j = 1 ∨ j = 2 := by simp [bad] at j2; omega
          rcases this with rfl | rfl
          · exact sec_cont c.2
          · exact d.2
      · rw [if_neg d]
        refine ⟨by simp [bad], c.1, by simp [bad], by simp [bad], fun _ => ⟨rfl, fun j j1 j2 => ?_⟩⟩
        obtain rfl : j = 1 := by simp [bad] at j2; omega
        exact sec_cont c.2
    · rw [if_neg c]
      exact ⟨by simp [bad], h, by simp [bad], by simp [bad], fun _ => ⟨rfl, fun j j1 j2 => absurd j2 (by simp [bad]; omega)⟩⟩
  · rw [if_neg a3]
    exact ⟨by simp [bad], h, by simp [bad], by simp [bad], fun _ => ⟨rfl, fun j j1 j2 => absurd j2 (by simp [bad]; omega)⟩⟩
/-- A byte of a later part stands for itself, ill-formed, one byte wide. -/
theorem decL_cont (l : List UInt8) (h : Cont (atL l 0)) : decL l = (65533, 1) := by
  unfold Cont at h
  have e : cutL l = bad 1 := by
    unfold cutL cutN
    rw [if_neg (by omega), if_neg (by omega), if_neg (by omega), if_neg (by omega)]
  unfold decL
  rw [e]
  rfl
def runesF : Nat → List UInt8 → List Nat
  | 0, _ => []
  | _ + 1, [] => []
  | f + 1, c :: l => (cutL (c :: l)).r :: runesF f ((c :: l).drop (cutL (c :: l)).n)
def runesL (l : List UInt8) : List Nat := runesF l.length l
theorem runesF_fuel : ∀ (f g : Nat) (l : List UInt8), l.length ≤ f → l.length ≤ g → runesF f l = runesF g l
  | 0, 0, _, _, _ => rfl
  | 0, g + 1, l, h, _ => by
    have : l = [] := List.eq_nil_of_length_eq_zero (by omega)
    subst this
    rfl
  | f + 1, 0, l, _, h => by
    have : l = [] := List.eq_nil_of_length_eq_zero (by omega)
    subst this
    rfl
  | f + 1, g + 1, [], _, _ => rfl
  | f + 1, g + 1, c :: l, h1, h2 => by
    have hc := cut_facts (c :: l) (by simp)
    unfold runesF
    rw [runesF_fuel f g _ (by rw [List.length_drop]; simp at h1; simp; omega) (by rw [List.length_drop]; simp at h2; simp; omega)]
theorem runesL_nil : runesL [] = [] := rfl
theorem runesL_cons (l : List UInt8) (h : 0 < l.length) : runesL l = (cutL l).r :: runesL (l.drop (cutL l).n) := by
  have hc := cut_facts l h
  obtain ⟨c, t, rfl⟩ : ∃ c t, l = c :: t := by
    cases l with
    | nil => simp at h
    | cons c t => exact ⟨c, t, rfl⟩
  unfold runesL
  rw [List.length_cons]
  show _ :: _ = _
  rw [runesF_fuel t.length ((c :: t).drop (cutL (c :: t)).n).length _ (by rw [List.length_drop, List.length_cons]; omega) (Nat.le_refl _)]
end Go.Proofs.YtfjhljhgmbhklaaGreatDoor.U
/-
  eachPart of the program: the closure is handed the character of each part, in their order; whatever the closure keeps (I) is carried on. Conditions: what the closure does, told as a contract; I bears the string's iterator.
-/
namespace Go.Proofs.YtfjhljhgmbhklaaGreatDoor.U
open Go.RowKit
def IterKept (w w' : World) : Prop := ∀ (k : Nat) (s : ByteArray) (pos : Nat), w.heap[k]? = some (.stringIter s pos) → w'.heap[k]? = some (.stringIter s pos)
theorem sl_extract (s : ByteArray) (i : Nat) : sl (s.extract i s.size) = (sl s).drop i := by
  exact Lib.extract_to_end s i
theorem size_extract (s : ByteArray) (i : Nat) : (s.extract i s.size).size = s.size - i := by
  rw [← len_sl, sl_extract, List.length_drop, len_sl]
theorem atL_drop (l : List UInt8) (i k : Nat) : atL (l.drop i) k = atL l (i + k) := by
  unfold atL
  rw [List.getElem?_drop]
theorem decode_sl (s : ByteArray) (i : Nat) : Utf8.decode s i = decL ((sl s).drop i) := decode_list s i
/-- Where the loop stands: at a part's beginning, or within an ill-formed one. -/
def St (s : ByteArray) (pos e : Nat) (acc : List Nat) : Prop :=
  (e ≤ pos ∧ acc ++ runesL ((sl s).drop pos) = runesL (sl s)) ∨
  (pos < e ∧ e ≤ s.size ∧ (∀ j, pos ≤ j → j < e → Cont (atL (sl s) j)) ∧ acc ++ runesL ((sl s).drop e) = runesL (sl s))
theorem St.inside {s : ByteArray} {pos e : Nat} {acc : List Nat} (h : St s pos e acc) (hp : pos < e) : decL ((sl s).drop pos) = (65533, 1) ∧ St s (pos + 1) e acc := by
  rcases h with ⟨h1, _⟩ | ⟨_, h2, h3, h4⟩
  · omega
  · refine ⟨decL_cont _ ?_, ?_⟩
    · rw [atL_drop]; exact h3 pos (Nat.le_refl _) hp
    · by_cases he : pos + 1 = e
      · subst he; exact .inl ⟨Nat.le_refl _, h4⟩
      · exact .inr ⟨by omega, h2, fun j j1 j2 => h3 j (by omega) j2, h4⟩
theorem St.begin {s : ByteArray} {pos e : Nat} {acc : List Nat} (h : St s pos e acc) (hp : e ≤ pos) (hs : pos < s.size) :
    (decL ((sl s).drop pos)).1 ≤ 1114111 ∧ 1 ≤ (decL ((sl s).drop pos)).2 ∧ (cutL ((sl s).drop pos)).n ≤ s.size - pos ∧ pos + (decL ((sl s).drop pos)).2 ≤ s.size ∧ St s (pos + (decL ((sl s).drop pos)).2) (pos + (cutL ((sl s).drop pos)).n) (acc ++ [(decL ((sl s).drop pos)).1]) := by
  have hl : 0 < ((sl s).drop pos).length := by rw [List.length_drop, len_sl]; omega
  obtain ⟨n1, n2, _, r1, hb⟩ := cut_facts _ hl
  rw [List.length_drop, len_sl] at n2
  rcases h with ⟨_, h2⟩ | ⟨h1, _⟩
  · rw [runesL_cons _ hl, List.drop_drop] at h2
    unfold decL
    cases hok : (cutL ((sl s).drop pos)).ok with
    | true =>
      rw [if_pos rfl]
      exact ⟨r1, n1, by omega, by omega, .inl ⟨Nat.le_refl _, by rw [List.append_assoc]; exact h2⟩⟩
    | false =>
      obtain ⟨hr, hc⟩ := hb hok
      rw [if_neg (by simp)]
      rw [hr] at h2
      refine ⟨by simp, by simp, by omega, by simp; omega, ?_⟩
      by_cases hn : (cutL ((sl s).drop pos)).n = 1
      · rw [hn] at h2 ⊢
        exact .inl ⟨Nat.le_refl _, by rw [List.append_assoc]; exact h2⟩
      · refine .inr ⟨by simp; omega, by omega, fun j j1 j2 => ?_, by rw [List.append_assoc]; exact h2⟩
        have := hc (j - pos) (by simp at j1; omega) (by omega)
        rw [atL_drop] at this
        rwa [show pos + (j - pos) = j from by simp at j1; omega] at this
  · omega
theorem St.done {s : ByteArray} {pos e : Nat} {acc : List Nat} (h : St s pos e acc) (hp : ¬ pos < s.size) : acc = runesL (sl s) := by
  rcases h with ⟨_, h2⟩ | ⟨h1, h2, _⟩
  · rw [List.drop_eq_nil_of_le (by rw [len_sl]; omega), runesL_nil, List.append_nil] at h2
    exact h2
  · omega
set_option maxHeartbeats 4000000 in
set_option maxRecDepth 100000 in
theorem eachPart_any (I : List Nat → World → Prop) (f : Nat) (caps : Array Value) (s : ByteArray) (hm : s.size ≤ 9223372036854775800)
    (hent : ∀ args w, (callFunc f args).run Tryz.prog w = .ok (.enter f args) w)
    (hcall : ∀ rs (r : Nat) w, rs.length < s.size → r ≤ 1114111 → I rs w → Calls Tryz.prog f (#[.int .i32 r] ++ caps) w fun e w' => e = .returned (.tuple #[]) ∧ I (rs ++ [r]) w' ∧ IterKept w w')
    (hnew : ∀ rs w, I rs w → I rs (w.iter s 0)) (w : World) (hiter : ∀ rs w1 pos pos', I rs w1 → w1.heap[w.heap.size]? = some (.stringIter s pos) → I rs (w1.iterAt w.heap.size s pos')) (h0 : I [] w) :
    Calls Tryz.prog 62 #[.string s, .func (.func f) #[] caps] w fun e w' => e = .returned (.tuple #[]) ∧ I (runesL (sl s)) w' := by
  have H1 : Hid _ := hcall
  have H2 : Hid _ := hnew
  have H3 : Hid _ := hiter
  clear hcall hnew hiter
  go_enter Tryz.func62, Tryz.ntmps62
  go_wp2
  go_loopw [4] (fun ve wr => ∃ (pos e : Nat) (acc : List Nat), ve = .int .i64 e ∧ wr.heap[w.heap.size]? = some (.stringIter s pos) ∧ pos ≤ s.size ∧ e ≤ s.size + 4 ∧ acc.length ≤ pos ∧ I acc wr ∧ St s pos e acc) (fun _ wr => s.size - wr.iterPos w.heap.size)
  case atStart => exact ⟨0, 0, [], rfl, World.iter_heap w s 0, Nat.zero_le _, by omega, Nat.le_refl _, H2.out _ _ h0, .inl ⟨Nat.le_refl _, by rw [List.drop_zero]; rfl⟩⟩
  case round =>
    obtain ⟨pos, e, acc, rfl, hit, hps, hes, hal, hI, hst⟩ := hrel
    by_cases hp : pos < s.size
    · have hnx : ∀ ty, (Instr.next (.pointer (some ⟨w.heap.size, 0, none⟩)) true ty).run Tryz.prog wr = _ := fun ty => Lib.run_next_any_at wr w.heap.size s pos ty hit hp
      simp only [decode_sl] at hnx
      have hit2 := Lib.iterAt_heap wr w.heap.size s pos (pos + (decL ((sl s).drop pos)).2) hit
      have hI2 := H3.out acc wr pos (pos + (decL ((sl s).drop pos)).2) hI hit
      have HI2 : Hid _ := hI2
      have HIT2 : Hid _ := hit2
      clear hI2 hit2 hI
      by_cases he : pos < e
      · obtain ⟨hd, hst2⟩ := hst.inside he
        rw [hd] at hnx HI2 HIT2
        have he' : (pos : Int) < (e : Int) := by omega
        go_wp2
        go_roundw
        case rel => exact ⟨pos + 1, e, acc, rfl, HIT2.out, by omega, hes, by omega, HI2.out, hst2⟩
        case measure =>
          simp only [World.iterPos, HIT2.out, hit]
          omega
      · obtain ⟨r1, wd1, n1, wd2, hst2⟩ := hst.begin (by omega) hp
        have he' : ¬ (pos : Int) < (e : Int) := by omega
        have hxs : Hid ((cutL (sl (s.extract pos s.size))).n = (cutL ((sl s).drop pos)).n) := hid_mk (by rw [sl_extract])
        have hsz := size_extract s pos
        have HSZ : Hid _ := hsz
        clear hsz
        generalize (decL ((sl s).drop pos)).1 = rr at *
        generalize (decL ((sl s).drop pos)).2 = wd at *
        go_wp2_with fail
        refine (partLength_any (s.extract pos s.size) (by rw [HSZ.out]; omega) (by rw [HSZ.out]; omega) _).mono ?_
        rintro e1 w1 ⟨rfl, rfl⟩
        rw [hxs.out]
        generalize (cutL ((sl s).drop pos)).n = n at *
        go_wp2_with fail
        refine (H1.out acc rr _ (by omega) r1 HI2.out).mono ?_
        rintro e2 w2 ⟨rfl, hI3, hkeep⟩
        have hit3 := hkeep _ _ _ HIT2.out
        have HIT3 : Hid _ := hit3
        have HI3 : Hid _ := hI3
        clear hit3 hI3 hkeep
        go_wp2
        go_roundw
        case rel => exact ⟨pos + wd, pos + n, acc ++ [rr], by go_num, HIT3.out, by omega, by omega, by rw [List.length_append, List.length_singleton]; omega, HI3.out, hst2⟩
        case measure =>
          simp only [World.iterPos, HIT3.out, hit]
          omega
    · have hnx : ∀ ty, (Instr.next (.pointer (some ⟨w.heap.size, 0, none⟩)) true ty).run Tryz.prog wr = _ := fun ty => Lib.run_next_end_at wr w.heap.size s pos ty hit hp
      have hv : Hid (acc = runesL (sl s)) := hid_mk (hst.done hp)
      go_wp2
      go_end0
      exact ⟨rfl, hv.out ▸ hI⟩
end Go.Proofs.YtfjhljhgmbhklaaGreatDoor.U
/-
  Runes of the program: the characters of the parts, in a slice of the call's own. Condition: the text's length is bounded.
-/
namespace Go.Proofs.YtfjhljhgmbhklaaGreatDoor.U
open Go.RowKit
theorem infoRune : (Tryz.prog.info? 21).map (fun i => (i.zero, i.size, i.bytes)) = some (some (.int .i32 0), 1, 4) := by kernel_rfl
def runeVals (rs : List Nat) : List Value := rs.map fun (r : Nat) => Value.int .i32 (r : Int)
/-- What the closure of Runes keeps: its slice lies in block b, and owns the characters so far. -/
def RunI (W : World) (b : Nat) (rs : List Nat) (w : World) : Prop :=
  Below W.heap.size W w ∧ W.heap.size ≤ b ∧ ∃ v, w.heap[b]? = some (.cells #[v] 152 (0, 0)) ∧ w.ownsRow W.heap.size 21 1 v rs.length (runeVals rs) ∧ v.ownBlock ≠ some b
theorem own_ne {w : World} {base b n size : Nat} {e t : TypeId} {v : Value} {xs : List Value} {cs : Array Value} {fr : Nat × Nat} (h : w.ownsRow base e size v n xs) (hb : w.heap[b]? = some (.cells cs t fr)) (hne : e ≠ t) : v.ownBlock ≠ some b := by
  rcases h.2 with ⟨rfl, _⟩ | ⟨g, cap, cur, rfl, _, hg, _⟩
  · simp [Value.ownBlock]
  · intro he
    have : g = b := by simpa [Value.ownBlock] using he
    subst this
    rw [hg] at hb
    injection hb with hb
    injection hb with _ ht
    exact hne ht
theorem sizeBuilder : (Tryz.prog.info? 87).map (·.size) = some 2 := by kernel_rfl
theorem liesBuilder : liesAt Tryz.prog Tryz.prog.depth 87 (2 / Tryz.prog.cellsOf 87) 0 87 1 = true := by kernel_rfl
theorem infoByte : (Tryz.prog.info? 5).map (fun i => (i.zero, i.size, i.bytes)) = some (some (.int .u8 0), 1, 1) := by kernel_rfl
set_option maxHeartbeats 2000000 in
theorem copyCheck_fresh (b : Nat) (w : World) (h0 : w.cell? ⟨b, 0, none⟩ = some (.pointer none)) (hsh : w.shape? b = some (87, 2)) (hfz : w.frozen? ⟨b, 0, none⟩ = false) :
    Calls Tryz.prog 89 #[.pointer (some ⟨b, 0, none⟩)] w fun e w' => e = .returned (.tuple #[]) ∧ w' = w.setCell ⟨b, 0, none⟩ (.pointer (some ⟨b, 0, none⟩)) := by
  obtain ⟨j, hj, hjs⟩ := Option.map_eq_some_iff.1 sizeBuilder
  have k1 := Lib.run_to_unsafe (P := Tryz.prog) w ⟨b, 0, none⟩ Tryz.underlying85 Tryz.underlying137 hj (by rw [hjs]; decide) hsh (Nat.zero_lt_succ 1)
  have k3 := Lib.run_from_unsafe (P := Tryz.prog) w ⟨b, 0, none⟩ Tryz.underlying137 Tryz.underlying85 hj hsh liesBuilder
  have k2 := run_callFunc_extern (args := #[.pointer (some ⟨b, 0, none⟩)]) (w := w) Tryz.func119 (by kernel_rfl) (by kernel_rfl) (by kernel_rfl) (e := Extern.AbiNoEscape.same) (by kernel_rfl)
  rw [Lib.run_noEscape] at k2
  simp only [Result.andThen] at k2
  clear hj hjs
  go_enter Tryz.func89, Tryz.ntmps89
  go_wp2
  go_end0
  exact ⟨rfl, rfl⟩
set_option maxHeartbeats 2000000 in
theorem copyCheck_used (b : Nat) (w : World) (h0 : w.cell? ⟨b, 0, none⟩ = some (.pointer (some ⟨b, 0, none⟩))) :
    Calls Tryz.prog 89 #[.pointer (some ⟨b, 0, none⟩)] w fun e w' => e = .returned (.tuple #[]) ∧ w' = w := by
  obtain ⟨j, hj, _⟩ := Option.map_eq_some_iff.1 sizeBuilder
  have k1 := Lib.run_neq_ptr_same (P := Tryz.prog) w ⟨b, 0, none⟩ Tryz.underlying85 hj
  clear hj
  go_enter Tryz.func89, Tryz.ntmps89
  go_wp2
  go_end0
  exact ⟨rfl, rfl⟩
theorem copyCheck_any (B b : Nat) (bs : List Value) (w : World) (h : Lib.IsBuilderF 87 5 B b bs w) :
    Calls Tryz.prog 89 #[.pointer (some ⟨b, 0, none⟩)] w fun e w' => e = .returned (.tuple #[]) ∧ (Lib.BuilderAtF 87 5 B b (.pointer (some ⟨b, 0, none⟩)) bs w' ∧ Below B w w' ∧ Lib.OthersKept 5 (some b) w w') := by
  rcases h with h | h
  · refine (copyCheck_fresh b w h.cell0 h.shape h.frozen0).mono ?_
    rintro e w' ⟨rfl, rfl⟩
    exact ⟨rfl, h.used _, (Below.refl B w).setCell (p := ⟨b, 0, none⟩) h.1 _, (Lib.OthersKept.refl _ _ w).setCell ⟨b, 0, none⟩ rfl _⟩
  · refine (copyCheck_used b w h.cell0).mono ?_
    rintro e w' ⟨rfl, rfl⟩
    exact ⟨rfl, h, Below.refl B _, Lib.OthersKept.refl _ _ _⟩
theorem neB5 : (87 : Nat) ≠ 5 := by decide
set_option maxHeartbeats 2000000 in
theorem writeByte_any (B b : Nat) (bs : List Value) (c : Int) (w : World) (h : Lib.IsBuilderF 87 5 B b bs w) (hlen : bs.length + 1 ≤ 140737488355328) (hBw : B ≤ w.heap.size) :
    Calls Tryz.prog 64 #[.pointer (some ⟨b, 0, none⟩), .int .u8 c] w fun e w' => e = .returned .nilIface ∧ (Lib.BuilderAtF 87 5 B b (.pointer (some ⟨b, 0, none⟩)) (bs ++ [.int .u8 c]) w' ∧ Below B w w' ∧ Lib.OthersKept 5 (some b) w w') := by
  obtain ⟨i0, hi, hz0, hz1, hz2⟩ := info_parts infoByte
  go_enter Tryz.func64, Tryz.ntmps64
  go_wp2_with (go_at_call 89; refine (copyCheck_any B b bs _ h).mono ?_; rintro e w1 ⟨rfl, hb⟩; refine Classical.byContradiction fun hno => ?_)
  refine hno ?_
  clear hno
  obtain ⟨h1, hbel, hoth⟩ := hb
  obtain ⟨hB, v, hbk, hown, hne⟩ := h1
  have hlt : b < w1.heap.size := (Array.getElem?_eq_some_iff.1 hbk).1
  have c0 : w1.cell? ⟨b, 0, none⟩ = some (.pointer (some ⟨b, 0, none⟩)) := by rw [Lib.cell_of_heap hbk]; rfl
  have c1 : w1.cell? ⟨b, 1, none⟩ = some v := by rw [Lib.cell_of_heap hbk]; rfl
  have HH := hid_mk (And.intro hbk (And.intro hown (And.intro hbel hoth)))
  clear hbk hown hbel hoth
  go_wp2_with (at_builtin; refine Classical.byContradiction fun hno => ?_)
  refine hno ?_
  clear hno
  obtain ⟨hbk, hown, hbel, hoth⟩ := HH.out
  refine wpList_append_ownF _ rfl (.tmp 11) (.tmp 13) _ rfl B 5 i0 (.int .u8 0) 1 1 Tryz.underlying42 hi hz0 hz1 hz2 rfl (by decide) v bs.length bs rfl (hown.alloc _) ⟨w1.heap.size, 0, none⟩ 1 1 [.int .u8 c] rfl rfl ?c1 ?c2 ?c3 ?c4 ?c5 ?_
  case c1 =>
    intro j u hu
    match j, hu with
    | 0, hu => simp at hu; subst hu; simp [Addr.add]
  case c2 => intro u hu; simp at hu; subst hu; rfl
  case c3 => unfold maxLen; omega
  case c4 => omega
  case c5 => have := hbel.size; simp; omega
  intro v' w2 hown1 hgrow _
  have hb2 : w2.heap[b]? = some (.cells #[.pointer (some ⟨b, 0, none⟩), v] 87 (0, 0)) := by
    rw [hgrow.block b (by simp; omega) (fun e => hne e.symm), Below.heap_alloc w1 _ b hlt]
    exact hbk
  have d0 : w2.cell? ⟨b, 0, none⟩ = some (.pointer (some ⟨b, 0, none⟩)) := by rw [Lib.cell_of_heap hb2]; rfl
  have d1 : w2.cell? ⟨b, 1, none⟩ = some v := by rw [Lib.cell_of_heap hb2]; rfl
  have f1 : w2.frozen? ⟨b, 1, none⟩ = false := Lib.frozen_of_heap hb2 1
  obtain ⟨g, cap, hv⟩ : ∃ g cap, v' = .slice (some ⟨g, 0, none⟩) (bs.length + 1) cap := by
    rcases hown1.2 with ⟨_, h0⟩ | ⟨g, cap, cur, fz, hv, _⟩
    · omega
    · exact ⟨g, cap, hv⟩
  have hfin := hid_mk (show Lib.BuilderAtF 87 5 B b (.pointer (some ⟨b, 0, none⟩)) (bs ++ [.int .u8 c]) (w2.setCell ⟨b, 1, none⟩ v') ∧ Below B w (w2.setCell ⟨b, 1, none⟩ v') ∧ Lib.OthersKept 5 (some b) w (w2.setCell ⟨b, 1, none⟩ v') from by
    refine ⟨?_, ?_, ((hoth.alloc _).grown hgrow (Lib.ownsRowF_kind (hown.alloc _))).setCell ⟨b, 1, none⟩ rfl _⟩
    · exact Lib.BuilderAtF.put (T := 87) (e := 5) hB hb2 (bs' := bs ++ [.int .u8 c]) (by simpa using hown1) neB5
    · exact ((hbel.alloc (by have := hbel.size; omega) _).grown hgrow (by have := hbel.size; simp; omega) (fun k hk => (hown.lt k hk).1)).setCell (p := ⟨b, 1, none⟩) hB _)
  clear HH hbk hown hbel hoth hown1 hgrow hb2 hi hz0 hz1 hz2
  clear i0
  rw [hv] at hfin ⊢
  clear hv
  go_wp2
  go_ret
  exact ⟨rfl, hfin.out⟩
set_option maxHeartbeats 2000000 in
theorem writeRune_any (B b : Nat) (bs : List Value) (r : Int) (hr0 : -2147483648 ≤ r) (hr1 : r ≤ 2147483647) (w : World) (h : Lib.IsBuilderF 87 5 B b bs w) (hlen : bs.length + 4 ≤ 140737488355328) (hBw : B ≤ w.heap.size) :
    Calls Tryz.prog 65 #[.pointer (some ⟨b, 0, none⟩), .int .i32 r] w fun e w' => e = .returned (.tuple #[.int .i64 (Lib.runeCells r).length, .nilIface]) ∧ (Lib.BuilderAtF 87 5 B b (.pointer (some ⟨b, 0, none⟩)) (bs ++ Lib.runeCells r) w' ∧ Below B w w' ∧ Lib.OthersKept 5 (some b) w w') := by
  have hrl := Lib.runeCells_le r
  go_enter Tryz.func65, Tryz.ntmps65
  go_wp2_with (go_at_call 89; refine (copyCheck_any B b bs _ h).mono ?_; rintro e w1 ⟨rfl, hb⟩; refine Classical.byContradiction fun hno => ?_)
  refine hno ?_
  clear hno
  obtain ⟨h1, hbel, hoth⟩ := hb
  obtain ⟨hB, v, hbk, hown, hne⟩ := h1
  have hlt : b < w1.heap.size := (Array.getElem?_eq_some_iff.1 hbk).1
  have c0 : w1.cell? ⟨b, 0, none⟩ = some (.pointer (some ⟨b, 0, none⟩)) := by rw [Lib.cell_of_heap hbk]; rfl
  have c1 : w1.cell? ⟨b, 1, none⟩ = some v := by rw [Lib.cell_of_heap hbk]; rfl
  have hvf : ∃ a cap, v = .slice a bs.length cap := by
    rcases hown.2 with ⟨hv, h0⟩ | ⟨g, cap, cur, fz, hv, _⟩
    · exact ⟨none, 0, by rw [hv, h0]⟩
    · exact ⟨_, cap, hv⟩
  obtain ⟨a, cap, rfl⟩ := hvf
  have hbsz := hbel.size
  have HH := hid_mk (And.intro hbk (And.intro hown (And.intro hbel (And.intro hoth hne))))
  clear hbk hown hbel hoth hne
  go_wp2_with (go_at_call 90; refine Classical.byContradiction fun hno => ?_)
  refine hno ?_
  clear hno
  refine (Tryz.utf8_AppendRune_row B (.slice a bs.length cap) bs.length bs r hr0 hr1 w1 HH.out.2.1 hlen (by omega)).mono ?_
  rintro e w2 ⟨v', rfl, hown2, o, hgrow⟩
  obtain ⟨hbk, hown, hbel, hoth, hne⟩ := HH.out
  have hb2 : w2.heap[b]? = some (.cells #[.pointer (some ⟨b, 0, none⟩), .slice a bs.length cap] 87 (0, 0)) := by
    rw [hgrow.block b (by simp; omega) (fun e => hne e.symm), Below.heap_alloc w1 _ b hlt]
    exact hbk
  have d0 : w2.cell? ⟨b, 0, none⟩ = some (.pointer (some ⟨b, 0, none⟩)) := by rw [Lib.cell_of_heap hb2]; rfl
  have d1 : w2.cell? ⟨b, 1, none⟩ = some (.slice a bs.length cap) := by rw [Lib.cell_of_heap hb2]; rfl
  have f1 : w2.frozen? ⟨b, 1, none⟩ = false := Lib.frozen_of_heap hb2 1
  obtain ⟨g, cap2, hv⟩ : ∃ g cap2, v' = .slice (some ⟨g, 0, none⟩) (bs.length + (Lib.runeCells r).length) cap2 := by
    rcases hown2.2 with ⟨_, h0⟩ | ⟨g, cap2, cur, fz, hv, _⟩
    · omega
    · exact ⟨g, cap2, hv⟩
  have hfin := hid_mk (show Lib.BuilderAtF 87 5 B b (.pointer (some ⟨b, 0, none⟩)) (bs ++ Lib.runeCells r) (w2.setCell ⟨b, 1, none⟩ v') ∧ Below B w (w2.setCell ⟨b, 1, none⟩ v') ∧ Lib.OthersKept 5 (some b) w (w2.setCell ⟨b, 1, none⟩ v') from by
    refine ⟨?_, ?_, ((hoth.alloc _).grown hgrow (Lib.ownsRowF_kind (hown.alloc _))).setCell ⟨b, 1, none⟩ rfl _⟩
    · exact Lib.BuilderAtF.put (T := 87) (e := 5) hB hb2 (bs' := bs ++ Lib.runeCells r) (by rw [List.length_append]; exact hown2) neB5
    · exact ((hbel.alloc (by omega) _).grown hgrow (by simp; omega) (fun k hk => (hown.lt k hk).1)).setCell (p := ⟨b, 1, none⟩) hB _)
  clear HH hbk hown hbel hoth hown2 hgrow hb2 hne
  rw [hv] at hfin ⊢
  clear hv
  have he := hid_mk (show ((bs.length : Int) + ((Lib.runeCells r).length : Int) - (bs.length : Int)) = ((Lib.runeCells r).length : Int) by omega)
  go_wp2
  go_ret2
  refine ⟨?_, hfin.out⟩
  show Ending.returned (.tuple #[.int .i64 ((bs.length : Int) + ((Lib.runeCells r).length : Int) - (bs.length : Int)), .nilIface]) = _
  rw [he.out]
end Go.Proofs.YtfjhljhgmbhklaaGreatDoor.U
/-
  Decode of the program: line ends made one, each part's character written. Condition: none (beyond the limit it is refused).
-/
namespace Go.Proofs.YtfjhljhgmbhklaaGreatDoor.U
open Go.RowKit
def piece (before r : Nat) : List UInt8 := if r = 13 then [10] else if r = 10 ∧ before = 13 then [] else Lib.encodeRune r
def decStep (st : Nat × List UInt8) (r : Nat) : Nat × List UInt8 := (r, st.2 ++ piece st.1 r)
def decSt (rs : List Nat) : Nat × List UInt8 := rs.foldl decStep (0, [])
theorem decSt_snoc (rs : List Nat) (r : Nat) : decSt (rs ++ [r]) = decStep (decSt rs) r := by
  unfold decSt
  rw [List.foldl_append]
  rfl
theorem piece_len (b r : Nat) : (piece b r).length ≤ 4 := by
  unfold piece
  have := Lib.runeCells_le r
  rw [Lib.runeCells_length] at this
  (repeat' split) <;> simp <;> omega
theorem decSt_len : ∀ (rs : List Nat) (st : Nat × List UInt8), (rs.foldl decStep st).2.length ≤ st.2.length + 4 * rs.length
  | [], st => by simp
  | r :: rs, st => by
    have h1 := decSt_len rs (decStep st r)
    have h2 := piece_len st.1 r
    simp only [List.foldl_cons, List.length_cons]
    have h3 : (decStep st r).2.length = st.2.length + (piece st.1 r).length := by simp [decStep]
    omega
/-- What the closure of Decode keeps: the builder holds what has been told, 'before' the last character. -/
def DecI (W : World) (rs : List Nat) (w : World) : Prop :=
  Below W.heap.size W w ∧ Lib.IsBuilderF 87 5 W.heap.size W.heap.size (Lib.byteCells (decSt rs).2) w ∧ w.heap[W.heap.size + 1]? = some (.cells #[.int .i32 ((decSt rs).1 : Nat)] 21 (0, 0))
theorem DecI.iter {W : World} {rs : List Nat} {w : World} (h : DecI W rs w) (s : ByteArray) : DecI W rs (w.iter s 0) := by
  obtain ⟨hbel, hB, hq⟩ := h
  have hlt : W.heap.size + 1 < w.heap.size := (Array.getElem?_eq_some_iff.1 hq).1
  exact ⟨hbel.alloc hbel.size _, hB.alloc _, (Below.heap_alloc w _ _ hlt).trans hq⟩
theorem DecI.iterAt {W : World} {rs : List Nat} {w : World} (h : DecI W rs w) {k : Nat} {s : ByteArray} {pos : Nat} (hk : w.heap[k]? = some (.stringIter s pos)) (pos' : Nat) (hWk : W.heap.size ≤ k) : DecI W rs (w.iterAt k s pos') := by
  obtain ⟨hbel, hB, hq⟩ := h
  refine ⟨Lib.below_iterAt hbel hWk s pos', hB.iterAt hk pos', ?_⟩
  rw [Lib.iterAt_other w k _ s pos' (fun e => by subst e; rw [hq] at hk; cases hk)]
  exact hq
theorem kept_q {w w' : World} {b q : Nat} {v : Value} (hk : Lib.OthersKept 5 (some b) w w') (hq : w.heap[q]? = some (.cells #[v] 21 (0, 0))) (hne : q ≠ b) : w'.heap[q]? = some (.cells #[v] 21 (0, 0)) :=
  hk q _ hq (fun e => hne (Option.some.inj e)) (fun c fz e => by injection e with _ h; exact absurd h (by decide))
theorem builder_set {B b q : Nat} {bs : List Value} {w : World} {x v : Value} (h : Lib.IsBuilderF 87 5 B b bs w) (hq : w.heap[q]? = some (.cells #[x] 21 (0, 0))) : Lib.IsBuilderF 87 5 B b bs (w.setCell ⟨q, 0, none⟩ v) := by
  have one : ∀ p, Lib.BuilderAtF 87 5 B b p bs w → Lib.BuilderAtF 87 5 B b p bs (w.setCell ⟨q, 0, none⟩ v) := by
    rintro p ⟨hB, u, hb, hown, hne⟩
    have hbq : b ≠ q := fun e => by
      subst e
      rw [hb] at hq
      injection hq with hq
      injection hq with _ ht
      exact absurd ht (by decide)
    refine ⟨hB, u, ?_, ⟨hown.1, ?_⟩, hne⟩
    · rw [heap_setCell_other w _ b _ hbq]; exact hb
    · rcases hown.2 with h2 | ⟨g, cap, cur, fz, h1, h2, h3, h4⟩
      · exact .inl h2
      · refine .inr ⟨g, cap, cur, fz, h1, h2, ?_, h4⟩
        rw [heap_setCell_other w _ g _ (fun e => by
          have e' : g = q := e
          subst e'
          rw [h3] at hq
          injection hq with hq
          injection hq with _ ht
          exact absurd ht (by decide))]
        exact h3
  exact h.elim (fun h => .inl (one _ h)) (fun h => .inr (one _ h))
theorem builder_block {B b : Nat} {bs : List Value} {w : World} (h : Lib.IsBuilderF 87 5 B b bs w) : ∃ cs fz, w.heap[b]? = some (.cells cs 87 fz) := by
  rcases h with ⟨_, v, hb, _⟩ | ⟨_, v, hb, _⟩ <;> exact ⟨_, _, hb⟩
/-- The end of each way through the closure: the piece is written, the character is stored. -/
theorem decI_end {W : World} {rs : List Nat} {r : Nat} {w w1 : World} (h : DecI W rs w)
    (hb : Lib.IsBuilderF 87 5 W.heap.size W.heap.size (Lib.byteCells (decSt rs).2 ++ Lib.byteCells (piece (decSt rs).1 r)) w1) (hbel : Below W.heap.size w w1) (hoth : Lib.OthersKept 5 (some W.heap.size) w w1) :
    DecI W (rs ++ [r]) (w1.setCell ⟨W.heap.size + 1, 0, none⟩ (.int .i32 (r : Int))) ∧ IterKept w (w1.setCell ⟨W.heap.size + 1, 0, none⟩ (.int .i32 (r : Int))) := by
  obtain ⟨hbw, hB, hq⟩ := h
  have hq1 := kept_q hoth hq (by omega)
  refine ⟨⟨(hbw.trans hbel).setCell (p := ⟨W.heap.size + 1, 0, none⟩) (by simp) _, ?_, ?_⟩, fun k s pos hk => ?_⟩
  · rw [decSt_snoc]
    show Lib.IsBuilderF _ _ _ _ (Lib.byteCells ((decSt rs).2 ++ piece (decSt rs).1 r)) _
    rw [Lib.byteCells_append]
    exact builder_set hb hq1
  · rw [heap_setCell_same w1 _ 0 _ _ _ hq1, decSt_snoc]
    rfl
  · have hkb : k ≠ W.heap.size := fun e => by
      subst e
      obtain ⟨cs, fz, hc⟩ := builder_block hB
      rw [hk] at hc
      cases hc
    have h1 := hoth.iter hk hkb
    rw [heap_setCell_other w1 _ k _ (fun e => by
      have e' : k = W.heap.size + 1 := e
      subst e'
      rw [hq] at hk
      cases hk)]
    exact h1
set_option maxHeartbeats 2000000 in
theorem decFn_any (W : World) (rs : List Nat) (r : Nat) (w : World) (hn : rs.length < 140737488) (hr : r ≤ 1114111) (h : DecI W rs w) :
    Calls Tryz.prog 63 #[.int .i32 r, .pointer (some ⟨W.heap.size, 0, none⟩), .pointer (some ⟨W.heap.size + 1, 0, none⟩)] w fun e w' => e = .returned (.tuple #[]) ∧ DecI W (rs ++ [r]) w' ∧ IterKept w w' := by
  have hl := decSt_len rs (0, [])
  have hl2 : (Lib.byteCells (decSt rs).2).length ≤ 4 * rs.length := by
    rw [Lib.byteCells_length]
    simpa [decSt] using hl
  clear hl
  have hq := h.2.2
  have hsz : W.heap.size + 1 < w.heap.size := (Array.getElem?_eq_some_iff.1 hq).1
  have HD := hid_mk h
  have c0 : w.cell? ⟨W.heap.size + 1, 0, none⟩ = some (.int .i32 ((decSt rs).1 : Nat)) := by rw [cell_of_row w _ 0 _ _ _ hq]; rfl
  have fin := hid_mk (fun (w1 : World) (hb : Lib.IsBuilderF 87 5 W.heap.size W.heap.size (Lib.byteCells (decSt rs).2 ++ Lib.byteCells (piece (decSt rs).1 r)) w1) (hbel : Below W.heap.size w w1) (hoth : Lib.OthersKept 5 (some W.heap.size) w w1) => decI_end h hb hbel hoth)
  have HQ := hid_mk hq
  have HB := hid_mk h.2.1
  have hWs : W.heap.size ≤ w.heap.size := by omega
  clear hq h HD
  by_cases h13 : r = 13
  · have hp : piece (decSt rs).1 r = [10] := by unfold piece; rw [if_pos h13]
    have HP := hid_mk hp
    subst h13
    clear hp
    generalize (decSt rs).1 = bf at *
    generalize (decSt rs).2 = acc at *
    go_enter Tryz.func63, Tryz.ntmps63
    go_wp2_with fail
    refine (writeByte_any W.heap.size W.heap.size (Lib.byteCells acc) 10 w HB.out (by omega) hWs).mono ?_
    rintro e w1 ⟨rfl, h1, b1, k1⟩
    have hq1 := kept_q k1 HQ.out (by omega)
    have d0 : w1.cell? ⟨W.heap.size + 1, 0, none⟩ = some (.int .i32 (bf : Nat)) := by rw [cell_of_row w1 _ 0 _ _ _ hq1]; rfl
    have f0 : w1.frozen? ⟨W.heap.size + 1, 0, none⟩ = false := frozen_of_row w1 _ 0 _ _ hq1
    have hfin := hid_mk (fin.out w1 (by rw [HP.out]; exact Or.inr h1) b1 k1)
    clear hq1 h1 b1 k1 fin HB HQ HP
    go_wp2
    go_end0
    exact ⟨rfl, hfin.out⟩
  · by_cases hskip : r = 10 ∧ (decSt rs).1 = 13
    · have hp : piece (decSt rs).1 r = [] := by unfold piece; rw [if_neg h13, if_pos hskip]
      have HP := hid_mk hp
      obtain ⟨h10, hbf⟩ := hskip
      rw [hbf] at c0 HQ HP fin
      subst h10
      clear hp hbf h13
      generalize (decSt rs).2 = acc at *
      have f0 : w.frozen? ⟨W.heap.size + 1, 0, none⟩ = false := frozen_of_row w _ 0 _ _ HQ.out
      have hfin := hid_mk (fin.out w (by rw [HP.out]; show Lib.IsBuilderF _ _ _ _ (Lib.byteCells acc ++ []) w; rw [List.append_nil]; exact HB.out) (Below.refl _ _) (Lib.OthersKept.refl _ _ _))
      clear fin HB HQ HP
      go_enter Tryz.func63, Tryz.ntmps63
      go_wp2
      go_end0
      exact ⟨rfl, hfin.out⟩
    · have hp : piece (decSt rs).1 r = Lib.encodeRune r := by unfold piece; rw [if_neg h13, if_neg hskip]
      have HP := hid_mk hp
      have hway : r ≠ 10 ∨ (r = 10 ∧ (decSt rs).1 ≠ 13) := by
        by_cases h10 : r = 10
        · exact .inr ⟨h10, fun h => hskip ⟨h10, h⟩⟩
        · exact .inl h10
      clear hp hskip
      generalize (decSt rs).1 = bf at *
      generalize (decSt rs).2 = acc at *
      have hc13 : ((r : Int) == 13) = false := by simp; omega
      rcases hway with h10 | ⟨rfl, hbf⟩
      · have hc10 : ((r : Int) != 10) = true := by simp; omega
        clear h13 h10
        go_enter Tryz.func63, Tryz.ntmps63
        go_wp2_with fail
        refine (writeRune_any W.heap.size W.heap.size (Lib.byteCells acc) r (by omega) (by omega) w HB.out (by omega) hWs).mono ?_
        rintro e w1 ⟨rfl, h1, b1, k1⟩
        have hq1 := kept_q k1 HQ.out (by omega)
        have d0 : w1.cell? ⟨W.heap.size + 1, 0, none⟩ = some (.int .i32 (bf : Nat)) := by rw [cell_of_row w1 _ 0 _ _ _ hq1]; rfl
        have f0 : w1.frozen? ⟨W.heap.size + 1, 0, none⟩ = false := frozen_of_row w1 _ 0 _ _ hq1
        have hfin := hid_mk (fin.out w1 (by rw [HP.out, Lib.byteCells_encodeRune]; exact Or.inr h1) b1 k1)
        clear hq1 h1 b1 k1 fin HB HQ HP
        go_wp2
        go_end0
        exact ⟨rfl, hfin.out⟩
      · have hb13 : ((bf : Int) != 13) = true := by simp; omega
        clear h13 hc13 hbf
        go_enter Tryz.func63, Tryz.ntmps63
        go_wp2_with fail
        refine (writeRune_any W.heap.size W.heap.size (Lib.byteCells acc) 10 (by omega) (by omega) w HB.out (by omega) hWs).mono ?_
        rintro e w1 ⟨rfl, h1, b1, k1⟩
        have hq1 := kept_q k1 HQ.out (by omega)
        have d0 : w1.cell? ⟨W.heap.size + 1, 0, none⟩ = some (.int .i32 (bf : Nat)) := by rw [cell_of_row w1 _ 0 _ _ _ hq1]; rfl
        have f0 : w1.frozen? ⟨W.heap.size + 1, 0, none⟩ = false := frozen_of_row w1 _ 0 _ _ hq1
        have hfin := hid_mk (fin.out w1 (by rw [HP.out, Lib.byteCells_encodeRune]; exact Or.inr h1) b1 k1)
        clear hq1 h1 b1 k1 fin HB HQ HP
        go_wp2
        go_end0
        exact ⟨rfl, hfin.out⟩
end Go.Proofs.YtfjhljhgmbhklaaGreatDoor.U
/-
  Decode of the program: the text of bytes. Condition: the length is bounded.
-/
namespace Go.Proofs.YtfjhljhgmbhklaaGreatDoor.U
open Go.RowKit
/-- A slice of these bytes. -/
def HasBytes (w : World) (a : Option Addr) (bs : List UInt8) : Prop :=
  (a = none ∧ bs = []) ∨ ∃ x, a = some x ∧ (0 < bs.length → x.block < w.heap.size) ∧ ∀ j u, (Lib.byteCells bs)[j]? = some u → w.cell? (x.add j) = some u
def strOf (l : List UInt8) : ByteArray := ⟨l.toArray⟩
theorem sl_strOf (l : List UInt8) : sl (strOf l) = l := by simp [sl, strOf]
theorem strOf_sl (s : ByteArray) : strOf (sl s) = s := by cases s; simp [sl, strOf]
theorem push_fold : ∀ (bs : List UInt8) (s : ByteArray), (bs.map fun b => ((b.toNat : Nat) : Int)).foldl (fun r n => r.push (UInt8.ofNat n.toNat)) s = strOf (sl s ++ bs)
  | [], s => by simp [strOf_sl]
  | b :: bs, s => by
    simp only [List.map_cons, List.foldl_cons]
    rw [push_fold bs]
    have e : UInt8.ofNat (((b.toNat : Nat) : Int)).toNat = b := by simp
    rw [e]
    congr 1
    show (s.data.push b).toList ++ bs = _
    simp [sl]
theorem bytes_conv (w : World) (a : Option Addr) (cap : Nat) (bs : List UInt8) (h : HasBytes w a bs) :
    (convert 42 9 (.slice a bs.length cap)).run Tryz.prog w = .ok (.string (strOf bs)) w := by
  rw [run_convert_bytes_string w _ _ _ a _ cap Tryz.underlying42 Tryz.underlying5 Tryz.underlying9]
  rcases h with ⟨rfl, rfl⟩ | ⟨x, rfl, _, hc⟩
  · rfl
  · have hl := run_loadCells_list (w := w) (P := Tryz.prog) x (Lib.byteCells bs) (fun j v hv => hc j v hv)
    rw [Lib.byteCells_length] at hl
    have hz : (Lib.byteCells bs) = (bs.map fun b => ((b.toNat : Nat) : Int)).map (Value.int .u8) := by simp [Lib.byteCells]
    rw [hz] at hl
    rw [run_bytesToString w x _ cap _ hl, push_fold]
    rfl
theorem addr_block (x : Addr) (j : Nat) : (x.add j).block = x.block := by unfold Addr.add; split <;> rfl
theorem HasBytes.below {w w' : World} {a : Option Addr} {bs : List UInt8} (h : HasBytes w a bs) (hb : Below w.heap.size w w') : HasBytes w' a bs := by
  rcases h with h | ⟨x, h1, h2, h3⟩
  · exact .inl h
  · refine .inr ⟨x, h1, fun h0 => Nat.lt_of_lt_of_le (h2 h0) hb.size, fun j u hu => ?_⟩
    have h0 : 0 < bs.length := by
      have := (List.getElem?_eq_some_iff.1 hu).1
      rw [Lib.byteCells_length] at this
      omega
    rw [hb.cell (p := x.add j) (by rw [addr_block]; exact h2 h0)]
    exact h3 j u hu
/-- What Decode tells: the text, and the error. -/
def decOut (bs : List UInt8) : List UInt8 × Int := if 65536 < bs.length then ([], 3) else ((decSt (runesL bs)).2, 0)
set_option maxHeartbeats 2000000 in
set_option maxRecDepth 100000 in
theorem decode_any (a : Option Addr) (cap : Nat) (bs : List UInt8) (w : World) (hl : bs.length ≤ 100000000) (h : HasBytes w a bs) :
    Calls Tryz.prog 38 #[.slice a bs.length cap] w fun e w' => e = .returned (.tuple #[.string (strOf (decOut bs).1), .int .i64 (decOut bs).2]) ∧ Below w.heap.size w w' := by
  by_cases hbig : 65536 < bs.length
  · have ho : decOut bs = ([], 3) := by unfold decOut; rw [if_pos hbig]
    rw [ho]
    clear ho
    go_enter Tryz.func38, Tryz.ntmps38
    go_wp2
    go_ret2
    exact ⟨rfl, Below.refl _ _⟩
  · have ho : decOut bs = ((decSt (runesL bs)).2, 0) := by unfold decOut; rw [if_neg hbig]
    have HO := hid_mk ho
    clear ho
    have hb2 : Below w.heap.size w ((w.alloc (.cells #[.pointer none, .slice none 0 0] 87)).alloc (.cells #[.int .i32 0] 21)) :=
      ((Below.refl _ _).alloc (Nat.le_refl _) _).alloc (by simp) _
    have hcv := bytes_conv _ a cap bs (h.below hb2)
    have hI : DecI w [] ((w.alloc (.cells #[.pointer none, .slice none 0 0] 87)).alloc (.cells #[.int .i32 0] 21)) := by
      refine ⟨hb2, .inl ⟨Nat.le_refl _, .slice none 0 0, ?_, ⟨rfl, .inl ⟨rfl, rfl⟩⟩, by simp [Value.ownBlock]⟩, ?_⟩
      · rw [Below.heap_alloc _ _ _ (by simp)]
        exact heap_alloc_new w _
      · have := heap_alloc_new (w.alloc (.cells #[.pointer none, .slice none 0 0] 87)) (.cells #[.int .i32 0] 21)
        rw [show (w.alloc (.cells #[.pointer none, .slice none 0 0] 87)).heap.size = w.heap.size + 1 by simp] at this
        exact this
    have hE := eachPart_any (fun rs w' => DecI w rs w') 63 #[.pointer (some ⟨w.heap.size, 0, none⟩), .pointer (some ⟨w.heap.size + 1, 0, none⟩)] (strOf bs) (by show bs.toArray.size ≤ _; rw [List.size_toArray]; omega)
      (fun args w' => by kernel_rfl) (fun rs r w' hl2 hr hD => decFn_any w rs r w' (by have : (strOf bs).size = bs.length := (by show bs.toArray.size = _; rw [List.size_toArray]); omega) hr hD) (fun rs w' hD => hD.iter (strOf bs)) _ (fun rs w' pos pos' hD hk => hD.iterAt hk pos' (by simp; omega)) hI
    rw [sl_strOf] at hE
    have HE := hid_mk hE
    clear hE hI hb2
    generalize hw2 : ((w.alloc (.cells #[.pointer none, .slice none 0 0] 87)).alloc (.cells #[.int .i32 0] 21)) = w2 at *
    have HW := hid_mk hw2
    clear hw2
    go_enter Tryz.func38, Tryz.ntmps38
    go_wp2_with fail
    rw [HW.out]
    rw [hcv]
    go_wp2_with fail
    refine HE.out.mono ?_
    rintro e w3 ⟨rfl, hbel, hB, hq⟩
    have HBB := hid_mk hB
    have HBL := hid_mk hbel
    have hsz := hbel.size
    clear hB hbel hq HE hcv
    go_wp2_with fail
    refine (Tryz.Builder_String_any_k w.heap.size w.heap.size _ w3 HBB.out hsz).mono ?_
    rintro e w4 ⟨rfl, _, hb4, _⟩
    have HB4 := hid_mk (HBL.out.trans hb4)
    clear hb4 hsz
    go_wp2
    go_ret2
    rw [HO.out]
    exact ⟨rfl, HB4.out⟩
end Go.Proofs.YtfjhljhgmbhklaaGreatDoor.U
