/-
  A well-formed part is its character's bytes; where the reference's decoding goes on. Plain; no condition.
-/
import Derived.Test.YtflgiejnklbjnaaRefStr
namespace Go.Proofs.Ytflgiejnklbjnaa
open Go.RowKit
theorem u8_back (x : Int) (b : UInt8) (h : x = (b.toNat : Int)) : x.toNat.toUInt8 = b := by
  subst h
  simp
theorem back_map : ∀ (l : List UInt8) (z : List Int), z = (l.map fun b => ((b.toNat : Nat) : Int)) → l = z.map (fun x => x.toNat.toUInt8)
  | [], z, h => by subst h; rfl
  | b :: l, z, h => by
    subst h
    rw [List.map_cons, List.map_cons, ← back_map l _ rfl, u8_back _ b rfl]
theorem cut_ten (l : List UInt8) (h : (cutL l).r = 10) : atL l 0 = 10 := by
  have h0 := atL_lt l 0
  unfold cutL cutN Sec Cont at h
  (repeat' split at h) <;> simp [bad] at h <;> omega
theorem cut_cr (l : List UInt8) (h : (cutL l).r = 13) : (cutL l).n = 1 ∧ (cutL l).ok = true := by
  have h0 := atL_lt l 0
  unfold cutL cutN Sec Cont at h ⊢
  (repeat' split at h) <;> simp [bad] at h <;> first | omega | skip
  rw [if_pos (by assumption)]
  exact ⟨rfl, rfl⟩
theorem cut_lf (l : List UInt8) (h : atL l 0 = 10) : cutL l = ⟨10, 1, true⟩ := by
  unfold cutL cutN
  rw [if_pos (by omega), h]
set_option maxRecDepth 100000 in
theorem cut_enc (l : List UInt8) (hl : 0 < l.length) (hok : (cutL l).ok = true) : l.take (cutL l).n = Lib.encodeRune ((cutL l).r : Nat) := by
  have hf := cut_facts l hl
  unfold Lib.encodeRune
  have k0 := atL_lt l 0
  unfold cutL cutN at hok hf ⊢
  by_cases a0 : atL l 0 < 128
  · rw [if_pos a0] at hok hf ⊢
    obtain ⟨a, t, rfl⟩ : ∃ a t, l = a :: t := by
      match l, hl with
      | a :: t, _ => exact ⟨a, t, rfl⟩
    rw [Lib.encodeRuneZ_one (by simp) (by simp; omega)]
    exact back_map [a] _ rfl
  rw [if_neg a0] at hok hf ⊢
  by_cases a1 : 194 ≤ atL l 0 ∧ atL l 0 ≤ 223
  · rw [if_pos a1] at hok hf ⊢
    by_cases c : 1 < l.length ∧ Sec (atL l 0) (atL l 1)
    · rw [if_pos c] at hok hf ⊢
      obtain ⟨a, b, t, rfl⟩ : ∃ a b t, l = a :: b :: t := by
        match l, c.1 with
        | a :: b :: t, _ => exact ⟨a, b, t, rfl⟩
      have hc := sec_cont c.2
      unfold Cont at hc
      have e0 : atL (a :: b :: t) 0 = a.toNat := rfl
      have e1 : atL (a :: b :: t) 1 = b.toNat := rfl
      rw [e0] at a1
      rw [e1] at hc
      simp only [e0, e1]
      rw [Lib.encodeRuneZ_two (by omega) (by omega)]
      refine back_map [a, b] _ ?_
      simp only [List.map_cons, List.map_nil, List.cons.injEq, and_true]
      (repeat' apply And.intro) <;> omega
    · rw [if_neg c] at hok; cases hok
  rw [if_neg a1] at hok hf ⊢
  by_cases a2 : 224 ≤ atL l 0 ∧ atL l 0 ≤ 239
  · rw [if_pos a2] at hok hf ⊢
    by_cases c : 1 < l.length ∧ Sec (atL l 0) (atL l 1)
    · rw [if_pos c] at hok hf ⊢
      by_cases d : 2 < l.length ∧ Cont (atL l 2)
      · rw [if_pos d] at hok hf ⊢
        obtain ⟨a, b, e, t, rfl⟩ : ∃ a b e t, l = a :: b :: e :: t := by
          match l, d.1 with
          | a :: b :: e :: t, _ => exact ⟨a, b, e, t, rfl⟩
        have hc := c.2
        have hd := d.2
        unfold Sec at hc
        unfold Cont at hd
        have e0 : atL (a :: b :: e :: t) 0 = a.toNat := rfl
        have e1 : atL (a :: b :: e :: t) 1 = b.toNat := rfl
        have e2 : atL (a :: b :: e :: t) 2 = e.toNat := rfl
        rw [e0] at a2
        rw [e0, e1] at hc
        rw [e2] at hd
        simp only [e0, e1, e2]
        have hb : 128 ≤ b.toNat ∧ b.toNat ≤ 191 ∧ (a.toNat = 224 → 160 ≤ b.toNat) ∧ (a.toNat = 237 → b.toNat ≤ 159) := by
          (repeat' split at hc) <;> omega
        rw [Lib.encodeRuneZ_three (by omega)]
        refine back_map [a, b, e] _ ?_
        simp only [List.map_cons, List.map_nil, List.cons.injEq, and_true]
        (repeat' apply And.intro) <;> omega
      · rw [if_neg d] at hok; cases hok
    · rw [if_neg c] at hok; cases hok
  rw [if_neg a2] at hok hf ⊢
  by_cases a3 : 240 ≤ atL l 0 ∧ atL l 0 ≤ 244
  · rw [if_pos a3] at hok hf ⊢
    by_cases c : 1 < l.length ∧ Sec (atL l 0) (atL l 1)
    · rw [if_pos c] at hok hf ⊢
      by_cases d : 2 < l.length ∧ Cont (atL l 2)
      · rw [if_pos d] at hok hf ⊢
        by_cases f : 3 < l.length ∧ Cont (atL l 3)
        · rw [if_pos f] at hok hf ⊢
          obtain ⟨a, b, e, g, t, rfl⟩ : ∃ a b e g t, l = a :: b :: e :: g :: t := by
            match l, f.1 with
            | a :: b :: e :: g :: t, _ => exact ⟨a, b, e, g, t, rfl⟩
          have hc := c.2
          have hd := d.2
          have hf2 := f.2
          unfold Sec at hc
          unfold Cont at hd hf2
          have e0 : atL (a :: b :: e :: g :: t) 0 = a.toNat := rfl
          have e1 : atL (a :: b :: e :: g :: t) 1 = b.toNat := rfl
          have e2 : atL (a :: b :: e :: g :: t) 2 = e.toNat := rfl
          have e3 : atL (a :: b :: e :: g :: t) 3 = g.toNat := rfl
          rw [e0] at a3
          rw [e0, e1] at hc
          rw [e2] at hd
          rw [e3] at hf2
          simp only [e0, e1, e2, e3]
          have hb : 128 ≤ b.toNat ∧ b.toNat ≤ 191 ∧ (a.toNat = 240 → 144 ≤ b.toNat) ∧ (a.toNat = 244 → b.toNat ≤ 143) := by
            (repeat' split at hc) <;> omega
          rw [Lib.encodeRuneZ_four (by omega) (by omega)]
          refine back_map [a, b, e, g] _ ?_
          simp only [List.map_cons, List.map_nil, List.cons.injEq, and_true]
          (repeat' apply And.intro) <;> omega
        · rw [if_neg f] at hok; cases hok
      · rw [if_neg d] at hok; cases hok
    · rw [if_neg c] at hok; cases hok
  · rw [if_neg a3] at hok; cases hok
end Go.Proofs.Ytflgiejnklbjnaa
