/-
  The characters of a row of bytes, plain: part by part. No Go in sight; no condition.
-/
import Derived.Test.YtflgiejnklbjnaaCut
namespace Go.Proofs.Ytflgiejnklbjnaa
theorem sec_cont {a b : Nat} (h : Sec a b) : Cont b := by
  unfold Sec at h
  unfold Cont
  (repeat' split at h) <;> omega
theorem cut_facts (l : List UInt8) (h : 0 < l.length) : 1 ≤ (cutL l).n ∧ (cutL l).n ≤ l.length ∧ (cutL l).n ≤ 4 ∧ (cutL l).r ≤ 1114111 ∧ ((cutL l).ok = false → (cutL l).r = 65533 ∧ ∀ j, 1 ≤ j → j < (cutL l).n → Cont (atL l j)) := by
  have h0 := atL_lt l 0
  unfold cutL cutN
  by_cases a0 : atL l 0 < 128
  · rw [if_pos a0]
    exact ⟨by simp, h, by simp, by simp; omega, fun hf => by cases hf⟩
  rw [if_neg a0]
  by_cases a1 : 194 ≤ atL l 0 ∧ atL l 0 ≤ 223
  · rw [if_pos a1]
    by_cases c : 1 < l.length ∧ Sec (atL l 0) (atL l 1)
    · rw [if_pos c]
      exact ⟨by simp, c.1, by simp, by simp; omega, fun hf => by cases hf⟩
    · rw [if_neg c]
      exact ⟨by simp [bad], h, by simp [bad], by simp [bad], fun _ => ⟨rfl, fun j j1 j2 => absurd j2 (by simp [bad]; omega)⟩⟩
  rw [if_neg a1]
  by_cases a2 : 224 ≤ atL l 0 ∧ atL l 0 ≤ 239
  · rw [if_pos a2]
    by_cases c : 1 < l.length ∧ Sec (atL l 0) (atL l 1)
    · rw [if_pos c]
      by_cases d : 2 < l.length ∧ Cont (atL l 2)
      · rw [if_pos d]
        exact ⟨by simp, d.1, by simp, by simp; omega, fun hf => by cases hf⟩
      · rw [if_neg d]
        refine ⟨by simp [bad], c.1, by simp [bad], by simp [bad], fun _ => ⟨rfl, fun j j1 j2 => ?_⟩⟩
        obtain rfl : j = 1 := by simp [bad] at j2; omega
        exact sec_cont c.2
    · rw [if_neg c]
      exact ⟨by simp [bad], h, by simp [bad], by simp [bad], fun _ => ⟨rfl, fun j j1 j2 => absurd j2 (by simp [bad]; omega)⟩⟩
  rw [if_neg a2]
  by_cases a3 : 240 ≤ atL l 0 ∧ atL l 0 ≤ 244
  · rw [if_pos a3]
    by_cases c : 1 < l.length ∧ Sec (atL l 0) (atL l 1)
    · rw [if_pos c]
      by_cases d : 2 < l.length ∧ Cont (atL l 2)
      · rw [if_pos d]
        by_cases f : 3 < l.length ∧ Cont (atL l 3)
        · rw [if_pos f]
          refine ⟨by simp, f.1, by simp, ?_, fun hf => by cases hf⟩
          have := c.2
          unfold Sec at this
          simp only
          (repeat' split at this) <;> omega
        · rw [if_neg f]
          refine ⟨by simp [bad], d.1, by simp [bad], by simp [bad], fun _ => ⟨rfl, fun j j1 j2 => ?_⟩⟩
          have : j = 1 ∨ j = 2 := by simp [bad] at j2; omega
          rcases this with rfl | rfl
          · exact sec_cont c.2
          · exact d.2
      · rw [if_neg d]
        refine ⟨by simp [bad], c.1, by simp [bad], by simp [bad], fun _ => ⟨rfl, fun j j1 j2 => ?_⟩⟩
        obtain rfl : j = 1 := by simp [bad] at j2; omega
        exact sec_cont c.2
    · rw [if_neg c]
      exact ⟨by simp [bad], h, by simp [bad], by simp [bad], fun _ => ⟨rfl, fun j j1 j2 => absurd j2 (by simp [bad]; omega)⟩⟩
  · rw [if_neg a3]
    exact ⟨by simp [bad], h, by simp [bad], by simp [bad], fun _ => ⟨rfl, fun j j1 j2 => absurd j2 (by simp [bad]; omega)⟩⟩
/-- A byte of a later part stands for itself, ill-formed, one byte wide. -/
theorem decL_cont (l : List UInt8) (h : Cont (atL l 0)) : decL l = (65533, 1) := by
  unfold Cont at h
  have e : cutL l = bad 1 := by
    unfold cutL cutN
    rw [if_neg (by omega), if_neg (by omega), if_neg (by omega), if_neg (by omega)]
  unfold decL
  rw [e]
  rfl
def runesF : Nat → List UInt8 → List Nat
  | 0, _ => []
  | _ + 1, [] => []
  | f + 1, c :: l => (cutL (c :: l)).r :: runesF f ((c :: l).drop (cutL (c :: l)).n)
def runesL (l : List UInt8) : List Nat := runesF l.length l
theorem runesF_fuel : ∀ (f g : Nat) (l : List UInt8), l.length ≤ f → l.length ≤ g → runesF f l = runesF g l
  | 0, 0, _, _, _ => rfl
  | 0, g + 1, l, h, _ => by
    have : l = [] := List.eq_nil_of_length_eq_zero (by omega)
    subst this
    rfl
  | f + 1, 0, l, _, h => by
    have : l = [] := List.eq_nil_of_length_eq_zero (by omega)
    subst this
    rfl
  | f + 1, g + 1, [], _, _ => rfl
  | f + 1, g + 1, c :: l, h1, h2 => by
    have hc := cut_facts (c :: l) (by simp)
    unfold runesF
    rw [runesF_fuel f g _ (by rw [List.length_drop]; simp at h1; simp; omega) (by rw [List.length_drop]; simp at h2; simp; omega)]
theorem runesL_nil : runesL [] = [] := rfl
theorem runesL_cons (l : List UInt8) (h : 0 < l.length) : runesL l = (cutL l).r :: runesL (l.drop (cutL l).n) := by
  have hc := cut_facts l h
  obtain ⟨c, t, rfl⟩ : ∃ c t, l = c :: t := by
    cases l with
    | nil => simp at h
    | cons c t => exact ⟨c, t, rfl⟩
  unfold runesL
  rw [List.length_cons]
  show _ :: _ = _
  rw [runesF_fuel t.length ((c :: t).drop (cutL (c :: t)).n).length _ (by rw [List.length_drop, List.length_cons]; omega) (Nat.le_refl _)]
end Go.Proofs.Ytflgiejnklbjnaa
