/-
  Where a well-formed text ends and another begins, plain. No condition.
-/
import Derived.Test.YtflgiejnklbjnaaRefWell
namespace Go.Proofs.Ytflgiejnklbjnaa
theorem atL_app (l t : List UInt8) (k : Nat) (h : k < l.length) : atL (l ++ t) k = atL l k := by
  unfold atL
  rw [List.getElem?_append_left h]
theorem cut_app (l t : List UInt8) (hl : 0 < l.length) (hok : (cutL l).ok = true) : cutL (l ++ t) = cutL l := by
  have hL : (l ++ t).length = l.length + t.length := List.length_append
  have e0 := atL_app l t 0 hl
  unfold cutL cutN at hok ⊢
  rw [hL, e0]
  by_cases a0 : atL l 0 < 128
  · rw [if_pos a0, if_pos a0]
  rw [if_neg a0] at hok ⊢
  rw [if_neg a0]
  by_cases a1 : 194 ≤ atL l 0 ∧ atL l 0 ≤ 223
  · rw [if_pos a1] at hok ⊢
    rw [if_pos a1]
    by_cases c : 1 < l.length ∧ Sec (atL l 0) (atL l 1)
    · rw [atL_app l t 1 c.1, if_pos c, if_pos ⟨by omega, c.2⟩]
    · rw [if_neg c] at hok; cases hok
  rw [if_neg a1] at hok ⊢
  rw [if_neg a1]
  by_cases a2 : 224 ≤ atL l 0 ∧ atL l 0 ≤ 239
  · rw [if_pos a2] at hok ⊢
    rw [if_pos a2]
    by_cases c : 1 < l.length ∧ Sec (atL l 0) (atL l 1)
    · rw [if_pos c] at hok
      by_cases d : 2 < l.length ∧ Cont (atL l 2)
      · rw [atL_app l t 1 c.1, atL_app l t 2 d.1, if_pos c, if_pos d, if_pos ⟨by omega, c.2⟩, if_pos ⟨by omega, d.2⟩]
      · rw [if_neg d] at hok; cases hok
    · rw [if_neg c] at hok; cases hok
  rw [if_neg a2] at hok ⊢
  rw [if_neg a2]
  by_cases a3 : 240 ≤ atL l 0 ∧ atL l 0 ≤ 244
  · rw [if_pos a3] at hok ⊢
    rw [if_pos a3]
    by_cases c : 1 < l.length ∧ Sec (atL l 0) (atL l 1)
    · rw [if_pos c] at hok
      by_cases d : 2 < l.length ∧ Cont (atL l 2)
      · rw [if_pos d] at hok
        by_cases f : 3 < l.length ∧ Cont (atL l 3)
        · rw [atL_app l t 1 c.1, atL_app l t 2 d.1, atL_app l t 3 f.1, if_pos c, if_pos d, if_pos f, if_pos ⟨by omega, c.2⟩, if_pos ⟨by omega, d.2⟩, if_pos ⟨by omega, f.2⟩]
        · rw [if_neg f] at hok; cases hok
      · rw [if_neg d] at hok; cases hok
    · rw [if_neg c] at hok; cases hok
  · rw [if_neg a3] at hok; cases hok
theorem runesL_app (b : List UInt8) : ∀ (n : Nat) (a : List UInt8), a.length ≤ n → wellL a = true → runesL (a ++ b) = runesL a ++ runesL b
  | 0, a, h, _ => by
    have : a = [] := List.eq_nil_of_length_eq_zero (by omega)
    subst this
    rfl
  | n + 1, a, h, hw => by
    by_cases h0 : 0 < a.length
    · have hc := cut_facts a h0
      rw [wellL_cons a h0, Bool.and_eq_true] at hw
      have hca := cut_app a b h0 hw.1
      rw [runesL_cons (a ++ b) (by rw [List.length_append]; omega), runesL_cons a h0, hca, List.drop_append_of_le_length hc.2.1, runesL_app b n _ (by rw [List.length_drop]; omega) hw.2]
      rfl
    · have : a = [] := List.eq_nil_of_length_eq_zero (by omega)
      subst this
      rfl
/-- The characters of a well-formed text are its bytes again. -/
theorem encL_runes : ∀ (n : Nat) (a : List UInt8), a.length ≤ n → wellL a = true → encL ((runesL a).map fun (r : Nat) => (r : Int)) = a
  | 0, a, h, _ => by
    have : a = [] := List.eq_nil_of_length_eq_zero (by omega)
    subst this
    rfl
  | n + 1, a, h, hw => by
    by_cases h0 : 0 < a.length
    · have hc := cut_facts a h0
      rw [wellL_cons a h0, Bool.and_eq_true] at hw
      have ih := encL_runes n _ (by rw [List.length_drop]; omega) hw.2
      rw [runesL_cons a h0, List.map_cons]
      unfold encL at ih ⊢
      rw [List.flatMap_cons, ih, ← cut_enc a h0 hw.1, List.take_append_drop]
    · have : a = [] := List.eq_nil_of_length_eq_zero (by omega)
      subst this
      rfl
end Go.Proofs.Ytflgiejnklbjnaa
