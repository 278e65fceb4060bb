/-
  Escape, plain: what two texts, one behind the other, are; what is safe. No Go; no condition.
-/
import Derived.Test.YtnooofnlbfhopaaDoorSByte
import Derived.Lib.Strings
namespace Go.Proofs.YtnooofnlbfhopaaDoor
theorem escL_join (v : Bool) (b : List UInt8) : ∀ (n : Nat) (a : List UInt8), a.length ≤ n → U.wellL a = true → escL v (a ++ b) = escL v a ++ escL v b
  | _, [], _, _ => rfl
  | 0, c :: t, h, _ => by simp at h
  | n + 1, c :: t, h, hw => by
    have h0 : 0 < (c :: t).length := Nat.succ_pos _
    obtain ⟨n1, n2, _⟩ := U.cut_facts (c :: t) h0
    rw [U.wellL_cons _ h0, Bool.and_eq_true] at hw
    have hc := U.cut_app (c :: t) b h0 hw.1
    have hd : U.decL (c :: t ++ b) = U.decL (c :: t) := by unfold U.decL; rw [hc]
    have hd2 : (U.decL (c :: t)).2 = (U.cutL (c :: t)).n := by unfold U.decL; rw [if_pos hw.1]
    have ht : (U.decL (c :: t)).2 ≤ (c :: t).length := by rw [hd2]; exact n2
    have ih := escL_join v b n ((c :: t).drop (U.decL (c :: t)).2) (by rw [List.length_drop, hd2]; simp only [List.length_cons] at h ⊢; omega) (by rw [hd2]; exact hw.2)
    rw [escL_cons v (c :: t ++ b) (by simp), hd, escL_cons v (c :: t) h0, List.take_append_of_le_length ht, List.drop_append_of_le_length ht, ih, List.append_assoc]
/-- The references that escaping writes. -/
def safT : List (List UInt8) := [[38, 97, 109, 112, 59], [38, 108, 116, 59], [38, 103, 116, 59], [38, 110, 98, 115, 112, 59], [38, 35, 49, 51, 59], [38, 113, 117, 111, 116, 59]]
def begL (l : List UInt8) : Bool := safT.any fun p => Lib.hasPrefix l p
def badB (v : Bool) (c : UInt8) : Prop := c.toNat = 13 ∨ (v = false ∧ (c.toNat = 60 ∨ c.toNat = 62)) ∨ (v = true ∧ c.toNat = 34)
def okAt (v : Bool) : List UInt8 → Prop
  | [] => True
  | c :: t => ¬ badB v c ∧ (c.toNat = 38 → begL (c :: t) = true)
def SafeL (v : Bool) (l : List UInt8) : Prop := ∀ i, okAt v (l.drop i)
theorem safe_cons {v : Bool} {c : UInt8} {t : List UInt8} (h : okAt v (c :: t)) (ht : SafeL v t) : SafeL v (c :: t)
  | 0 => h
  | i + 1 => ht i
theorem safe_ref {v : Bool} {r : Nat} (h : refL v r ≠ []) {t : List UInt8} (ht : SafeL v t) : SafeL v (refL v r ++ t) := by
  have one : ∀ c : UInt8, c.toNat ≠ 13 → c.toNat ≠ 60 → c.toNat ≠ 62 → c.toNat ≠ 34 → c.toNat ≠ 38 → ∀ x, okAt v (c :: x) := fun c h1 h2 h3 h4 h5 x => by
    refine ⟨?_, fun e => absurd e h5⟩
    unfold badB
    omega
  have amp : ∀ x, begL (38 :: x) = true → okAt v (38 :: x) := fun x hx => by
    refine ⟨?_, fun _ => hx⟩
    unfold badB
    rw [show (38 : UInt8).toNat = 38 from rfl]
    omega
  rcases refL_is h with rfl | rfl | rfl | rfl | rfl | rfl <;> cases v
  all_goals first
    | exact absurd rfl h
    | (refine safe_cons (amp _ ?_) ?_
       · first | rfl | simp [begL, safT, Lib.hasPrefix]
       · repeat' first
           | exact ht
           | refine safe_cons (one _ (by decide) (by decide) (by decide) (by decide) (by decide) _) ?_)
theorem escB_safe (v : Bool) : ∀ (n : Nat) (l : List UInt8), l.length ≤ n → SafeL v (escB v l)
  | _, [], _ => fun i => by
    show okAt v (List.drop i [])
    rw [List.drop_nil]
    trivial
  | 0, c :: t, h => by simp at h
  | n + 1, c :: t, h => by
    have ht : t.length ≤ n := by simpa using h
    by_cases h1 : c.toNat < 128
    · rw [escB_low t h1]
      by_cases h2 : refL v c.toNat = []
      · rw [if_pos h2]
        refine safe_cons ⟨?_, fun e => ?_⟩ (escB_safe v n t ht)
        · unfold badB
          intro hb
          revert h2
          rcases hb with hb | ⟨rfl, hb | hb⟩ | ⟨rfl, hb⟩ <;> rw [hb]
          · cases v <;> decide
          all_goals decide
        · exfalso
          revert h2
          rw [e]
          cases v <;> decide
      · rw [if_neg h2]
        exact safe_ref h2 (escB_safe v n t ht)
    · by_cases h2 : c.toNat = 194 ∧ U.atL t 0 = 160
      · cases t with
        | nil => exact absurd h2.2 (by decide)
        | cons d t =>
          have h3 : d.toNat = 160 := h2.2
          rw [escB_nb t h2.1 h3]
          exact safe_ref (by cases v <;> decide) (escB_safe v n t (by simp at ht; omega))
      · rw [escB_high t (by omega) h2]
        refine safe_cons ⟨?_, fun e => by omega⟩ (escB_safe v n t ht)
        unfold badB
        omega
theorem escL_safe (v : Bool) (l : List UInt8) : SafeL v (escL v l) := by
  rw [esc_eq v _ l (Nat.le_refl _)]
  exact escB_safe v _ l (Nat.le_refl _)
theorem escF_len (v : Bool) : ∀ (f : Nat) (l : List UInt8), (escF v f l).length ≤ 6 * l.length
  | 0, _ => Nat.zero_le _
  | f + 1, l => by
    unfold escF
    split
    · exact Nat.zero_le _
    · rename_i h
      have hl : 0 < l.length := List.length_pos_iff.2 h
      obtain ⟨h1, h2, _⟩ := decL_pos l hl
      have ih := escF_len v f (l.drop (U.decL l).2)
      have hr := refL_len v (U.decL l).1
      rw [List.length_append]
      rw [List.length_drop] at ih
      split
      · rw [List.length_take]; omega
      · omega
theorem escL_len (v : Bool) (l : List UInt8) : (escL v l).length ≤ 6 * l.length := escF_len v _ l
end Go.Proofs.YtnooofnlbfhopaaDoor
