/-
  Escape, byte by byte: the same as escL. No Go; no condition.
-/
import Derived.Test.YtnooofnlbfhopaaDoorSPlain
namespace Go.Proofs.YtnooofnlbfhopaaDoor
def bref (v : Bool) (c : Nat) : List UInt8 := if c = 160 then [] else refL v c
def escB (v : Bool) : List UInt8 → List UInt8
  | [] => []
  | [c] => if bref v c.toNat = [] then [c] else bref v c.toNat
  | c :: d :: t => if c.toNat = 194 ∧ d.toNat = 160 then refL v 160 ++ escB v t else (if bref v c.toNat = [] then [c] else bref v c.toNat) ++ escB v (d :: t)
theorem escB_high {v : Bool} {c : UInt8} (t : List UInt8) (h : 128 ≤ c.toNat) (hn : ¬ (c.toNat = 194 ∧ U.atL t 0 = 160)) : escB v (c :: t) = c :: escB v t := by
  have hb : bref v c.toNat = [] := by
    unfold bref
    split
    · rfl
    · refine Classical.byContradiction fun hne => ?_
      have := refL_is hne
      omega
  cases t with
  | nil => simp [escB, hb]
  | cons d t =>
    have hn' : ¬ (c.toNat = 194 ∧ d.toNat = 160) := hn
    rw [escB, if_neg hn', hb, if_pos rfl]
    rfl
theorem escB_peel {v : Bool} : ∀ (p t : List UInt8), (∀ x ∈ p, 128 ≤ x.toNat ∧ x.toNat ≠ 194) → escB v (p ++ t) = p ++ escB v t
  | [], t, _ => rfl
  | c :: p, t, h => by
    have hc := h c (List.mem_cons_self ..)
    rw [List.cons_append, escB_high _ hc.1 (fun e => hc.2 e.1), escB_peel p t (fun x hx => h x (List.mem_cons_of_mem _ hx))]
    rfl
theorem escB_low {v : Bool} {c : UInt8} (t : List UInt8) (h : c.toNat < 128) : escB v (c :: t) = (if refL v c.toNat = [] then [c] else refL v c.toNat) ++ escB v t := by
  have hb : bref v c.toNat = refL v c.toNat := by unfold bref; rw [if_neg (by omega)]
  cases t with
  | nil => simp [escB, hb]
  | cons d t => rw [escB, if_neg (by omega), hb]
theorem escB_nb {v : Bool} {c d : UInt8} (t : List UInt8) (h1 : c.toNat = 194) (h2 : d.toNat = 160) : escB v (c :: d :: t) = refL v 160 ++ escB v t := by
  rw [escB, if_pos ⟨h1, h2⟩]
theorem refL_high {v : Bool} {r : Nat} (h : 128 ≤ r) (h2 : r ≠ 160) : refL v r = [] := by
  refine Classical.byContradiction fun hne => ?_
  have := refL_is hne
  omega
theorem decL_low {c : UInt8} {t : List UInt8} (h : c.toNat < 128) : U.decL (c :: t) = (c.toNat, 1) := by
  have e : U.atL (c :: t) 0 = c.toNat := rfl
  unfold U.decL U.cutL U.cutN
  rw [e, if_pos h]
  rfl
theorem decL_nb {c d : UInt8} {t : List UInt8} (h1 : c.toNat = 194) (h2 : d.toNat = 160) : U.decL (c :: d :: t) = (160, 2) := by
  have e0 : U.atL (c :: d :: t) 0 = c.toNat := rfl
  have e1 : U.atL (c :: d :: t) 1 = d.toNat := rfl
  unfold U.decL U.cutL U.cutN
  rw [e0, e1, h1, h2]
  simp [U.Sec]
/-- A part that begins with no character below 128 and is no 160: none of its bytes is turned. -/
theorem escB_dec_high {v : Bool} {c : UInt8} {t : List UInt8} (h : 128 ≤ c.toNat) (hn : ¬ (c.toNat = 194 ∧ U.atL t 0 = 160)) : refL v (U.decL (c :: t)).1 = [] ∧ ∃ k, (U.decL (c :: t)).2 = k + 1 ∧ k ≤ t.length ∧ ∀ x ∈ t.take k, 128 ≤ x.toNat ∧ x.toNat ≠ 194 := by
  have e0 : U.atL (c :: t) 0 = c.toNat := rfl
  have e1 : U.atL (c :: t) 1 = U.atL t 0 := rfl
  have e2 : U.atL (c :: t) 2 = U.atL t 1 := rfl
  have e3 : U.atL (c :: t) 3 = U.atL t 2 := rfl
  have hbad : refL v 65533 = [] := refL_high (by decide) (by decide)
  unfold U.decL U.cutL U.cutN
  rw [e0, e1, e2, e3, if_neg (show ¬ c.toNat < 128 by omega)]
  have fin : ∀ k, k ≤ t.length → (∀ j, j < k → U.Cont (U.atL t j)) → ∀ x ∈ t.take k, 128 ≤ x.toNat ∧ x.toNat ≠ 194 := by
    intro k hk hc x hx
    obtain ⟨j, hj, rfl⟩ := List.mem_iff_getElem.1 hx
    rw [List.length_take] at hj
    have := hc j (by omega)
    unfold U.Cont U.atL at this
    rw [List.getElem?_eq_getElem (by omega)] at this
    rw [List.getElem_take]
    simp only [Option.getD_some] at this
    omega
  have one : refL v 65533 = [] ∧ ∃ k, 1 = k + 1 ∧ k ≤ t.length ∧ ∀ x ∈ t.take k, 128 ≤ x.toNat ∧ x.toNat ≠ 194 := ⟨hbad, 0, rfl, Nat.zero_le _, by simp⟩
  simp only [List.length_cons]
  split
  · split
    · rename_i h2 h3
      have h4 := U.sec_cont h3.2
      refine ⟨refL_high ?_ ?_, 1, rfl, by omega, fin 1 (by omega) (fun j hj => by rw [show j = 0 by omega]; exact h4)⟩
      · simp only [if_true]; unfold U.Cont at h4; omega
      · simp only [if_true]; unfold U.Cont at h4; omega
    · exact one
  · split
    · split
      · split
        · rename_i h2 h3 h5
          have h4 := U.sec_cont h3.2
          have hs := h3.2
          unfold U.Sec at hs
          refine ⟨refL_high ?_ ?_, 2, rfl, by omega, fin 2 (by omega) (fun j hj => by
            rcases (by omega : j = 0 ∨ j = 1) with rfl | rfl
            · exact h4
            · exact h5.2)⟩
          · simp only [if_true]; unfold U.Cont at h4; split at hs <;> omega
          · simp only [if_true]; unfold U.Cont at h4; split at hs <;> omega
        · exact one
      · exact one
    · split
      · split
        · split
          · split
            · rename_i h2 h3 h5 h6
              have h4 := U.sec_cont h3.2
              have hs := h3.2
              have hs2 : c.toNat = 240 → 144 ≤ U.atL t 0 := fun e => by
                unfold U.Sec at hs
                rw [if_neg (by omega), if_neg (by omega), if_pos e] at hs
                exact hs.1
              have hr : 65536 ≤ c.toNat % 8 * 262144 + U.atL t 0 % 64 * 4096 := by
                unfold U.Cont at h4
                by_cases e : c.toNat = 240
                · have := hs2 e
                  omega
                · have : 1 ≤ c.toNat % 8 := by omega
                  omega
              refine ⟨refL_high ?_ ?_, 3, rfl, by omega, fin 3 (by omega) (fun j hj => by
                rcases (by omega : j = 0 ∨ j = 1 ∨ j = 2) with rfl | rfl | rfl
                · exact h4
                · exact h5.2
                · exact h6.2)⟩
              · simp only [if_true]; omega
              · simp only [if_true]; omega
            · exact one
          · exact one
        · exact one
      · exact one
theorem esc_eq (v : Bool) : ∀ (n : Nat) (l : List UInt8), l.length ≤ n → escL v l = escB v l
  | _, [], _ => rfl
  | 0, c :: t, h => by simp at h
  | n + 1, c :: t, h => by
    have ht : t.length ≤ n := by simpa using h
    rw [escL_cons v (c :: t) (by simp)]
    by_cases h1 : c.toNat < 128
    · rw [decL_low h1, escB_low t h1]
      show (if refL v c.toNat = [] then [c] else refL v c.toNat) ++ escL v t = _
      rw [esc_eq v n t ht]
    · by_cases h2 : c.toNat = 194 ∧ U.atL t 0 = 160
      · cases t with
        | nil => exact absurd h2.2 (by decide)
        | cons d t =>
          have h3 : d.toNat = 160 := h2.2
          rw [decL_nb h2.1 h3, escB_nb t h2.1 h3]
          show (if refL v 160 = [] then _ else refL v 160) ++ escL v t = _
          rw [if_neg (by cases v <;> decide), esc_eq v n t (by simp at ht; omega)]
      · obtain ⟨h3, k, hk, hkl, hx⟩ := escB_dec_high (v := v) (by omega) h2
        rw [if_pos h3, hk, List.take_succ_cons, List.drop_succ_cons, esc_eq v n _ (by rw [List.length_drop]; omega), escB_high t (by omega) h2]
        conv => rhs; rw [← List.take_append_drop k t, escB_peel _ _ hx]
        rfl
end Go.Proofs.YtnooofnlbfhopaaDoor
