/-
  Package serial's escape, plain: what it puts for a character, and how it goes through a text. No Go text in sight; no condition.
-/
import Derived.Test.YtnooofnlbfhopaaDoorUCut
import Derived.Lib.Small
namespace Go.Proofs.YtnooofnlbfhopaaDoor
def everyL (r : Nat) : List UInt8 := if r = 38 then [38, 97, 109, 112, 59] else if r = 160 then [38, 110, 98, 115, 112, 59] else if r = 13 then [38, 35, 49, 51, 59] else []
def refL (v : Bool) (r : Nat) : List UInt8 := if v then (if r = 34 then [38, 113, 117, 111, 116, 59] else everyL r) else if r = 60 then [38, 108, 116, 59] else if r = 62 then [38, 103, 116, 59] else everyL r
def escF (v : Bool) : Nat → List UInt8 → List UInt8
  | 0, _ => []
  | f + 1, l => if l = [] then [] else (if refL v (U.decL l).1 = [] then l.take (U.decL l).2 else refL v (U.decL l).1) ++ escF v f (l.drop (U.decL l).2)
def escL (v : Bool) (l : List UInt8) : List UInt8 := escF v l.length l
theorem decL_pos (l : List UInt8) (h : 0 < l.length) : 1 ≤ (U.decL l).2 ∧ (U.decL l).2 ≤ l.length ∧ (U.decL l).1 ≤ 1114111 := by
  obtain ⟨n1, n2, _, r1, _⟩ := U.cut_facts l h
  unfold U.decL
  split
  · exact ⟨n1, n2, r1⟩
  · exact ⟨Nat.le_refl _, h, by decide⟩
theorem escF_fuel (v : Bool) : ∀ (f g : Nat) (l : List UInt8), l.length ≤ f → l.length ≤ g → escF v f l = escF v g l
  | 0, 0, _, _, _ => rfl
  | 0, g + 1, l, h, _ => by
    have : l = [] := List.eq_nil_of_length_eq_zero (by omega)
    subst this; rfl
  | f + 1, 0, l, _, h => by
    have : l = [] := List.eq_nil_of_length_eq_zero (by omega)
    subst this; rfl
  | f + 1, g + 1, l, h1, h2 => by
    unfold escF
    by_cases h : l = []
    · rw [if_pos h, if_pos h]
    · have hl : 0 < l.length := List.length_pos_iff.2 h
      have := (decL_pos l hl).1
      rw [if_neg h, if_neg h, escF_fuel v f g _ (by rw [List.length_drop]; omega) (by rw [List.length_drop]; omega)]
theorem escL_nil (v : Bool) : escL v [] = [] := rfl
theorem escL_cons (v : Bool) (l : List UInt8) (h : 0 < l.length) : escL v l = (if refL v (U.decL l).1 = [] then l.take (U.decL l).2 else refL v (U.decL l).1) ++ escL v (l.drop (U.decL l).2) := by
  have hp := (decL_pos l h).1
  have e : escL v l = escF v (l.length - 1 + 1) l := escF_fuel v _ _ _ (Nat.le_refl _) (by omega)
  rw [e]
  unfold escF
  rw [if_neg (List.length_pos_iff.1 h), escF_fuel v (l.length - 1) _ _ (by rw [List.length_drop]; omega) (Nat.le_refl _)]
  rfl
theorem refL_len (v : Bool) (r : Nat) : (refL v r).length ≤ 6 := by
  unfold refL everyL
  repeat' split
  all_goals decide
theorem refL_is {v : Bool} {r : Nat} (h : refL v r ≠ []) : r = 38 ∨ r = 160 ∨ r = 13 ∨ r = 34 ∨ r = 60 ∨ r = 62 := by
  refine Classical.byContradiction fun hn => h ?_
  simp only [not_or] at hn
  obtain ⟨h1, h2, h3, h4, h5, h6⟩ := hn
  unfold refL everyL
  cases v <;> simp [h1, h2, h3, h4, h5, h6]
theorem ref_len {v : Bool} {l : List UInt8} (hl : 0 < l.length) (h : refL v (U.decL l).1 ≠ []) : Lib.runeLen ((U.decL l).1 : Int) = ((U.decL l).2 : Int) := by
  have hr := refL_is h
  revert hr
  obtain ⟨n1, n2, _, _, _⟩ := U.cut_facts l hl
  unfold U.decL
  split
  · rename_i hok
    have he := U.cut_enc l hl hok
    have hn : (Lib.encodeRune ((U.cutL l).r : Nat)).length = (U.cutL l).n := by
      rw [← he, List.length_take]; omega
    simp only
    rw [← hn]
    intro hr
    rcases hr with h | h | h | h | h | h <;> rw [h] <;> decide +kernel
  · intro hr
    simp at hr
/-- What is done so far: the text out, what is not yet copied (from d on), the rest from p on. -/
def EscAt (v : Bool) (l out : List UInt8) (d p : Nat) : Prop := d ≤ p ∧ p ≤ l.length ∧ escL v l = out ++ (l.drop d).take (p - d) ++ escL v (l.drop p)
theorem EscAt.start (v : Bool) (l : List UInt8) : EscAt v l [] 0 0 := ⟨Nat.le_refl _, Nat.zero_le _, by simp⟩
theorem take_more (l : List UInt8) (d p n : Nat) (h : d ≤ p) : (l.drop d).take (p + n - d) = (l.drop d).take (p - d) ++ (l.drop p).take n := by
  rw [show p + n - d = (p - d) + n by omega, List.take_add, List.drop_drop, show d + (p - d) = p by omega]
theorem EscAt.plain {v : Bool} {l out : List UInt8} {d p : Nat} (h : EscAt v l out d p) (hp : p < l.length) (hr : refL v (U.decL (l.drop p)).1 = []) : EscAt v l out d (p + (U.decL (l.drop p)).2) := by
  have hl : 0 < (l.drop p).length := by rw [List.length_drop]; omega
  have hd := (decL_pos _ hl).2.1
  rw [List.length_drop] at hd
  refine ⟨by have := h.1; omega, by omega, ?_⟩
  rw [take_more l d p _ h.1, h.2.2, escL_cons v _ hl, if_pos hr, List.drop_drop]
  simp only [List.append_assoc]
theorem EscAt.turn {v : Bool} {l out : List UInt8} {d p : Nat} (h : EscAt v l out d p) (hp : p < l.length) (hr : refL v (U.decL (l.drop p)).1 ≠ []) : EscAt v l (out ++ (l.drop d).take (p - d) ++ refL v (U.decL (l.drop p)).1) (p + (U.decL (l.drop p)).2) (p + (U.decL (l.drop p)).2) := by
  have hl : 0 < (l.drop p).length := by rw [List.length_drop]; omega
  have hd := (decL_pos _ hl).2.1
  rw [List.length_drop] at hd
  refine ⟨Nat.le_refl _, by omega, ?_⟩
  rw [Nat.sub_self, List.take_zero, List.append_nil, h.2.2, escL_cons v _ hl, if_neg hr, List.drop_drop]
  simp only [List.append_assoc]
theorem EscAt.done {v : Bool} {l out : List UInt8} {d p : Nat} (h : EscAt v l out d p) (hp : ¬ p < l.length) : escL v l = out ++ l.drop d := by
  have e : p = l.length := by have := h.2.1; omega
  rw [h.2.2, e, List.drop_eq_nil_of_le (Nat.le_refl _), escL_nil, List.append_nil, List.take_of_length_le (by rw [List.length_drop]; omega)]
end Go.Proofs.YtnooofnlbfhopaaDoor
