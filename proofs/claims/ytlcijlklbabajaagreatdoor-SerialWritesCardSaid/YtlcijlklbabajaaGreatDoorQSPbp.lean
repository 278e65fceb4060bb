/-
  Package serial's escape, plain: what it puts for a character, and how it goes through a text. No Go text in sight; no condition.
-/
import Derived.Test.YtlcijlklbabajaaGreatDoorQUCut
import Derived.Lib.Small
import Derived.Lib.Strings
namespace Go.Proofs.YtlcijlklbabajaaGreatDoor
def everyL (r : Nat) : List UInt8 := if r = 38 then [38, 97, 109, 112, 59] else if r = 160 then [38, 110, 98, 115, 112, 59] else if r = 13 then [38, 35, 49, 51, 59] else []
def refL (v : Bool) (r : Nat) : List UInt8 := if v then (if r = 34 then [38, 113, 117, 111, 116, 59] else everyL r) else if r = 60 then [38, 108, 116, 59] else if r = 62 then [38, 103, 116, 59] else everyL r
def escF (v : Bool) : Nat → List UInt8 → List UInt8
 | 0, _ => []
 | f + 1, l => if l = [] then [] else (if refL v (U.decL l).1 = [] then l.take (U.decL l).2 else refL v (U.decL l).1) ++ escF v f (l.drop (U.decL l).2)
def escL (v : Bool) (l : List UInt8) : List UInt8 := escF v l.length l
theorem decL_pos (l : List UInt8) (h : 0 < l.length) : 1 ≤ (U.decL l).2 ∧ (U.decL l).2 ≤ l.length ∧ (U.decL l).1 ≤ 1114111 := by
 obtain ⟨n1, n2, _, r1, _⟩ := U.cut_facts l h
 unfold U.decL
 split
 ·exact ⟨n1, n2, r1⟩
 ·exact ⟨Nat.le_refl _, h, by decide⟩
theorem escF_fuel (v : Bool) : ∀ (f g : Nat) (l : List UInt8), l.length ≤ f → l.length ≤ g → escF v f l = escF v g l
 | 0, 0, _, _, _ => rfl
 | 0, g + 1, l, h, _ => by
   have : l = [] := List.eq_nil_of_length_eq_zero (by omega)
   subst this; rfl
 | f + 1, 0, l, _, h => by
   have : l = [] := List.eq_nil_of_length_eq_zero (by omega)
   subst this; rfl
 | f + 1, g + 1, l, h1, h2 => by
   unfold escF
   by_cases h : l = []
   ·rw [if_pos h, if_pos h]
   ·have hl : 0 < l.length := List.length_pos_iff.2 h
    have := (decL_pos l hl).1
    rw [if_neg h, if_neg h, escF_fuel v f g _ (by rw [List.length_drop]; omega) (by rw [List.length_drop]; omega)]
theorem escL_nil (v : Bool) : escL v [] = [] := rfl
theorem escL_cons (v : Bool) (l : List UInt8) (h : 0 < l.length) : escL v l = (if refL v (U.decL l).1 = [] then l.take (U.decL l).2 else refL v (U.decL l).1) ++ escL v (l.drop (U.decL l).2) := by
 have hp := (decL_pos l h).1
 have e : escL v l = escF v (l.length - 1 + 1) l := escF_fuel v _ _ _ (Nat.le_refl _) (by omega)
 rw [e]
 unfold escF
 rw [if_neg (List.length_pos_iff.1 h), escF_fuel v (l.length - 1) _ _ (by rw [List.length_drop]; omega) (Nat.le_refl _)]
 rfl
theorem refL_len (v : Bool) (r : Nat) : (refL v r).length ≤ 6 := by
 unfold refL everyL
 repeat' split
 all_goals decide
theorem refL_is {v : Bool} {r : Nat} (h : refL v r ≠ []) : r = 38 ∨ r = 160 ∨ r = 13 ∨ r = 34 ∨ r = 60 ∨ r = 62 := by
 refine Classical.byContradiction fun hn => h ?_
 simp only [not_or] at hn
 obtain ⟨h1, h2, h3, h4, h5, h6⟩ := hn
 unfold refL everyL
 cases v <;> simp [h1, h2, h3, h4, h5, h6]
theorem ref_len {v : Bool} {l : List UInt8} (hl : 0 < l.length) (h : refL v (U.decL l).1 ≠ []) : Lib.runeLen ((U.decL l).1 : Int) = ((U.decL l).2 : Int) := by
 have hr := refL_is h
 revert hr
 obtain ⟨n1, n2, _, _, _⟩ := U.cut_facts l hl
 unfold U.decL
 split
 ·rename_i hok
  have he := U.cut_enc l hl hok
  have hn : (Lib.encodeRune ((U.cutL l).r : Nat)).length = (U.cutL l).n := by
   rw [← he, List.length_take]; omega
  simp only
  rw [← hn]
  intro hr
  rcases hr with h | h | h | h | h | h <;> rw [h] <;> decide +kernel
 ·intro hr
  simp at hr
/-- What is done so far: the text out, what is not yet copied (from d on), the rest from p on. -/
def EscAt (v : Bool) (l out : List UInt8) (d p : Nat) : Prop := d ≤ p ∧ p ≤ l.length ∧ escL v l = out ++ (l.drop d).take (p - d) ++ escL v (l.drop p)
theorem EscAt.start (v : Bool) (l : List UInt8) : EscAt v l [] 0 0 := ⟨Nat.le_refl _, Nat.zero_le _, by simp⟩
theorem take_more (l : List UInt8) (d p n : Nat) (h : d ≤ p) : (l.drop d).take (p + n - d) = (l.drop d).take (p - d) ++ (l.drop p).take n := by
 rw [show p + n - d = (p - d) + n by omega, List.take_add, List.drop_drop, show d + (p - d) = p by omega]
theorem EscAt.plain {v : Bool} {l out : List UInt8} {d p : Nat} (h : EscAt v l out d p) (hp : p < l.length) (hr : refL v (U.decL (l.drop p)).1 = []) : EscAt v l out d (p + (U.decL (l.drop p)).2) := by
 have hl : 0 < (l.drop p).length := by rw [List.length_drop]; omega
 have hd := (decL_pos _ hl).2.1
 rw [List.length_drop] at hd
 refine ⟨by have := h.1; omega, by omega, ?_⟩
 rw [take_more l d p _ h.1, h.2.2, escL_cons v _ hl, if_pos hr, List.drop_drop]
 simp only [List.append_assoc]
theorem EscAt.turn {v : Bool} {l out : List UInt8} {d p : Nat} (h : EscAt v l out d p) (hp : p < l.length) (hr : refL v (U.decL (l.drop p)).1 ≠ []) : EscAt v l (out ++ (l.drop d).take (p - d) ++ refL v (U.decL (l.drop p)).1) (p + (U.decL (l.drop p)).2) (p + (U.decL (l.drop p)).2) := by
 have hl : 0 < (l.drop p).length := by rw [List.length_drop]; omega
 have hd := (decL_pos _ hl).2.1
 rw [List.length_drop] at hd
 refine ⟨Nat.le_refl _, by omega, ?_⟩
 rw [Nat.sub_self, List.take_zero, List.append_nil, h.2.2, escL_cons v _ hl, if_neg hr, List.drop_drop]
 simp only [List.append_assoc]
theorem EscAt.done {v : Bool} {l out : List UInt8} {d p : Nat} (h : EscAt v l out d p) (hp : ¬ p < l.length) : escL v l = out ++ l.drop d := by
 have e : p = l.length := by have := h.2.1; omega
 rw [h.2.2, e, List.drop_eq_nil_of_le (Nat.le_refl _), escL_nil, List.append_nil, List.take_of_length_le (by rw [List.length_drop]; omega)]
end Go.Proofs.YtlcijlklbabajaaGreatDoor
namespace Go.Proofs.YtlcijlklbabajaaGreatDoor
def bref (v : Bool) (c : Nat) : List UInt8 := if c = 160 then [] else refL v c
def escB (v : Bool) : List UInt8 → List UInt8
 | [] => []
 | [c] => if bref v c.toNat = [] then [c] else bref v c.toNat
 | c :: d :: t => if c.toNat = 194 ∧ d.toNat = 160 then refL v 160 ++ escB v t else (if bref v c.toNat = [] then [c] else bref v c.toNat) ++ escB v (d :: t)
theorem escB_high {v : Bool} {c : UInt8} (t : List UInt8) (h : 128 ≤ c.toNat) (hn : ¬ (c.toNat = 194 ∧ U.atL t 0 = 160)) : escB v (c :: t) = c :: escB v t := by
 have hb : bref v c.toNat = [] := by
  unfold bref
  split
  ·rfl
  ·refine Classical.byContradiction fun hne => ?_
   have := refL_is hne
   omega
 cases t with
 | nil => simp [escB, hb]
 | cons d t =>
   have hn' : ¬ (c.toNat = 194 ∧ d.toNat = 160) := hn
   rw [escB, if_neg hn', hb, if_pos rfl]
   rfl
theorem escB_peel {v : Bool} : ∀ (p t : List UInt8), (∀ x ∈ p, 128 ≤ x.toNat ∧ x.toNat ≠ 194) → escB v (p ++ t) = p ++ escB v t
 | [], t, _ => rfl
 | c :: p, t, h => by
   have hc := h c (List.mem_cons_self ..)
   rw [List.cons_append, escB_high _ hc.1 (fun e => hc.2 e.1), escB_peel p t (fun x hx => h x (List.mem_cons_of_mem _ hx))]
   rfl
theorem escB_low {v : Bool} {c : UInt8} (t : List UInt8) (h : c.toNat < 128) : escB v (c :: t) = (if refL v c.toNat = [] then [c] else refL v c.toNat) ++ escB v t := by
 have hb : bref v c.toNat = refL v c.toNat := by unfold bref; rw [if_neg (by omega)]
 cases t with
 | nil => simp [escB, hb]
 | cons d t => rw [escB, if_neg (by omega), hb]
theorem escB_nb {v : Bool} {c d : UInt8} (t : List UInt8) (h1 : c.toNat = 194) (h2 : d.toNat = 160) : escB v (c :: d :: t) = refL v 160 ++ escB v t := by
 rw [escB, if_pos ⟨h1, h2⟩]
theorem refL_high {v : Bool} {r : Nat} (h : 128 ≤ r) (h2 : r ≠ 160) : refL v r = [] := by
 refine Classical.byContradiction fun hne => ?_
 have := refL_is hne
 omega
theorem decL_low {c : UInt8} {t : List UInt8} (h : c.toNat < 128) : U.decL (c :: t) = (c.toNat, 1) := by
 have e : U.atL (c :: t) 0 = c.toNat := rfl
 unfold U.decL U.cutL U.cutN
 rw [e, if_pos h]
 rfl
theorem decL_nb {c d : UInt8} {t : List UInt8} (h1 : c.toNat = 194) (h2 : d.toNat = 160) : U.decL (c :: d :: t) = (160, 2) := by
 have e0 : U.atL (c :: d :: t) 0 = c.toNat := rfl
 have e1 : U.atL (c :: d :: t) 1 = d.toNat := rfl
 unfold U.decL U.cutL U.cutN
 rw [e0, e1, h1, h2]
 simp [U.Sec]
/-- A part that begins with no character below 128 and is no 160: none of its bytes is turned. -/
theorem escB_dec_high {v : Bool} {c : UInt8} {t : List UInt8} (h : 128 ≤ c.toNat) (hn : ¬ (c.toNat = 194 ∧ U.atL t 0 = 160)) : refL v (U.decL (c :: t)).1 = [] ∧ ∃ k, (U.decL (c :: t)).2 = k + 1 ∧ k ≤ t.length ∧ ∀ x ∈ t.take k, 128 ≤ x.toNat ∧ x.toNat ≠ 194 := by
 have e0 : U.atL (c :: t) 0 = c.toNat := rfl
 have e1 : U.atL (c :: t) 1 = U.atL t 0 := rfl
 have e2 : U.atL (c :: t) 2 = U.atL t 1 := rfl
 have e3 : U.atL (c :: t) 3 = U.atL t 2 := rfl
 have hbad : refL v 65533 = [] := refL_high (by decide) (by decide)
 unfold U.decL U.cutL U.cutN
 rw [e0, e1, e2, e3, if_neg (show ¬ c.toNat < 128 by omega)]
 have fin : ∀ k, k ≤ t.length → (∀ j, j < k → U.Cont (U.atL t j)) → ∀ x ∈ t.take k, 128 ≤ x.toNat ∧ x.toNat ≠ 194 := by
  intro k hk hc x hx
  obtain ⟨j, hj, rfl⟩ := List.mem_iff_getElem.1 hx
  rw [List.length_take] at hj
  have := hc j (by omega)
  unfold U.Cont U.atL at this
  rw [List.getElem?_eq_getElem (by omega)] at this
  rw [List.getElem_take]
  simp only [Option.getD_some] at this
  omega
 have one : refL v 65533 = [] ∧ ∃ k, 1 = k + 1 ∧ k ≤ t.length ∧ ∀ x ∈ t.take k, 128 ≤ x.toNat ∧ x.toNat ≠ 194 := ⟨hbad, 0, rfl, Nat.zero_le _, by simp⟩
 simp only [List.length_cons]
 split
 ·split
  ·rename_i h2 h3
   have h4 := U.sec_cont h3.2
   refine ⟨refL_high ?_ ?_, 1, rfl, by omega, fin 1 (by omega) (fun j hj => by rw [show j = 0 by omega]; exact h4)⟩
   ·simp only [if_true]; unfold U.Cont at h4; omega
   ·simp only [if_true]; unfold U.Cont at h4; omega
  ·exact one
 ·split
  ·split
   ·split
    ·rename_i h2 h3 h5
     have h4 := U.sec_cont h3.2
     have hs := h3.2
     unfold U.Sec at hs
     refine ⟨refL_high ?_ ?_, 2, rfl, by omega, fin 2 (by omega) (fun j hj => by
      rcases (by omega : j = 0 ∨ j = 1) with rfl | rfl
      ·exact h4
      ·exact h5.2)⟩
     ·simp only [if_true]; unfold U.Cont at h4; split at hs <;> omega
     ·simp only [if_true]; unfold U.Cont at h4; split at hs <;> omega
    ·exact one
   ·exact one
  ·split
   ·split
    ·split
     ·split
      ·rename_i h2 h3 h5 h6
       have h4 := U.sec_cont h3.2
       have hs := h3.2
       have hs2 : c.toNat = 240 → 144 ≤ U.atL t 0 := fun e => by
        unfold U.Sec at hs
        rw [if_neg (by omega), if_neg (by omega), if_pos e] at hs
        exact hs.1
       have hr : 65536 ≤ c.toNat % 8 * 262144 + U.atL t 0 % 64 * 4096 := by
        unfold U.Cont at h4
        by_cases e : c.toNat = 240
        ·have := hs2 e
         omega
        ·have : 1 ≤ c.toNat % 8 := by omega
         omega
       refine ⟨refL_high ?_ ?_, 3, rfl, by omega, fin 3 (by omega) (fun j hj => by
        rcases (by omega : j = 0 ∨ j = 1 ∨ j = 2) with rfl | rfl | rfl
        ·exact h4
        ·exact h5.2
        ·exact h6.2)⟩
       ·simp only [if_true]; omega
       ·simp only [if_true]; omega
      ·exact one
     ·exact one
    ·exact one
   ·exact one
theorem esc_eq (v : Bool) : ∀ (n : Nat) (l : List UInt8), l.length ≤ n → escL v l = escB v l
 | _, [], _ => rfl
 | 0, c :: t, h => by simp at h
 | n + 1, c :: t, h => by
   have ht : t.length ≤ n := by simpa using h
   rw [escL_cons v (c :: t) (by simp)]
   by_cases h1 : c.toNat < 128
   ·rw [decL_low h1, escB_low t h1]
    show (if refL v c.toNat = [] then [c] else refL v c.toNat) ++ escL v t = _
    rw [esc_eq v n t ht]
   ·by_cases h2 : c.toNat = 194 ∧ U.atL t 0 = 160
    ·cases t with
     | nil => exact absurd h2.2 (by decide)
     | cons d t =>
       have h3 : d.toNat = 160 := h2.2
       rw [decL_nb h2.1 h3, escB_nb t h2.1 h3]
       show (if refL v 160 = [] then _ else refL v 160) ++ escL v t = _
       rw [if_neg (by cases v <;> decide), esc_eq v n t (by simp at ht; omega)]
    ·obtain ⟨h3, k, hk, hkl, hx⟩ := escB_dec_high (v := v) (by omega) h2
     rw [if_pos h3, hk, List.take_succ_cons, List.drop_succ_cons, esc_eq v n _ (by rw [List.length_drop]; omega), escB_high t (by omega) h2]
     conv => rhs; rw [← List.take_append_drop k t, escB_peel _ _ hx]
     rfl
end Go.Proofs.YtlcijlklbabajaaGreatDoor
namespace Go.Proofs.YtlcijlklbabajaaGreatDoor
/-- The references that escaping writes. -/
def safT : List (List UInt8) := [[38, 97, 109, 112, 59], [38, 108, 116, 59], [38, 103, 116, 59], [38, 110, 98, 115, 112, 59], [38, 35, 49, 51, 59], [38, 113, 117, 111, 116, 59]]
def begL (l : List UInt8) : Bool := safT.any fun p => Lib.hasPrefix l p
def badB (v : Bool) (c : UInt8) : Prop := c.toNat = 13 ∨ (v = false ∧ (c.toNat = 60 ∨ c.toNat = 62)) ∨ (v = true ∧ c.toNat = 34)
def okAt (v : Bool) : List UInt8 → Prop
 | [] => True
 | c :: t => ¬ badB v c ∧ (c.toNat = 38 → begL (c :: t) = true)
def SafeL (v : Bool) (l : List UInt8) : Prop := ∀ i, okAt v (l.drop i)
theorem safe_cons {v : Bool} {c : UInt8} {t : List UInt8} (h : okAt v (c :: t)) (ht : SafeL v t) : SafeL v (c :: t)
 | 0 => h
 | i + 1 => ht i
theorem safe_ref {v : Bool} {r : Nat} (h : refL v r ≠ []) {t : List UInt8} (ht : SafeL v t) : SafeL v (refL v r ++ t) := by
 have one : ∀ c : UInt8, c.toNat ≠ 13 → c.toNat ≠ 60 → c.toNat ≠ 62 → c.toNat ≠ 34 → c.toNat ≠ 38 → ∀ x, okAt v (c :: x) := fun c h1 h2 h3 h4 h5 x => by
  refine ⟨?_, fun e => absurd e h5⟩
  unfold badB
  omega
 have amp : ∀ x, begL (38 :: x) = true → okAt v (38 :: x) := fun x hx => by
  refine ⟨?_, fun _ => hx⟩
  unfold badB
  rw [show (38 : UInt8).toNat = 38 from rfl]
  omega
 rcases refL_is h with rfl | rfl | rfl | rfl | rfl | rfl <;> cases v
 all_goals first
  | exact absurd rfl h
  | (refine safe_cons (amp _ ?_) ?_
     ·first | rfl | simp [begL, safT, Lib.hasPrefix]
     ·repeat' first
       | exact ht
       | refine safe_cons (one _ (by decide) (by decide) (by decide) (by decide) (by decide) _) ?_)
theorem escB_safe (v : Bool) : ∀ (n : Nat) (l : List UInt8), l.length ≤ n → SafeL v (escB v l)
 | _, [], _ => fun i => by
   show okAt v (List.drop i [])
   rw [List.drop_nil]
   trivial
 | 0, c :: t, h => by simp at h
 | n + 1, c :: t, h => by
   have ht : t.length ≤ n := by simpa using h
   by_cases h1 : c.toNat < 128
   ·rw [escB_low t h1]
    by_cases h2 : refL v c.toNat = []
    ·rw [if_pos h2]
     refine safe_cons ⟨?_, fun e => ?_⟩ (escB_safe v n t ht)
     ·unfold badB
      intro hb
      revert h2
      rcases hb with hb | ⟨rfl, hb | hb⟩ | ⟨rfl, hb⟩ <;> rw [hb]
      ·cases v <;> decide
      all_goals decide
     ·exfalso
      revert h2
      rw [e]
      cases v <;> decide
    ·rw [if_neg h2]
     exact safe_ref h2 (escB_safe v n t ht)
   ·by_cases h2 : c.toNat = 194 ∧ U.atL t 0 = 160
    ·cases t with
     | nil => exact absurd h2.2 (by decide)
     | cons d t =>
       have h3 : d.toNat = 160 := h2.2
       rw [escB_nb t h2.1 h3]
       exact safe_ref (by cases v <;> decide) (escB_safe v n t (by simp at ht; omega))
    ·rw [escB_high t (by omega) h2]
     refine safe_cons ⟨?_, fun e => by omega⟩ (escB_safe v n t ht)
     unfold badB
     omega
theorem escL_safe (v : Bool) (l : List UInt8) : SafeL v (escL v l) := by
 rw [esc_eq v _ l (Nat.le_refl _)]
 exact escB_safe v _ l (Nat.le_refl _)
end Go.Proofs.YtlcijlklbabajaaGreatDoor
