/-
  Which children a tree's nodes have, plain: counted one by one. No Go in sight; no condition.
-/
import Derived.Test.YtlcijlklbabajaaGreatDoorQRPsm
namespace Go.Proofs.YtlcijlklbabajaaGreatDoor.R
def nxD : Nx := ⟨0, [], [], [], 0, []⟩
def upAt (t : List Nx) (i : Nat) : Int := (t.getD i nxD).up
def kidsAt (t : List Nx) (u : Nat) : List Int := (t.getD u nxD).kids
theorem ofUp_succ (t : List Nx) (n u : Nat) : ofUp t (n + 1) u = ofUp t n u ++ (if 1 ≤ n ∧ upAt t n = (u : Int) then [(n : Int)] else []) := by
 unfold ofUp
 rw [List.range_succ, List.filter_append, List.map_append]
 congr 1
 by_cases h : 1 ≤ n ∧ upAt t n = (u : Int)
 ·rw [if_pos h]
  have : (decide (1 ≤ n) && (t.getD n ⟨0, [], [], [], 0, []⟩).up == (u : Int)) = true := by
   rw [Bool.and_eq_true, decide_eq_true_eq, beq_iff_eq]
   exact h
  rw [List.filter_cons, if_pos this]
  rfl
 ·rw [if_neg h]
  have : (decide (1 ≤ n) && (t.getD n ⟨0, [], [], [], 0, []⟩).up == (u : Int)) = false := by
   rw [Bool.eq_false_iff]
   intro e
   rw [Bool.and_eq_true, decide_eq_true_eq, beq_iff_eq] at e
   exact h e
  rw [List.filter_cons, if_neg (by rw [this]; exact Bool.false_ne_true)]
  rfl
theorem ofUp_mono (t : List Nx) (u : Nat) {n m : Nat} (h : n ≤ m) : ofUp t n u <+: ofUp t m u := by
 induction m with
 | zero =>
   obtain rfl : n = 0 := by omega
   exact List.prefix_refl _
 | succ m ih =>
   by_cases e : n = m + 1
   ·subst e; exact List.prefix_refl _
   ·rw [ofUp_succ]
    exact (ih (by omega)).trans (List.prefix_append _ _)
theorem ofUp_zero (t : List Nx) (u : Nat) : ofUp t 1 u = [] := by
 rw [ofUp_succ, if_neg (by omega)]
 rfl
/-- So far each node's children are those that it says. -/
def GoodK (t : List Nx) (i : Nat) : Prop := ∀ u, u < t.length → ofUp t i u <+: kidsAt t u
theorem good_one (t : List Nx) : GoodK t 1 := fun u _ => by rw [ofUp_zero]; exact List.nil_prefix
theorem kidsX_iff (t : List Nx) : kidsX t = true ↔ ∀ u, u < t.length → kidsAt t u = ofUp t t.length u := by
 unfold kidsX
 rw [List.all_eq_true]
 exact ⟨fun h u hu => beq_iff_eq.1 (h u (List.mem_range.2 hu)), fun h u hu => beq_iff_eq.2 (h u (List.mem_range.1 hu))⟩
theorem good_next {t : List Nx} {i v : Nat} (h : GoodK t i) (hi : 1 ≤ i) (hv : upAt t i = (v : Int)) (hvl : v < t.length) (hc : (kidsAt t v)[(ofUp t i v).length]? = some (i : Int)) : GoodK t (i + 1) := by
 intro u hu
 rw [ofUp_succ]
 by_cases e : u = v
 ·subst e
  rw [if_pos ⟨hi, hv⟩]
  obtain ⟨r, hr⟩ := h u hu
  rw [← hr, List.getElem?_append_right (Nat.le_refl _), Nat.sub_self] at hc
  cases r with
  | nil => cases hc
  | cons a r =>
    simp only [List.getElem?_cons_zero, Option.some.injEq] at hc
    subst hc
    exact ⟨r, by rw [← hr, List.append_assoc]; rfl⟩
 ·rw [if_neg (fun h2 => e (by have := hv.symm.trans h2.2; omega)), List.append_nil]
  exact h u hu
theorem bad_next {t : List Nx} {i v : Nat} (hi : 1 ≤ i) (hil : i < t.length) (hv : upAt t i = (v : Int)) (hvl : v < t.length) (hc : (kidsAt t v)[(ofUp t i v).length]? ≠ some (i : Int)) : kidsX t = false := by
 rw [Bool.eq_false_iff]
 intro hx
 have h1 := (kidsX_iff t).1 hx v hvl
 have h2 := ofUp_mono t v (n := i + 1) (m := t.length) (by omega)
 rw [ofUp_succ, if_pos ⟨hi, hv⟩] at h2
 obtain ⟨r, hr⟩ := h2
 apply hc
 rw [h1, ← hr, List.append_assoc, List.getElem?_append_right (Nat.le_refl _), Nat.sub_self]
 rfl
theorem good_end {t : List Nx} (h : GoodK t t.length) : kidsX t = true ↔ ∀ u, u < t.length → (ofUp t t.length u).length = (kidsAt t u).length := by
 rw [kidsX_iff]
 refine ⟨fun h2 u hu => by rw [h2 u hu], fun h2 u hu => ((h u hu).eq_of_length (h2 u hu)).symm⟩
/-- Ups that lead back. -/
def UpsOk (t : List Nx) : Prop := ∀ i, 1 ≤ i → i < t.length → 0 ≤ upAt t i ∧ upAt t i < (i : Int)
theorem closeToX_node {up : Int} : ∀ {st st' : List Opn}, closeToX up st = some st' → (up = 0 ∨ ∃ o ∈ st, (o.node : Int) = up) ∧ ∀ o ∈ st', o ∈ st
 | [], st', h => by
   unfold closeToX at h
   split at h
   ·injection h with h; subst h; exact ⟨.inl (by assumption), fun o ho => ho⟩
   ·cases h
 | o :: t, st', h => by
   unfold closeToX at h
   split at h
   ·rename_i ho
    injection h with h; subst h
    exact ⟨.inr ⟨o, List.mem_cons_self .., ho⟩, fun o ho => ho⟩
   ·obtain ⟨h1, h2⟩ := closeToX_node h
    refine ⟨?_, fun o ho => List.mem_cons_of_mem _ (h2 o ho)⟩
    rcases h1 with h1 | ⟨o', ho', h1⟩
    ·exact .inl h1
    ·exact .inr ⟨o', List.mem_cons_of_mem _ ho', h1⟩
theorem places_ups : ∀ (r : List Nx) (i : Nat) (p : Nx) (st : List Opn), 1 ≤ i → (∀ o ∈ st, o.node < i) → placesX r i p st = true → ∀ j, j < r.length → 0 ≤ (r.getD j nxD).up ∧ (r.getD j nxD).up < ((i + j : Nat) : Int)
 | [], _, _, _, _, _, _, j, hj => by simp at hj
 | n :: r, i, p, st, hi, hst, h, j, hj => by
   unfold placesX at h
   cases hc : closeToX n.up st with
   | none => rw [hc] at h; cases h
   | some s1 =>
     rw [hc] at h
     obtain ⟨h1, h2⟩ := closeToX_node hc
     have hn : 0 ≤ n.up ∧ n.up < (i : Int) := by
      rcases h1 with h1 | ⟨o, ho, h1⟩
      ·omega
      ·have := hst o ho
       omega
     have hs1 : ∀ o ∈ s1, o.node < i + 1 := fun o ho => by have := hst o (h2 o ho); omega
     cases j with
     | zero => exact hn
     | succ j =>
       have ih : ∀ p st, (∀ o ∈ st, o.node < i + 1) → placesX r (i + 1) p st = true → 0 ≤ (r.getD j nxD).up ∧ (r.getD j nxD).up < ((i + 1 + j : Nat) : Int) := fun p st h1 h2 => places_ups r (i + 1) p st (by omega) h1 h2 j (by simpa using hj)
       have e : ((i + (j + 1) : Nat) : Int) = ((i + 1 + j : Nat) : Int) := by omega
       rw [show (n :: r).getD (j + 1) nxD = r.getD j nxD from rfl, e]
       simp only at h
       split at h
       ·split at h
        ·cases h
        ·exact ih _ _ hs1 h
       ·split at h
        ·split at h
         ·cases h
         ·refine ih _ _ ?_ h
          intro o ho
          split at ho
          ·exact hs1 o ho
          ·rw [List.mem_cons] at ho
           rcases ho with rfl | ho
           ·exact Nat.lt_succ_self _
           ·exact hs1 o ho
        ·cases h
theorem ups_of_places {d : Nx} {r : List Nx} (h : placesX r 1 d [] = true) : UpsOk (d :: r) := by
 intro i hi hl
 obtain ⟨j, rfl⟩ : ∃ j, i = j + 1 := ⟨i - 1, by omega⟩
 have := places_ups r 1 d [] (Nat.le_refl _) (fun o ho => (nomatch ho)) h j (by simpa using hl)
 unfold upAt
 rw [show (d :: r).getD (j + 1) nxD = r.getD j nxD from rfl]
 omega
end Go.Proofs.YtlcijlklbabajaaGreatDoor.R
namespace Go.Proofs.YtlcijlklbabajaaGreatDoor.R
theorem kids_up {t : List Nx} (h : rightX t = true) {u : Nat} (hu : u < t.length) : ∀ k ∈ kidsAt t u, (u : Int) < k ∧ k < (t.length : Int) := by
 cases t with
 | nil => simp at hu
 | cons d r =>
   unfold rightX at h
   simp only [Bool.and_eq_true] at h
   obtain ⟨⟨_, hp⟩, hk⟩ := h
   have hups := ups_of_places hp
   rw [(kidsX_iff (d :: r)).1 hk u hu]
   intro k hkm
   unfold ofUp at hkm
   rw [List.mem_map] at hkm
   obtain ⟨j, hj, rfl⟩ := hkm
   rw [List.mem_filter, List.mem_range, Bool.and_eq_true, decide_eq_true_eq, beq_iff_eq] at hj
   have := (hups j hj.2.1 hj.1).2
   have e : upAt (d :: r) j = (u : Int) := hj.2.2
   rw [e] at this
   exact ⟨this, by have := hj.1; omega⟩
end Go.Proofs.YtlcijlklbabajaaGreatDoor.R
