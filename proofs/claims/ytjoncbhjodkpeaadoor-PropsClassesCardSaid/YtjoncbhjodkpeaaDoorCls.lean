/-
  The class of a character, plain: the range in which it lies; looked up by halves. No Go in sight; no condition.
-/
import Derived.Test.YtjoncbhjodkpeaaDoorPlain
namespace Go.Proofs.YtjoncbhjodkpeaaDoor
def clsOf (r : Int) (l : List (Int × Int × Int)) : Int := ((l.find? (fun t => decide (t.1 ≤ r) && decide (r ≤ t.2.1))).map (·.2.2)).getD 1
def cls (r : Int) : Int := clsOf r spans
theorem spansApart : spans.Pairwise (fun a b => a.2.1 < b.1) := by decide +kernel
theorem spansRise : ∀ t ∈ spans, t.1 ≤ t.2.1 := by decide +kernel
theorem spansNoLetter : ∀ t ∈ spans, (t.2.1 < 65 ∨ 90 < t.1) ∧ (t.2.1 < 97 ∨ 122 < t.1) := by decide +kernel
theorem apart_at {i j : Nat} (hi : i < spans.length) (hj : j < spans.length) (h : i < j) : spans[i].2.1 < spans[j].1 := List.pairwise_iff_getElem.1 spansApart i j hi hj h
theorem last_mono {i j : Nat} (hi : i < spans.length) (hj : j < spans.length) (h : i ≤ j) : spans[i].2.1 ≤ spans[j].2.1 := by
  rcases Nat.lt_or_ge i j with hlt | hge
  · have h1 := apart_at hi hj hlt
    have h2 := spansRise _ (List.getElem_mem hj)
    omega
  · obtain rfl : i = j := by omega
    exact Int.le_refl _
theorem cls_at (r : Int) (i : Nat) (h1 : ∀ k (h : k < spans.length), k < i → spans[k].2.1 < r) (h2 : ∀ h : i < spans.length, r ≤ spans[i].2.1) :
    cls r = if h : i < spans.length then (if spans[i].1 ≤ r then spans[i].2.2 else 1) else 1 := by
  have hnone : ∀ l : List (Int × Int × Int), (∀ t ∈ l, ¬ (t.1 ≤ r ∧ r ≤ t.2.1)) → l.find? (fun t => decide (t.1 ≤ r) && decide (r ≤ t.2.1)) = none := by
    intro l hl
    rw [List.find?_eq_none]
    intro t ht
    simpa using hl t ht
  have htake : (spans.take i).find? (fun t => decide (t.1 ≤ r) && decide (r ≤ t.2.1)) = none := hnone _ (by
    intro t ht
    obtain ⟨k, hk, rfl⟩ := List.mem_iff_getElem.1 ht
    rw [List.length_take] at hk
    rw [List.getElem_take]
    have := h1 k (by omega) (by omega)
    omega)
  unfold cls clsOf
  rw [← List.take_append_drop i spans, List.find?_append, htake, Option.none_or, List.take_append_drop]
  by_cases hi : i < spans.length
  · rw [dif_pos hi, List.drop_eq_getElem_cons hi, List.find?_cons]
    have h3 := h2 hi
    by_cases hf : spans[i].1 ≤ r
    · simp [hf, h3]
    · rw [if_neg hf]
      have : (decide (spans[i].1 ≤ r) && decide (r ≤ spans[i].2.1)) = false := by simp [hf]
      rw [this]
      simp only
      rw [hnone _ (by
        intro t ht
        obtain ⟨k, hk, rfl⟩ := List.mem_iff_getElem.1 ht
        rw [List.length_drop] at hk
        rw [List.getElem_drop]
        have a1 := apart_at (i := i) (j := i + 1 + k) hi (by omega) (by omega)
        omega)]
      rfl
  · rw [dif_neg hi, List.drop_eq_nil_of_le (by omega)]
    rfl
theorem cls_letter (r : Int) (h : (65 ≤ r ∧ r ≤ 90) ∨ (97 ≤ r ∧ r ≤ 122)) : cls r = 1 := by
  unfold cls clsOf
  rw [List.find?_eq_none.2]
  · rfl
  · intro t ht
    have := spansNoLetter t ht
    simp
    omega
theorem clsOf_drop (r : Int) (k : Nat) (hk : k < spans.length) : clsOf r (spans.drop k) = if spans[k].1 ≤ r ∧ r ≤ spans[k].2.1 then spans[k].2.2 else clsOf r (spans.drop (k + 1)) := by
  unfold clsOf
  rw [List.drop_eq_getElem_cons hk, List.find?_cons]
  by_cases h : spans[k].1 ≤ r ∧ r ≤ spans[k].2.1
  · simp [h]
  · rw [if_neg h]
    have : (decide (spans[k].1 ≤ r) && decide (r ≤ spans[k].2.1)) = false := by simpa using h
    rw [this]
end Go.Proofs.YtjoncbhjodkpeaaDoor
