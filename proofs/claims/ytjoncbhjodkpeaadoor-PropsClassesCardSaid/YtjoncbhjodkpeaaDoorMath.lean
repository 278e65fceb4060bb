/-
  What the tables of pairs and the tables of classes say together: the two tables agree; mirrors go back; brackets are neutral; white space is low. No Go in sight; no condition.
-/
import Derived.Test.YtjoncbhjodkpeaaDoorBrk
import Derived.Test.YtjoncbhjodkpeaaDoorCls
namespace Go.Proofs.YtjoncbhjodkpeaaDoor
def chars : List Int := allTwo.flatMap (fun t => [t.1, t.2])
theorem mir2_none (r : Int) : ∀ l : List (Int × Int), (∀ t ∈ l, r ≠ t.1 ∧ r ≠ t.2) → mir2 r l = (r, false)
  | [], _ => rfl
  | t :: l, h => by
    have ht := h t (by simp)
    rw [mir2, if_neg ht.1, if_neg ht.2]
    exact mir2_none r l (fun u hu => h u (by simp [hu]))
theorem mirL_none (r : Int) : ∀ l : List (Int × Int × Bool), (∀ t ∈ l, r ≠ t.1 ∧ r ≠ t.2.1) → mirL r l = (r, false)
  | [], _ => rfl
  | t :: l, h => by
    have ht := h t (by simp)
    rw [mirL, if_neg ht.1, if_neg ht.2]
    exact mirL_none r l (fun u hu => h u (by simp [hu]))
theorem brL_none (r : Int) : ∀ l : List (Int × Int × Bool), (∀ t ∈ l, r ≠ t.1 ∧ r ≠ t.2.1) → brL r l = (0, false, false)
  | [], _ => rfl
  | t :: l, h => by
    have ht := h t (by simp)
    rw [brL, if_neg (fun c => by rcases c.2 with c | c; exact ht.1 c; exact ht.2 c)]
    exact brL_none r l (fun u hu => h u (by simp [hu]))
theorem br2_none (r : Int) : ∀ l : List (Int × Int), (∀ t ∈ l, r ≠ t.1 ∧ r ≠ t.2) → br2 r l = (0, false, false)
  | [], _ => rfl
  | t :: l, h => by
    have ht := h t (by simp)
    rw [br2, if_neg (fun c => by rcases c with c | c; exact ht.1 c; exact ht.2 c)]
    exact br2_none r l (fun u hu => h u (by simp [hu]))
theorem subP : ∀ t ∈ pairsT, t.1 ∈ chars ∧ t.2.1 ∈ chars := by decide +kernel
theorem subT : ∀ t ∈ allTwo, t.1 ∈ chars ∧ t.2 ∈ chars := by decide +kernel
theorem subB : ∀ t ∈ brackets, t.1 ∈ chars ∧ t.2 ∈ chars := by decide +kernel
theorem none_of {r : Int} (h : r ∉ chars) : mirL r pairsT = (r, false) ∧ mir2 r allTwo = (r, false) ∧ brL r pairsT = (0, false, false) ∧ br2 r brackets = (0, false, false) :=
  ⟨mirL_none r _ fun t ht => ⟨fun e => h (e ▸ (subP t ht).1), fun e => h (e ▸ (subP t ht).2)⟩,
   mir2_none r _ fun t ht => ⟨fun e => h (e ▸ (subT t ht).1), fun e => h (e ▸ (subT t ht).2)⟩,
   brL_none r _ fun t ht => ⟨fun e => h (e ▸ (subP t ht).1), fun e => h (e ▸ (subP t ht).2)⟩,
   br2_none r _ fun t ht => ⟨fun e => h (e ▸ (subB t ht).1), fun e => h (e ▸ (subB t ht).2)⟩⟩
theorem mir_same (r : Int) : mir2 r allTwo = mirL r pairsT := by
  by_cases h : r ∈ chars
  · exact (by decide +kernel : ∀ c ∈ chars, mir2 c allTwo = mirL c pairsT) r h
  · rw [(none_of h).1, (none_of h).2.1]
theorem br_same (r : Int) : br2 r brackets = brL r pairsT := by
  by_cases h : r ∈ chars
  · exact (by decide +kernel : ∀ c ∈ chars, br2 c brackets = brL c pairsT) r h
  · rw [(none_of h).2.2.1, (none_of h).2.2.2]
/-- Mirrors go back; a character that has a mirror is another one. -/
theorem mir_back (r : Int) : mirL (mirL r pairsT).1 pairsT = (r, (mirL r pairsT).2) ∧ ((mirL r pairsT).2 == ((mirL r pairsT).1 == r)) = false := by
  by_cases h : r ∈ chars
  · exact (by decide +kernel : ∀ c ∈ chars, mirL (mirL c pairsT).1 pairsT = (c, (mirL c pairsT).2) ∧ ((mirL c pairsT).2 == ((mirL c pairsT).1 == c)) = false) r h
  · rw [(none_of h).1]
    simp [(none_of h).1]
/-- A bracket is neutral, and its mirror pairs with it, the one opening, the other one closing. -/
theorem br_pair (r : Int) (hb : (brL r pairsT).2.2 = true) : (mirL r pairsT).2 = true ∧ (brL (mirL r pairsT).1 pairsT).2.2 = true ∧ (brL r pairsT).1 = (brL (mirL r pairsT).1 pairsT).1 ∧ ((brL r pairsT).2.1 == (brL (mirL r pairsT).1 pairsT).2.1) = false ∧ cls r = 14 := by
  by_cases h : r ∈ chars
  · exact (by decide +kernel : ∀ c ∈ chars, (brL c pairsT).2.2 = true → (mirL c pairsT).2 = true ∧ (brL (mirL c pairsT).1 pairsT).2.2 = true ∧ (brL c pairsT).1 = (brL (mirL c pairsT).1 pairsT).1 ∧ ((brL c pairsT).2.1 == (brL (mirL c pairsT).1 pairsT).2.1) = false ∧ cls c = 14) r h hb
  · rw [(none_of h).2.2.1] at hb
    cases hb
theorem cls_range (r : Int) : 1 ≤ cls r ∧ cls r ≤ 23 := by
  unfold cls clsOf
  cases h : spans.find? (fun t => decide (t.1 ≤ r) && decide (r ≤ t.2.1)) with
  | none => decide
  | some t => exact (by decide +kernel : ∀ t ∈ spans, 1 ≤ t.2.2 ∧ t.2.2 ≤ 23) t (List.mem_of_find?_eq_some h)
def spaceB (r : Int) : Bool := decide (r = 9) || decide (r = 10) || decide (r = 12) || decide (r = 13) || decide (r = 32)
theorem space_low (r : Int) (h : spaceB r = true) : r ≤ 32 ∧ (cls r = 13 ∨ cls r = 12 ∨ cls r = 11) := by
  have : r = 9 ∨ r = 10 ∨ r = 12 ∨ r = 13 ∨ r = 32 := by simpa [spaceB, or_assoc] using h
  rcases this with rfl | rfl | rfl | rfl | rfl <;> decide +kernel
end Go.Proofs.YtjoncbhjodkpeaaDoor
