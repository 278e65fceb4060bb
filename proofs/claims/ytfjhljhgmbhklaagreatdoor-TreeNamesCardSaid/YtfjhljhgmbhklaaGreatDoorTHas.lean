/-
  A row of tokens as it is read. No condition.
-/
import Derived.Test.YtfjhljhgmbhklaaGreatDoorTAll
namespace Go.Proofs.YtfjhljhgmbhklaaGreatDoor
open Go.RowKit
/-- A slice value of these tokens, as it is read. -/
def HasToks (w : World) (a : Option Addr) (ps : List (Tk × Value)) : Prop :=
  (a = none ∧ ps = []) ∨ ∃ g, a = some ⟨g, 0, none⟩ ∧ g < w.heap.size ∧ ∀ k (h : k < ps.length) (j : Nat), j < 5 → w.cell? ⟨g, k * 5 + j, none⟩ = (tkF ps[k])[j]?
theorem TokRow.has {B : Nat} {v : Value} {ps : List (Tk × Value)} {w : World} (h : TokRow B v ps w) : ∃ a c, v = .slice a ps.length c ∧ HasToks w a ps := by
  rcases h.1.2 with ⟨rfl, h0⟩ | ⟨g, cap, cur, rfl, h2, h3, h4, h5, h6, h7⟩
  · exact ⟨none, 0, by rw [h0], .inl ⟨rfl, List.eq_nil_of_length_eq_zero h0⟩⟩
  · refine ⟨_, cap, rfl, .inr ⟨g, rfl, (Array.getElem?_eq_some_iff.1 h3).1, fun k hk j hj => ?_⟩⟩
    rw [cell_of_row w g _ _ _ _ h3, ← flat_get tkF 5 (fun _ => rfl) ps k j hk hj]
    have hlt : k * 5 + j < ps.length * 5 := by omega
    rw [← h7, List.getElem?_take, if_pos hlt, Array.getElem?_toList]
theorem TokRow.cells {B g c : Nat} {n : Nat} {ps : List (Tk × Value)} {w : World} (h : TokRow B (.slice (some ⟨g, 0, none⟩) n c) ps w) (k : Nat) (hk : k < ps.length) (j : Nat) (hj : j < 5) : w.cell? ⟨g, k * 5 + j, none⟩ = (tkF ps[k])[j]? := by
  obtain ⟨a, c', hv, hh⟩ := h.has
  injection hv with ha _ _
  subst ha
  rcases hh with ⟨hx, _⟩ | ⟨g', hg, _, hc⟩
  · cases hx
  · injection hg with hg
    injection hg with hg
    subst hg
    exact hc k hk j hj
theorem TokRow.some {B : Nat} {v : Value} {ps : List (Tk × Value)} {w : World} (h : TokRow B v ps w) (hne : 0 < ps.length) : ∃ g c, v = .slice (some ⟨g, 0, none⟩) ps.length c := by
  obtain ⟨a, c, hv, hh⟩ := h.has
  rcases hh with ⟨_, h0⟩ | ⟨g, hg, _⟩
  · rw [h0] at hne; simp at hne
  · subst hg
    exact ⟨g, c, hv⟩
end Go.Proofs.YtfjhljhgmbhklaaGreatDoor
