/-
  Plain: in a tree that is right every child lies behind its parent. No Go; no condition.
-/
import Derived.Test.YtnooofnlbfhopaaDoorRKids
namespace Go.Proofs.YtnooofnlbfhopaaDoor
theorem kids_up {t : List Nx} (h : rightX t = true) {u : Nat} (hu : u < t.length) : ∀ k ∈ kidsAt t u, (u : Int) < k ∧ k < (t.length : Int) := by
  cases t with
  | nil => simp at hu
  | cons d r =>
    unfold rightX at h
    simp only [Bool.and_eq_true] at h
    obtain ⟨⟨_, hp⟩, hk⟩ := h
    have hups := ups_of_places hp
    rw [(kidsX_iff (d :: r)).1 hk u hu]
    intro k hkm
    unfold ofUp at hkm
    rw [List.mem_map] at hkm
    obtain ⟨j, hj, rfl⟩ := hkm
    rw [List.mem_filter, List.mem_range, Bool.and_eq_true, decide_eq_true_eq, beq_iff_eq] at hj
    have := (hups j hj.2.1 hj.1).2
    have e : upAt (d :: r) j = (u : Int) := hj.2.2
    rw [e] at this
    exact ⟨this, by have := hj.1; omega⟩
end Go.Proofs.YtnooofnlbfhopaaDoor
