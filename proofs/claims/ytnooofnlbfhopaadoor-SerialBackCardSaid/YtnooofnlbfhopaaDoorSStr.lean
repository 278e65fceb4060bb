/-
  String of the builder within package serial's page, of an empty one too. No condition.
-/
import Derived.Test.YtnooofnlbfhopaaDoorSTree
namespace Go.Proofs.YtnooofnlbfhopaaDoor.Pg
open Go.RowKit
set_option maxHeartbeats 2000000 in
set_option maxRecDepth 100000 in
theorem string_nil {B b : Nat} {cs : Array Value} {w : World} (h : DataAt B b cs [] w) :
    Calls Tryd.prog 23 #[.pointer (some ⟨b, 0, none⟩)] w fun e w' => e = .returned (.string ⟨#[]⟩) ∧ Below w.heap.size w w' := by
  obtain ⟨h1, h2, h3, h4, v, h5, hown⟩ := h
  have c1 : w.drew.cell? ⟨b, 1, none⟩ = some v := by
    have : w.drew.heap[b]? = some (.cells cs 61 (0, 0)) := h1
    rw [cell_of_row _ b 1 _ _ _ this]; exact h5
  have hbd : Below w.heap.size w w.drew := (Below.refl _ _).drew
  obtain ⟨a, cap, p, W2, rfl, hSD, hW2⟩ : ∃ a cap p W2, v = .slice a 0 cap ∧ (Builtin.unsafeSliceData_ #[29] 67 #[.slice a 0 cap]).run Tryd.prog w.drew = .ok (.pointer p) W2 ∧ (W2 = w.drew ∨ ∃ o, W2 = w.drew.alloc o) := by
    rcases hown.2 with ⟨hv, _⟩ | ⟨g, cap, cur, fz, hv, _, hg, _⟩
    · exact ⟨none, 0, none, _, hv, Lib.run_unsafeSliceData_nil _ _ _ _ _, .inl rfl⟩
    · by_cases hc : cap = 0
      · subst hc
        exact ⟨_, 0, _, _, hv, Lib.run_unsafeSliceData_zero w.drew #[29] 67 5 Tryd.underlying67 ⟨g, 0, none⟩ 0 (5, cur.size) (by have hg' : w.drew.heap[g]? = some (.cells cur 5 fz) := hg; simp [World.shape?, hg']), .inr ⟨_, rfl⟩⟩
      · exact ⟨_, cap, _, _, hv, Lib.run_unsafeSliceData_row _ _ _ _ _ _ hc, .inl rfl⟩
  have hUS : (Builtin.unsafeString_ #[67, 3] 9 #[.pointer p, .int .i64 0]).run Tryd.prog W2 = .ok (.string ⟨#[]⟩) W2 := Lib.run_unsafeString_none W2 67 3 9 p
  have c2 : W2.cell? ⟨b, 1, none⟩ = some (.slice a 0 cap) := by
    rcases hW2 with rfl | ⟨o, rfl⟩
    · exact c1
    · rw [((Below.refl w.drew.heap.size w.drew).alloc (Nat.le_refl _) o).cell (p := ⟨b, 1, none⟩) (Array.getElem?_eq_some_iff.1 h1).1]; exact c1
  have HF := hid_mk (show Below w.heap.size w W2 by
    rcases hW2 with rfl | ⟨o, rfl⟩
    · exact hbd
    · exact hbd.alloc (Nat.le_refl _) o)
  clear hW2 hbd
  clear h1 h2 h3 h4 h5 hown
  go_enter Tryd.func23, Tryd.ntmps23
  have mixed : Tryd.prog.follows Departure.mixedOrders = true := by kernel_rfl
  go_wp2
  go_region_o
  all_goals (go_wp2; go_ret; exact ⟨rfl, HF.out⟩)
theorem string_page {B b : Nat} {st : Pst} {w : World} (h : PageM B b st w) :
    Calls Tryd.prog 23 #[.pointer (some ⟨b, 0, none⟩)] w fun e w' => e = .returned (.string (strOf st.1)) ∧ DChg B b w w' := by
  obtain ⟨cs, h1, _⟩ := h
  by_cases h0 : st.1 = []
  · rw [h0] at h1 ⊢
    refine (string_nil h1).mono ?_
    rintro e w' ⟨rfl, hb⟩
    exact ⟨rfl, .of hb⟩
  · refine (string_at h1 h0).mono ?_
    rintro e w' ⟨rfl, _, hd⟩
    exact ⟨rfl, hd⟩
end Go.Proofs.YtnooofnlbfhopaaDoor.Pg
