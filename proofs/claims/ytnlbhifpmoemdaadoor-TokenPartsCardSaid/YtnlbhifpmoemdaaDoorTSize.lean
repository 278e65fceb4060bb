/-
  How many tokens, and how long their names: plain. And right, of any row. Condition: none.
-/
import Derived.Test.YtnlbhifpmoemdaaDoorTLawPt
namespace Go.Proofs.YtnlbhifpmoemdaaDoor
open Go.RowKit
theorem tag_name {k : Nat} {l r : List UInt8} {t : Tk} (h : tagL k l = (0, t, r)) : t.name.length ≤ l.length := by
  unfold tagL at h
  split at h
  · injection h with h _; cases h
  · split at h
    · injection h with _ h
      injection h with h1 _
      subst h1
      show (smL (upL l _)).length ≤ _
      unfold smL
      rw [List.length_map]
      exact up_le l _
    · injection h with h _; cases h
theorem one_name {l r : List UInt8} {t : Tk} (h : oneL l = (0, t, r)) : t.name.length ≤ l.length := by
  have hd : ∀ n, (l.drop n).length ≤ l.length := fun n => by rw [List.length_drop]; omega
  unfold oneL at h
  split at h
  · injection h with _ h; injection h with h1 _; subst h1; exact Nat.zero_le _
  · split at h
    · exact Nat.le_trans (tag_name h) (hd 1)
    · split at h
      · unfold endL at h
        split at h
        · injection h with h _; cases h
        · split at h
          · injection h with h _; cases h
          · exact Nat.le_trans (tag_name h) (hd 2)
      · split at h
        · unfold comL at h
          split at h
          · injection h with h _; cases h
          · injection h with _ h; injection h with h1 _; subst h1; exact Nat.zero_le _
        · split at h
          · unfold docL at h
            split at h
            · injection h with _ h; injection h with h1 _; subst h1; exact Nat.zero_le _
            · injection h with h _; cases h
          · injection h with h _; cases h
theorem toks_size : ∀ (ts : List Tk) {l : List UInt8}, toksL l = (0, 0, ts) → ts.length ≤ l.length ∧ ∀ t ∈ ts, t.name.length ≤ l.length
  | [], _, _ => ⟨Nat.zero_le _, fun t h => nomatch h⟩
  | t :: ts, l, h => by
    have hl : l ≠ [] := by
      intro e
      rw [e, toksL_nil] at h
      injection h with _ h; injection h with _ h; cases h
    rw [toksL_step l hl] at h
    split at h
    · rename_i h1
      split at h
      · rename_i h2
        injection h with _ h
        injection h with _ h
        injection h with h3 h4
        have hone : oneL l = (0, t, (oneL l).2.2) := by rw [← h3, ← h1]
        have hr : toksL (oneL l).2.2 = (0, 0, ts) := by
          have h5 : (toksL (oneL l).2.2).2.1 = 0 := toksL_place h2
          generalize toksL (oneL l).2.2 = R at *
          obtain ⟨r1, r2, r3⟩ := R
          simp only at h2 h4 h5
          rw [h2, h4, h5]
        have hlt : (oneL l).2.2.length < l.length := by
          rcases oneL_cases l hl with ⟨_, h⟩ | h | h | h | h
          · exact h
          all_goals omega
        obtain ⟨d, e⟩ := toks_size ts hr
        refine ⟨by rw [List.length_cons]; omega, fun u hu => ?_⟩
        rcases List.mem_cons.1 hu with rfl | hu
        · exact one_name hone
        · have := e u hu; omega
      · rename_i h2
        injection h with h _
        exact absurd h h2
    · rename_i h1
      injection h with h _
      exact absurd h h1
theorem tokensL_size (l : List UInt8) : (tokensL l).2.2.length ≤ 65536 ∧ ∀ t ∈ (tokensL l).2.2, t.name.length ≤ 65536 := by
  have hn : ([] : List Tk).length ≤ 65536 ∧ ∀ t ∈ ([] : List Tk), t.name.length ≤ 65536 := ⟨by simp, fun t h => nomatch h⟩
  unfold tokensL
  split
  · exact hn
  · rename_i hl
    split
    · exact hn
    · split
      · rename_i h
        have hp := toksL_place h
        have := toks_size (toksL l).2.2 (l := l) (by
          generalize toksL l = R at *
          obtain ⟨r1, r2, r3⟩ := R
          simp only at h hp
          rw [h, hp])
        exact ⟨Nat.le_trans this.1 (by omega), fun t ht => Nat.le_trans (this.2 t ht) (by omega)⟩
      · exact hn
set_option maxHeartbeats 4000000 in
set_option maxRecDepth 100000 in
theorem right_nil (w : World) : Calls Tryd.prog 9 #[.slice none 0 0] w fun e w' => e = .returned (.bool true) ∧ Below w.heap.size w w' := by
  go_enter Tryd.func9, Tryd.ntmps9
  go_wp2_with fail
  go_loopw [3] (fun i wr => i = .int .i64 0 ∧ Hid (Below w.heap.size w wr)) (fun _ _ => 0)
  case atStart => exact ⟨rfl, hid_mk (Below.refl _ _)⟩
  case round =>
    obtain ⟨rfl, HW⟩ := hrel
    go_wp2_with fail
    go_ret
    exact ⟨rfl, HW.out⟩
/-- right, of the tokens of any text. -/
theorem right_any {B : Nat} {v : Value} {ps : List (Tk × Value)} {w : World} {l : List UInt8} (hrow : TokRow B v ps w) (hl : (tokensL l).2.2 = ps.map (·.1)) :
    Calls Tryd.prog 9 #[v] w fun e w' => e = .returned (.bool true) ∧ Below w.heap.size w w' := by
  have hs := tokensL_size l
  have hR := tokensL_right l
  rw [hl] at hs hR
  obtain ⟨a, c, rfl, hh⟩ := hrow.has
  rcases hh with ⟨rfl, rfl⟩ | ⟨g, rfl, _⟩
  · obtain ⟨h1, h2⟩ := hrow.1
    rcases h2 with ⟨h2, _⟩ | ⟨_, _, _, h2, _⟩
    · rw [h2]
      exact right_nil w
    · cases h2
  · refine right_go B g c ps w hrow hR (by have := hs.1; rw [List.length_map] at this; omega) fun p hp => ?_
    have := hs.2 p.1 (List.mem_map.2 ⟨p, hp, rfl⟩)
    omega
end Go.Proofs.YtnlbhifpmoemdaaDoor
