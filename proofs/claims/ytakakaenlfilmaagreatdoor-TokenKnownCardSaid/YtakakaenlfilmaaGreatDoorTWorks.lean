/-
  works of the laws of layer 4: true. Condition: the world holds what Tab says.
-/
import Derived.Test.YtakakaenlfilmaaGreatDoorTAll
namespace Go.Proofs.YtakakaenlfilmaaGreatDoor
open Go.RowKit
/-- A slice value of these tokens, as it is read. -/
def HasToks (w : World) (a : Option Addr) (ps : List (Tk × Value)) : Prop :=
  (a = none ∧ ps = []) ∨ ∃ g, a = some ⟨g, 0, none⟩ ∧ g < w.heap.size ∧ ∀ k (h : k < ps.length) (j : Nat), j < 5 → w.cell? ⟨g, k * 5 + j, none⟩ = (tkF ps[k])[j]?
theorem TokRow.has {B : Nat} {v : Value} {ps : List (Tk × Value)} {w : World} (h : TokRow B v ps w) : ∃ a c, v = .slice a ps.length c ∧ HasToks w a ps := by
  rcases h.1.2 with ⟨rfl, h0⟩ | ⟨g, cap, cur, rfl, h2, h3, h4, h5, h6, h7⟩
  · exact ⟨none, 0, by rw [h0], .inl ⟨rfl, List.eq_nil_of_length_eq_zero h0⟩⟩
  · refine ⟨_, cap, rfl, .inr ⟨g, rfl, (Array.getElem?_eq_some_iff.1 h3).1, fun k hk j hj => ?_⟩⟩
    rw [cell_of_row w g _ _ _ _ h3, ← flat_get tkF 5 (fun _ => rfl) ps k j hk hj]
    have hlt : k * 5 + j < ps.length * 5 := by omega
    rw [← h7, List.getElem?_take, if_pos hlt, Array.getElem?_toList]
theorem TokRow.cells {B g c : Nat} {n : Nat} {ps : List (Tk × Value)} {w : World} (h : TokRow B (.slice (some ⟨g, 0, none⟩) n c) ps w) (k : Nat) (hk : k < ps.length) (j : Nat) (hj : j < 5) : w.cell? ⟨g, k * 5 + j, none⟩ = (tkF ps[k])[j]? := by
  obtain ⟨a, c', hv, hh⟩ := h.has
  injection hv with ha _ _
  subst ha
  rcases hh with ⟨hx, _⟩ | ⟨g', hg, _, hc⟩
  · cases hx
  · injection hg with hg
    injection hg with hg
    subst hg
    exact hc k hk j hj
theorem TokRow.some {B : Nat} {v : Value} {ps : List (Tk × Value)} {w : World} (h : TokRow B v ps w) (hne : 0 < ps.length) : ∃ g c, v = .slice (some ⟨g, 0, none⟩) ps.length c := by
  obtain ⟨a, c, hv, hh⟩ := h.has
  rcases hh with ⟨_, h0⟩ | ⟨g, hg, _⟩
  · rw [h0] at hne; simp at hne
  · subst hg
    exact ⟨g, c, hv⟩
def lit1 : List UInt8 := [60, 98, 114, 47, 62, 60, 33, 45, 45, 32, 120, 32, 45, 45, 62, 97]
def lit2 : List UInt8 := [60, 98, 114, 47, 62, 60, 33, 45, 45, 32, 120, 32, 45, 45, 62, 97, 60, 98]
theorem toks1 : tokensL lit1 = (0, 0, [⟨1, [98, 114], [], true, []⟩, ⟨4, [], [], false, [32, 120, 32]⟩, ⟨3, [], [], false, [97]⟩]) := by decide +kernel
theorem toks2 : tokensL lit2 = (40, 16, []) := by decide +kernel
set_option maxHeartbeats 4000000 in
set_option maxRecDepth 100000 in
theorem works_any (w : World) (hT : Tab w) :
    Calls Tryz.prog 5 #[] w fun e w' => e = .returned (.bool true) ∧ Next w w' := by
  have h1 := hid_mk (tokens_any (strOf lit1) w hT (by decide))
  have h2 := hid_mk (fun w hT => tokens_any (strOf lit2) w hT (by decide))
  have e1 := hid_mk (show (⟨#[60, 98, 114, 47, 62, 60, 33, 45, 45, 32, 120, 32, 45, 45, 62, 97]⟩ : ByteArray) = strOf lit1 from rfl)
  have e2 := hid_mk (show (⟨#[60, 98, 114, 47, 62, 60, 33, 45, 45, 32, 120, 32, 45, 45, 62, 97, 60, 98]⟩ : ByteArray) = strOf lit2 from rfl)
  clear hT
  go_enter Tryz.func5, Tryz.ntmps5
  go_wp2_with fail
  rw [e1.out]
  refine h1.out.mono ?_
  rintro e w1 ⟨v, ps, rfl, hps, hrow, hn⟩
  rw [sl_strOf, toks1] at hps ⊢
  simp only at hps
  have hlen : ps.length = 3 := by
    have := congrArg List.length hps
    simpa using this.symm
  have H1 := hid_mk (And.intro hn hrow)
  have HP := hid_mk hps
  clear hn hrow hps h1
  obtain ⟨g, c, hv⟩ := H1.out.2.some (by omega)
  rw [hlen] at hv
  subst hv
  go_wp2_with fail
  rw [e2.out]
  refine (h2.out w1 H1.out.1.2).mono ?_
  rintro e w2 ⟨v2, ps2, rfl, hps2, hrow2, hn2⟩
  rw [sl_strOf, toks2]
  have H2 := hid_mk (And.intro (H1.out.1.trans hn2) (H1.out.2.below hn2.1))
  clear hn2 hrow2 hps2 H1 h2
  match ps, hlen, HP, H2 with
  | [p0, p1, p2], _, HP, H2 =>
  have hP := HP.out
  simp only [List.map_cons, List.map_nil, List.cons.injEq, and_true] at hP
  obtain ⟨hp0, hp1, hp2⟩ := hP
  have c0 := fun j hj => H2.out.2.cells 0 (by simp) j hj
  have c1 := fun j hj => H2.out.2.cells 1 (by simp) j hj
  have c2 := fun j hj => H2.out.2.cells 2 (by simp) j hj
  simp only [List.getElem_cons_zero, List.getElem_cons_succ, tkF, ← hp0, ← hp1, ← hp2] at c0 c1 c2
  have d1 : w2.cell? ⟨g, 1, none⟩ = some (.string (strOf [98, 114])) := c0 1 (by decide)
  have d3 : w2.cell? ⟨g, 3, none⟩ = some (.bool true) := c0 3 (by decide)
  have d9 : w2.cell? ⟨g, 9, none⟩ = some (.string (strOf [32, 120, 32])) := c1 4 (by decide)
  have d14 : w2.cell? ⟨g, 14, none⟩ = some (.string (strOf [97])) := c2 4 (by decide)
  have q1 : (strOf [98, 114]).toList = [98, 114] := toList_strOf _
  have q2 : (strOf [32, 120, 32]).toList = [32, 120, 32] := toList_strOf _
  have q3 : (strOf [97]).toList = [97] := toList_strOf _
  clear c0 c1 c2 hp0 hp1 hp2 HP
  go_wp2_with fail
  go_ret
  exact ⟨rfl, H2.out.1⟩
end Go.Proofs.YtakakaenlfilmaaGreatDoor
