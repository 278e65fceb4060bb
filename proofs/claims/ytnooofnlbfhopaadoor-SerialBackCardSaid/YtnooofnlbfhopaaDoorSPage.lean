/-
  Package serial's page: takes, write. Condition: the parts' lengths are bounded.
-/
import Derived.Test.YtnooofnlbfhopaaDoorSPg
namespace Go.Proofs.YtnooofnlbfhopaaDoor.Pg
open Go.RowKit
/-- A page, plain: what it holds, and whether it is full. -/
abbrev Pst := List UInt8 × Bool
def tk (st : Pst) (s : List UInt8) : Pst := (st.1, st.2 || decide (65536 < st.1.length + s.length))
def wr1 (st : Pst) (s : List UInt8) : Pst := if (tk st s).2 then tk st s else (st.1 ++ s, false)
def wrL (st : Pst) (l : List (List UInt8)) : Pst := l.foldl wr1 st
def wrE (v : Bool) (st : Pst) (s : List UInt8) : Pst := if (tk st s).2 then tk st s else wr1 (tk st s) (escL v s)
/-- A page as it lies. -/
def PageM (B b : Nat) (st : Pst) (w : World) : Prop := ∃ cs, DataAt B b cs st.1 w ∧ cs[2]? = some (.bool st.2) ∧ st.1.length ≤ 65536
theorem PageM.cell {B b : Nat} {st : Pst} {w : World} (h : PageM B b st w) : w.cell? ⟨b, 2, none⟩ = some (.bool st.2) := by
  obtain ⟨cs, h1, h2, _⟩ := h
  rw [cell_of_row w b 2 _ _ _ h1.1]; exact h2
theorem PageM.frozen {B b : Nat} {st : Pst} {w : World} (h : PageM B b st w) (j : Nat) : w.frozen? ⟨b, j, none⟩ = false := by
  obtain ⟨cs, h1, _⟩ := h
  exact Lib.frozen_of_heap h1.1 _
theorem PageM.fill {B b : Nat} {st : Pst} {w : World} (h : PageM B b st w) (f : Bool) : PageM B b (st.1, f) (w.setCell ⟨b, 2, none⟩ (.bool f)) := by
  obtain ⟨cs, ⟨h1, h2, h3, h4, v, h5, h6⟩, h7, h8⟩ := h
  have hne : v.ownBlock ≠ some b := Lib.ownBlock_neF h6 h1 (by decide)
  refine ⟨cs.setIfInBounds 2 (.bool f), ⟨Blk.setAt h1 2 _, by rw [Array.size_setIfInBounds]; exact h2, h3, ?_, v, ?_, ?_⟩, ?_, h8⟩
  · rw [Array.getElem?_setIfInBounds_ne (by decide)]; exact h4
  · rw [Array.getElem?_setIfInBounds_ne (by decide)]; exact h5
  · exact h6.kept (row := some b) ⟨rfl, rfl, rfl, by simp [World.setCell], fun k _ hk => Below.heap_setCell _ _ _ _ (fun e => hk (by simp [e]))⟩ (Or.inr hne)
  · exact Array.getElem?_setIfInBounds_self_of_lt (by omega)
set_option maxHeartbeats 1000000 in
theorem takes_any {B b : Nat} (st : Pst) (s : List UInt8) (w : World) (h : PageM B b st w) :
    Calls Tryd.prog 61 #[.pointer (some ⟨b, 0, none⟩), .string (strOf s)] w fun e w' => e = .returned (.bool (!(tk st s).2)) ∧ PageM B b (tk st s) w' ∧ DChg B b w w' := by
  have H := hid_mk h
  have hss := size_strOf s
  have c2 := h.cell
  have f2 := h.frozen 2
  have hbs := h.choose_spec.2.2
  have hln := hid_mk (len_at h.choose_spec.1)
  obtain ⟨T, hT⟩ : ∃ T, T = tk st s := ⟨_, rfl⟩
  have HT := hid_mk (show T = (st.1, st.2 || decide (65536 < st.1.length + s.length)) from hT)
  rw [← hT]
  clear hT h
  by_cases hb : 65536 < st.1.length + s.length
  · have hbi : 65536 - (st.1.length : Int) < (s.length : Int) := by omega
    have HF := hid_mk (And.intro (H.out.fill true) (DChg.set (B := B) w 2 (.bool true) (b := b)))
    have HTT := hid_mk (show T = (st.1, true) by rw [HT.out, decide_eq_true hb, Bool.or_true])
    clear hb
    go_enter Tryd.func61, Tryd.ntmps61
    go_wp2_with fail
    with_reducible refine hln.out.mono ?_
    rintro e1 w1 ⟨rfl, hw1⟩
    subst hw1
    go_wp2_with fail
    go_ret
    rw [HTT.out]
    exact ⟨rfl, HF.out⟩
  · have hbi : ¬ 65536 - (st.1.length : Int) < (s.length : Int) := by omega
    have HTT := hid_mk (show T = (st.1, st.2) by rw [HT.out, decide_eq_false hb, Bool.or_false])
    clear hb
    go_enter Tryd.func61, Tryd.ntmps61
    go_wp2_with fail
    with_reducible refine hln.out.mono ?_
    rintro e1 w1 ⟨rfl, hw1⟩
    subst hw1
    go_wp2_with fail
    go_ret
    rw [HTT.out]
    exact ⟨rfl, H.out, .refl _ _ _⟩
/-- Parts as they lie: a row of strings of its own. -/
def Strs (g : Nat) (l : List (List UInt8)) (w : World) : Prop := ∃ fr, w.heap[g]? = some (.cells (l.map fun s => Value.string (strOf s)).toArray 9 fr)
theorem Strs.chg {B b g : Nat} {l : List (List UInt8)} {st : Pst} {w w' : World} (h : Strs g l w) (hp : PageM B b st w) (hc : DChg B b w w') : Strs g l w' := by
  obtain ⟨fr, h⟩ := h
  obtain ⟨cs, h1, _⟩ := hp
  refine ⟨fr, hc.blocks g _ h (fun e => ?_) (.inr fun cs fr e => ?_)⟩
  · subst e
    rw [h1.1] at h
    injection h with h
    injection h with _ h2
    exact absurd h2 (by decide)
  · injection e with _ h2
    exact absurd h2 (by decide)
theorem Strs.cell {g : Nat} {l : List (List UInt8)} {w : World} (h : Strs g l w) (j : Nat) (hj : j < l.length) : w.cell? ⟨g, j, none⟩ = some (.string (strOf l[j])) := by
  obtain ⟨fr, h⟩ := h
  rw [cell_of_row w g j _ _ _ h]
  simp [List.getElem?_eq_getElem hj]
set_option maxHeartbeats 2000000 in
set_option maxRecDepth 100000 in
theorem write_any {B b g c : Nat} (st : Pst) (l : List (List UInt8)) (w : World) (h : PageM B b st w) (hl : Strs g l w) (hn : l.length ≤ 1000) :
    Calls Tryd.prog 42 #[.pointer (some ⟨b, 0, none⟩), .slice (some ⟨g, 0, none⟩) l.length c] w fun e w' => e = .returned (.tuple #[]) ∧ PageM B b (wrL st l) w' ∧ DChg B b w w' := by
  have H0 := hid_mk (And.intro h hl)
  obtain ⟨n, hnn⟩ : ∃ n, n = l.length := ⟨_, rfl⟩
  have HN := hid_mk hnn
  rw [← hnn] at hn ⊢
  clear h hl hnn
  go_enter Tryd.func42, Tryd.ntmps42
  go_wp2_with fail
  go_loopw [8] (fun vk wr => ∃ k : Nat, vk = .int .i64 k ∧ k ≤ n ∧ Hid (PageM B b (wrL st (l.take k)) wr ∧ Strs g l wr ∧ DChg B b w wr)) (fun vk _ => n - (intOf vk).toNat)
  case atStart => exact ⟨0, rfl, Nat.zero_le _, hid_mk ⟨by rw [List.take_zero]; exact H0.out.1, H0.out.2, .refl _ _ _⟩⟩
  case round =>
    obtain ⟨k, rfl, hk, HW⟩ := hrel
    by_cases hkn : k < n
    · have hkl : k < l.length := by rw [← HN.out]; exact hkn
      have hki : (k : Int) < (n : Int) := by omega
      have c1 := HW.out.2.1.cell k hkl
      have HX := hid_mk (show wrL st (l.take (k + 1)) = wr1 (wrL st (l.take k)) l[k] by
        unfold wrL
        rw [List.take_succ_eq_append_getElem hkl, List.foldl_append]
        rfl)
      generalize l[k] = s at *
      obtain ⟨st2, hst⟩ : ∃ st2, st2 = wrL st (l.take k) := ⟨_, rfl⟩
      rw [← hst] at HW HX
      have htk := hid_mk (takes_any st2 s wr HW.out.1)
      obtain ⟨T, hT⟩ : ∃ T, T = tk st2 s := ⟨_, rfl⟩
      rw [← hT] at htk
      have HT := hid_mk hT
      clear hst hT
      go_wp2_with fail
      with_reducible refine htk.out.mono ?_
      rintro e1 w1 ⟨rfl, hp1, hd1⟩
      have H1 := hid_mk (And.intro hp1 (And.intro (HW.out.2.1.chg HW.out.1 hd1) (HW.out.2.2.trans hd1)))
      clear hp1 hd1 htk HW
      cases hf : T.2 with
      | true =>
        have HP := hid_mk (show PageM B b (wrL st (l.take (k + 1))) w1 by
          rw [HX.out]; unfold wr1; rw [← HT.out, hf, if_pos rfl]; exact H1.out.1)
        clear hf
        go_wp2_with fail
        go_roundw
        case rel => exact ⟨k + 1, by go_num, by omega, hid_mk ⟨HP.out, H1.out.2⟩⟩
        case measure => simp [intOf]; omega
      | false =>
        have HP := hid_mk (show wrL st (l.take (k + 1)) = (st2.1 ++ s, false) by
          rw [HX.out]; unfold wr1; rw [← HT.out, hf, if_neg (by simp)])
        have h65 : st2.1.length + s.length ≤ 65536 := by
          have := hf
          rw [HT.out] at this
          unfold tk at this
          simp only [Bool.or_eq_false_iff, decide_eq_false_iff_not] at this
          have := this.2
          omega
        have hT1 : T.1 = st2.1 := by rw [HT.out]; rfl
        obtain ⟨cs, hda, hc2, hle⟩ := H1.out.1
        rw [hT1] at hda
        have hws := hid_mk (writeString_at s hda (by omega))
        have H65 := hid_mk h65
        have HC := hid_mk hc2
        rw [hf] at HC
        clear hf hda hc2 hle hT1 h65
        go_wp2_with fail
        with_reducible refine hws.out.mono ?_
        rintro e2 w2 ⟨rfl, cs', hd2, _, hc2, hch⟩
        have HP2 := hid_mk (show PageM B b (wrL st (l.take (k + 1))) w2 by
          rw [HP.out]
          exact ⟨cs', hd2, hc2.trans HC.out, by rw [List.length_append]; exact H65.out⟩)
        have H2 := hid_mk (And.intro (H1.out.2.1.chg H1.out.1 hch) (H1.out.2.2.trans hch))
        clear hd2 hc2 hch hws
        go_wp2_with fail
        go_roundw
        case rel => exact ⟨k + 1, by go_num, by omega, hid_mk ⟨HP2.out, H2.out⟩⟩
        case measure => simp [intOf]; omega
    · have hki : ¬ (k : Int) < (n : Int) := by omega
      have HF := hid_mk (show PageM B b (wrL st l) wr ∧ DChg B b w wr by
        have := HW.out
        rw [List.take_of_length_le (by rw [← HN.out]; omega)] at this
        exact ⟨this.1, this.2.2⟩)
      clear HW
      go_wp2_with fail
      go_end0
      exact ⟨rfl, HF.out⟩
theorem write_n {B b g c : Nat} (n : Nat) (st : Pst) (l : List (List UInt8)) (w : World) (h : PageM B b st w) (hl : Strs g l w) (hn : l.length ≤ 1000) (hnl : n = l.length) :
    Calls Tryd.prog 42 #[.pointer (some ⟨b, 0, none⟩), .slice (some ⟨g, 0, none⟩) n c] w fun e w' => e = .returned (.tuple #[]) ∧ PageM B b (wrL st l) w' ∧ DChg B b w w' := by
  subst hnl
  exact write_any st l w h hl hn
end Go.Proofs.YtnooofnlbfhopaaDoor.Pg
