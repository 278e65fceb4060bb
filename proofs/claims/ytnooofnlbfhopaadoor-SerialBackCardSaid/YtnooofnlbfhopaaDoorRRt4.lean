/-
  Package tree's closeTo. Condition: the stack's height is bounded.
-/
import Derived.Test.YtnooofnlbfhopaaDoorRRt2
import Derived.Test.YtnooofnlbfhopaaDoorRSt
namespace Go.Proofs.YtnooofnlbfhopaaDoor
open Go.RowKit
def ToPost (B b q : Nat) (cs : Array Value) (T : TypeId) (up : Int) (st : List Opn) (w : World) (e : Ending) (w' : World) : Prop :=
  match closeToX up st with
  | some st' => e = .returned (.bool true) ∧ StPost B b q cs T st' w w'
  | none => e = .returned (.bool false) ∧ ∃ st', StPost B b q cs T st' w w'
theorem StPost.trans {B b q : Nat} {cs : Array Value} {T : TypeId} {st : List Opn} {w w1 w2 : World} {cs1 : Array Value} (h2 : ButAt q cs cs1) (h3 : SChg B b w w1) (h : StPost B b q cs1 T st w1 w2) : StPost B b q cs T st w w2 := by
  obtain ⟨cs', k1, k2, k3⟩ := h
  exact ⟨cs', k1, h2.trans k2, h3.trans k3⟩
theorem StackAt.cell {B b q : Nat} {cs : Array Value} {T : TypeId} {st : List Opn} {w : World} (h : StackAt B b q cs T st w) : ∃ sv, w.cell? ⟨b, q, none⟩ = some sv ∧ OpnRow B sv st w := by
  obtain ⟨h1, h2, h3, sv, h4, h5⟩ := h
  exact ⟨sv, by rw [cell_of_row w b q _ _ _ h1]; exact h4, h5⟩
set_option maxHeartbeats 4000000 in
set_option maxRecDepth 100000 in
theorem closeTo_st {B b q : Nat} {cs : Array Value} {T : TypeId} (up : Int) {st : List Opn} {w : World} (h : StackAt B b q cs T st w) (hl : st.length ≤ 10000) :
    Calls Tryd.prog 53 #[.pointer (some ⟨b, q, none⟩), .int .i64 up] w (ToPost B b q cs T up st w) := by
  have H1 := hid_mk (StPost.refl h)
  clear h
  go_enter Tryd.func53, Tryd.ntmps53
  go_wp2_with fail
  go_loopg [] st.length (fun gh wx => ∃ st1 : List Opn, gh = st1.length ∧ st1.length ≤ 10000 ∧ Hid (closeToX up st = closeToX up st1) ∧ Hid (StPost B b q cs T st1 w wx))
  case atStart => exact ⟨st, rfl, hl, hid_mk rfl, H1⟩
  case round =>
    obtain ⟨st1, rfl, hl1, hdw, HP⟩ := hrel
    clear H1
    obtain ⟨cs1, hs1, hbu1, hch1⟩ := HP.out
    obtain ⟨sv1, c1, hr1⟩ := hs1.cell
    obtain ⟨gg, capp, hsv, _, _, _⟩ := hr1.some
    have hfd := opField0 (topO st1)
    have ht1 := hid_mk (top_any B sv1 st1 _ hr1 (by omega))
    have hdp := hid_mk (fun w' (hb : Below wr.heap.size wr w') => depth_any B sv1 st1 w' (hr1.below hb) (by omega))
    unfold opA at ht1
    have HX := hid_mk (And.intro hs1 (And.intro hbu1 hch1))
    have hck := hid_mk (fun w' (hb : Below wr.heap.size wr w') => (hb.cell (p := ⟨b, q, none⟩) (Array.getElem?_eq_some_iff.1 hs1.1).1).trans c1)
    clear hs1 hbu1 hch1 hr1 HP hsv
    go_wp2_with fail
    (with_reducible refine ht1.out.mono ?_)
    rintro e w2 ⟨rfl, hb2⟩
    have c2 := hck.out w2 hb2
    have hdp2 := hid_mk (hdp.out w2 hb2)
    have HY := hid_mk (And.intro (HX.out.1.below hb2) (And.intro HX.out.2.1 (HX.out.2.2.trans (.of hb2))))
    clear hb2 ht1 c1 HX hck hdp
    by_cases he : ((topO st1).node : Int) = up
    · have hq1 : (((topO st1).node : Int) == up) = true := beq_iff_eq.2 he
      have hq2 : (((topO st1).node : Int) != up) = false := by rw [bne, hq1]; rfl
      have HF := hid_mk (show closeToX up st = some st1 by
        rw [hdw.out]
        cases st1 with
        | nil =>
          have : ((0 : Nat) : Int) = up := he
          unfold closeToX
          rw [if_pos (by omega)]
        | cons o t =>
          have : (o.node : Int) = up := he
          unfold closeToX
          rw [if_pos this])
      clear he hdw
      go_wp2_with fail
      go_ret
      unfold ToPost
      rw [HF.out]
      exact ⟨rfl, _, HY.out⟩
    · have hq1 : (((topO st1).node : Int) == up) = false := beq_false_of_ne he
      have hq2 : (((topO st1).node : Int) != up) = true := by rw [bne, hq1]; rfl
      go_wp2_with fail
      (with_reducible refine hdp2.out.mono ?_)
      rintro e w3 ⟨rfl, rfl⟩
      clear hdp2
      by_cases hz : st1.length = 0
      · have hnil : st1 = [] := List.eq_nil_of_length_eq_zero hz
        have hq3 : ((st1.length : Int) == 0) = true := by rw [hz]; rfl
        have HF := hid_mk (show closeToX up st = none by
          rw [hdw.out, hnil]
          unfold closeToX
          rw [if_neg]
          intro h0
          rw [hnil] at he
          exact he (by rw [h0]; rfl))
        have HY2 := hid_mk (show ∃ st', StPost B b q cs T st' w w2 from ⟨st1, _, HY.out⟩)
        clear he hdw hz hnil HY hq1 hq2
        go_wp2_with fail
        go_ret
        unfold ToPost
        rw [HF.out]
        exact ⟨rfl, HY2.out⟩
      · have hq3 : ((st1.length : Int) == 0) = false := beq_false_of_ne (by omega)
        obtain ⟨o, t, hst⟩ : ∃ o t, st1 = o :: t := by
          cases hc : st1 with
          | nil => rw [hc] at hz; exact absurd rfl hz
          | cons o t => exact ⟨o, t, rfl⟩
        have hlen : t.length ≤ 10000 := by have := congrArg List.length hst; simp at this; omega
        have hglen : t.length < st1.length := by rw [hst]; simp
        have hcl := hid_mk (close_st (o := o) (st := t) (hst ▸ HY.out.1) hlen)
        have HD := hid_mk (show closeToX up st = closeToX up t by
          rw [hdw.out, hst]
          rw [hst] at he
          conv => lhs; unfold closeToX
          rw [if_neg (show ¬ (o.node : Int) = up from he)])
        clear hst hdw he hz
        go_wp2_with fail
        (with_reducible refine hcl.out.mono ?_)
        rintro e w4 ⟨rfl, hp⟩
        have HZ := hid_mk (StPost.trans HY.out.2.1 HY.out.2.2 hp)
        clear hp hcl HY hq1 hq2 hq3
        go_wp2_with fail
        go_roundg t.length
        case measure => omega
        case rel => exact ⟨t, rfl, hlen, HD, HZ⟩
end Go.Proofs.YtnooofnlbfhopaaDoor
