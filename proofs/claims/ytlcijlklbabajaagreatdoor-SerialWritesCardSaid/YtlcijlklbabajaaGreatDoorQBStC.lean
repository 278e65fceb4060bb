/-
  Package tree's stack, where it lies in a block of the call's own: close, push, closeForStart. Condition: the stack's height is bounded.
-/
import Derived.Test.YtlcijlklbabajaaGreatDoorQBStk
import Derived.Test.YtlcijlklbabajaaGreatDoorQTNTA
namespace Go.Proofs.YtlcijlklbabajaaGreatDoor
open Go.RowKit
/-- The stack lies in cell q of block b, its row among the blocks from B on. -/
def StackAt (B b q : Nat) (cs : Array Value) (T : TypeId) (st : List Opn) (w : World) : Prop :=
 w.heap[b]? = some (.cells cs T (0, 0)) ∧ 119 ≠ T ∧ B ≤ b ∧ ∃ sv, cs[q]? = some sv ∧ OpnRow B sv st w
/-- A block's cells but for one. -/
def ButAt (q : Nat) (cs cs' : Array Value) : Prop := cs'.size = cs.size ∧ ∀ j, j ≠ q → cs'[j]? = cs[j]?
theorem ButAt.refl (q : Nat) (cs : Array Value) : ButAt q cs cs := ⟨rfl, fun _ _ => rfl⟩
theorem ButAt.trans {q : Nat} {a b c : Array Value} (h : ButAt q a b) (k : ButAt q b c) : ButAt q a c := ⟨k.1.trans h.1, fun j hj => (k.2 j hj).trans (h.2 j hj)⟩
theorem ButAt.set {q : Nat} {cs : Array Value} (v : Value) : ButAt q cs (cs.setIfInBounds q v) := ⟨Array.size_setIfInBounds .., fun _ hj => Array.getElem?_setIfInBounds_ne (fun e => hj e.symm)⟩
/-- Behind what the stack's methods do: nothing has turned but block b, and rows of what is open from B on. -/
structure SChg (B b : Nat) (w w' : World) : Prop where
 os : w'.os = w.os
 tape : w'.tape = w.tape
 output : w'.output = w.output
 size : w.heap.size ≤ w'.heap.size
 blocks : ∀ k o, w.heap[k]? = some o → k ≠ b → (k < B ∨ ∀ cs fr, o ≠ .cells cs 119 fr) → w'.heap[k]? = some o
theorem SChg.of {B b : Nat} {w w' : World} (h : Below w.heap.size w w') : SChg B b w w' :=
 ⟨h.os, h.tape, h.output, h.size, fun k _ hk _ _ => (h.block k (Array.getElem?_eq_some_iff.1 hk).1).trans hk⟩
theorem SChg.refl (B b : Nat) (w : World) : SChg B b w w := .of (Below.refl _ _)
theorem SChg.trans {B b : Nat} {x y z : World} (h : SChg B b x y) (k : SChg B b y z) : SChg B b x z :=
 ⟨k.os.trans h.os, k.tape.trans h.tape, k.output.trans h.output, Nat.le_trans h.size k.size, fun j o h1 h2 h3 => k.blocks j o (h.blocks j o h1 h2 h3) h2 h3⟩
theorem SChg.set {B b : Nat} (w : World) (q : Nat) (v : Value) : SChg B b w (w.setCell ⟨b, q, none⟩ v) :=
 ⟨rfl, rfl, rfl, by rw [World.size_setCell]; exact Nat.le_refl _, fun _ _ hk hne _ => (Below.heap_setCell _ _ _ _ hne).trans hk⟩
theorem SChg.drew {B b : Nat} {w w' : World} (h : SChg B b w w') : SChg B b w w'.drew := ⟨h.os, h.tape, h.output, h.size, h.blocks⟩
theorem SChg.grown {B b : Nat} {v : Value} {st : List Opn} {w w' : World} (hr : OpnRow B v st w) (hg : w.grownBy w' v.ownBlock) : SChg B b w w' :=
 ⟨hg.os, hg.tape, hg.output, hg.size, fun k o hk _ h3 => by
  refine (hg.block k (Array.getElem?_eq_some_iff.1 hk).1 (fun e => ?_)).trans hk
  have hB := own_base hr k e.symm
  obtain ⟨cs, hcs⟩ := own_kind hr e.symm
  rcases h3 with h3 | h3
  ·omega
  ·rw [hk] at hcs
   injection hcs with hcs
   exact h3 _ _ hcs⟩
theorem StackAt.below {B b q : Nat} {cs : Array Value} {T : TypeId} {st : List Opn} {w w' : World} (h : StackAt B b q cs T st w) (hb : Below w.heap.size w w') : StackAt B b q cs T st w' := by
 obtain ⟨h1, h2, h3, sv, h4, h5⟩ := h
 exact ⟨(hb.block b (Array.getElem?_eq_some_iff.1 h1).1).trans h1, h2, h3, sv, h4, h5.below hb⟩
def StPost (B b q : Nat) (cs : Array Value) (T : TypeId) (st' : List Opn) (w w' : World) : Prop :=
 ∃ cs', StackAt B b q cs' T st' w' ∧ ButAt q cs cs' ∧ SChg B b w w'
theorem StPost.refl {B b q : Nat} {cs : Array Value} {T : TypeId} {st : List Opn} {w : World} (h : StackAt B b q cs T st w) : StPost B b q cs T st w w := ⟨cs, h, .refl _ _, .refl _ _ _⟩
theorem StPost.below {B b q : Nat} {cs : Array Value} {T : TypeId} {st : List Opn} {w w1 w2 : World} (h : StPost B b q cs T st w w1) (hb : Below w1.heap.size w1 w2) : StPost B b q cs T st w w2 := by
 obtain ⟨cs', h1, h2, h3⟩ := h
 exact ⟨cs', h1.below hb, h2, h3.trans (.of hb)⟩
theorem close_st {B b q : Nat} {cs : Array Value} {T : TypeId} {o : Opn} {st : List Opn} {w : World} (h : StackAt B b q cs T (o :: st) w) (hl : st.length ≤ 10000) :
 Calls Tryz.prog 128 #[.pointer (some ⟨b, q, none⟩)] w fun e w' => e = .returned (.tuple #[]) ∧ StPost B b q cs T st w w' := by
 obtain ⟨h1, h2, h3, sv, h4, h5⟩ := h
 obtain ⟨g, cap, hv, hBg, hgl, _⟩ := h5.some
 subst hv
 have hcap : st.length + 1 + 1 ≤ cap := by
  rcases h5.2 with ⟨hx, _⟩ | ⟨_, _, _, hv, _, _, hcap, _⟩
  ·cases hx
  ·injection hv with _ _ hc
   rw [hc]
   exact hcap
 have hbl : b < w.heap.size := (Array.getElem?_eq_some_iff.1 h1).1
 have hq : q < cs.size := (Array.getElem?_eq_some_iff.1 h4).1
 refine (close_any b q g (st.length + 1 + 1) cap w (by rw [cell_of_row w b q _ _ _ h1]; exact h4) (Lib.frozen_of_heap h1 _) (by omega) (by omega) hcap).mono ?_
 rintro e w' ⟨rfl, rfl⟩
 have hrow := h5.pop
 refine ⟨rfl, cs.setIfInBounds q (.slice (some ⟨g, 0, none⟩) (st.length + 1) cap), ⟨Blk.setAt h1 q _, h2, h3, _, Array.getElem?_setIfInBounds_self_of_lt hq, ?_⟩, .set _, (SChg.set w q _).drew⟩
 refine ⟨hrow.1, ?_⟩
 rcases hrow.2 with ⟨hx, _⟩ | ⟨g', cap', cur, hv, k1, k2, k3⟩
 ·cases hx
 ·refine .inr ⟨g', cap', cur, hv, k1, ?_, k3⟩
  show (w.setCell _ _).heap[g']? = _
  rw [Below.heap_setCell _ _ _ _ (fun e => ?_)]
  ·exact k2
  ·subst e
   rw [h1] at k2
   injection k2 with k2
   injection k2 with _ k2 _
   exact h2 k2.symm
theorem push_st {B b q : Nat} {cs : Array Value} {T : TypeId} {st : List Opn} {w : World} (o : Opn) (h : StackAt B b q cs T st w) (hl : st.length ≤ 10000) :
 Calls Tryz.prog 86 #[.pointer (some ⟨b, q, none⟩), opA o] w fun e w' => e = .returned (.tuple #[]) ∧ StPost B b q cs T (o :: st) w w' := by
 obtain ⟨h1, h2, h3, sv, h4, h5⟩ := h
 have hbl : b < w.heap.size := (Array.getElem?_eq_some_iff.1 h1).1
 have hq : q < cs.size := (Array.getElem?_eq_some_iff.1 h4).1
 refine (push_any B b q sv st o cs T w h5 h1 h2 h4 (by omega) (by omega)).mono ?_
 rintro e w' ⟨rfl, sv', w1, hg, hrow, rfl⟩
 have hne : sv.ownBlock ≠ some b := own_ne h5 h1 h2
 have hb1 : w1.heap[b]? = some (.cells cs T (0, 0)) := (hg.block b hbl (fun e => hne e.symm)).trans h1
 refine ⟨rfl, cs.setIfInBounds q sv', ⟨Blk.setAt hb1 q _, h2, h3, _, Array.getElem?_setIfInBounds_self_of_lt hq, ?_⟩, .set _, (SChg.grown h5 hg).trans (.set w1 q _)⟩
 refine ⟨hrow.1, ?_⟩
 rcases hrow.2 with ⟨hx, h0⟩ | ⟨g', cap', cur, hv, k1, k2, k3⟩
 ·omega
 ·refine .inr ⟨g', cap', cur, hv, k1, ?_, k3⟩
  rw [Below.heap_setCell _ _ _ _ (fun e => ?_)]
  ·exact k2
  ·subst e
   rw [hb1] at k2
   injection k2 with k2
   injection k2 with _ k2 _
   exact h2 k2.symm
end Go.Proofs.YtlcijlklbabajaaGreatDoor
namespace Go.Proofs.YtlcijlklbabajaaGreatDoor
open Go.RowKit
theorem StPost.trans {B b q : Nat} {cs cs1 : Array Value} {T : TypeId} {st : List Opn} {w w1 w2 : World} (hb : ButAt q cs cs1) (hs : SChg B b w w1) (h : StPost B b q cs1 T st w1 w2) : StPost B b q cs T st w w2 := by
 obtain ⟨cs', h1, h2, h3⟩ := h
 exact ⟨cs', h1, hb.trans h2, hs.trans h3⟩
theorem StackAt.cell {B b q : Nat} {cs : Array Value} {T : TypeId} {st : List Opn} {w : World} (h : StackAt B b q cs T st w) : ∃ sv, w.cell? ⟨b, q, none⟩ = some sv ∧ OpnRow B sv st w := by
 obtain ⟨h1, h2, h3, sv, h4, h5⟩ := h
 exact ⟨sv, by rw [cell_of_row w b q _ _ _ h1]; exact h4, h5⟩
set_option maxHeartbeats 4000000 in
set_option maxRecDepth 100000 in
theorem closeForStart_st {B b q : Nat} {cs : Array Value} {T : TypeId} (k : Nat) {st : List Opn} {w : World} (h : StackAt B b q cs T st w) (hl : st.length ≤ 10000) :
 Calls Tryz.prog 102 #[.pointer (some ⟨b, q, none⟩), .int .u8 (k : Int)] w fun e w' => e = .returned (.tuple #[]) ∧ StPost B b q cs T (closeS k st) w w' := by
 have hep := hid_mk (fun w => endsPar_any k w)
 have H0 := hid_mk (StPost.refl h)
 obtain ⟨R, hR⟩ : ∃ R, R = closeS k st := ⟨_, rfl⟩
 have HR := hid_mk hR
 rw [← hR]
 clear hR h
 go_enter Tryz.func102, Tryz.ntmps102
 go_wp2_with fail
 (with_reducible refine (hep.out _).mono ?_)
 rintro e w9 ⟨rfl, rfl⟩
 clear hep
 cases hg1 : endsP k with
 | false =>
   cases hg2 : (k == 3) with
   | false =>
     have ki2 : ((k : Int) == 3) = false := by rw [Bool.eq_false_iff] at hg2 ⊢; intro h; apply hg2; simp at h ⊢; omega
     go_wp2_with fail
     go_end0
     refine ⟨rfl, ?_⟩
     have hRR : R = st := by rw [HR.out]; simp [closeS, hg1, hg2]
     rw [hRR]
     exact H0.out
   | true =>
     have ki2 : ((k : Int) == 3) = true := by simp at hg2 ⊢; omega
     obtain ⟨cs2, hs2, hbu2, hch2⟩ := H0.out
     obtain ⟨sv2, c2, hr2⟩ := hs2.cell
     have hfd2 := opField2 (topO (st))
     have ht2 := hid_mk (top_any B sv2 (st) _ hr2 (by omega))
     unfold opA at ht2
     have HX2 := hid_mk (And.intro hs2 (And.intro hbu2 hch2))
     clear hs2 hbu2 hch2 hr2
     go_wp2_with fail
     (with_reducible refine ht2.out.mono ?_)
     rintro e w21 ⟨rfl, hb2⟩
     have HY2 := hid_mk (And.intro (HX2.out.1.below hb2) (And.intro HX2.out.2.1 (HX2.out.2.2.trans (.of hb2))))
     clear hb2 ht2 c2
     cases hk2 : ((topO (st)).kind == 3) with
     | false =>
       have ki22 : (((topO (st)).kind : Int) == 3) = false := by rw [Bool.eq_false_iff] at hk2 ⊢; intro h; apply hk2; simp at h ⊢; omega
       have HZ2 := hid_mk (show StPost B b q cs T (st) w w21 from ⟨cs2, HY2.out.1, HY2.out.2.1, HY2.out.2.2⟩)
       go_wp2_with fail
       go_end0
       refine ⟨rfl, ?_⟩
       have hRR : R = st := by rw [HR.out]; simp [closeS, hg1, hg2, hk2]
       rw [hRR]
       exact HZ2.out
     | true =>
       have ki22 : (((topO (st)).kind : Int) == 3) = true := by simp at hk2 ⊢; omega
       obtain ⟨o2, st2, hst2⟩ : ∃ o st', st = o :: st' := by
        cases hc : st with
        | nil => rw [hc] at hk2; exact absurd hk2 (by decide)
        | cons o t => exact ⟨o, t, rfl⟩
       have hlen2 : st2.length ≤ 10000 := by have := congrArg List.length hst2; simp at this; omega
       have hcl2 := hid_mk (close_st (o := o2) (st := st2) (hst2 ▸ HY2.out.1) hlen2)
       have hft2 := hid_mk (show (st).tail = st2 by rw [hst2]; rfl)
       clear hst2
       go_wp2_with fail
       (with_reducible refine hcl2.out.mono ?_)
       rintro e w22 ⟨rfl, hp2⟩
       have HZ2 := hid_mk (StPost.trans HY2.out.2.1 HY2.out.2.2 hp2)
       clear hp2 hcl2
       go_wp2_with fail
       go_end0
       refine ⟨rfl, ?_⟩
       have hRR : R = st2 := by rw [HR.out]; simp [closeS, hg1, hg2, hk2, hft2.out]
       rw [hRR]
       exact HZ2.out
 | true =>
   obtain ⟨cs1, hs1, hbu1, hch1⟩ := H0.out
   obtain ⟨sv1, c1, hr1⟩ := hs1.cell
   have hfd1 := opField2 (topO (st))
   have ht1 := hid_mk (top_any B sv1 (st) _ hr1 (by omega))
   unfold opA at ht1
   have HX1 := hid_mk (And.intro hs1 (And.intro hbu1 hch1))
   clear hs1 hbu1 hch1 hr1
   go_wp2_with fail
   (with_reducible refine ht1.out.mono ?_)
   rintro e w11 ⟨rfl, hb1⟩
   have HY1 := hid_mk (And.intro (HX1.out.1.below hb1) (And.intro HX1.out.2.1 (HX1.out.2.2.trans (.of hb1))))
   clear hb1 ht1 c1
   cases hk1 : ((topO (st)).kind == 2) with
   | false =>
     have ki21 : (((topO (st)).kind : Int) == 2) = false := by rw [Bool.eq_false_iff] at hk1 ⊢; intro h; apply hk1; simp at h ⊢; omega
     have HZ1 := hid_mk (show StPost B b q cs T (st) w w11 from ⟨cs1, HY1.out.1, HY1.out.2.1, HY1.out.2.2⟩)
     cases hg3 : (k == 3) with
     | false =>
       have ki3 : ((k : Int) == 3) = false := by rw [Bool.eq_false_iff] at hg3 ⊢; intro h; apply hg3; simp at h ⊢; omega
       go_wp2_with fail
       go_end0
       refine ⟨rfl, ?_⟩
       have hRR : R = st := by rw [HR.out]; simp [closeS, hg1, hk1, hg3]
       rw [hRR]
       exact HZ1.out
     | true =>
       have ki3 : ((k : Int) == 3) = true := by simp at hg3 ⊢; omega
       obtain ⟨cs3, hs3, hbu3, hch3⟩ := HZ1.out
       obtain ⟨sv3, c3, hr3⟩ := hs3.cell
       have hfd3 := opField2 (topO (st))
       have ht3 := hid_mk (top_any B sv3 (st) _ hr3 (by omega))
       unfold opA at ht3
       have HX3 := hid_mk (And.intro hs3 (And.intro hbu3 hch3))
       clear hs3 hbu3 hch3 hr3
       go_wp2_with fail
       (with_reducible refine ht3.out.mono ?_)
       rintro e w31 ⟨rfl, hb3⟩
       have HY3 := hid_mk (And.intro (HX3.out.1.below hb3) (And.intro HX3.out.2.1 (HX3.out.2.2.trans (.of hb3))))
       clear hb3 ht3 c3
       cases hk3 : ((topO (st)).kind == 3) with
       | false =>
         have ki23 : (((topO (st)).kind : Int) == 3) = false := by rw [Bool.eq_false_iff] at hk3 ⊢; intro h; apply hk3; simp at h ⊢; omega
         have HZ3 := hid_mk (show StPost B b q cs T (st) w w31 from ⟨cs3, HY3.out.1, HY3.out.2.1, HY3.out.2.2⟩)
         go_wp2_with fail
         go_end0
         refine ⟨rfl, ?_⟩
         have hRR : R = st := by rw [HR.out]; simp [closeS, hg1, hk1, hg3, hk3]
         rw [hRR]
         exact HZ3.out
       | true =>
         have ki23 : (((topO (st)).kind : Int) == 3) = true := by simp at hk3 ⊢; omega
         obtain ⟨o3, st3, hst3⟩ : ∃ o st', st = o :: st' := by
          cases hc : st with
          | nil => rw [hc] at hk3; exact absurd hk3 (by decide)
          | cons o t => exact ⟨o, t, rfl⟩
         have hlen3 : st3.length ≤ 10000 := by have := congrArg List.length hst3; simp at this; omega
         have hcl3 := hid_mk (close_st (o := o3) (st := st3) (hst3 ▸ HY3.out.1) hlen3)
         have hft3 := hid_mk (show (st).tail = st3 by rw [hst3]; rfl)
         clear hst3
         go_wp2_with fail
         (with_reducible refine hcl3.out.mono ?_)
         rintro e w32 ⟨rfl, hp3⟩
         have HZ3 := hid_mk (StPost.trans HY3.out.2.1 HY3.out.2.2 hp3)
         clear hp3 hcl3
         go_wp2_with fail
         go_end0
         refine ⟨rfl, ?_⟩
         have hRR : R = st3 := by rw [HR.out]; simp [closeS, hg1, hk1, hg3, hk3, hft3.out]
         rw [hRR]
         exact HZ3.out
   | true =>
     have ki21 : (((topO (st)).kind : Int) == 2) = true := by simp at hk1 ⊢; omega
     obtain ⟨o1, st1, hst1⟩ : ∃ o st', st = o :: st' := by
      cases hc : st with
      | nil => rw [hc] at hk1; exact absurd hk1 (by decide)
      | cons o t => exact ⟨o, t, rfl⟩
     have hlen1 : st1.length ≤ 10000 := by have := congrArg List.length hst1; simp at this; omega
     have hcl1 := hid_mk (close_st (o := o1) (st := st1) (hst1 ▸ HY1.out.1) hlen1)
     have hft1 := hid_mk (show (st).tail = st1 by rw [hst1]; rfl)
     clear hst1
     go_wp2_with fail
     (with_reducible refine hcl1.out.mono ?_)
     rintro e w12 ⟨rfl, hp1⟩
     have HZ1 := hid_mk (StPost.trans HY1.out.2.1 HY1.out.2.2 hp1)
     clear hp1 hcl1
     cases hg4 : (k == 3) with
     | false =>
       have ki4 : ((k : Int) == 3) = false := by rw [Bool.eq_false_iff] at hg4 ⊢; intro h; apply hg4; simp at h ⊢; omega
       go_wp2_with fail
       go_end0
       refine ⟨rfl, ?_⟩
       have hRR : R = st1 := by rw [HR.out]; simp [closeS, hg1, hk1, hft1.out, hg4]
       rw [hRR]
       exact HZ1.out
     | true =>
       have ki4 : ((k : Int) == 3) = true := by simp at hg4 ⊢; omega
       obtain ⟨cs4, hs4, hbu4, hch4⟩ := HZ1.out
       obtain ⟨sv4, c4, hr4⟩ := hs4.cell
       have hfd4 := opField2 (topO (st1))
       have ht4 := hid_mk (top_any B sv4 (st1) _ hr4 (by omega))
       unfold opA at ht4
       have HX4 := hid_mk (And.intro hs4 (And.intro hbu4 hch4))
       clear hs4 hbu4 hch4 hr4
       go_wp2_with fail
       (with_reducible refine ht4.out.mono ?_)
       rintro e w41 ⟨rfl, hb4⟩
       have HY4 := hid_mk (And.intro (HX4.out.1.below hb4) (And.intro HX4.out.2.1 (HX4.out.2.2.trans (.of hb4))))
       clear hb4 ht4 c4
       cases hk4 : ((topO (st1)).kind == 3) with
       | false =>
         have ki24 : (((topO (st1)).kind : Int) == 3) = false := by rw [Bool.eq_false_iff] at hk4 ⊢; intro h; apply hk4; simp at h ⊢; omega
         have HZ4 := hid_mk (show StPost B b q cs T (st1) w w41 from ⟨cs4, HY4.out.1, HY4.out.2.1, HY4.out.2.2⟩)
         go_wp2_with fail
         go_end0
         refine ⟨rfl, ?_⟩
         have hRR : R = st1 := by rw [HR.out]; simp [closeS, hg1, hk1, hft1.out, hg4, hk4]
         rw [hRR]
         exact HZ4.out
       | true =>
         have ki24 : (((topO (st1)).kind : Int) == 3) = true := by simp at hk4 ⊢; omega
         obtain ⟨o4, st4, hst4⟩ : ∃ o st', st1 = o :: st' := by
          cases hc : st1 with
          | nil => rw [hc] at hk4; exact absurd hk4 (by decide)
          | cons o t => exact ⟨o, t, rfl⟩
         have hlen4 : st4.length ≤ 10000 := by have := congrArg List.length hst4; simp at this; omega
         have hcl4 := hid_mk (close_st (o := o4) (st := st4) (hst4 ▸ HY4.out.1) hlen4)
         have hft4 := hid_mk (show (st1).tail = st4 by rw [hst4]; rfl)
         clear hst4
         go_wp2_with fail
         (with_reducible refine hcl4.out.mono ?_)
         rintro e w42 ⟨rfl, hp4⟩
         have HZ4 := hid_mk (StPost.trans HY4.out.2.1 HY4.out.2.2 hp4)
         clear hp4 hcl4
         go_wp2_with fail
         go_end0
         refine ⟨rfl, ?_⟩
         have hRR : R = st4 := by rw [HR.out]; simp [closeS, hg1, hk1, hft1.out, hg4, hk4, hft4.out]
         rw [hRR]
         exact HZ4.out
end Go.Proofs.YtlcijlklbabajaaGreatDoor
namespace Go.Proofs.YtlcijlklbabajaaGreatDoor
open Go.RowKit
/-- Kind tells an element's kind. -/
def KindC : Prop := ∀ (s : ByteArray) (w : World), s.size ≤ 1000000000 → Calls Tryz.prog 53 #[.string s] w fun e w' => e = .returned (.int .u8 (kindL (sl s) : Int)) ∧ Below w.heap.size w w'
def EndPost (B b q : Nat) (cs : Array Value) (T : TypeId) (nm : List UInt8) (st : List Opn) (w : World) (e : Ending) (w' : World) : Prop :=
 match closeE nm st with
 | some st' => e = .returned (.bool true) ∧ StPost B b q cs T st' w w'
 | none => e = .returned (.bool false) ∧ ∃ st', StPost B b q cs T st' w w'
theorem closeE_some {nm : List UInt8} {st st1 : List Opn} (h : (st.dropWhile fun o => endsToo (kindL nm) o.kind) = st1) (hn : (topO st1).name = nm) : closeE nm st = some st1.tail := by
 unfold closeE
 simp only [h]
 rw [if_pos (by rw [hn]; exact beq_self_eq_true _)]
theorem closeE_none {nm : List UInt8} {st st1 : List Opn} (h : (st.dropWhile fun o => endsToo (kindL nm) o.kind) = st1) (hn : (topO st1).name ≠ nm) : closeE nm st = none := by
 unfold closeE
 simp only [h]
 rw [if_neg (by rw [beq_false_of_ne hn]; exact Bool.false_ne_true)]
set_option maxHeartbeats 4000000 in
set_option maxRecDepth 100000 in
theorem closeForEnd_st (hK : KindC) {B b q : Nat} {cs : Array Value} {T : TypeId} (nm : ByteArray) {st : List Opn} {w : World} (h : StackAt B b q cs T st w) (hl : st.length ≤ 10000) (hs : nm.size ≤ 1000000000) (hne : sl nm ≠ []) :
 Calls Tryz.prog 105 #[.pointer (some ⟨b, q, none⟩), .string nm] w (EndPost B b q cs T (sl nm) st w) := by
 have hk := hid_mk (hK nm w hs)
 have H0 := hid_mk h
 obtain ⟨k, hkk⟩ : ∃ k, k = kindL (sl nm) := ⟨_, rfl⟩
 rw [← hkk] at hk
 have HKK := hid_mk hkk
 have HNE := hid_mk hne
 clear hK h hkk hne
 go_enter Tryz.func105, Tryz.ntmps105
 go_wp2_with fail
 (with_reducible refine hk.out.mono ?_)
 rintro e w1 ⟨rfl, hb1⟩
 have H1 := hid_mk (show StPost B b q cs T st w w1 from (StPost.refl H0.out).below hb1)
 clear hb1 hk H0
 go_wp2_with fail
 go_loopg [] st.length (fun gh wx => ∃ st1 : List Opn, gh = st1.length ∧ st1.length ≤ 10000 ∧ Hid ((st.dropWhile fun o => endsToo k o.kind) = (st1.dropWhile fun o => endsToo k o.kind)) ∧ Hid (StPost B b q cs T st1 w wx))
 case atStart => exact ⟨st, rfl, hl, hid_mk rfl, H1⟩
 case round =>
  obtain ⟨st1, rfl, hl1, hdw, HP⟩ := hrel
  clear H1
  obtain ⟨cs1, hs1, hbu1, hch1⟩ := HP.out
  obtain ⟨sv1, c1, hr1⟩ := hs1.cell
  have hfd := opField2 (topO st1)
  have ht1 := hid_mk (top_any B sv1 st1 _ hr1 (by omega))
  unfold opA at ht1
  have HX := hid_mk (And.intro hs1 (And.intro hbu1 hch1))
  have het := hid_mk (fun w => endsToo_any k (topO st1).kind w)
  clear hs1 hbu1 hch1 hr1 HP
  go_wp2_with fail
  (with_reducible refine ht1.out.mono ?_)
  rintro e w2 ⟨rfl, hb2⟩
  have HY := hid_mk (And.intro (HX.out.1.below hb2) (And.intro HX.out.2.1 (HX.out.2.2.trans (.of hb2))))
  clear hb2 ht1 c1 HX
  go_wp2_with fail
  (with_reducible refine (het.out _).mono ?_)
  rintro e w3 ⟨rfl, rfl⟩
  clear het
  cases htt : endsToo k (topO st1).kind with
  | true =>
    obtain ⟨o, t, hst⟩ : ∃ o t, st1 = o :: t := by
     cases hc : st1 with
     | nil =>
       rw [hc] at htt
       exfalso
       revert htt
       show endsToo k 0 = true → False
       unfold endsToo
       split
       ·decide
       ·split
        ·decide
        ·intro h; cases h
     | cons o t => exact ⟨o, t, rfl⟩
    have hlen : t.length ≤ 10000 := by have := congrArg List.length hst; simp at this; omega
    have hglen : t.length < st1.length := by rw [hst]; simp
    have hcl := hid_mk (close_st (o := o) (st := t) (hst ▸ HY.out.1) hlen)
    have HD := hid_mk (show (st.dropWhile fun o => endsToo k o.kind) = (t.dropWhile fun o => endsToo k o.kind) by
     rw [hdw.out, hst, List.dropWhile_cons, show endsToo k o.kind = true by rw [hst] at htt; exact htt]
     rfl)
    clear hst hdw
    go_wp2_with fail
    (with_reducible refine hcl.out.mono ?_)
    rintro e w4 ⟨rfl, hp⟩
    have HZ := hid_mk (StPost.trans HY.out.2.1 HY.out.2.2 hp)
    clear hp hcl HY
    go_wp2_with fail
    go_roundg t.length
    case measure => omega
    case rel => exact ⟨t, rfl, hlen, HD, HZ⟩
  | false =>
    have HDW := hid_mk (show (st.dropWhile fun o => endsToo (kindL (sl nm)) o.kind) = st1 by
     rw [← HKK.out, hdw.out]
     cases hc : st1 with
     | nil => rfl
     | cons o t =>
       rw [List.dropWhile_cons, show endsToo k o.kind = false by rw [hc] at htt; exact htt]
       rfl)
    obtain ⟨hs2, hbu2, hch2⟩ := HY.out
    obtain ⟨sv2, c2, hr2⟩ := hs2.cell
    have hfn := opField1 (topO st1)
    have ht2 := hid_mk (top_any B sv2 st1 _ hr2 (by omega))
    unfold opA at ht2
    clear hs2 hbu2 hch2 hr2 hdw
    go_wp2_with fail
    (with_reducible refine ht2.out.mono ?_)
    rintro e w5 ⟨rfl, hb5⟩
    have HV := hid_mk (And.intro (HY.out.1.below hb5) (And.intro HY.out.2.1 (HY.out.2.2.trans (.of hb5))))
    clear hb5 ht2 c2 HY
    by_cases hn : (topO st1).name = sl nm
    ·have heq : ((strOf (topO st1).name).toList == nm.toList) = true := by rw [toList_strOf, Lib.toList_data]; rw [hn]; exact beq_self_eq_true _
     have heq' : ((strOf (topO st1).name).toList != nm.toList) = false := by rw [bne, heq]; rfl
     have HF := hid_mk (closeE_some HDW.out hn)
     obtain ⟨o, t, hst⟩ : ∃ o t, st1 = o :: t := by
      cases hc : st1 with
      | nil => rw [hc] at hn; exact absurd hn.symm HNE.out
      | cons o t => exact ⟨o, t, rfl⟩
     have hlen : t.length ≤ 10000 := by have := congrArg List.length hst; simp at this; omega
     have hcl := hid_mk (close_st (o := o) (st := t) (hst ▸ HV.out.1) hlen)
     have HTL := hid_mk (show st1.tail = t by rw [hst]; rfl)
     clear hst hn
     go_wp2_with fail
     (with_reducible refine hcl.out.mono ?_)
     rintro e w6 ⟨rfl, hp⟩
     have HZ := hid_mk (StPost.trans HV.out.2.1 HV.out.2.2 hp)
     clear hp hcl HV
     go_wp2_with fail
     go_ret
     unfold EndPost
     rw [HF.out, HTL.out]
     exact ⟨rfl, HZ.out⟩
    ·have heq : ((strOf (topO st1).name).toList == nm.toList) = false := by rw [toList_strOf, Lib.toList_data]; exact beq_false_of_ne hn
     have heq' : ((strOf (topO st1).name).toList != nm.toList) = true := by rw [bne, heq]; rfl
     have HF := hid_mk (closeE_none HDW.out hn)
     clear hn
     go_wp2_with fail
     go_ret
     unfold EndPost
     rw [HF.out]
     exact ⟨rfl, st1, cs1, HV.out.1, HV.out.2.1, HV.out.2.2⟩
end Go.Proofs.YtlcijlklbabajaaGreatDoor
