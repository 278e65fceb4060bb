/-
  Package serial's page: what writeTree's closure does with a node that is neither text nor element. Conditions: the tree lies below the page; what the closure does with the children is told.
-/
import Derived.Test.YtnooofnlbfhopaaDoorSStart
import Derived.Test.YtnooofnlbfhopaaDoorRRt5
namespace Go.Proofs.YtnooofnlbfhopaaDoor.Pg
open Go.RowKit
/-- What the closure has caught: the page, the tree, itself. -/
structure Bxs (g1 g2 g3 b : Nat) (a : Option Addr) (m c : Nat) (w : World) : Prop where
  page : w.heap[g1]? = some (.cells #[.pointer (some ⟨b, 0, none⟩)] 70 (0, 0))
  tree : w.heap[g2]? = some (.cells #[.slice a m c] 37 (0, 0))
  self : w.heap[g3]? = some (.cells #[.func (.func 38) #[] #[.pointer (some ⟨g2, 0, none⟩), .pointer (some ⟨g1, 0, none⟩), .pointer (some ⟨g3, 0, none⟩)]] 71 (0, 0))
theorem keep_blk {B b g : Nat} {C : Array Value} {T : TypeId} {st : Pst} {w w' : World} (h : w.heap[g]? = some (.cells C T (0, 0))) (h1 : T ≠ 61) (h2 : T ≠ 5) (hp : PageM B b st w) (hc : DChg B b w w') : w'.heap[g]? = some (.cells C T (0, 0)) := by
  obtain ⟨cs, hb, _⟩ := hp
  refine hc.blocks g _ h (fun e => ?_) (.inr fun cs fr e => ?_)
  · subst e
    rw [hb.1] at h
    injection h with h
    injection h with _ h3
    exact h1 h3.symm
  · injection e with _ h3
    exact h2 h3
theorem Bxs.chg {g1 g2 g3 B b : Nat} {a : Option Addr} {m c : Nat} {st : Pst} {w w' : World} (h : Bxs g1 g2 g3 b a m c w) (hp : PageM B b st w) (hc : DChg B b w w') : Bxs g1 g2 g3 b a m c w' :=
  ⟨keep_blk h.page (by decide) (by decide) hp hc, keep_blk h.tree (by decide) (by decide) hp hc, keep_blk h.self (by decide) (by decide) hp hc⟩
theorem Bxs.cells {g1 g2 g3 b : Nat} {a : Option Addr} {m c : Nat} {w : World} (h : Bxs g1 g2 g3 b a m c w) : w.cell? ⟨g1, 0, none⟩ = some (.pointer (some ⟨b, 0, none⟩)) ∧ w.cell? ⟨g2, 0, none⟩ = some (.slice a m c) ∧ w.cell? ⟨g3, 0, none⟩ = some (.func (.func 38) #[] #[.pointer (some ⟨g2, 0, none⟩), .pointer (some ⟨g1, 0, none⟩), .pointer (some ⟨g3, 0, none⟩)]) := by
  refine ⟨?_, ?_, ?_⟩
  · rw [cell_of_row w g1 0 _ _ _ h.page]; rfl
  · rw [cell_of_row w g2 0 _ _ _ h.tree]; rfl
  · rw [cell_of_row w g3 0 _ _ _ h.self]; rfl
def NodeC (B b g1 g2 g3 : Nat) (a : Option Addr) (m c : Nat) (w0 : World) (nd : Pst → Nat → Pst) (k : Nat) : Prop :=
  ∀ (st : Pst) (w : World), PageM B b st w → Bxs g1 g2 g3 b a m c w → Below B w0 w → Calls Tryd.prog 38 #[.int .i64 (k : Int), .pointer (some ⟨g2, 0, none⟩), .pointer (some ⟨g1, 0, none⟩), .pointer (some ⟨g3, 0, none⟩)] w fun e w' => e = .returned (.tuple #[]) ∧ PageM B b (nd st k) w' ∧ DChg B b w w'
set_option maxHeartbeats 4000000 in
set_option maxRecDepth 100000 in
theorem node_other {B b g1 g2 g3 : Nat} {x : Addr} {c : Nat} {ns : List NxM} {w0 : World} (nd : Pst → Nat → Pst) (i : Nat) (hi : i < ns.length) (hB : B = w0.heap.size) (ht : HasTree w0 (some x) ns) (hks : ns[i].1.kids.length ≤ 1000000000)
    (hup : ∀ k ∈ ns[i].1.kids, (i : Int) < k ∧ k < (ns.length : Int)) (hIH : ∀ k, i < k → k < ns.length → NodeC B b g1 g2 g3 (some x) ns.length c w0 nd k) (hk1 : ns[i].1.kind ≠ 1) (hk2 : ns[i].1.kind ≠ 2) (st : Pst) (w : World) (h : PageM B b st w) (hx : Bxs g1 g2 g3 b (some x) ns.length c w) (hw : Below B w0 w) :
    Calls Tryd.prog 38 #[.int .i64 (i : Int), .pointer (some ⟨g2, 0, none⟩), .pointer (some ⟨g1, 0, none⟩), .pointer (some ⟨g3, 0, none⟩)] w fun e w' => e = .returned (.tuple #[]) ∧ PageM B b (ns[i].1.kids.foldl (fun s k => nd s k.toNat) st) w' ∧ DChg B b w w' := by
  obtain ⟨b1, b2, b3⟩ := hx.cells
  obtain ⟨n0, n1, n2, n3, n4, n5⟩ := (ht.below (by rw [← hB]; exact hw)).six hi
  obtain ⟨aa, ac, hav, _, _⟩ := ht.attrs _ (List.getElem_mem hi)
  obtain ⟨ka, kc, hkv, hkrow⟩ := ht.kids _ (List.getElem_mem hi)
  rw [hav] at n2
  rw [hkv] at n5
  generalize (ns[i]).1 = t at *
  have H := hid_mk (And.intro h (And.intro hx (And.intro hw hB)))
  have HUP := hid_mk hup
  have HIH := hid_mk hIH
  have HKR := hid_mk hkrow
  have q1 : ((t.kind : Int) == 1) = false := beq_false_of_ne (by omega)
  have q2 : ((t.kind : Int) == 2) = false := beq_false_of_ne (by omega)
  obtain ⟨m, hmm⟩ : ∃ m, m = ns.length := ⟨_, rfl⟩
  have him : (i : Int) < (m : Int) := by omega
  have HM := hid_mk (And.intro hmm hi)
  rw [← hmm] at b2
  clear hav hkv hkrow hup hIH h hx hw hB hi hk1 hk2 ht hmm
  go_enter Tryd.func38, Tryd.ntmps38
  go_wp2_with fail
  obtain ⟨wl, hwl⟩ : ∃ wl, wl = w.alloc (.cells #[.int .u8 (t.kind : Int), .string (strOf t.name), .slice aa t.attrs.length ac, .string (strOf t.data), .int .i64 t.up, .slice ka t.kids.length kc] 33) := ⟨_, rfl⟩
  have hbl : Below w.heap.size w wl := by rw [hwl]; exact (Below.refl _ _).alloc (Nat.le_refl _) _
  have hna : NodeAt w.heap.size t (.slice aa t.attrs.length ac) (.slice ka t.kids.length kc) wl := by unfold NodeAt; rw [hwl]; exact heap_alloc_new w _
  have hBw : B ≤ w.heap.size := by rw [H.out.2.2.2]; exact H.out.2.2.1.size
  have HS := hid_mk (show PageM B b ((t.kids.take 0).foldl (fun s k => nd s k.toNat) st) wl ∧ Bxs g1 g2 g3 b (some x) ns.length c wl ∧ Below B w0 wl ∧ NodeAt w.heap.size t (.slice aa t.attrs.length ac) (.slice ka t.kids.length kc) wl ∧ DChg B b w wl from
    ⟨H.out.1.below hbl, H.out.2.1.chg H.out.1 (.of hbl), H.out.2.2.1.trans (hbl.mono hBw), hna, .of hbl⟩)
  rw [← hwl]
  have HBW := hid_mk hBw
  clear hwl hbl hna hBw
  go_loopw [28] (fun vj wr => ∃ j : Nat, vj = .int .i64 j ∧ j ≤ t.kids.length ∧ Hid (PageM B b ((t.kids.take j).foldl (fun s k => nd s k.toNat) st) wr ∧ Bxs g1 g2 g3 b (some x) ns.length c wr ∧ Below B w0 wr ∧ NodeAt w.heap.size t (.slice aa t.attrs.length ac) (.slice ka t.kids.length kc) wr ∧ DChg B b w wr)) (fun vj _ => t.kids.length - (intOf vj).toNat)
  case atStart => exact ⟨0, rfl, Nat.zero_le _, HS⟩
  case round =>
    obtain ⟨j, rfl, hj, HW⟩ := hrel
    by_cases hjl : j < t.kids.length
    · have hji : (j : Int) < (t.kids.length : Int) := by omega
      obtain ⟨y, hy, _, d0⟩ := (HKR.out.below (by rw [← H.out.2.2.2]; exact HW.out.2.2.1)).ints hjl
      subst hy
      obtain ⟨k1, k2⟩ := HUP.out _ (List.getElem_mem hjl)
      obtain ⟨kk, hkk⟩ : ∃ kk : Nat, t.kids[j] = (kk : Int) := ⟨t.kids[j].toNat, by omega⟩
      have HX := hid_mk (show (t.kids.take (j + 1)).foldl (fun s k => nd s k.toNat) st = nd ((t.kids.take j).foldl (fun s k => nd s k.toNat) st) kk by
        rw [List.take_succ_eq_append_getElem hjl, List.foldl_append, hkk]
        rfl)
      rw [hkk] at k1 k2 d0
      have c3 := HW.out.2.1.cells.2.2
      have HCL := hid_mk (HIH.out kk (by omega) (by omega) _ _ HW.out.1 HW.out.2.1 HW.out.2.2.1)
      clear hkk k1 k2
      go_wp2_with fail
      with_reducible refine HCL.out.mono ?_
      rintro e1 w1 ⟨rfl, hp1, hd1⟩
      have HW1 := hid_mk (show PageM B b ((t.kids.take (j + 1)).foldl (fun s k => nd s k.toNat) st) w1 ∧ Bxs g1 g2 g3 b (some x) ns.length c w1 ∧ Below B w0 w1 ∧ NodeAt w.heap.size t (.slice aa t.attrs.length ac) (.slice (some y) t.kids.length kc) w1 ∧ DChg B b w w1 from
        ⟨by rw [HX.out]; exact hp1, HW.out.2.1.chg HW.out.1 hd1, HW.out.2.2.1.trans (hd1.low H.out.1.at.1 (Nat.le_trans HBW.out HW.out.2.2.2.2.size)), keep_blk HW.out.2.2.2.1 (by decide) (by decide) HW.out.1 hd1, HW.out.2.2.2.2.trans hd1⟩)
      clear hp1 hd1 HCL
      go_wp2_with fail
      go_roundw
      case rel => exact ⟨j + 1, by go_num, by omega, HW1⟩
      case measure => simp [intOf]; omega
    · have hji : ¬ (j : Int) < (t.kids.length : Int) := by omega
      have HF := hid_mk (show PageM B b (t.kids.foldl (fun s k => nd s k.toNat) st) wr ∧ DChg B b w wr by
        have := HW.out
        rw [List.take_of_length_le (by omega)] at this
        exact ⟨this.1, this.2.2.2.2⟩)
      have e0 := HW.out.2.2.2.1.cells.1
      have e1 := HW.out.2.2.2.1.cells.2.1
      clear HW
      go_wp2_with fail
      go_end0
      exact ⟨rfl, HF.out⟩
end Go.Proofs.YtnooofnlbfhopaaDoor.Pg
