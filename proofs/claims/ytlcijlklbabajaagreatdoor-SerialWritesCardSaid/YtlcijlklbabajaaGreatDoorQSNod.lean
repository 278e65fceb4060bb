/-
  Package serial's page: what writeTree's closure does with a node that is neither text nor element. Conditions: the tree lies below the page; what the closure does with the children is told.
-/
import Derived.Test.YtlcijlklbabajaaGreatDoorQSPgS
import Derived.Test.YtlcijlklbabajaaGreatDoorQRR45
namespace Go.Proofs.YtlcijlklbabajaaGreatDoor.R.Pg
open Go.RowKit
/-- What the closure has caught: the page, the tree, itself. -/
structure Bxs (g1 g2 g3 b : Nat) (a : Option Addr) (m c : Nat) (w : World) : Prop where
 page : w.heap[g1]? = some (.cells #[.pointer (some ⟨b, 0, none⟩)] 125 (0, 0))
 tree : w.heap[g2]? = some (.cells #[.slice a m c] 28 (0, 0))
 self : w.heap[g3]? = some (.cells #[.func (.func 90) #[] #[.pointer (some ⟨g2, 0, none⟩), .pointer (some ⟨g1, 0, none⟩), .pointer (some ⟨g3, 0, none⟩)]] 126 (0, 0))
theorem keep_blk {B b g : Nat} {C : Array Value} {T : TypeId} {st : Pst} {w w' : World} (h : w.heap[g]? = some (.cells C T (0, 0))) (h1 : T ≠ 80) (h2 : T ≠ 5) (hp : PageM B b st w) (hc : DChg B b w w') : w'.heap[g]? = some (.cells C T (0, 0)) := by
 obtain ⟨cs, hb, _⟩ := hp
 refine hc.blocks g _ h (fun e => ?_) (.inr fun cs fr e => ?_)
 ·subst e
  rw [hb.1] at h
  injection h with h
  injection h with _ h3
  exact h1 h3.symm
 ·injection e with _ h3
  exact h2 h3
theorem Bxs.chg {g1 g2 g3 B b : Nat} {a : Option Addr} {m c : Nat} {st : Pst} {w w' : World} (h : Bxs g1 g2 g3 b a m c w) (hp : PageM B b st w) (hc : DChg B b w w') : Bxs g1 g2 g3 b a m c w' :=
 ⟨keep_blk h.page (by decide) (by decide) hp hc, keep_blk h.tree (by decide) (by decide) hp hc, keep_blk h.self (by decide) (by decide) hp hc⟩
theorem Bxs.cells {g1 g2 g3 b : Nat} {a : Option Addr} {m c : Nat} {w : World} (h : Bxs g1 g2 g3 b a m c w) : w.cell? ⟨g1, 0, none⟩ = some (.pointer (some ⟨b, 0, none⟩)) ∧ w.cell? ⟨g2, 0, none⟩ = some (.slice a m c) ∧ w.cell? ⟨g3, 0, none⟩ = some (.func (.func 90) #[] #[.pointer (some ⟨g2, 0, none⟩), .pointer (some ⟨g1, 0, none⟩), .pointer (some ⟨g3, 0, none⟩)]) := by
 refine ⟨?_, ?_, ?_⟩
 ·rw [cell_of_row w g1 0 _ _ _ h.page]; rfl
 ·rw [cell_of_row w g2 0 _ _ _ h.tree]; rfl
 ·rw [cell_of_row w g3 0 _ _ _ h.self]; rfl
def NodeC (B b g1 g2 g3 : Nat) (a : Option Addr) (m c : Nat) (w0 : World) (nd : Pst → Nat → Pst) (k : Nat) : Prop :=
 ∀ (st : Pst) (w : World), PageM B b st w → Bxs g1 g2 g3 b a m c w → Below B w0 w → Calls Tryz.prog 90 #[.int .i64 (k : Int), .pointer (some ⟨g2, 0, none⟩), .pointer (some ⟨g1, 0, none⟩), .pointer (some ⟨g3, 0, none⟩)] w fun e w' => e = .returned (.tuple #[]) ∧ PageM B b (nd st k) w' ∧ DChg B b w w'
set_option maxHeartbeats 4000000 in
set_option maxRecDepth 100000 in
theorem node_other {B b g1 g2 g3 : Nat} {x : Addr} {c : Nat} {ns : List NxM} {w0 : World} (nd : Pst → Nat → Pst) (i : Nat) (hi : i < ns.length) (hB : B = w0.heap.size) (ht : HasTree w0 (some x) ns) (hks : ns[i].1.kids.length ≤ 1000000000)
 (hup : ∀ k ∈ ns[i].1.kids, (i : Int) < k ∧ k < (ns.length : Int)) (hIH : ∀ k, i < k → k < ns.length → NodeC B b g1 g2 g3 (some x) ns.length c w0 nd k) (hk1 : ns[i].1.kind ≠ 1) (hk2 : ns[i].1.kind ≠ 2) (st : Pst) (w : World) (h : PageM B b st w) (hx : Bxs g1 g2 g3 b (some x) ns.length c w) (hw : Below B w0 w) :
 Calls Tryz.prog 90 #[.int .i64 (i : Int), .pointer (some ⟨g2, 0, none⟩), .pointer (some ⟨g1, 0, none⟩), .pointer (some ⟨g3, 0, none⟩)] w fun e w' => e = .returned (.tuple #[]) ∧ PageM B b (ns[i].1.kids.foldl (fun s k => nd s k.toNat) st) w' ∧ DChg B b w w' := by
 obtain ⟨b1, b2, b3⟩ := hx.cells
 obtain ⟨n0, n1, n2, n3, n4, n5⟩ := (ht.below (by rw [← hB]; exact hw)).six hi
 obtain ⟨aa, ac, hav, _, _⟩ := ht.attrs _ (List.getElem_mem hi)
 obtain ⟨ka, kc, hkv, hkrow⟩ := ht.kids _ (List.getElem_mem hi)
 rw [hav] at n2
 rw [hkv] at n5
 generalize (ns[i]).1 = t at *
 have H := hid_mk (And.intro h (And.intro hx (And.intro hw hB)))
 have HUP := hid_mk hup
 have HIH := hid_mk hIH
 have HKR := hid_mk hkrow
 have q1 : ((t.kind : Int) == 1) = false := beq_false_of_ne (by omega)
 have q2 : ((t.kind : Int) == 2) = false := beq_false_of_ne (by omega)
 obtain ⟨m, hmm⟩ : ∃ m, m = ns.length := ⟨_, rfl⟩
 have him : (i : Int) < (m : Int) := by omega
 have HM := hid_mk (And.intro hmm hi)
 rw [← hmm] at b2
 clear hav hkv hkrow hup hIH h hx hw hB hi hk1 hk2 ht hmm
 go_enter Tryz.func90, Tryz.ntmps90
 go_wp2_with fail
 obtain ⟨wl, hwl⟩ : ∃ wl, wl = w.alloc (.cells #[.int .u8 (t.kind : Int), .string (strOf t.name), .slice aa t.attrs.length ac, .string (strOf t.data), .int .i64 t.up, .slice ka t.kids.length kc] 38) := ⟨_, rfl⟩
 have hbl : Below w.heap.size w wl := by rw [hwl]; exact (Below.refl _ _).alloc (Nat.le_refl _) _
 have hna : NodeAt w.heap.size t (.slice aa t.attrs.length ac) (.slice ka t.kids.length kc) wl := by unfold NodeAt; rw [hwl]; exact heap_alloc_new w _
 have hBw : B ≤ w.heap.size := by rw [H.out.2.2.2]; exact H.out.2.2.1.size
 have HS := hid_mk (show PageM B b ((t.kids.take 0).foldl (fun s k => nd s k.toNat) st) wl ∧ Bxs g1 g2 g3 b (some x) ns.length c wl ∧ Below B w0 wl ∧ NodeAt w.heap.size t (.slice aa t.attrs.length ac) (.slice ka t.kids.length kc) wl ∧ DChg B b w wl from
  ⟨H.out.1.below hbl, H.out.2.1.chg H.out.1 (.of hbl), H.out.2.2.1.trans (hbl.mono hBw), hna, .of hbl⟩)
 rw [← hwl]
 have HBW := hid_mk hBw
 clear hwl hbl hna hBw
 go_loopw [28] (fun vj wr => ∃ j : Nat, vj = .int .i64 j ∧ j ≤ t.kids.length ∧ Hid (PageM B b ((t.kids.take j).foldl (fun s k => nd s k.toNat) st) wr ∧ Bxs g1 g2 g3 b (some x) ns.length c wr ∧ Below B w0 wr ∧ NodeAt w.heap.size t (.slice aa t.attrs.length ac) (.slice ka t.kids.length kc) wr ∧ DChg B b w wr)) (fun vj _ => t.kids.length - (intOf vj).toNat)
 case atStart => exact ⟨0, rfl, Nat.zero_le _, HS⟩
 case round =>
  obtain ⟨j, rfl, hj, HW⟩ := hrel
  by_cases hjl : j < t.kids.length
  ·have hji : (j : Int) < (t.kids.length : Int) := by omega
   obtain ⟨y, hy, _, d0⟩ := (HKR.out.below (by rw [← H.out.2.2.2]; exact HW.out.2.2.1)).ints hjl
   subst hy
   obtain ⟨k1, k2⟩ := HUP.out _ (List.getElem_mem hjl)
   obtain ⟨kk, hkk⟩ : ∃ kk : Nat, t.kids[j] = (kk : Int) := ⟨t.kids[j].toNat, by omega⟩
   have HX := hid_mk (show (t.kids.take (j + 1)).foldl (fun s k => nd s k.toNat) st = nd ((t.kids.take j).foldl (fun s k => nd s k.toNat) st) kk by
    rw [List.take_succ_eq_append_getElem hjl, List.foldl_append, hkk]
    rfl)
   rw [hkk] at k1 k2 d0
   have c3 := HW.out.2.1.cells.2.2
   have HCL := hid_mk (HIH.out kk (by omega) (by omega) _ _ HW.out.1 HW.out.2.1 HW.out.2.2.1)
   clear hkk k1 k2
   go_wp2_with fail
   with_reducible refine HCL.out.mono ?_
   rintro e1 w1 ⟨rfl, hp1, hd1⟩
   have HW1 := hid_mk (show PageM B b ((t.kids.take (j + 1)).foldl (fun s k => nd s k.toNat) st) w1 ∧ Bxs g1 g2 g3 b (some x) ns.length c w1 ∧ Below B w0 w1 ∧ NodeAt w.heap.size t (.slice aa t.attrs.length ac) (.slice (some y) t.kids.length kc) w1 ∧ DChg B b w w1 from
    ⟨by rw [HX.out]; exact hp1, HW.out.2.1.chg HW.out.1 hd1, HW.out.2.2.1.trans (hd1.low H.out.1.at.1 (Nat.le_trans HBW.out HW.out.2.2.2.2.size)), keep_blk HW.out.2.2.2.1 (by decide) (by decide) HW.out.1 hd1, HW.out.2.2.2.2.trans hd1⟩)
   clear hp1 hd1 HCL
   go_wp2_with fail
   go_roundw
   case rel => exact ⟨j + 1, by go_num, by omega, HW1⟩
   case measure => simp [intOf]; omega
  ·have hji : ¬ (j : Int) < (t.kids.length : Int) := by omega
   have HF := hid_mk (show PageM B b (t.kids.foldl (fun s k => nd s k.toNat) st) wr ∧ DChg B b w wr by
    have := HW.out
    rw [List.take_of_length_le (by omega)] at this
    exact ⟨this.1, this.2.2.2.2⟩)
   have e0 := HW.out.2.2.2.1.cells.1
   have e1 := HW.out.2.2.2.1.cells.2.1
   clear HW
   go_wp2_with fail
   go_end0
   exact ⟨rfl, HF.out⟩
end Go.Proofs.YtlcijlklbabajaaGreatDoor.R.Pg
namespace Go.Proofs.YtlcijlklbabajaaGreatDoor.R.Pg
open Go.RowKit
set_option maxHeartbeats 4000000 in
set_option maxRecDepth 100000 in
theorem node_text {B b g1 g2 g3 : Nat} {x : Addr} {c : Nat} {ns : List NxM} {w0 : World} (nd : Pst → Nat → Pst) (i : Nat) (hi : i < ns.length) (hB : B = w0.heap.size) (ht : HasTree w0 (some x) ns) (hks : ns[i].1.kids.length ≤ 1000000000)
 (hup : ∀ k ∈ ns[i].1.kids, (i : Int) < k ∧ k < (ns.length : Int)) (hIH : ∀ k, i < k → k < ns.length → NodeC B b g1 g2 g3 (some x) ns.length c w0 nd k) (hok : NxOk ns[i].1) (hk2 : ns[i].1.kind = 2) (st : Pst) (w : World) (h : PageM B b st w) (hx : Bxs g1 g2 g3 b (some x) ns.length c w) (hw : Below B w0 w) :
 Calls Tryz.prog 90 #[.int .i64 (i : Int), .pointer (some ⟨g2, 0, none⟩), .pointer (some ⟨g1, 0, none⟩), .pointer (some ⟨g3, 0, none⟩)] w fun e w' => e = .returned (.tuple #[]) ∧ PageM B b (ns[i].1.kids.foldl (fun s k => nd s k.toNat) (wrE false st ns[i].1.data)) w' ∧ DChg B b w w' := by
 obtain ⟨b1, b2, b3⟩ := hx.cells
 have b1' : ∀ o, (w.alloc o).cell? ⟨g1, 0, none⟩ = some (.pointer (some ⟨b, 0, none⟩)) := fun o => by
  rw [((Below.refl w.heap.size w).alloc (Nat.le_refl _) o).cell (p := ⟨g1, 0, none⟩) (Array.getElem?_eq_some_iff.1 hx.page).1]
  exact b1
 obtain ⟨n0, n1, n2, n3, n4, n5⟩ := (ht.below (by rw [← hB]; exact hw)).six hi
 obtain ⟨aa, ac, hav, _, _⟩ := ht.attrs _ (List.getElem_mem hi)
 obtain ⟨ka, kc, hkv, hkrow⟩ := ht.kids _ (List.getElem_mem hi)
 rw [hav] at n2
 rw [hkv] at n5
 generalize (ns[i]).1 = t at *
 have H := hid_mk (And.intro h (And.intro hx (And.intro hw hB)))
 have HUP := hid_mk hup
 have HIH := hid_mk hIH
 have HKR := hid_mk hkrow
 have q1 : ((t.kind : Int) == 1) = false := beq_false_of_ne (by omega)
 have HOK := hid_mk hok
 have q2 : ((t.kind : Int) == 2) = true := by rw [hk2]; rfl
 obtain ⟨m, hmm⟩ : ∃ m, m = ns.length := ⟨_, rfl⟩
 have him : (i : Int) < (m : Int) := by omega
 have HM := hid_mk (And.intro hmm hi)
 rw [← hmm] at b2
 clear hav hkv hkrow hup hIH h hx hw hB hi hok hk2 ht hmm
 obtain ⟨st1, hst1⟩ : ∃ st1, st1 = wrE false st t.data := ⟨_, rfl⟩
 rw [← hst1]
 have HST1 := hid_mk hst1
 clear hst1
 go_enter Tryz.func90, Tryz.ntmps90
 go_wp2_with fail
 obtain ⟨wl, hwl⟩ : ∃ wl, wl = w.alloc (.cells #[.int .u8 (t.kind : Int), .string (strOf t.name), .slice aa t.attrs.length ac, .string (strOf t.data), .int .i64 t.up, .slice ka t.kids.length kc] 38) := ⟨_, rfl⟩
 have hbl : Below w.heap.size w wl := by rw [hwl]; exact (Below.refl _ _).alloc (Nat.le_refl _) _
 have hna : NodeAt w.heap.size t (.slice aa t.attrs.length ac) (.slice ka t.kids.length kc) wl := by unfold NodeAt; rw [hwl]; exact heap_alloc_new w _
 have hBw : B ≤ w.heap.size := by rw [H.out.2.2.2]; exact H.out.2.2.1.size
 have HS0 := hid_mk (show PageM B b st wl ∧ Bxs g1 g2 g3 b (some x) ns.length c wl ∧ Below B w0 wl ∧ NodeAt w.heap.size t (.slice aa t.attrs.length ac) (.slice ka t.kids.length kc) wl ∧ DChg B b w wl from
  ⟨H.out.1.below hbl, H.out.2.1.chg H.out.1 (.of hbl), H.out.2.2.1.trans (hbl.mono hBw), hna, .of hbl⟩)
 rw [← hwl]
 have HBW := hid_mk hBw
 clear hwl hbl hna hBw
 have hwe := writeEscaped_any false 32 st (strOf t.data) wl HS0.out.1 (fun args w' => by kernel_rfl) (fun w' => escapeText_any (strOf t.data) (by rw [size_strOf]; have := HOK.out.2.1; omega) w')
 rw [sl_strOf, ← HST1.out] at hwe
 have HWE := hid_mk hwe
 clear hwe
 with_reducible refine HWE.out.mono ?_
 rintro e9 w9 ⟨rfl, hp9, hd9⟩
 have HS := hid_mk (show PageM B b ((t.kids.take 0).foldl (fun s k => nd s k.toNat) st1) w9 ∧ Bxs g1 g2 g3 b (some x) ns.length c w9 ∧ Below B w0 w9 ∧ NodeAt w.heap.size t (.slice aa t.attrs.length ac) (.slice ka t.kids.length kc) w9 ∧ DChg B b w w9 from
  ⟨hp9, HS0.out.2.1.chg HS0.out.1 hd9, HS0.out.2.2.1.trans (hd9.low H.out.1.at.1 (Nat.le_trans HBW.out HS0.out.2.2.2.2.size)), keep_blk HS0.out.2.2.2.1 (by decide) (by decide) HS0.out.1 hd9, HS0.out.2.2.2.2.trans hd9⟩)
 have c5 := HS.out.2.2.2.1.cells.2.2.2.2.2
 clear hp9 hd9 HWE
 go_wp2_with fail
 go_loopw [28] (fun vj wr => ∃ j : Nat, vj = .int .i64 j ∧ j ≤ t.kids.length ∧ Hid (PageM B b ((t.kids.take j).foldl (fun s k => nd s k.toNat) st1) wr ∧ Bxs g1 g2 g3 b (some x) ns.length c wr ∧ Below B w0 wr ∧ NodeAt w.heap.size t (.slice aa t.attrs.length ac) (.slice ka t.kids.length kc) wr ∧ DChg B b w wr)) (fun vj _ => t.kids.length - (intOf vj).toNat)
 case atStart => exact ⟨0, rfl, Nat.zero_le _, HS⟩
 case round =>
  obtain ⟨j, rfl, hj, HW⟩ := hrel
  by_cases hjl : j < t.kids.length
  ·have hji : (j : Int) < (t.kids.length : Int) := by omega
   obtain ⟨y, hy, _, d0⟩ := (HKR.out.below (by rw [← H.out.2.2.2]; exact HW.out.2.2.1)).ints hjl
   subst hy
   obtain ⟨k1, k2⟩ := HUP.out _ (List.getElem_mem hjl)
   obtain ⟨kk, hkk⟩ : ∃ kk : Nat, t.kids[j] = (kk : Int) := ⟨t.kids[j].toNat, by omega⟩
   have HX := hid_mk (show (t.kids.take (j + 1)).foldl (fun s k => nd s k.toNat) st1 = nd ((t.kids.take j).foldl (fun s k => nd s k.toNat) st1) kk by
    rw [List.take_succ_eq_append_getElem hjl, List.foldl_append, hkk]
    rfl)
   rw [hkk] at k1 k2 d0
   have c3 := HW.out.2.1.cells.2.2
   have HCL := hid_mk (HIH.out kk (by omega) (by omega) _ _ HW.out.1 HW.out.2.1 HW.out.2.2.1)
   clear hkk k1 k2
   go_wp2_with fail
   with_reducible refine HCL.out.mono ?_
   rintro e1 w1 ⟨rfl, hp1, hd1⟩
   have HW1 := hid_mk (show PageM B b ((t.kids.take (j + 1)).foldl (fun s k => nd s k.toNat) st1) w1 ∧ Bxs g1 g2 g3 b (some x) ns.length c w1 ∧ Below B w0 w1 ∧ NodeAt w.heap.size t (.slice aa t.attrs.length ac) (.slice (some y) t.kids.length kc) w1 ∧ DChg B b w w1 from
    ⟨by rw [HX.out]; exact hp1, HW.out.2.1.chg HW.out.1 hd1, HW.out.2.2.1.trans (hd1.low H.out.1.at.1 (Nat.le_trans HBW.out HW.out.2.2.2.2.size)), keep_blk HW.out.2.2.2.1 (by decide) (by decide) HW.out.1 hd1, HW.out.2.2.2.2.trans hd1⟩)
   clear hp1 hd1 HCL
   go_wp2_with fail
   go_roundw
   case rel => exact ⟨j + 1, by go_num, by omega, HW1⟩
   case measure => simp [intOf]; omega
  ·have hji : ¬ (j : Int) < (t.kids.length : Int) := by omega
   have HF := hid_mk (show PageM B b (t.kids.foldl (fun s k => nd s k.toNat) st1) wr ∧ DChg B b w wr by
    have := HW.out
    rw [List.take_of_length_le (by omega)] at this
    exact ⟨this.1, this.2.2.2.2⟩)
   have e0 := HW.out.2.2.2.1.cells.1
   have e1 := HW.out.2.2.2.1.cells.2.1
   clear HW
   go_wp2_with fail
   go_end0
   exact ⟨rfl, HF.out⟩
end Go.Proofs.YtlcijlklbabajaaGreatDoor.R.Pg
namespace Go.Proofs.YtlcijlklbabajaaGreatDoor.R.Pg
open Go.RowKit
def endP (st : Pst) (name : List UInt8) : Pst := if (kindL name == 7 || kindL name == 8) then st else wrL st [[60, 47], name, [62]]
set_option maxHeartbeats 4000000 in
set_option maxRecDepth 100000 in
theorem node_elem {B b g1 g2 g3 : Nat} {x : Addr} {c : Nat} {ns : List NxM} {w0 : World} (nd : Pst → Nat → Pst) (i : Nat) (hi : i < ns.length) (hB : B = w0.heap.size) (ht : HasTree w0 (some x) ns) (hks : ns[i].1.kids.length ≤ 1000000000)
 (hup : ∀ k ∈ ns[i].1.kids, (i : Int) < k ∧ k < (ns.length : Int)) (hIH : ∀ k, i < k → k < ns.length → NodeC B b g1 g2 g3 (some x) ns.length c w0 nd k) (hok : NxOk ns[i].1) (hal : ns[i].1.attrs.length ≤ 1000000) (hk1 : ns[i].1.kind = 1) (st : Pst) (w : World) (h : PageM B b st w) (hx : Bxs g1 g2 g3 b (some x) ns.length c w) (hw : Below B w0 w) :
 Calls Tryz.prog 90 #[.int .i64 (i : Int), .pointer (some ⟨g2, 0, none⟩), .pointer (some ⟨g1, 0, none⟩), .pointer (some ⟨g3, 0, none⟩)] w fun e w' => e = .returned (.tuple #[]) ∧ PageM B b (endP (ns[i].1.kids.foldl (fun s k => nd s k.toNat) (startP st ns[i].1.name ns[i].1.attrs)) ns[i].1.name) w' ∧ DChg B b w w' := by
 obtain ⟨b1, b2, b3⟩ := hx.cells
 have b1' : ∀ o, (w.alloc o).cell? ⟨g1, 0, none⟩ = some (.pointer (some ⟨b, 0, none⟩)) := fun o => by
  rw [((Below.refl w.heap.size w).alloc (Nat.le_refl _) o).cell (p := ⟨g1, 0, none⟩) (Array.getElem?_eq_some_iff.1 hx.page).1]
  exact b1
 obtain ⟨n0, n1, n2, n3, n4, n5⟩ := (ht.below (by rw [← hB]; exact hw)).six hi
 obtain ⟨aa, ac, hav, _, harow⟩ := ht.attrs _ (List.getElem_mem hi)
 obtain ⟨ka, kc, hkv, hkrow⟩ := ht.kids _ (List.getElem_mem hi)
 rw [hav] at n2
 rw [hkv] at n5
 generalize (ns[i]).1 = t at *
 have H := hid_mk (And.intro h (And.intro hx (And.intro hw hB)))
 have HUP := hid_mk hup
 have HIH := hid_mk hIH
 have HKR := hid_mk hkrow
 have HAR := hid_mk harow
 have q1 : ((t.kind : Int) == 1) = true := by rw [hk1]; rfl
 have HOK := hid_mk hok
 have q2 : ((t.kind : Int) == 2) = false := beq_false_of_ne (by omega)
 have HAL := hid_mk hal
 obtain ⟨m, hmm⟩ : ∃ m, m = ns.length := ⟨_, rfl⟩
 have him : (i : Int) < (m : Int) := by omega
 have HM := hid_mk (And.intro hmm hi)
 rw [← hmm] at b2
 clear hav hkv hkrow harow hup hIH h hx hw hB hi hok hk1 hal ht hmm
 obtain ⟨st1, hst1⟩ : ∃ st1, st1 = startP st t.name t.attrs := ⟨_, rfl⟩
 rw [← hst1]
 have HST1 := hid_mk hst1
 clear hst1
 go_enter Tryz.func90, Tryz.ntmps90
 go_wp2_with fail
 obtain ⟨wl, hwl⟩ : ∃ wl, wl = w.alloc (.cells #[.int .u8 (t.kind : Int), .string (strOf t.name), .slice aa t.attrs.length ac, .string (strOf t.data), .int .i64 t.up, .slice ka t.kids.length kc] 38) := ⟨_, rfl⟩
 have hbl : Below w.heap.size w wl := by rw [hwl]; exact (Below.refl _ _).alloc (Nat.le_refl _) _
 have hna : NodeAt w.heap.size t (.slice aa t.attrs.length ac) (.slice ka t.kids.length kc) wl := by unfold NodeAt; rw [hwl]; exact heap_alloc_new w _
 have hBw : B ≤ w.heap.size := by rw [H.out.2.2.2]; exact H.out.2.2.1.size
 have HS0 := hid_mk (show PageM B b st wl ∧ Bxs g1 g2 g3 b (some x) ns.length c wl ∧ Below B w0 wl ∧ NodeAt w.heap.size t (.slice aa t.attrs.length ac) (.slice ka t.kids.length kc) wl ∧ DChg B b w wl from
  ⟨H.out.1.below hbl, H.out.2.1.chg H.out.1 (.of hbl), H.out.2.2.1.trans (hbl.mono hBw), hna, .of hbl⟩)
 rw [← hwl]
 have HBW := hid_mk hBw
 clear hwl hbl hna hBw
 have hwe := writeStart_any st (.int .u8 (t.kind : Int)) (.string (strOf t.data)) (.int .i64 t.up) (.slice ka t.kids.length kc) t.name t.attrs aa ac w0 wl H.out.2.2.2 HS0.out.2.2.1 HAR.out HAL.out (fun p hp => by have := (HOK.out.2.2 p hp).2; omega) HS0.out.1
 rw [← HST1.out] at hwe
 have HWE := hid_mk hwe
 clear hwe
 with_reducible refine HWE.out.mono ?_
 rintro e9 w9 ⟨rfl, hp9, hd9⟩
 have HS := hid_mk (show PageM B b ((t.kids.take 0).foldl (fun s k => nd s k.toNat) st1) w9 ∧ Bxs g1 g2 g3 b (some x) ns.length c w9 ∧ Below B w0 w9 ∧ NodeAt w.heap.size t (.slice aa t.attrs.length ac) (.slice ka t.kids.length kc) w9 ∧ DChg B b w w9 from
  ⟨hp9, HS0.out.2.1.chg HS0.out.1 hd9, HS0.out.2.2.1.trans (hd9.low H.out.1.at.1 (Nat.le_trans HBW.out HS0.out.2.2.2.2.size)), keep_blk HS0.out.2.2.2.1 (by decide) (by decide) HS0.out.1 hd9, HS0.out.2.2.2.2.trans hd9⟩)
 have c5 := HS.out.2.2.2.1.cells.2.2.2.2.2
 clear hp9 hd9 HWE
 go_wp2_with fail
 go_loopw [28] (fun vj wr => ∃ j : Nat, vj = .int .i64 j ∧ j ≤ t.kids.length ∧ Hid (PageM B b ((t.kids.take j).foldl (fun s k => nd s k.toNat) st1) wr ∧ Bxs g1 g2 g3 b (some x) ns.length c wr ∧ Below B w0 wr ∧ NodeAt w.heap.size t (.slice aa t.attrs.length ac) (.slice ka t.kids.length kc) wr ∧ DChg B b w wr)) (fun vj _ => t.kids.length - (intOf vj).toNat)
 case atStart => exact ⟨0, rfl, Nat.zero_le _, HS⟩
 case round =>
  obtain ⟨j, rfl, hj, HW⟩ := hrel
  by_cases hjl : j < t.kids.length
  ·have hji : (j : Int) < (t.kids.length : Int) := by omega
   obtain ⟨y, hy, _, d0⟩ := (HKR.out.below (by rw [← H.out.2.2.2]; exact HW.out.2.2.1)).ints hjl
   subst hy
   obtain ⟨k1, k2⟩ := HUP.out _ (List.getElem_mem hjl)
   obtain ⟨kk, hkk⟩ : ∃ kk : Nat, t.kids[j] = (kk : Int) := ⟨t.kids[j].toNat, by omega⟩
   have HX := hid_mk (show (t.kids.take (j + 1)).foldl (fun s k => nd s k.toNat) st1 = nd ((t.kids.take j).foldl (fun s k => nd s k.toNat) st1) kk by
    rw [List.take_succ_eq_append_getElem hjl, List.foldl_append, hkk]
    rfl)
   rw [hkk] at k1 k2 d0
   have c3 := HW.out.2.1.cells.2.2
   have HCL := hid_mk (HIH.out kk (by omega) (by omega) _ _ HW.out.1 HW.out.2.1 HW.out.2.2.1)
   clear hkk k1 k2
   go_wp2_with fail
   with_reducible refine HCL.out.mono ?_
   rintro e1 w1 ⟨rfl, hp1, hd1⟩
   have HW1 := hid_mk (show PageM B b ((t.kids.take (j + 1)).foldl (fun s k => nd s k.toNat) st1) w1 ∧ Bxs g1 g2 g3 b (some x) ns.length c w1 ∧ Below B w0 w1 ∧ NodeAt w.heap.size t (.slice aa t.attrs.length ac) (.slice (some y) t.kids.length kc) w1 ∧ DChg B b w w1 from
    ⟨by rw [HX.out]; exact hp1, HW.out.2.1.chg HW.out.1 hd1, HW.out.2.2.1.trans (hd1.low H.out.1.at.1 (Nat.le_trans HBW.out HW.out.2.2.2.2.size)), keep_blk HW.out.2.2.2.1 (by decide) (by decide) HW.out.1 hd1, HW.out.2.2.2.2.trans hd1⟩)
   clear hp1 hd1 HCL
   go_wp2_with fail
   go_roundw
   case rel => exact ⟨j + 1, by go_num, by omega, HW1⟩
   case measure => simp [intOf]; omega
  ·have hji : ¬ (j : Int) < (t.kids.length : Int) := by omega
   have HF := hid_mk (show PageM B b (t.kids.foldl (fun s k => nd s k.toNat) st1) wr ∧ Bxs g1 g2 g3 b (some x) ns.length c wr ∧ NodeAt w.heap.size t (.slice aa t.attrs.length ac) (.slice ka t.kids.length kc) wr ∧ DChg B b w wr by
    have := HW.out
    rw [List.take_of_length_le (by omega)] at this
    exact ⟨this.1, this.2.1, this.2.2.2.1, this.2.2.2.2⟩)
   have e0 := HW.out.2.2.2.1.cells.1
   have e1 := HW.out.2.2.2.1.cells.2.1
   have hv := voidS_any (strOf t.name) (by rw [size_strOf]; exact HOK.out.1) wr
   rw [sl_strOf] at hv
   have HV := hid_mk hv
   obtain ⟨st3, hst3⟩ : ∃ st3, st3 = t.kids.foldl (fun s k => nd s k.toNat) st1 := ⟨_, rfl⟩
   rw [← hst3] at HF
   have H3 := hid_mk hst3.symm
   obtain ⟨vd, hvd⟩ : ∃ vd, vd = (kindL t.name == 7 || kindL t.name == 8) := ⟨_, rfl⟩
   rw [← hvd] at HV
   have HE := hid_mk (show endP st3 t.name = if vd then st3 else wrL st3 [[60, 47], t.name, [62]] by rw [hvd]; rfl)
   clear HW hv hst3 hvd
   go_wp2_with fail
   with_reducible refine HV.out.mono ?_
   rintro e6 w6 ⟨rfl, hb6⟩
   have H6 := hid_mk (And.intro (HF.out.1.below hb6) (HF.out.2.2.2.trans (.of hb6)))
   have a1 := (HF.out.2.1.chg HF.out.1 (.of hb6)).cells.1
   have a2 := (HF.out.2.2.1.below hb6).cells.2.1
   clear hb6
   cases vd with
   | true =>
     go_wp2_with fail
     go_end0
     rw [H3.out, HE.out]
     exact ⟨rfl, H6.out⟩
   | false =>
     have HC7 := hid_mk (write_new (c := 3) 3 st3 [[60, 47], t.name, [62]] #[.string ⟨#[60, 47]⟩, .string (strOf t.name), .string ⟨#[62]⟩] rfl w6 (0, 0) H6.out.1 (by simp) rfl)
     go_wp2_with fail
     with_reducible refine HC7.out.mono ?_
     rintro e7 w7 ⟨rfl, hp7, hd7⟩
     have H7 := hid_mk (And.intro hp7 (H6.out.2.trans hd7))
     clear hp7 hd7
     go_wp2_with fail
     go_end0
     rw [H3.out, HE.out]
     exact ⟨rfl, H7.out⟩
end Go.Proofs.YtlcijlklbabajaaGreatDoor.R.Pg
namespace Go.Proofs.YtlcijlklbabajaaGreatDoor.R.Pg
open Go.RowKit
/-- What a node, with all that is within it, writes; f bounds the depth. -/
def nodeF (ts : List Nx) : Nat → Pst → Nat → Pst
 | 0, st, _ => st
 | f + 1, st, i => match ts[i]? with
   | none => st
   | some n => if n.kind = 1 then endP (n.kids.foldl (fun s k => nodeF ts f s k.toNat) (startP st n.name n.attrs)) n.name else if n.kind = 2 then n.kids.foldl (fun s k => nodeF ts f s k.toNat) (wrE false st n.data) else n.kids.foldl (fun s k => nodeF ts f s k.toNat) st
theorem nodeF_at {ts : List Nx} {f i : Nat} {st : Pst} {n : Nx} (h : ts[i]? = some n) : nodeF ts (f + 1) st i = if n.kind = 1 then endP (n.kids.foldl (fun s k => nodeF ts f s k.toNat) (startP st n.name n.attrs)) n.name else if n.kind = 2 then n.kids.foldl (fun s k => nodeF ts f s k.toNat) (wrE false st n.data) else n.kids.foldl (fun s k => nodeF ts f s k.toNat) st := by
 conv => lhs; unfold nodeF
 rw [h]
structure TreeOk (ns : List NxM) : Prop where
 ok : ∀ p ∈ ns, NxOk p.1
 kids : ∀ p ∈ ns, p.1.kids.length ≤ 1000000000
 attrs : ∀ p ∈ ns, p.1.attrs.length ≤ 1000000
 up : ∀ i (hi : i < ns.length), ∀ k ∈ ns[i].1.kids, (i : Int) < k ∧ k < (ns.length : Int)
theorem node_all {B b g1 g2 g3 : Nat} {x : Addr} {c : Nat} {ns : List NxM} {w0 : World} (hB : B = w0.heap.size) (ht : HasTree w0 (some x) ns) (hok : TreeOk ns) : ∀ f i, i < ns.length → ns.length - i ≤ f → NodeC B b g1 g2 g3 (some x) ns.length c w0 (nodeF (ns.map (·.1)) f) i
 | 0, i, h1, h2 => by omega
 | f + 1, i, h1, h2 => by
   intro st w h hx hw
   have hm := List.getElem_mem h1
   have e : (ns.map (·.1))[i]? = some ns[i].1 := by rw [List.getElem?_map, List.getElem?_eq_getElem h1]; rfl
   have hIH : ∀ k, i < k → k < ns.length → NodeC B b g1 g2 g3 (some x) ns.length c w0 (nodeF (ns.map (·.1)) f) k := fun k h3 h4 => node_all hB ht hok f k h4 (by omega)
   rw [nodeF_at e]
   by_cases k1 : ns[i].1.kind = 1
   ·rw [if_pos k1]
    exact node_elem _ i h1 hB ht (hok.kids _ hm) (hok.up i h1) hIH (hok.ok _ hm) (hok.attrs _ hm) k1 st w h hx hw
   ·rw [if_neg k1]
    by_cases k2 : ns[i].1.kind = 2
    ·rw [if_pos k2]
     exact node_text _ i h1 hB ht (hok.kids _ hm) (hok.up i h1) hIH (hok.ok _ hm) k2 st w h hx hw
    ·rw [if_neg k2]
     exact node_other _ i h1 hB ht (hok.kids _ hm) (hok.up i h1) hIH k1 k2 st w h hx hw
set_option maxHeartbeats 2000000 in
set_option maxRecDepth 100000 in
theorem writeTree_any {B b : Nat} {x : Addr} {c : Nat} {ns : List NxM} {w0 : World} (hB : B = w0.heap.size) (ht : HasTree w0 (some x) ns) (hok : TreeOk ns) (hne : 0 < ns.length) (st : Pst) (w : World) (h : PageM B b st w) (hw : Below B w0 w) :
 Calls Tryz.prog 54 #[.pointer (some ⟨b, 0, none⟩), .slice (some x) ns.length c] w fun e w' => e = .returned (.tuple #[]) ∧ PageM B b (nodeF (ns.map (·.1)) ns.length st 0) w' ∧ DChg B b w w' := by
 have HN := hid_mk (fun g1 g2 g3 => node_all (b := b) (g1 := g1) (g2 := g2) (g3 := g3) (c := c) hB ht hok ns.length 0 hne (by omega))
 have H := hid_mk (And.intro h (And.intro hw hB))
 clear h hw hB ht hok hne
 have hst : ∀ (W : World) (a : Addr) (fn : Fn) (ts cs : Array Value) (m : Mode), (store a (.func fn ts cs) m).run Tryz.prog W = stored Tryz.prog W a (.func fn ts cs) m := fun W a fn ts cs m => run_store Tryz.prog W a _ m rfl
 go_enter Tryz.func54, Tryz.ntmps54
 go_wp2_with fail
 obtain ⟨o1, h1⟩ : ∃ o, o = Obj.cells #[.pointer (some ⟨b, 0, none⟩)] 125 (0, 0) := ⟨_, rfl⟩
 obtain ⟨o2, h2⟩ : ∃ o, o = Obj.cells #[.slice (some x) ns.length c] 28 (0, 0) := ⟨_, rfl⟩
 obtain ⟨o3, h3⟩ : ∃ o, o = Obj.cells #[.func (.func 90) #[] #[.pointer (some ⟨w.heap.size + 1, 0, none⟩), .pointer (some ⟨w.heap.size, 0, none⟩), .pointer (some ⟨w.heap.size + 1 + 1, 0, none⟩)]] 126 (0, 0) := ⟨_, rfl⟩
 rw [← h1, ← h2, ← h3]
 have z1 : (w.alloc o1).heap.size = w.heap.size + 1 := Array.size_push _
 have z2 : ((w.alloc o1).alloc o2).heap.size = w.heap.size + 1 + 1 := (Array.size_push _).trans (congrArg (· + 1) z1)
 have hb : Below w.heap.size w (((w.alloc o1).alloc o2).alloc o3) := (((Below.refl _ _).alloc (Nat.le_refl _) o1).alloc (by omega) o2).alloc (by omega) o3
 have n1 : (w.alloc o1).heap[w.heap.size]? = some o1 := heap_alloc_new _ _
 have n2 : ((w.alloc o1).alloc o2).heap[w.heap.size + 1]? = some o2 := by rw [← z1]; exact heap_alloc_new _ _
 have n3 : (((w.alloc o1).alloc o2).alloc o3).heap[w.heap.size + 1 + 1]? = some o3 := by rw [← z2]; exact heap_alloc_new _ _
 have hx : Bxs w.heap.size (w.heap.size + 1) (w.heap.size + 1 + 1) b (some x) ns.length c (((w.alloc o1).alloc o2).alloc o3) :=
  ⟨by rw [Below.heap_alloc _ _ _ (by omega), Below.heap_alloc _ _ _ (by omega), n1, h1], by rw [Below.heap_alloc _ _ _ (by omega), n2, h2], by rw [n3, h3]⟩
 have hc := HN.out w.heap.size (w.heap.size + 1) (w.heap.size + 1 + 1) st _ (H.out.1.below hb) hx (H.out.2.1.trans (hb.mono (by rw [H.out.2.2]; exact H.out.2.1.size)))
 rw [show ((0 : Nat) : Int) = 0 from rfl] at hc
 have HC := hid_mk hc
 have HB := hid_mk hb
 clear h1 h2 h3 z1 z2 hb n1 n2 n3 hx hc hst
 with_reducible refine HC.out.mono ?_
 rintro e1 w1 ⟨rfl, hp, hd⟩
 have HF := hid_mk (And.intro hp ((DChg.of (B := B) (b := b) HB.out).trans hd))
 clear hp hd HC
 go_wp2_with fail
 go_end0
 exact ⟨rfl, HF.out⟩
end Go.Proofs.YtlcijlklbabajaaGreatDoor.R.Pg
namespace Go.Proofs.YtlcijlklbabajaaGreatDoor.R.Pg
open Go.RowKit
set_option maxHeartbeats 2000000 in
set_option maxRecDepth 100000 in
theorem string_nil {B b : Nat} {cs : Array Value} {w : World} (h : DataAt B b cs [] w) :
 Calls Tryz.prog 55 #[.pointer (some ⟨b, 0, none⟩)] w fun e w' => e = .returned (.string ⟨#[]⟩) ∧ Below w.heap.size w w' := by
 obtain ⟨h1, h2, h3, h4, v, h5, hown⟩ := h
 have c1 : w.drew.cell? ⟨b, 1, none⟩ = some v := by
  have : w.drew.heap[b]? = some (.cells cs 80 (0, 0)) := h1
  rw [cell_of_row _ b 1 _ _ _ this]; exact h5
 have hbd : Below w.heap.size w w.drew := (Below.refl _ _).drew
 obtain ⟨a, cap, p, W2, rfl, hSD, hW2⟩ : ∃ a cap p W2, v = .slice a 0 cap ∧ (Builtin.unsafeSliceData_ #[42] 130 #[.slice a 0 cap]).run Tryz.prog w.drew = .ok (.pointer p) W2 ∧ (W2 = w.drew ∨ ∃ o, W2 = w.drew.alloc o) := by
  rcases hown.2 with ⟨hv, _⟩ | ⟨g, cap, cur, fz, hv, _, hg, _⟩
  ·exact ⟨none, 0, none, _, hv, Lib.run_unsafeSliceData_nil _ _ _ _ _, .inl rfl⟩
  ·by_cases hc : cap = 0
   ·subst hc
    exact ⟨_, 0, _, _, hv, Lib.run_unsafeSliceData_zero w.drew #[42] 130 5 Tryz.underlying130 ⟨g, 0, none⟩ 0 (5, cur.size) (by have hg' : w.drew.heap[g]? = some (.cells cur 5 fz) := hg; simp [World.shape?, hg']), .inr ⟨_, rfl⟩⟩
   ·exact ⟨_, cap, _, _, hv, Lib.run_unsafeSliceData_row _ _ _ _ _ _ hc, .inl rfl⟩
 have hUS : (Builtin.unsafeString_ #[130, 3] 9 #[.pointer p, .int .i64 0]).run Tryz.prog W2 = .ok (.string ⟨#[]⟩) W2 := Lib.run_unsafeString_none W2 130 3 9 p
 have c2 : W2.cell? ⟨b, 1, none⟩ = some (.slice a 0 cap) := by
  rcases hW2 with rfl | ⟨o, rfl⟩
  ·exact c1
  ·rw [((Below.refl w.drew.heap.size w.drew).alloc (Nat.le_refl _) o).cell (p := ⟨b, 1, none⟩) (Array.getElem?_eq_some_iff.1 h1).1]; exact c1
 have HF := hid_mk (show Below w.heap.size w W2 by
  rcases hW2 with rfl | ⟨o, rfl⟩
  ·exact hbd
  ·exact hbd.alloc (Nat.le_refl _) o)
 clear hW2 hbd
 clear h1 h2 h3 h4 h5 hown
 go_enter Tryz.func55, Tryz.ntmps55
 have mixed : Tryz.prog.follows Departure.mixedOrders = true := by kernel_rfl
 go_wp2
 go_region_o
 all_goals (go_wp2; go_ret; exact ⟨rfl, HF.out⟩)
theorem string_page {B b : Nat} {st : Pst} {w : World} (h : PageM B b st w) :
 Calls Tryz.prog 55 #[.pointer (some ⟨b, 0, none⟩)] w fun e w' => e = .returned (.string (strOf st.1)) ∧ DChg B b w w' := by
 obtain ⟨cs, h1, _⟩ := h
 by_cases h0 : st.1 = []
 ·rw [h0] at h1 ⊢
  refine (string_nil h1).mono ?_
  rintro e w' ⟨rfl, hb⟩
  exact ⟨rfl, .of hb⟩
 ·refine (string_at h1 h0).mono ?_
  rintro e w' ⟨rfl, _, hd⟩
  exact ⟨rfl, hd⟩
end Go.Proofs.YtlcijlklbabajaaGreatDoor.R.Pg
