/-
  Package serial's page: what writeTree's closure does with an element. Conditions: the tree lies below the page; what the closure does with the children is told.
-/
import Derived.Test.YtnooofnlbfhopaaDoorSNodeT
namespace Go.Proofs.YtnooofnlbfhopaaDoor.Pg
open Go.RowKit
def endP (st : Pst) (name : List UInt8) : Pst := if (kindL name == 7 || kindL name == 8) then st else wrL st [[60, 47], name, [62]]
set_option maxHeartbeats 4000000 in
set_option maxRecDepth 100000 in
theorem node_elem {B b g1 g2 g3 : Nat} {x : Addr} {c : Nat} {ns : List NxM} {w0 : World} (nd : Pst → Nat → Pst) (i : Nat) (hi : i < ns.length) (hB : B = w0.heap.size) (ht : HasTree w0 (some x) ns) (hks : ns[i].1.kids.length ≤ 1000000000)
    (hup : ∀ k ∈ ns[i].1.kids, (i : Int) < k ∧ k < (ns.length : Int)) (hIH : ∀ k, i < k → k < ns.length → NodeC B b g1 g2 g3 (some x) ns.length c w0 nd k) (hok : NxOk ns[i].1) (hal : ns[i].1.attrs.length ≤ 1000000) (hk1 : ns[i].1.kind = 1) (st : Pst) (w : World) (h : PageM B b st w) (hx : Bxs g1 g2 g3 b (some x) ns.length c w) (hw : Below B w0 w) :
    Calls Tryd.prog 38 #[.int .i64 (i : Int), .pointer (some ⟨g2, 0, none⟩), .pointer (some ⟨g1, 0, none⟩), .pointer (some ⟨g3, 0, none⟩)] w fun e w' => e = .returned (.tuple #[]) ∧ PageM B b (endP (ns[i].1.kids.foldl (fun s k => nd s k.toNat) (startP st ns[i].1.name ns[i].1.attrs)) ns[i].1.name) w' ∧ DChg B b w w' := by
  obtain ⟨b1, b2, b3⟩ := hx.cells
  have b1' : ∀ o, (w.alloc o).cell? ⟨g1, 0, none⟩ = some (.pointer (some ⟨b, 0, none⟩)) := fun o => by
    rw [((Below.refl w.heap.size w).alloc (Nat.le_refl _) o).cell (p := ⟨g1, 0, none⟩) (Array.getElem?_eq_some_iff.1 hx.page).1]
    exact b1
  obtain ⟨n0, n1, n2, n3, n4, n5⟩ := (ht.below (by rw [← hB]; exact hw)).six hi
  obtain ⟨aa, ac, hav, _, harow⟩ := ht.attrs _ (List.getElem_mem hi)
  obtain ⟨ka, kc, hkv, hkrow⟩ := ht.kids _ (List.getElem_mem hi)
  rw [hav] at n2
  rw [hkv] at n5
  generalize (ns[i]).1 = t at *
  have H := hid_mk (And.intro h (And.intro hx (And.intro hw hB)))
  have HUP := hid_mk hup
  have HIH := hid_mk hIH
  have HKR := hid_mk hkrow
  have HAR := hid_mk harow
  have q1 : ((t.kind : Int) == 1) = true := by rw [hk1]; rfl
  have HOK := hid_mk hok
  have q2 : ((t.kind : Int) == 2) = false := beq_false_of_ne (by omega)
  have HAL := hid_mk hal
  obtain ⟨m, hmm⟩ : ∃ m, m = ns.length := ⟨_, rfl⟩
  have him : (i : Int) < (m : Int) := by omega
  have HM := hid_mk (And.intro hmm hi)
  rw [← hmm] at b2
  clear hav hkv hkrow harow hup hIH h hx hw hB hi hok hk1 hal ht hmm
  obtain ⟨st1, hst1⟩ : ∃ st1, st1 = startP st t.name t.attrs := ⟨_, rfl⟩
  rw [← hst1]
  have HST1 := hid_mk hst1
  clear hst1
  go_enter Tryd.func38, Tryd.ntmps38
  go_wp2_with fail
  obtain ⟨wl, hwl⟩ : ∃ wl, wl = w.alloc (.cells #[.int .u8 (t.kind : Int), .string (strOf t.name), .slice aa t.attrs.length ac, .string (strOf t.data), .int .i64 t.up, .slice ka t.kids.length kc] 33) := ⟨_, rfl⟩
  have hbl : Below w.heap.size w wl := by rw [hwl]; exact (Below.refl _ _).alloc (Nat.le_refl _) _
  have hna : NodeAt w.heap.size t (.slice aa t.attrs.length ac) (.slice ka t.kids.length kc) wl := by unfold NodeAt; rw [hwl]; exact heap_alloc_new w _
  have hBw : B ≤ w.heap.size := by rw [H.out.2.2.2]; exact H.out.2.2.1.size
  have HS0 := hid_mk (show PageM B b st wl ∧ Bxs g1 g2 g3 b (some x) ns.length c wl ∧ Below B w0 wl ∧ NodeAt w.heap.size t (.slice aa t.attrs.length ac) (.slice ka t.kids.length kc) wl ∧ DChg B b w wl from
    ⟨H.out.1.below hbl, H.out.2.1.chg H.out.1 (.of hbl), H.out.2.2.1.trans (hbl.mono hBw), hna, .of hbl⟩)
  rw [← hwl]
  have HBW := hid_mk hBw
  clear hwl hbl hna hBw
  have hwe := writeStart_any st (.int .u8 (t.kind : Int)) (.string (strOf t.data)) (.int .i64 t.up) (.slice ka t.kids.length kc) t.name t.attrs aa ac w0 wl H.out.2.2.2 HS0.out.2.2.1 HAR.out HAL.out (fun p hp => by have := (HOK.out.2.2 p hp).2; omega) HS0.out.1
  rw [← HST1.out] at hwe
  have HWE := hid_mk hwe
  clear hwe
  with_reducible refine HWE.out.mono ?_
  rintro e9 w9 ⟨rfl, hp9, hd9⟩
  have HS := hid_mk (show PageM B b ((t.kids.take 0).foldl (fun s k => nd s k.toNat) st1) w9 ∧ Bxs g1 g2 g3 b (some x) ns.length c w9 ∧ Below B w0 w9 ∧ NodeAt w.heap.size t (.slice aa t.attrs.length ac) (.slice ka t.kids.length kc) w9 ∧ DChg B b w w9 from
    ⟨hp9, HS0.out.2.1.chg HS0.out.1 hd9, HS0.out.2.2.1.trans (hd9.low H.out.1.at.1 (Nat.le_trans HBW.out HS0.out.2.2.2.2.size)), keep_blk HS0.out.2.2.2.1 (by decide) (by decide) HS0.out.1 hd9, HS0.out.2.2.2.2.trans hd9⟩)
  have c5 := HS.out.2.2.2.1.cells.2.2.2.2.2
  clear hp9 hd9 HWE
  go_wp2_with fail
  go_loopw [28] (fun vj wr => ∃ j : Nat, vj = .int .i64 j ∧ j ≤ t.kids.length ∧ Hid (PageM B b ((t.kids.take j).foldl (fun s k => nd s k.toNat) st1) wr ∧ Bxs g1 g2 g3 b (some x) ns.length c wr ∧ Below B w0 wr ∧ NodeAt w.heap.size t (.slice aa t.attrs.length ac) (.slice ka t.kids.length kc) wr ∧ DChg B b w wr)) (fun vj _ => t.kids.length - (intOf vj).toNat)
  case atStart => exact ⟨0, rfl, Nat.zero_le _, HS⟩
  case round =>
    obtain ⟨j, rfl, hj, HW⟩ := hrel
    by_cases hjl : j < t.kids.length
    · have hji : (j : Int) < (t.kids.length : Int) := by omega
      obtain ⟨y, hy, _, d0⟩ := (HKR.out.below (by rw [← H.out.2.2.2]; exact HW.out.2.2.1)).ints hjl
      subst hy
      obtain ⟨k1, k2⟩ := HUP.out _ (List.getElem_mem hjl)
      obtain ⟨kk, hkk⟩ : ∃ kk : Nat, t.kids[j] = (kk : Int) := ⟨t.kids[j].toNat, by omega⟩
      have HX := hid_mk (show (t.kids.take (j + 1)).foldl (fun s k => nd s k.toNat) st1 = nd ((t.kids.take j).foldl (fun s k => nd s k.toNat) st1) kk by
        rw [List.take_succ_eq_append_getElem hjl, List.foldl_append, hkk]
        rfl)
      rw [hkk] at k1 k2 d0
      have c3 := HW.out.2.1.cells.2.2
      have HCL := hid_mk (HIH.out kk (by omega) (by omega) _ _ HW.out.1 HW.out.2.1 HW.out.2.2.1)
      clear hkk k1 k2
      go_wp2_with fail
      with_reducible refine HCL.out.mono ?_
      rintro e1 w1 ⟨rfl, hp1, hd1⟩
      have HW1 := hid_mk (show PageM B b ((t.kids.take (j + 1)).foldl (fun s k => nd s k.toNat) st1) w1 ∧ Bxs g1 g2 g3 b (some x) ns.length c w1 ∧ Below B w0 w1 ∧ NodeAt w.heap.size t (.slice aa t.attrs.length ac) (.slice (some y) t.kids.length kc) w1 ∧ DChg B b w w1 from
        ⟨by rw [HX.out]; exact hp1, HW.out.2.1.chg HW.out.1 hd1, HW.out.2.2.1.trans (hd1.low H.out.1.at.1 (Nat.le_trans HBW.out HW.out.2.2.2.2.size)), keep_blk HW.out.2.2.2.1 (by decide) (by decide) HW.out.1 hd1, HW.out.2.2.2.2.trans hd1⟩)
      clear hp1 hd1 HCL
      go_wp2_with fail
      go_roundw
      case rel => exact ⟨j + 1, by go_num, by omega, HW1⟩
      case measure => simp [intOf]; omega
    · have hji : ¬ (j : Int) < (t.kids.length : Int) := by omega
      have HF := hid_mk (show PageM B b (t.kids.foldl (fun s k => nd s k.toNat) st1) wr ∧ Bxs g1 g2 g3 b (some x) ns.length c wr ∧ NodeAt w.heap.size t (.slice aa t.attrs.length ac) (.slice ka t.kids.length kc) wr ∧ DChg B b w wr by
        have := HW.out
        rw [List.take_of_length_le (by omega)] at this
        exact ⟨this.1, this.2.1, this.2.2.2.1, this.2.2.2.2⟩)
      have e0 := HW.out.2.2.2.1.cells.1
      have e1 := HW.out.2.2.2.1.cells.2.1
      have hv := voidS_any (strOf t.name) (by rw [size_strOf]; exact HOK.out.1) wr
      rw [sl_strOf] at hv
      have HV := hid_mk hv
      obtain ⟨st3, hst3⟩ : ∃ st3, st3 = t.kids.foldl (fun s k => nd s k.toNat) st1 := ⟨_, rfl⟩
      rw [← hst3] at HF
      have H3 := hid_mk hst3.symm
      obtain ⟨vd, hvd⟩ : ∃ vd, vd = (kindL t.name == 7 || kindL t.name == 8) := ⟨_, rfl⟩
      rw [← hvd] at HV
      have HE := hid_mk (show endP st3 t.name = if vd then st3 else wrL st3 [[60, 47], t.name, [62]] by rw [hvd]; rfl)
      clear HW hv hst3 hvd
      go_wp2_with fail
      with_reducible refine HV.out.mono ?_
      rintro e6 w6 ⟨rfl, hb6⟩
      have H6 := hid_mk (And.intro (HF.out.1.below hb6) (HF.out.2.2.2.trans (.of hb6)))
      have a1 := (HF.out.2.1.chg HF.out.1 (.of hb6)).cells.1
      have a2 := (HF.out.2.2.1.below hb6).cells.2.1
      clear hb6
      cases vd with
      | true =>
        go_wp2_with fail
        go_end0
        rw [H3.out, HE.out]
        exact ⟨rfl, H6.out⟩
      | false =>
        have HC7 := hid_mk (write_new (c := 3) 3 st3 [[60, 47], t.name, [62]] #[.string ⟨#[60, 47]⟩, .string (strOf t.name), .string ⟨#[62]⟩] rfl w6 (0, 0) H6.out.1 (by simp) rfl)
        go_wp2_with fail
        with_reducible refine HC7.out.mono ?_
        rintro e7 w7 ⟨rfl, hp7, hd7⟩
        have H7 := hid_mk (And.intro hp7 (H6.out.2.trans hd7))
        clear hp7 hd7
        go_wp2_with fail
        go_end0
        rw [H3.out, HE.out]
        exact ⟨rfl, H7.out⟩
end Go.Proofs.YtnooofnlbfhopaaDoor.Pg
