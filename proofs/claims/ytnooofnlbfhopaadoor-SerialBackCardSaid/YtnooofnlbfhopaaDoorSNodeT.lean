/-
  Package serial's page: what writeTree's closure does with a text. Conditions: the tree lies below the page; what the closure does with the children is told.
-/
import Derived.Test.YtnooofnlbfhopaaDoorSNodeO
namespace Go.Proofs.YtnooofnlbfhopaaDoor.Pg
open Go.RowKit
set_option maxHeartbeats 4000000 in
set_option maxRecDepth 100000 in
theorem node_text {B b g1 g2 g3 : Nat} {x : Addr} {c : Nat} {ns : List NxM} {w0 : World} (nd : Pst → Nat → Pst) (i : Nat) (hi : i < ns.length) (hB : B = w0.heap.size) (ht : HasTree w0 (some x) ns) (hks : ns[i].1.kids.length ≤ 1000000000)
    (hup : ∀ k ∈ ns[i].1.kids, (i : Int) < k ∧ k < (ns.length : Int)) (hIH : ∀ k, i < k → k < ns.length → NodeC B b g1 g2 g3 (some x) ns.length c w0 nd k) (hok : NxOk ns[i].1) (hk2 : ns[i].1.kind = 2) (st : Pst) (w : World) (h : PageM B b st w) (hx : Bxs g1 g2 g3 b (some x) ns.length c w) (hw : Below B w0 w) :
    Calls Tryd.prog 38 #[.int .i64 (i : Int), .pointer (some ⟨g2, 0, none⟩), .pointer (some ⟨g1, 0, none⟩), .pointer (some ⟨g3, 0, none⟩)] w fun e w' => e = .returned (.tuple #[]) ∧ PageM B b (ns[i].1.kids.foldl (fun s k => nd s k.toNat) (wrE false st ns[i].1.data)) w' ∧ DChg B b w w' := by
  obtain ⟨b1, b2, b3⟩ := hx.cells
  have b1' : ∀ o, (w.alloc o).cell? ⟨g1, 0, none⟩ = some (.pointer (some ⟨b, 0, none⟩)) := fun o => by
    rw [((Below.refl w.heap.size w).alloc (Nat.le_refl _) o).cell (p := ⟨g1, 0, none⟩) (Array.getElem?_eq_some_iff.1 hx.page).1]
    exact b1
  obtain ⟨n0, n1, n2, n3, n4, n5⟩ := (ht.below (by rw [← hB]; exact hw)).six hi
  obtain ⟨aa, ac, hav, _, _⟩ := ht.attrs _ (List.getElem_mem hi)
  obtain ⟨ka, kc, hkv, hkrow⟩ := ht.kids _ (List.getElem_mem hi)
  rw [hav] at n2
  rw [hkv] at n5
  generalize (ns[i]).1 = t at *
  have H := hid_mk (And.intro h (And.intro hx (And.intro hw hB)))
  have HUP := hid_mk hup
  have HIH := hid_mk hIH
  have HKR := hid_mk hkrow
  have q1 : ((t.kind : Int) == 1) = false := beq_false_of_ne (by omega)
  have HOK := hid_mk hok
  have q2 : ((t.kind : Int) == 2) = true := by rw [hk2]; rfl
  obtain ⟨m, hmm⟩ : ∃ m, m = ns.length := ⟨_, rfl⟩
  have him : (i : Int) < (m : Int) := by omega
  have HM := hid_mk (And.intro hmm hi)
  rw [← hmm] at b2
  clear hav hkv hkrow hup hIH h hx hw hB hi hok hk2 ht hmm
  obtain ⟨st1, hst1⟩ : ∃ st1, st1 = wrE false st t.data := ⟨_, rfl⟩
  rw [← hst1]
  have HST1 := hid_mk hst1
  clear hst1
  go_enter Tryd.func38, Tryd.ntmps38
  go_wp2_with fail
  obtain ⟨wl, hwl⟩ : ∃ wl, wl = w.alloc (.cells #[.int .u8 (t.kind : Int), .string (strOf t.name), .slice aa t.attrs.length ac, .string (strOf t.data), .int .i64 t.up, .slice ka t.kids.length kc] 33) := ⟨_, rfl⟩
  have hbl : Below w.heap.size w wl := by rw [hwl]; exact (Below.refl _ _).alloc (Nat.le_refl _) _
  have hna : NodeAt w.heap.size t (.slice aa t.attrs.length ac) (.slice ka t.kids.length kc) wl := by unfold NodeAt; rw [hwl]; exact heap_alloc_new w _
  have hBw : B ≤ w.heap.size := by rw [H.out.2.2.2]; exact H.out.2.2.1.size
  have HS0 := hid_mk (show PageM B b st wl ∧ Bxs g1 g2 g3 b (some x) ns.length c wl ∧ Below B w0 wl ∧ NodeAt w.heap.size t (.slice aa t.attrs.length ac) (.slice ka t.kids.length kc) wl ∧ DChg B b w wl from
    ⟨H.out.1.below hbl, H.out.2.1.chg H.out.1 (.of hbl), H.out.2.2.1.trans (hbl.mono hBw), hna, .of hbl⟩)
  rw [← hwl]
  have HBW := hid_mk hBw
  clear hwl hbl hna hBw
  have hwe := writeEscaped_any false 7 st (strOf t.data) wl HS0.out.1 (fun args w' => by kernel_rfl) (fun w' => escapeText_any (strOf t.data) (by rw [size_strOf]; have := HOK.out.2.1; omega) w')
  rw [sl_strOf, ← HST1.out] at hwe
  have HWE := hid_mk hwe
  clear hwe
  with_reducible refine HWE.out.mono ?_
  rintro e9 w9 ⟨rfl, hp9, hd9⟩
  have HS := hid_mk (show PageM B b ((t.kids.take 0).foldl (fun s k => nd s k.toNat) st1) w9 ∧ Bxs g1 g2 g3 b (some x) ns.length c w9 ∧ Below B w0 w9 ∧ NodeAt w.heap.size t (.slice aa t.attrs.length ac) (.slice ka t.kids.length kc) w9 ∧ DChg B b w w9 from
    ⟨hp9, HS0.out.2.1.chg HS0.out.1 hd9, HS0.out.2.2.1.trans (hd9.low H.out.1.at.1 (Nat.le_trans HBW.out HS0.out.2.2.2.2.size)), keep_blk HS0.out.2.2.2.1 (by decide) (by decide) HS0.out.1 hd9, HS0.out.2.2.2.2.trans hd9⟩)
  have c5 := HS.out.2.2.2.1.cells.2.2.2.2.2
  clear hp9 hd9 HWE
  go_wp2_with fail
  go_loopw [28] (fun vj wr => ∃ j : Nat, vj = .int .i64 j ∧ j ≤ t.kids.length ∧ Hid (PageM B b ((t.kids.take j).foldl (fun s k => nd s k.toNat) st1) wr ∧ Bxs g1 g2 g3 b (some x) ns.length c wr ∧ Below B w0 wr ∧ NodeAt w.heap.size t (.slice aa t.attrs.length ac) (.slice ka t.kids.length kc) wr ∧ DChg B b w wr)) (fun vj _ => t.kids.length - (intOf vj).toNat)
  case atStart => exact ⟨0, rfl, Nat.zero_le _, HS⟩
  case round =>
    obtain ⟨j, rfl, hj, HW⟩ := hrel
    by_cases hjl : j < t.kids.length
    · have hji : (j : Int) < (t.kids.length : Int) := by omega
      obtain ⟨y, hy, _, d0⟩ := (HKR.out.below (by rw [← H.out.2.2.2]; exact HW.out.2.2.1)).ints hjl
      subst hy
      obtain ⟨k1, k2⟩ := HUP.out _ (List.getElem_mem hjl)
      obtain ⟨kk, hkk⟩ : ∃ kk : Nat, t.kids[j] = (kk : Int) := ⟨t.kids[j].toNat, by omega⟩
      have HX := hid_mk (show (t.kids.take (j + 1)).foldl (fun s k => nd s k.toNat) st1 = nd ((t.kids.take j).foldl (fun s k => nd s k.toNat) st1) kk by
        rw [List.take_succ_eq_append_getElem hjl, List.foldl_append, hkk]
        rfl)
      rw [hkk] at k1 k2 d0
      have c3 := HW.out.2.1.cells.2.2
      have HCL := hid_mk (HIH.out kk (by omega) (by omega) _ _ HW.out.1 HW.out.2.1 HW.out.2.2.1)
      clear hkk k1 k2
      go_wp2_with fail
      with_reducible refine HCL.out.mono ?_
      rintro e1 w1 ⟨rfl, hp1, hd1⟩
      have HW1 := hid_mk (show PageM B b ((t.kids.take (j + 1)).foldl (fun s k => nd s k.toNat) st1) w1 ∧ Bxs g1 g2 g3 b (some x) ns.length c w1 ∧ Below B w0 w1 ∧ NodeAt w.heap.size t (.slice aa t.attrs.length ac) (.slice (some y) t.kids.length kc) w1 ∧ DChg B b w w1 from
        ⟨by rw [HX.out]; exact hp1, HW.out.2.1.chg HW.out.1 hd1, HW.out.2.2.1.trans (hd1.low H.out.1.at.1 (Nat.le_trans HBW.out HW.out.2.2.2.2.size)), keep_blk HW.out.2.2.2.1 (by decide) (by decide) HW.out.1 hd1, HW.out.2.2.2.2.trans hd1⟩)
      clear hp1 hd1 HCL
      go_wp2_with fail
      go_roundw
      case rel => exact ⟨j + 1, by go_num, by omega, HW1⟩
      case measure => simp [intOf]; omega
    · have hji : ¬ (j : Int) < (t.kids.length : Int) := by omega
      have HF := hid_mk (show PageM B b (t.kids.foldl (fun s k => nd s k.toNat) st1) wr ∧ DChg B b w wr by
        have := HW.out
        rw [List.take_of_length_le (by omega)] at this
        exact ⟨this.1, this.2.2.2.2⟩)
      have e0 := HW.out.2.2.2.1.cells.1
      have e1 := HW.out.2.2.2.1.cells.2.1
      clear HW
      go_wp2_with fail
      go_end0
      exact ⟨rfl, HF.out⟩
end Go.Proofs.YtnooofnlbfhopaaDoor.Pg
