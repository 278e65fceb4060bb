/-
  Package serial's page: writeStart. Conditions: the attributes' row lies below the page; the values' sizes are bounded.
-/
import Derived.Test.YtnooofnlbfhopaaDoorSEscP
import Derived.Test.YtnooofnlbfhopaaDoorRMem
namespace Go.Proofs.YtnooofnlbfhopaaDoor.Pg
open Go.RowKit
def attrP (st : Pst) (a : List UInt8 × List UInt8) : Pst := wrL (wrE true (wrL st [[32], a.1, [61, 34]]) a.2) [[34]]
def startP (st : Pst) (name : List UInt8) (l : List (List UInt8 × List UInt8)) : Pst := wrL (l.foldl attrP (wrL st [[60], name])) [[62]]
theorem DChg.low {B b : Nat} {w w' : World} (h : DChg B b w w') (hb : B ≤ b) (hB : B ≤ w.heap.size) : Below B w w' :=
  ⟨h.os, h.tape, h.output, h.size, fun k hk => by
    have hk' : k < w.heap.size := by omega
    have := h.blocks k _ (Array.getElem?_eq_getElem hk') (by omega) (.inl hk)
    rw [this, Array.getElem?_eq_getElem hk']⟩
theorem PageM.at {B b : Nat} {st : Pst} {w : World} (h : PageM B b st w) : B ≤ b ∧ b < w.heap.size := by
  obtain ⟨cs, h1, _⟩ := h
  exact ⟨h1.2.2.1, (Array.getElem?_eq_some_iff.1 h1.1).1⟩
theorem write_new {B b c : Nat} (n : Nat) (st : Pst) (l : List (List UInt8)) (C : Array Value) (hC : C.toList = l.map fun s => Value.string (strOf s)) (w : World) (fr : Nat × Nat) (h : PageM B b st w) (hn : l.length ≤ 1000) (hnl : n = l.length) :
    Calls Tryd.prog 42 #[.pointer (some ⟨b, 0, none⟩), .slice (some ⟨w.heap.size, 0, none⟩) n c] (w.alloc (.cells C 9 fr)) fun e w' => e = .returned (.tuple #[]) ∧ PageM B b (wrL st l) w' ∧ DChg B b w w' := by
  have hb : Below w.heap.size w (w.alloc (.cells C 9 fr)) := (Below.refl _ _).alloc (Nat.le_refl _) _
  refine (write_n n st l _ (h.below hb) (strs_new w l C fr hC) hn hnl).mono ?_
  rintro e w' ⟨rfl, h1, h2⟩
  exact ⟨rfl, h1, (DChg.of hb).trans h2⟩
set_option maxHeartbeats 4000000 in
set_option maxRecDepth 100000 in
theorem writeStart_any {B b : Nat} (st : Pst) (kv dv uv xv : Value) (name : List UInt8) (l : List (List UInt8 × List UInt8)) (a : Option Addr) (c : Nat) (w0 w : World) (hB : B = w0.heap.size) (hw : Below B w0 w) (hr : HasRow w0 a (l.flatMap atF)) (hl : l.length ≤ 1000000) (hs : ∀ p ∈ l, p.2.length ≤ 1000000000000) (h : PageM B b st w) :
    Calls Tryd.prog 40 #[.pointer (some ⟨b, 0, none⟩), .agg #[kv, .string (strOf name), .slice a l.length c, dv, uv, xv]] w fun e w' => e = .returned (.tuple #[]) ∧ PageM B b (startP st name l) w' ∧ DChg B b w w' := by
  have HS := hid_mk hs
  have HR := hid_mk (And.intro hB (And.intro hw hr))
  have H := hid_mk h
  obtain ⟨n, hn⟩ : ∃ n, n = l.length := ⟨_, rfl⟩
  have HN := hid_mk hn
  rw [← hn] at hl ⊢
  clear hs hB hw hr h hn
  go_enter Tryd.func40, Tryd.ntmps40
  go_wp2_with fail
  obtain ⟨W1, hW1⟩ : ∃ W1, W1 = w.alloc (.cells #[kv, .string (strOf name), .slice a n c, dv, uv, xv] 33) := ⟨_, rfl⟩
  have hb1 : Below w.heap.size w W1 := by rw [hW1]; exact (Below.refl _ _).alloc (Nat.le_refl _) _
  have hz1 : W1.heap.size = w.heap.size + 1 := by rw [hW1]; exact Array.size_push _
  have hblk : W1.heap[w.heap.size]? = some (.cells #[kv, .string (strOf name), .slice a n c, dv, uv, xv] 33 (0, 0)) := by rw [hW1]; exact heap_alloc_new w _
  have hp1 := H.out.below hb1
  have hc1 := write_new (c := 2) 2 st [[60], name] #[.string ⟨#[60]⟩, .string (strOf name)] rfl W1 (0, 0) hp1 (by simp) rfl
  rw [hz1] at hc1
  have HB1 := hid_mk (And.intro hb1 (And.intro hblk hp1.at))
  rw [← hW1]
  have HC1 := hid_mk hc1
  clear hb1 hz1 hblk hp1 hc1 hW1
  with_reducible refine HC1.out.mono ?_
  rintro e2 w2 ⟨rfl, hp2, hd2⟩
  have c2 : w2.cell? ⟨w.heap.size, 2, none⟩ = some (.slice a n c) := by
    have hk := hd2.blocks w.heap.size _ HB1.out.2.1 (by have := H.out.at.2; omega) (.inr fun cs fr e => by injection e with _ h2; exact absurd h2 (by decide))
    rw [cell_of_row w2 w.heap.size 2 _ _ _ hk]
    rfl
  have H2 := hid_mk (And.intro hp2 ((DChg.of (B := B) (b := b) HB1.out.1).trans hd2))
  clear hp2 hd2 HC1 HB1
  have HBW := hid_mk (show B ≤ w.heap.size by rw [HR.out.1]; exact HR.out.2.1.size)
  go_wp2_with fail
  go_loopw [14] (fun vk wr => ∃ k : Nat, vk = .int .i64 k ∧ k ≤ n ∧ Hid (PageM B b ((l.take k).foldl attrP (wrL st [[60], name])) wr ∧ DChg B b w wr)) (fun vk _ => n - (intOf vk).toNat)
  case atStart => exact ⟨0, rfl, Nat.zero_le _, hid_mk ⟨by rw [List.take_zero]; exact H2.out.1, H2.out.2⟩⟩
  case round =>
    obtain ⟨k, rfl, hk, HW⟩ := hrel
    by_cases hkn : k < n
    · have hkl : k < l.length := by rw [← HN.out]; exact hkn
      have hki : (k : Int) < (n : Int) := by omega
      have hbw : Below w0.heap.size w0 wr := by
        have := HR.out.2.1.trans (HW.out.2.low H.out.at.1 HBW.out)
        rwa [HR.out.1] at this
      obtain ⟨x, hx, hxl, d0, d1⟩ := (HR.out.2.2.below hbw).at2 hkl
      subst hx
      have HX := hid_mk (show (l.take (k + 1)).foldl attrP (wrL st [[60], name]) = attrP ((l.take k).foldl attrP (wrL st [[60], name])) l[k] by
        rw [List.take_succ_eq_append_getElem hkl, List.foldl_append]
        rfl)
      have hts := HS.out l[k] (List.getElem_mem hkl)
      generalize l[k] = t at *
      obtain ⟨st2, hst⟩ : ∃ st2, st2 = (l.take k).foldl attrP (wrL st [[60], name]) := ⟨_, rfl⟩
      rw [← hst] at HW HX
      have d2 : wr.cell? ⟨(x.add (k * 2)).block, (x.add (k * 2)).off + 1, none⟩ = some (.string (strOf t.2)) := by rw [← show (x.add (k * 2)).add 1 = ⟨(x.add (k * 2)).block, (x.add (k * 2)).off + 1, none⟩ from rfl, Addr.add_add]; exact d1
      clear hst hbw hxl
      go_wp2_with fail
      obtain ⟨wa, hwa⟩ : ∃ wa, wa = wr.alloc (.cells #[.string (strOf t.1), .string (strOf t.2)] 35) := ⟨_, rfl⟩
      have hba : Below wr.heap.size wr wa := by rw [hwa]; exact (Below.refl _ _).alloc (Nat.le_refl _) _
      have hza : wa.heap.size = wr.heap.size + 1 := by rw [hwa]; exact Array.size_push _
      have hblk : wa.heap[wr.heap.size]? = some (.cells #[.string (strOf t.1), .string (strOf t.2)] 35 (0, 0)) := by rw [hwa]; exact heap_alloc_new wr _
      have hpa := HW.out.1.below hba
      have hc3 := write_new (c := 3) 3 st2 [[32], t.1, [61, 34]] #[.string ⟨#[32]⟩, .string (strOf t.1), .string ⟨#[61, 34]⟩] rfl wa (0, 0) hpa (by simp) rfl
      rw [hza] at hc3
      have HBA := hid_mk (And.intro hba (And.intro hblk HW.out.1.at.2))
      rw [← hwa]
      have HC3 := hid_mk hc3
      clear hba hza hblk hpa hc3 hwa
      with_reducible refine HC3.out.mono ?_
      rintro e3 w3 ⟨rfl, hp3, hd3⟩
      have c3 : w3.cell? ⟨wr.heap.size, 1, none⟩ = some (.string (strOf t.2)) := by
        have hk := hd3.blocks wr.heap.size _ HBA.out.2.1 (by have := HBA.out.2.2; omega) (.inr fun cs fr e => by injection e with _ h2; exact absurd h2 (by decide))
        rw [cell_of_row w3 wr.heap.size 1 _ _ _ hk]
        rfl
      have H3 := hid_mk (And.intro hp3 (HW.out.2.trans ((DChg.of (B := B) (b := b) HBA.out.1).trans hd3)))
      have hwe := writeEscaped_any true 9 _ (strOf t.2) w3 H3.out.1 (fun args w' => by kernel_rfl) (fun w' => escapeValue_any (strOf t.2) (by rw [size_strOf]; exact hts) w')
      rw [sl_strOf] at hwe
      have HWE := hid_mk hwe
      clear hwe hp3 hd3 HC3 HBA hts
      go_wp2_with fail
      with_reducible refine HWE.out.mono ?_
      rintro e4 w4 ⟨rfl, hp4, hd4⟩
      have H4 := hid_mk (And.intro hp4 (H3.out.2.trans hd4))
      have HC5 := hid_mk (write_new (c := 1) 1 _ [[34]] #[.string ⟨#[34]⟩] rfl w4 (0, 0) H4.out.1 (by simp) rfl)
      clear hp4 hd4 HWE
      go_wp2_with fail
      with_reducible refine HC5.out.mono ?_
      rintro e5 w5 ⟨rfl, hp5, hd5⟩
      have H5 := hid_mk (show PageM B b ((l.take (k + 1)).foldl attrP (wrL st [[60], name])) w5 ∧ DChg B b w w5 from ⟨by rw [HX.out]; exact hp5, H4.out.2.trans hd5⟩)
      clear hp5 hd5 HC5
      go_wp2_with fail
      go_roundw
      case rel => exact ⟨k + 1, by go_num, by omega, H5⟩
      case measure => simp [intOf]; omega
    · have hki : ¬ (k : Int) < (n : Int) := by omega
      have HF := hid_mk (show PageM B b (l.foldl attrP (wrL st [[60], name])) wr ∧ DChg B b w wr by
        have := HW.out
        rwa [List.take_of_length_le (by rw [← HN.out]; omega)] at this)
      have HC := hid_mk (write_new (c := 1) 1 _ [[62]] #[.string ⟨#[62]⟩] rfl wr (0, 0) HF.out.1 (by simp) rfl)
      clear HW
      go_wp2_with fail
      with_reducible refine HC.out.mono ?_
      rintro e3 w3 ⟨rfl, hp3, hd3⟩
      have HG := hid_mk (And.intro hp3 (HF.out.2.trans hd3))
      clear hp3 hd3
      go_wp2_with fail
      go_end0
      exact ⟨rfl, HG.out⟩
end Go.Proofs.YtnooofnlbfhopaaDoor.Pg
