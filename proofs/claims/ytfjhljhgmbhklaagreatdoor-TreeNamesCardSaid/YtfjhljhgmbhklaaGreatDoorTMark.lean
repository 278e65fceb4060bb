/-
  startTag, endTag, noMark of package token. Conditions: the text's length is bounded; the world holds what Tab says.
-/
import Derived.Test.YtfjhljhgmbhklaaGreatDoorTTag
import Derived.Test.YtfjhljhgmbhklaaGreatDoorTwoRows
namespace Go.Proofs.YtfjhljhgmbhklaaGreatDoor
open Go.RowKit
theorem AtRow.mono {B B' : Nat} {v : Value} {l : List Atr} {w : World} (h : AtRow B v l w) (hb : B' ≤ B) : AtRow B' v l w := own_mono h hb
/-- A token's cells, one by one. -/
theorem TokIs.five {R : Nat × Tk × List UInt8} {cs : Array Value} {err : Int} {y : ByteArray} {B : Nat} {w : World} (h : TokIs R cs err y B w) :
    ∃ (k : Int) (n : ByteArray) (a : Option Addr) (l c : Nat) (s : Bool) (d : ByteArray), cs = #[.int .u8 k, .string n, .slice a l c, .bool s, .string d] := by
  rcases h.2 with ⟨_, _, v, rfl, hr⟩ | ⟨_, rfl⟩
  · obtain ⟨a, c, rfl, _⟩ := own_attrs hr
    exact ⟨_, _, _, _, _, _, _, rfl⟩
  · exact ⟨_, _, _, _, _, _, _, rfl⟩
theorem TokIs.to {R : Nat × Tk × List UInt8} {cs : Array Value} {err : Int} {y : ByteArray} {B B' : Nat} {w w' : World} (h : TokIs R cs err y B w) (hB : B' ≤ B) (hr : ∀ v l, AtRow B v l w → AtRow B v l w') : TokIs R cs err y B' w' := by
  refine ⟨h.1, ?_⟩
  rcases h.2 with ⟨h0, hy, v, hc, ha⟩ | hz
  · exact .inl ⟨h0, hy, v, hc, (hr v _ ha).mono hB⟩
  · exact .inr hz
theorem resStart : Tryz.f95.results = #[.cell 2 25, .tmp 3] := by kernel_rfl
theorem resEnd : Tryz.f96.results = #[.cell 2 25, .tmp 3] := by kernel_rfl
theorem resNo : Tryz.f101.results = #[.cell 2 25, .tmp 3] := by kernel_rfl
theorem noMark_any (b : Nat) (x : ByteArray) (w : World) (hT : Tab w) (hR : Rd b x w) :
    Calls Tryz.prog 101 #[.pointer (some ⟨b, 0, none⟩)] w (TokPost b (43, .none, []) w) := by
  have hN := Now.start hR hT
  have HN := hid_mk (hN.alloc (.cells zTok 25))
  clear hT hR hN
  go_enter Tryz.func101, Tryz.ntmps101
  go_wp2_with fail
  refine bodyPost_ret (results_cell_tmp resNo _ _ w.heap.size 25 _ (0, 0) _ rfl (heap_alloc_new w _) Tryz.underlying25 rfl (by kernel_rfl) (.int .i64 43) rfl) rfl ?_
  exact ⟨_, _, x, rfl, HN.out.1, HN.out.2, rfl, .inr ⟨by decide, rfl⟩⟩
set_option maxHeartbeats 4000000 in
set_option maxRecDepth 100000 in
theorem startTag_any (b : Nat) (x : ByteArray) (w : World) (hT : Tab w) (hR : Rd b x w) (hx : x.size ≤ 1000000000) (hp : Lib.hasPrefix (sl x) [60] = true) :
    Calls Tryz.prog 95 #[.pointer (some ⟨b, 0, none⟩)] w (TokPost b (tagL 1 ((sl x).drop 1)) w) := by
  have HT := hid_mk hT
  have hN0 := Now.start hR hT
  have hL0 := Loc.new hN0 zTok 25
  have hN1 := hN0.alloc (.cells zTok 25)
  have hsk := hid_mk (skip_yes b x [60] _ hN1.tab hN1.1 hp)
  rw [show ([60] : List UInt8).length = 1 from rfl] at hsk
  obtain ⟨S, hS⟩ : ∃ S, S = (sl x).drop 1 := ⟨_, rfl⟩
  have hSl : S.length ≤ 1000000000 := by rw [hS, List.length_drop, len_sl]; omega
  rw [← hS] at hsk ⊢
  obtain ⟨R, hRR⟩ : ∃ R, R = tagL 1 S := ⟨_, rfl⟩
  rw [← hRR]
  have HRR := hid_mk hRR
  have H0 := hid_mk (And.intro hN1 hL0)
  have hzA := hid_mk (show (w.alloc (.cells zTok 25)) = (w.alloc (.cells #[.int .u8 0, .string ⟨#[]⟩, .slice none 0 0, .bool false, .string ⟨#[]⟩] 25)) from rfl)
  clear hT hR hN0 hL0 hN1 hp hS hRR
  go_enter Tryz.func95, Tryz.ntmps95
  go_wp2_with fail
  rw [← hzA.out]
  refine hsk.out.mono ?_
  rintro e w1 ⟨rfl, hr1, hu1⟩
  have H1 := hid_mk (And.intro (H0.out.1.step hr1 hu1) (H0.out.2.upd hu1))
  clear hsk H0 hzA hr1 hu1
  have htg := hid_mk (tag_any b 1 (strOf S) w1 H1.out.1.tab H1.out.1.1 (by rw [size_strOf]; exact hSl))
  rw [sl_strOf, ← HRR.out] at htg
  go_wp2_with fail
  refine htg.out.mono ?_
  rintro e w2 ⟨cs, err, y, rfl, hr2, hu2, hi⟩
  have H2 := hid_mk (And.intro (H1.out.1.step hr2 hu2) (H1.out.2.upd hu2))
  have hws := H1.out.1.2.1.size
  obtain ⟨k, n, a, l, c, s, d, rfl⟩ := hi.five
  have HI := hid_mk hi
  have HWS := hid_mk hws
  clear hr2 hu2 hi htg H1 hws
  obtain ⟨r, hr⟩ : ∃ r, r = w.heap.size := ⟨_, rfl⟩
  rw [← hr] at H2 ⊢
  have HRr := hid_mk hr
  clear hr
  have hL4 := H2.out.2
  have s0 := hL4.cell 0
  have s1 := hL4.cell 1
  have s2 := hL4.cell 2
  have s3 := hL4.cell 3
  have s4 := hL4.cell 4
  rw [show zTok[0]? = some (.int .u8 0) from rfl] at s0
  rw [show zTok[1]? = some (.string ⟨#[]⟩) from rfl] at s1
  rw [show zTok[2]? = some (.slice none 0 0) from rfl] at s2
  rw [show zTok[3]? = some (.bool false) from rfl] at s3
  rw [show zTok[4]? = some (.string ⟨#[]⟩) from rfl] at s4
  have t0 := hL4.frozen 0
  have t1 := hL4.frozen 1
  have t2 := hL4.frozen 2
  have t3 := hL4.frozen 3
  have t4 := hL4.frozen 4
  clear hL4
  go_wp2_with fail
  have HL := tok_set (a0 := .int .u8 0) (a1 := .string ⟨#[]⟩) (a2 := .slice none 0 0) (a3 := .bool false) (a4 := .string ⟨#[]⟩) H2.out.2 (.int .u8 k) (.string n) (.slice a l c) (.bool s) (.string d)
  have HN := tok_now H2.out.1 HT.out H2.out.2 (.int .u8 k) (.string n) (.slice a l c) (.bool s) (.string d)
  refine bodyPost_ret (results_cell_tmp resStart _ _ r 25 _ (0, 0) _ rfl HL.1 Tryz.underlying25 rfl (by kernel_rfl) (.int .i64 err) rfl) rfl ?_
  exact ⟨_, _, _, rfl, HN.1, HN.2, HI.out.to HWS.out (fun v l h => tok_row h H2.out.2 _ _ _ _ _)⟩
set_option maxHeartbeats 4000000 in
set_option maxRecDepth 100000 in
theorem endTag_any (b : Nat) (x : ByteArray) (w : World) (hT : Tab w) (hR : Rd b x w) (hx : x.size ≤ 1000000000) (hp : Lib.hasPrefix (sl x) [60, 47] = true) :
    Calls Tryz.prog 96 #[.pointer (some ⟨b, 0, none⟩)] w (TokPost b (endL ((sl x).drop 2)) w) := by
  have HT := hid_mk hT
  have hN0 := Now.start hR hT
  have hL0 := Loc.new hN0 zTok 25
  have hN1 := hN0.alloc (.cells zTok 25)
  have hsk := hid_mk (skip_yes b x [60, 47] _ hN1.tab hN1.1 hp)
  rw [show ([60, 47] : List UInt8).length = 2 from rfl] at hsk
  obtain ⟨S, hS⟩ : ∃ S, S = (sl x).drop 2 := ⟨_, rfl⟩
  have hSl : S.length ≤ 1000000000 := by rw [hS, List.length_drop, len_sl]; omega
  rw [← hS] at hsk ⊢
  obtain ⟨R, hRR⟩ : ∃ R, R = endL S := ⟨_, rfl⟩
  rw [← hRR]
  obtain ⟨X, hX⟩ : ∃ X, X = strOf S := ⟨_, rfl⟩
  have hXS : sl X = S := by rw [hX, sl_strOf]
  have hXs : X.size = S.length := by rw [hX, size_strOf]
  have HXz := hid_mk (And.intro hXS hXs)
  rw [← hX] at hsk
  have HRR := hid_mk hRR
  have H0 := hid_mk (And.intro hN1 hL0)
  have hzA := hid_mk (show (w.alloc (.cells zTok 25)) = (w.alloc (.cells #[.int .u8 0, .string ⟨#[]⟩, .slice none 0 0, .bool false, .string ⟨#[]⟩] 25)) from rfl)
  clear hT hR hN0 hL0 hN1 hp hS hRR hX
  go_enter Tryz.func96, Tryz.ntmps96
  go_wp2_with fail
  rw [← hzA.out]
  refine hsk.out.mono ?_
  rintro e w1 ⟨rfl, hr1, hu1⟩
  have H1 := hid_mk (And.intro (H0.out.1.step hr1 hu1) (H0.out.2.upd hu1))
  clear hsk H0 hzA hr1 hu1
  obtain ⟨r, hr⟩ : ∃ r, r = w.heap.size := ⟨_, rfl⟩
  rw [← hr] at H1 ⊢
  have HRr := hid_mk hr
  clear hr
  have hrc := H1.out.1.1.cell
  by_cases hSe : S = []
  · have he : X.toList = [] := by rw [Lib.toList_data]; show sl X = []; rw [hXS, hSe]
    have he2 : X.toList.isEmpty = true := by rw [he]; rfl
    have HF := hid_mk (show R = (40, .none, []) by rw [HRR.out, hSe]; rfl)
    clear hSe hXS hXs
    have hL4 := H1.out.2
    have s0 := hL4.cell 0
    have s1 := hL4.cell 1
    have s2 := hL4.cell 2
    have s3 := hL4.cell 3
    have s4 := hL4.cell 4
    rw [show zTok[0]? = some (.int .u8 0) from rfl] at s0
    rw [show zTok[1]? = some (.string ⟨#[]⟩) from rfl] at s1
    rw [show zTok[2]? = some (.slice none 0 0) from rfl] at s2
    rw [show zTok[3]? = some (.bool false) from rfl] at s3
    rw [show zTok[4]? = some (.string ⟨#[]⟩) from rfl] at s4
    have t0 := hL4.frozen 0
    have t1 := hL4.frozen 1
    have t2 := hL4.frozen 2
    have t3 := hL4.frozen 3
    have t4 := hL4.frozen 4
    clear hL4
    go_wp2_with fail
    have HL := tok_set (a0 := .int .u8 0) (a1 := .string ⟨#[]⟩) (a2 := .slice none 0 0) (a3 := .bool false) (a4 := .string ⟨#[]⟩) H1.out.2 (.int .u8 0) (.string ⟨#[]⟩) (.slice none 0 0) (.bool false) (.string ⟨#[]⟩)
    have HN := tok_now H1.out.1 HT.out H1.out.2 (.int .u8 0) (.string ⟨#[]⟩) (.slice none 0 0) (.bool false) (.string ⟨#[]⟩)
    refine bodyPost_ret (results_cell_tmp resEnd _ _ r 25 _ (0, 0) _ rfl HL.1 Tryz.underlying25 rfl (by kernel_rfl) (.int .i64 40) rfl) rfl ?_
    exact ⟨_, _, _, rfl, HN.1, HN.2, by rw [HF.out]; exact ⟨rfl, .inr ⟨by decide, rfl⟩⟩⟩
  have hpos : 0 < S.length := List.length_pos_iff.2 hSe
  have hX0 : 0 < X.size := by omega
  have hX0i : (0 : Int) < (X.size : Int) := by omega
  have hne : X.toList.isEmpty = false := by
    rw [Lib.toList_data]
    show (sl X).isEmpty = false
    rw [hXS]
    cases S with
    | nil => exact absurd rfl hSe
    | cons _ _ => rfl
  have hSe2 : S.isEmpty = false := by
    cases S with
    | nil => exact absurd rfl hSe
    | cons _ _ => rfl
  have hb0 : X[0]'hX0 = S.getD 0 0 := by rw [← hXS, getD_sl X 0 hX0]
  have hlet := hid_mk (fun w => letter_any (X[0]'hX0) w)
  rw [hb0] at hlet
  cases hL : isLet (S.getD 0 0) with
  | false =>
    rw [hL] at hlet
    have HF := hid_mk (show R = (40, .none, []) by rw [HRR.out]; unfold endL; rw [hSe2, hL]; rfl)
    rw [← hb0] at hlet
    clear hSe hXS hXs hSe2 hb0 hL
    go_wp2_with fail
    refine (hlet.out _).mono ?_
    rintro e w2 ⟨rfl, rfl⟩
    have hL4 := H1.out.2
    have s0 := hL4.cell 0
    have s1 := hL4.cell 1
    have s2 := hL4.cell 2
    have s3 := hL4.cell 3
    have s4 := hL4.cell 4
    rw [show zTok[0]? = some (.int .u8 0) from rfl] at s0
    rw [show zTok[1]? = some (.string ⟨#[]⟩) from rfl] at s1
    rw [show zTok[2]? = some (.slice none 0 0) from rfl] at s2
    rw [show zTok[3]? = some (.bool false) from rfl] at s3
    rw [show zTok[4]? = some (.string ⟨#[]⟩) from rfl] at s4
    have t0 := hL4.frozen 0
    have t1 := hL4.frozen 1
    have t2 := hL4.frozen 2
    have t3 := hL4.frozen 3
    have t4 := hL4.frozen 4
    clear hL4
    go_wp2_with fail
    have HL := tok_set (a0 := .int .u8 0) (a1 := .string ⟨#[]⟩) (a2 := .slice none 0 0) (a3 := .bool false) (a4 := .string ⟨#[]⟩) H1.out.2 (.int .u8 0) (.string ⟨#[]⟩) (.slice none 0 0) (.bool false) (.string ⟨#[]⟩)
    have HN := tok_now H1.out.1 HT.out H1.out.2 (.int .u8 0) (.string ⟨#[]⟩) (.slice none 0 0) (.bool false) (.string ⟨#[]⟩)
    refine bodyPost_ret (results_cell_tmp resEnd _ _ r 25 _ (0, 0) _ rfl HL.1 Tryz.underlying25 rfl (by kernel_rfl) (.int .i64 40) rfl) rfl ?_
    exact ⟨_, _, _, rfl, HN.1, HN.2, by rw [HF.out]; exact ⟨rfl, .inr ⟨by decide, rfl⟩⟩⟩
  | true =>
    rw [hL] at hlet
    have HE := hid_mk (show R = if !(tagL 2 S).2.1.attrs.isEmpty || (tagL 2 S).2.1.self then (40, .none, []) else tagL 2 S by rw [HRR.out]; unfold endL; rw [hSe2, hL]; rfl)
    rw [← hb0] at hlet
    have htg := hid_mk (tag_any b 2 X w1 H1.out.1.tab H1.out.1.1 (by rw [hXs]; exact hSl))
    rw [hXS] at htg
    clear hSe hXS hXs hSe2 hb0 hL
    go_wp2_with fail
    refine (hlet.out _).mono ?_
    rintro e w2 ⟨rfl, rfl⟩
    go_wp2_with fail
    refine htg.out.mono ?_
    rintro e w2 ⟨cs, err, y, rfl, hr2, hu2, hi⟩
    have H2 := hid_mk (And.intro (H1.out.1.step hr2 hu2) (H1.out.2.upd hu2))
    have hws := H1.out.1.2.1.size
    have hlt2 := H2.out.2.lt
    clear hr2 hu2 htg H1 hrc hne hX0i
    obtain ⟨g, hg⟩ : ∃ g, g = w2.heap.size := ⟨_, rfl⟩
    rcases hi.2 with ⟨h0, hy, v, rfl, har⟩ | ⟨h0, rfl⟩
    · obtain ⟨va, vc, rfl, _⟩ := own_attrs har
      generalize htl : tagL 2 S = T at *
      obtain ⟨T0, ⟨tk, tn, tat, tsf, td⟩, tr⟩ := T
      simp only at h0 hy har HE
      obtain rfl := h0
      have he0 : err = 0 := hi.1
      subst he0
      have HI := hid_mk hi
      have HE2 := hid_mk (show R = if !tat.isEmpty || tsf then (40, .none, []) else (0, ⟨tk, tn, tat, tsf, td⟩, tr) from HE.out)
      have HY := hid_mk hy
      have HAR := hid_mk har
      have HWS := hid_mk hws
      clear hi hy har htl hg HE hws
      have hL4 := H2.out.2
      have s0 := hL4.cell 0
      have s1 := hL4.cell 1
      have s2 := hL4.cell 2
      have s3 := hL4.cell 3
      have s4 := hL4.cell 4
      rw [show zTok[0]? = some (.int .u8 0) from rfl] at s0
      rw [show zTok[1]? = some (.string ⟨#[]⟩) from rfl] at s1
      rw [show zTok[2]? = some (.slice none 0 0) from rfl] at s2
      rw [show zTok[3]? = some (.bool false) from rfl] at s3
      rw [show zTok[4]? = some (.string ⟨#[]⟩) from rfl] at s4
      have t0 := hL4.frozen 0
      have t1 := hL4.frozen 1
      have t2 := hL4.frozen 2
      have t3 := hL4.frozen 3
      have t4 := hL4.frozen 4
      clear hL4
      have hcase : (0 < tat.length) ∨ (tat = [] ∧ tsf = true) ∨ (tat = [] ∧ tsf = false) := by
        cases tat with
        | nil => cases tsf <;> simp
        | cons _ _ => simp
      rcases hcase with hc | ⟨hc, hc2⟩ | ⟨hc, hc2⟩
      · have HF := hid_mk (show R = (40, .none, []) by
          rw [HE2.out]
          cases tat with
          | nil => simp at hc
          | cons _ _ => rfl)
        unfold tkCells
        simp only
        obtain ⟨ln, hln⟩ : ∃ ln, ln = tat.length := ⟨_, rfl⟩
        rw [← hln]
        have hc2 : 0 < ln := by omega
        have hci : (0 : Int) < (ln : Int) := by omega
        have HLN := hid_mk hln
        clear hc HE2 hln
        go_wp2_with fail
        have HL := tok_set (a0 := .int .u8 0) (a1 := .string ⟨#[]⟩) (a2 := .slice none 0 0) (a3 := .bool false) (a4 := .string ⟨#[]⟩) H2.out.2 (.int .u8 0) (.string ⟨#[]⟩) (.slice none 0 0) (.bool false) (.string ⟨#[]⟩)
        have HN := tok_now H2.out.1 HT.out H2.out.2 (.int .u8 0) (.string ⟨#[]⟩) (.slice none 0 0) (.bool false) (.string ⟨#[]⟩)
        refine bodyPost_ret (results_cell_tmp resEnd _ _ r 25 _ (0, 0) _ rfl (HL.alloc _).1 Tryz.underlying25 rfl (by kernel_rfl) (.int .i64 40) rfl) rfl ?_
        exact ⟨_, _, _, rfl, (HN.alloc _).1, (HN.alloc _).2, by rw [HF.out]; exact ⟨rfl, .inr ⟨by decide, rfl⟩⟩⟩
      · subst hc hc2
        have HF := hid_mk (show R = (40, .none, []) from HE2.out.trans rfl)
        clear HE2
        unfold tkCells
        simp only
        go_wp2_with fail
        have HL := tok_set (a0 := .int .u8 0) (a1 := .string ⟨#[]⟩) (a2 := .slice none 0 0) (a3 := .bool false) (a4 := .string ⟨#[]⟩) H2.out.2 (.int .u8 0) (.string ⟨#[]⟩) (.slice none 0 0) (.bool false) (.string ⟨#[]⟩)
        have HN := tok_now H2.out.1 HT.out H2.out.2 (.int .u8 0) (.string ⟨#[]⟩) (.slice none 0 0) (.bool false) (.string ⟨#[]⟩)
        refine bodyPost_ret (results_cell_tmp resEnd _ _ r 25 _ (0, 0) _ rfl (HL.alloc _).1 Tryz.underlying25 rfl (by kernel_rfl) (.int .i64 40) rfl) rfl ?_
        exact ⟨_, _, _, rfl, (HN.alloc _).1, (HN.alloc _).2, by rw [HF.out]; exact ⟨rfl, .inr ⟨by decide, rfl⟩⟩⟩
      · subst hc hc2
        have HF := hid_mk (show R = (0, ⟨tk, tn, [], false, td⟩, tr) from HE2.out.trans rfl)
        clear HE2
        unfold tkCells
        simp only
        go_wp2_with fail
        have HL := tok_set (a0 := .int .u8 0) (a1 := .string ⟨#[]⟩) (a2 := .slice none 0 0) (a3 := .bool false) (a4 := .string ⟨#[]⟩) H2.out.2 (.int .u8 (tk : Int)) (.string (strOf tn)) (.slice va 0 vc) (.bool false) (.string (strOf td))
        have HN := tok_now H2.out.1 HT.out H2.out.2 (.int .u8 (tk : Int)) (.string (strOf tn)) (.slice va 0 vc) (.bool false) (.string (strOf td))
        have HO := tok_row HAR.out H2.out.2 (.int .u8 (tk : Int)) (.string (strOf tn)) (.slice va 0 vc) (.bool false) (.string (strOf td))
        refine bodyPost_ret (results_cell_tmp resEnd _ _ r 25 _ (0, 0) _ rfl (HL.alloc _).1 Tryz.underlying25 rfl (by kernel_rfl) (.int .i64 0) rfl) rfl ?_
        exact ⟨_, _, _, rfl, (HN.alloc _).1, (HN.alloc _).2, by rw [HF.out]; exact ⟨rfl, .inl ⟨rfl, HY.out, _, rfl, (HO.mono HWS.out).below ((Below.refl _ _).alloc (Nat.le_refl _) _)⟩⟩⟩
    · have he := hi.1
      subst he
      have HF := hid_mk (show ∃ e, R = (e + 1, .none, []) ∧ (tagL 2 S).1 = e + 1 by
        rw [HE.out]
        unfold tagL at h0 ⊢
        split
        · exact ⟨39, rfl, rfl⟩
        · rename_i hm
          rw [if_neg hm] at h0
          generalize attrsF 17 (downL S [9, 10, 12, 32, 47, 62]) [] = Q at *
          obtain ⟨q0, q1, q2, q3⟩ := Q
          cases q0 with
          | zero => exact absurd rfl h0
          | succ e => exact ⟨e, rfl, rfl⟩)
      obtain ⟨e1, he1, he2⟩ := HF.out
      rw [he2]
      have HG := hid_mk he1
      clear hi HE h0 HF he1 he2 hg
      have hL4 := H2.out.2
      have s0 := hL4.cell 0
      have s1 := hL4.cell 1
      have s2 := hL4.cell 2
      have s3 := hL4.cell 3
      have s4 := hL4.cell 4
      rw [show zTok[0]? = some (.int .u8 0) from rfl] at s0
      rw [show zTok[1]? = some (.string ⟨#[]⟩) from rfl] at s1
      rw [show zTok[2]? = some (.slice none 0 0) from rfl] at s2
      rw [show zTok[3]? = some (.bool false) from rfl] at s3
      rw [show zTok[4]? = some (.string ⟨#[]⟩) from rfl] at s4
      have t0 := hL4.frozen 0
      have t1 := hL4.frozen 1
      have t2 := hL4.frozen 2
      have t3 := hL4.frozen 3
      have t4 := hL4.frozen 4
      clear hL4
      unfold zTok
      go_wp2_with fail
      have HL := tok_set (a0 := .int .u8 0) (a1 := .string ⟨#[]⟩) (a2 := .slice none 0 0) (a3 := .bool false) (a4 := .string ⟨#[]⟩) H2.out.2 (.int .u8 0) (.string ⟨#[]⟩) (.slice none 0 0) (.bool false) (.string ⟨#[]⟩)
      have HN := tok_now H2.out.1 HT.out H2.out.2 (.int .u8 0) (.string ⟨#[]⟩) (.slice none 0 0) (.bool false) (.string ⟨#[]⟩)
      refine bodyPost_ret (results_cell_tmp resEnd _ _ r 25 _ (0, 0) _ rfl (HL.alloc _).1 Tryz.underlying25 rfl (by kernel_rfl) (.int .i64 ((e1 + 1 : Nat) : Int)) rfl) rfl ?_
      exact ⟨_, _, _, rfl, (HN.alloc _).1, (HN.alloc _).2, by rw [HG.out]; exact ⟨rfl, .inr ⟨by simp, rfl⟩⟩⟩
end Go.Proofs.YtfjhljhgmbhklaaGreatDoor
