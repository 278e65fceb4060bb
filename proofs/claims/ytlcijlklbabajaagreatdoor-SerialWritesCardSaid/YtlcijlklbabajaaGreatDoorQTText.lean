/-
  comment, doctype, text of package token. Conditions: the text's length is bounded; the world holds what Tab says.
-/
import Derived.Test.YtlcijlklbabajaaGreatDoorQTTaM
namespace Go.Proofs.YtlcijlklbabajaaGreatDoor
open Go.RowKit
theorem cut_any (s : ByteArray) (p : List UInt8) (w : World) (hT : Tab w) (hs : s.size ≤ 1000000000) :
 Calls Tryz.prog 148 #[.string s, .string (strOf p)] w fun e w' => e = .returned (.tuple #[.string (strOf (Lib.cut (sl s) p).1), .string (strOf (Lib.cut (sl s) p).2.1), .bool (Lib.cut (sl s) p).2.2]) ∧ Below w.heap.size w w' := by
 obtain ⟨_, m, hm⟩ := hT
 refine (Tryz.strings_Cut s (strOf p) m w (by omega) hm).mono ?_
 rintro e w' ⟨rfl, n, rfl⟩
 rw [show (strOf p).data.toList = p from sl_strOf p]
 exact ⟨rfl, below_drewN (Below.refl _ _) n⟩
theorem contains_any (s : ByteArray) (p : List UInt8) (w : World) (hT : Tab w) (hs : s.size ≤ 1000000000) :
 Calls Tryz.prog 172 #[.string s, .string (strOf p)] w fun e w' => e = .returned (.bool (Lib.contains (sl s) p)) ∧ w = w' := by
 obtain ⟨_, m, hm⟩ := hT
 refine (Tryz.strings_Contains s (strOf p) m w (by omega) hm).mono ?_
 rintro e w' ⟨rfl, hw⟩
 rw [show (strOf p).data.toList = p from sl_strOf p]
 exact ⟨rfl, hw.symm⟩
theorem hasPre_any (s : ByteArray) (p : List UInt8) (w : World) :
 Calls Tryz.prog 116 #[.string s, .string (strOf p)] w fun e w' => e = .returned (.bool (Lib.hasPrefix (sl s) p)) ∧ w = w' := by
 refine (Tryz.strings_HasPrefix s (strOf p) w).mono ?_
 rintro e w' ⟨rfl, hw⟩
 rw [show (strOf p).data.toList = p from sl_strOf p]
 exact ⟨rfl, hw.symm⟩
theorem hasSuf_any (s : ByteArray) (p : List UInt8) (w : World) (hs : s.size ≤ 1000000000) :
 Calls Tryz.prog 173 #[.string s, .string (strOf p)] w fun e w' => e = .returned (.bool (Lib.hasSuffix (sl s) p)) ∧ w = w' := by
 refine (Tryz.strings_HasSuffix s (strOf p) w (by omega)).mono ?_
 rintro e w' ⟨rfl, hw⟩
 rw [show (strOf p).data.toList = p from sl_strOf p]
 exact ⟨rfl, hw.symm⟩
set_option maxHeartbeats 1000000 in
theorem clone_any (s : ByteArray) (w : World) (hs : s.size ≤ 1000000000) :
 Calls Tryz.prog 103 #[.string s] w fun e w' => e = .returned (.string s) ∧ Below w.heap.size w w' := by
 go_enter Tryz.func103, Tryz.ntmps103
 go_wp2_with fail
 refine (Tryz.stringslite_Clone s w (by omega)).mono ?_
 rintro e w1 ⟨rfl, hb⟩
 have HB := hid_mk hb
 clear hb
 go_wp2
 go_ret
 exact ⟨rfl, HB.out⟩
theorem trim_any (s : ByteArray) (w : World) (hs : s.size ≤ 1000000000) :
 Calls Tryz.prog 151 #[.string s, .string ⟨#[9, 10, 12, 32]⟩] w fun e w' => e = .returned (.string (strOf (Lib.trimS (sl s) blanksL))) ∧ Below w.heap.size w w' :=
 Any.strings_Trim_laid Tryz.lays160 (by kernel_rfl) s ⟨#[9, 10, 12, 32]⟩ w (by omega) (by decide) (by
  intro j b h
  have hm : b ∈ ([9, 10, 12, 32] : List UInt8) := List.mem_iff_getElem?.2 ⟨j, h⟩
  have : ∀ c ∈ ([9, 10, 12, 32] : List UInt8), c.toNat < 128 := by decide
  exact this b hm)
set_option maxHeartbeats 2000000 in
theorem commentData_any (s : ByteArray) (w : World) (hT : Tab w) (hs : s.size ≤ 1000000000) :
 Calls Tryz.prog 149 #[.string s] w fun e w' => e = .returned (.bool (comData (sl s))) ∧ w = w' := by
 have HL := hid_mk (show comData (sl s) = (!Lib.hasPrefix (sl s) [62] && !Lib.hasPrefix (sl s) [45, 62] && !Lib.contains (sl s) [45, 45, 33, 62] && !Lib.contains (sl s) [60, 33, 45, 45] && !Lib.hasSuffix (sl s) [60, 33, 45]) from rfl)
 have h1 := hid_mk (hasPre_any s [62] w)
 have h2 := hid_mk (hasPre_any s [45, 62] w)
 have h3 := hid_mk (contains_any s [45, 45, 33, 62] w hT hs)
 have h4 := hid_mk (contains_any s [60, 33, 45, 45] w hT hs)
 have h5 := hid_mk (hasSuf_any s [60, 33, 45] w hs)
 generalize Lib.hasPrefix (sl s) [62] = b1 at *
 generalize Lib.hasPrefix (sl s) [45, 62] = b2 at *
 generalize Lib.contains (sl s) [45, 45, 33, 62] = b3 at *
 generalize Lib.contains (sl s) [60, 33, 45, 45] = b4 at *
 generalize Lib.hasSuffix (sl s) [60, 33, 45] = b5 at *
 obtain ⟨r, hr⟩ : ∃ r, r = comData (sl s) := ⟨_, rfl⟩
 rw [← hr] at HL ⊢
 clear hT hr
 go_enter Tryz.func149, Tryz.ntmps149
 go_wp2_with fail
 refine h1.out.mono ?_
 rintro e w1 ⟨rfl, rfl⟩
 cases b1
 case true =>
  go_wp2_with fail
  go_ret
  rw [HL.out]
  exact ⟨rfl, rfl⟩
 go_wp2_with fail
 refine h2.out.mono ?_
 rintro e w1 ⟨rfl, rfl⟩
 cases b2
 case true =>
  go_wp2_with fail
  go_ret
  rw [HL.out]
  exact ⟨rfl, rfl⟩
 go_wp2_with fail
 refine h3.out.mono ?_
 rintro e w1 ⟨rfl, rfl⟩
 cases b3
 case true =>
  go_wp2_with fail
  go_ret
  rw [HL.out]
  exact ⟨rfl, rfl⟩
 go_wp2_with fail
 refine h4.out.mono ?_
 rintro e w1 ⟨rfl, rfl⟩
 cases b4
 case true =>
  go_wp2_with fail
  go_ret
  rw [HL.out]
  exact ⟨rfl, rfl⟩
 go_wp2_with fail
 refine h5.out.mono ?_
 rintro e w1 ⟨rfl, rfl⟩
 cases b5
 all_goals
  go_wp2_with fail
  go_ret
  rw [HL.out]
  exact ⟨rfl, rfl⟩
theorem resCom : Tryz.f117.results = #[.cell 2 25, .tmp 3] := by kernel_rfl
theorem resDoc : Tryz.f119.results = #[.cell 2 25, .tmp 3] := by kernel_rfl
theorem resText : Tryz.f112.results = #[.cell 2 25, .tmp 3] := by kernel_rfl
theorem cut_size (l p : List UInt8) : (Lib.cut l p).1.length ≤ l.length := by
 unfold Lib.cut
 split
 ·simp only [List.length_take]; omega
 ·exact Nat.le_refl _
set_option maxHeartbeats 4000000 in
set_option maxRecDepth 100000 in
theorem comment_any (b : Nat) (x : ByteArray) (w : World) (hT : Tab w) (hR : Rd b x w) (hx : x.size ≤ 1000000000) (h4 : 4 ≤ x.size) :
 Calls Tryz.prog 117 #[.pointer (some ⟨b, 0, none⟩)] w (TokPost b (comL ((sl x).drop 4)) w) := by
 have HT := hid_mk hT
 have hN0 := Now.start hR hT
 have hL0 := Loc.new hN0 zTok 25
 have hN1 := hN0.alloc (.cells zTok 25)
 have hrc := hR.cell
 have hbl := hR.lt
 obtain ⟨S, hS⟩ : ∃ S, S = (sl x).drop 4 := ⟨_, rfl⟩
 have hSl : S.length ≤ 1000000000 := by rw [hS, List.length_drop, len_sl]; omega
 have hxS : x.extract 4 x.size = strOf S := by rw [ext_drop, hS]
 have hct := hid_mk (cut_any (strOf S) [45, 45, 62] _ hN1.tab (by rw [size_strOf]; exact hSl))
 rw [sl_strOf, ← hxS] at hct
 have h4i : (4 : Int) ≤ (x.size : Int) := by omega
 obtain ⟨R, hRR⟩ : ∃ R, R = comL S := ⟨_, rfl⟩
 rw [← hS, ← hRR]
 have H0 := hid_mk (And.intro hN1 hL0)
 have HRR := hid_mk (show R = if !(Lib.cut S [45, 45, 62]).2.2 || !comData (Lib.cut S [45, 45, 62]).1 then (43, .none, []) else (0, ⟨4, [], [], false, (Lib.cut S [45, 45, 62]).1⟩, (Lib.cut S [45, 45, 62]).2.1) by rw [hRR]; rfl)
 have hcs := cut_size S [45, 45, 62]
 obtain ⟨D, E, ok, hDE⟩ : ∃ D E ok, Lib.cut S [45, 45, 62] = (D, E, ok) := ⟨_, _, _, rfl⟩
 rw [hDE] at hct HRR hcs
 simp only at hct HRR hcs
 have hzA := hid_mk (show (w.alloc (.cells zTok 25)) = (w.alloc (.cells #[.int .u8 0, .string ⟨#[]⟩, .slice none 0 0, .bool false, .string ⟨#[]⟩] 25)) from rfl)
 obtain ⟨r, hr⟩ : ∃ r, r = w.heap.size := ⟨_, rfl⟩
 rw [← hr] at H0
 have HRr := hid_mk hr
 clear hT hR hN0 hL0 hN1 hS hRR hxS hDE hr
 go_enter Tryz.func117, Tryz.ntmps117
 go_wp2_with fail
 rw [← hzA.out]
 refine hct.out.mono ?_
 rintro e w1 ⟨rfl, hb1⟩
 have H1 := hid_mk (And.intro (H0.out.1.next hb1) (H0.out.2.next hb1))
 rw [← HRr.out]
 clear hct H0 hzA hb1 hrc
 cases ok with
 | false =>
   have HF := hid_mk (show R = (43, .none, []) from HRR.out.trans rfl)
   clear HRR
   have hL4 := H1.out.2
   have s0 := hL4.cell 0
   have s1 := hL4.cell 1
   have s2 := hL4.cell 2
   have s3 := hL4.cell 3
   have s4 := hL4.cell 4
   rw [show zTok[0]? = some (.int .u8 0) from rfl] at s0
   rw [show zTok[1]? = some (.string ⟨#[]⟩) from rfl] at s1
   rw [show zTok[2]? = some (.slice none 0 0) from rfl] at s2
   rw [show zTok[3]? = some (.bool false) from rfl] at s3
   rw [show zTok[4]? = some (.string ⟨#[]⟩) from rfl] at s4
   have t0 := hL4.frozen 0
   have t1 := hL4.frozen 1
   have t2 := hL4.frozen 2
   have t3 := hL4.frozen 3
   have t4 := hL4.frozen 4
   clear hL4
   go_wp2_with fail
   have HL := tok_set (a0 := .int .u8 0) (a1 := .string ⟨#[]⟩) (a2 := .slice none 0 0) (a3 := .bool false) (a4 := .string ⟨#[]⟩) H1.out.2 (.int .u8 0) (.string ⟨#[]⟩) (.slice none 0 0) (.bool false) (.string ⟨#[]⟩)
   have HN := tok_now H1.out.1 HT.out H1.out.2 (.int .u8 0) (.string ⟨#[]⟩) (.slice none 0 0) (.bool false) (.string ⟨#[]⟩)
   refine bodyPost_ret (results_cell_tmp resCom _ _ r 25 _ (0, 0) _ rfl HL.1 Tryz.underlying25 rfl (by kernel_rfl) (.int .i64 43) rfl) rfl ?_
   exact ⟨_, _, _, rfl, HN.1, HN.2, by rw [HF.out]; exact ⟨rfl, .inr ⟨by decide, rfl⟩⟩⟩
 | true =>
   have hcd := hid_mk (commentData_any (strOf D) w1 H1.out.1.tab (by rw [size_strOf]; omega))
   rw [sl_strOf] at hcd
   cases hc : comData D with
   | false =>
     rw [hc] at hcd
     have HF := hid_mk (show R = (43, .none, []) by rw [HRR.out, hc]; rfl)
     clear HRR hc
     go_wp2_with fail
     refine hcd.out.mono ?_
     rintro e w2 ⟨rfl, rfl⟩
     have hL4 := H1.out.2
     have s0 := hL4.cell 0
     have s1 := hL4.cell 1
     have s2 := hL4.cell 2
     have s3 := hL4.cell 3
     have s4 := hL4.cell 4
     rw [show zTok[0]? = some (.int .u8 0) from rfl] at s0
     rw [show zTok[1]? = some (.string ⟨#[]⟩) from rfl] at s1
     rw [show zTok[2]? = some (.slice none 0 0) from rfl] at s2
     rw [show zTok[3]? = some (.bool false) from rfl] at s3
     rw [show zTok[4]? = some (.string ⟨#[]⟩) from rfl] at s4
     have t0 := hL4.frozen 0
     have t1 := hL4.frozen 1
     have t2 := hL4.frozen 2
     have t3 := hL4.frozen 3
     have t4 := hL4.frozen 4
     clear hL4
     go_wp2_with fail
     have HL := tok_set (a0 := .int .u8 0) (a1 := .string ⟨#[]⟩) (a2 := .slice none 0 0) (a3 := .bool false) (a4 := .string ⟨#[]⟩) H1.out.2 (.int .u8 0) (.string ⟨#[]⟩) (.slice none 0 0) (.bool false) (.string ⟨#[]⟩)
     have HN := tok_now H1.out.1 HT.out H1.out.2 (.int .u8 0) (.string ⟨#[]⟩) (.slice none 0 0) (.bool false) (.string ⟨#[]⟩)
     refine bodyPost_ret (results_cell_tmp resCom _ _ r 25 _ (0, 0) _ rfl HL.1 Tryz.underlying25 rfl (by kernel_rfl) (.int .i64 43) rfl) rfl ?_
     exact ⟨_, _, _, rfl, HN.1, HN.2, by rw [HF.out]; exact ⟨rfl, .inr ⟨by decide, rfl⟩⟩⟩
   | true =>
     rw [hc] at hcd
     have HF := hid_mk (show R = (0, ⟨4, [], [], false, D⟩, E) by rw [HRR.out, hc]; rfl)
     clear HRR hc
     go_wp2_with fail
     refine hcd.out.mono ?_
     rintro e w2 ⟨rfl, rfl⟩
     have hc1 := H1.out.1.1.cell
     have hf1 := H1.out.1.1.frozen
     have hset := Now.step H1.out.1 (H1.out.1.1.set (strOf E)) (Upd.set H1.out.1.1 H1.out.1.tab (.string (strOf E)))
     have hls := H1.out.2.upd (Upd.set H1.out.1.1 H1.out.1.tab (.string (strOf E)))
     have H2 := hid_mk (And.intro hset hls)
     clear hset hls H1 hcd
     go_wp2_with fail
     refine (clone_any (strOf D) _ (by rw [size_strOf]; omega)).mono ?_
     rintro e w3 ⟨rfl, hb3⟩
     have H3 := hid_mk (And.intro (H2.out.1.next hb3) (H2.out.2.next hb3))
     clear H2 hb3 hc1 hf1
     have hL4 := H3.out.2
     have s0 := hL4.cell 0
     have s1 := hL4.cell 1
     have s2 := hL4.cell 2
     have s3 := hL4.cell 3
     have s4 := hL4.cell 4
     rw [show zTok[0]? = some (.int .u8 0) from rfl] at s0
     rw [show zTok[1]? = some (.string ⟨#[]⟩) from rfl] at s1
     rw [show zTok[2]? = some (.slice none 0 0) from rfl] at s2
     rw [show zTok[3]? = some (.bool false) from rfl] at s3
     rw [show zTok[4]? = some (.string ⟨#[]⟩) from rfl] at s4
     have t0 := hL4.frozen 0
     have t1 := hL4.frozen 1
     have t2 := hL4.frozen 2
     have t3 := hL4.frozen 3
     have t4 := hL4.frozen 4
     clear hL4
     go_wp2_with fail
     have HL := tok_set (a0 := .int .u8 0) (a1 := .string ⟨#[]⟩) (a2 := .slice none 0 0) (a3 := .bool false) (a4 := .string ⟨#[]⟩) H3.out.2 (.int .u8 4) (.string ⟨#[]⟩) (.slice none 0 0) (.bool false) (.string (strOf D))
     have HN := tok_now H3.out.1 HT.out H3.out.2 (.int .u8 4) (.string ⟨#[]⟩) (.slice none 0 0) (.bool false) (.string (strOf D))
     refine bodyPost_ret (results_cell_tmp resCom _ _ r 25 _ (0, 0) _ rfl HL.1 Tryz.underlying25 rfl (by kernel_rfl) (.int .i64 0) rfl) rfl ?_
     exact ⟨_, _, _, rfl, HN.1, HN.2, by rw [HF.out]; exact ⟨rfl, .inl ⟨rfl, rfl, .slice none 0 0, rfl, rfl, .inl ⟨rfl, rfl⟩⟩⟩⟩
theorem docO_len {l : List UInt8} (h : docO l = true) : 9 ≤ l.length := by
 unfold docO at h
 simp at h
 exact h.1
set_option maxHeartbeats 4000000 in
set_option maxRecDepth 100000 in
theorem doctype_any (b : Nat) (x : ByteArray) (w : World) (hT : Tab w) (hR : Rd b x w) (hx : x.size ≤ 1000000000) (h9 : 9 ≤ x.size) :
 Calls Tryz.prog 119 #[.pointer (some ⟨b, 0, none⟩)] w (TokPost b (docL ((sl x).drop 9)) w) := by
 have HT := hid_mk hT
 have hN0 := Now.start hR hT
 have hL0 := Loc.new hN0 zTok 25
 have hN1 := hN0.alloc (.cells zTok 25)
 have hrc := hR.cell
 have hbl := hR.lt
 obtain ⟨S, hS⟩ : ∃ S, S = (sl x).drop 9 := ⟨_, rfl⟩
 have hSl : S.length ≤ 1000000000 := by rw [hS, List.length_drop, len_sl]; omega
 have hxS : x.extract 9 x.size = strOf S := by rw [ext_drop, hS]
 have hct := hid_mk (cut_any (strOf S) [62] _ hN1.tab (by rw [size_strOf]; exact hSl))
 rw [sl_strOf, ← hxS] at hct
 have h9i : (9 : Int) ≤ (x.size : Int) := by omega
 obtain ⟨R, hRR⟩ : ∃ R, R = docL S := ⟨_, rfl⟩
 rw [← hS, ← hRR]
 have H0 := hid_mk (And.intro hN1 hL0)
 have HRR := hid_mk (show R = if (Lib.cut S [62]).2.2 then (0, ⟨5, [], [], false, Lib.trimS (Lib.cut S [62]).1 blanksL⟩, (Lib.cut S [62]).2.1) else (43, .none, []) by rw [hRR]; rfl)
 have hcs := cut_size S [62]
 obtain ⟨D, E, ok, hDE⟩ : ∃ D E ok, Lib.cut S [62] = (D, E, ok) := ⟨_, _, _, rfl⟩
 rw [hDE] at hct HRR hcs
 simp only at hct HRR hcs
 have hzA := hid_mk (show (w.alloc (.cells zTok 25)) = (w.alloc (.cells #[.int .u8 0, .string ⟨#[]⟩, .slice none 0 0, .bool false, .string ⟨#[]⟩] 25)) from rfl)
 obtain ⟨r, hr⟩ : ∃ r, r = w.heap.size := ⟨_, rfl⟩
 rw [← hr] at H0
 have HRr := hid_mk hr
 clear hT hR hN0 hL0 hN1 hS hRR hxS hDE hr
 go_enter Tryz.func119, Tryz.ntmps119
 go_wp2_with fail
 rw [← hzA.out]
 refine hct.out.mono ?_
 rintro e w1 ⟨rfl, hb1⟩
 have H1 := hid_mk (And.intro (H0.out.1.next hb1) (H0.out.2.next hb1))
 rw [← HRr.out]
 clear hct H0 hzA hb1 hrc
 cases ok with
 | false =>
   have HF := hid_mk (show R = (43, .none, []) from HRR.out.trans rfl)
   clear HRR
   have hL4 := H1.out.2
   have s0 := hL4.cell 0
   have s1 := hL4.cell 1
   have s2 := hL4.cell 2
   have s3 := hL4.cell 3
   have s4 := hL4.cell 4
   rw [show zTok[0]? = some (.int .u8 0) from rfl] at s0
   rw [show zTok[1]? = some (.string ⟨#[]⟩) from rfl] at s1
   rw [show zTok[2]? = some (.slice none 0 0) from rfl] at s2
   rw [show zTok[3]? = some (.bool false) from rfl] at s3
   rw [show zTok[4]? = some (.string ⟨#[]⟩) from rfl] at s4
   have t0 := hL4.frozen 0
   have t1 := hL4.frozen 1
   have t2 := hL4.frozen 2
   have t3 := hL4.frozen 3
   have t4 := hL4.frozen 4
   clear hL4
   go_wp2_with fail
   have HL := tok_set (a0 := .int .u8 0) (a1 := .string ⟨#[]⟩) (a2 := .slice none 0 0) (a3 := .bool false) (a4 := .string ⟨#[]⟩) H1.out.2 (.int .u8 0) (.string ⟨#[]⟩) (.slice none 0 0) (.bool false) (.string ⟨#[]⟩)
   have HN := tok_now H1.out.1 HT.out H1.out.2 (.int .u8 0) (.string ⟨#[]⟩) (.slice none 0 0) (.bool false) (.string ⟨#[]⟩)
   refine bodyPost_ret (results_cell_tmp resDoc _ _ r 25 _ (0, 0) _ rfl HL.1 Tryz.underlying25 rfl (by kernel_rfl) (.int .i64 43) rfl) rfl ?_
   exact ⟨_, _, _, rfl, HN.1, HN.2, by rw [HF.out]; exact ⟨rfl, .inr ⟨by decide, rfl⟩⟩⟩
 | true =>
   obtain ⟨V, hV⟩ : ∃ V, V = Lib.trimS D blanksL := ⟨_, rfl⟩
   have hVl : V.length ≤ 1000000000 := by
    have h1 : V.length ≤ D.length := by
     rw [hV]
     unfold Lib.trimS Lib.trimLeftS Lib.trimRightS
     refine Nat.le_trans (List.dropWhile_suffix _).length_le ?_
     rw [List.length_reverse]
     refine Nat.le_trans (List.dropWhile_suffix _).length_le ?_
     rw [List.length_reverse]
     exact Nat.le_refl _
    omega
   have HF := hid_mk (show R = (0, ⟨5, [], [], false, V⟩, E) by rw [HRR.out, hV]; rfl)
   have HV := hid_mk hV
   clear HRR hV
   have hc1 := H1.out.1.1.cell
   have hf1 := H1.out.1.1.frozen
   have hset := Now.step H1.out.1 (H1.out.1.1.set (strOf E)) (Upd.set H1.out.1.1 H1.out.1.tab (.string (strOf E)))
   have hls := H1.out.2.upd (Upd.set H1.out.1.1 H1.out.1.tab (.string (strOf E)))
   have H2 := hid_mk (And.intro hset hls)
   clear hset hls H1
   go_wp2_with fail
   refine (trim_any (strOf D) _ (by rw [size_strOf]; omega)).mono ?_
   rintro e w2 ⟨rfl, hb2⟩
   rw [sl_strOf, ← HV.out]
   have H3 := hid_mk (And.intro (H2.out.1.next hb2) (H2.out.2.next hb2))
   clear H2 hb2 hc1 hf1
   go_wp2_with fail
   refine (clone_any (strOf V) _ (by rw [size_strOf]; omega)).mono ?_
   rintro e w3 ⟨rfl, hb3⟩
   have H4 := hid_mk (And.intro (H3.out.1.next hb3) (H3.out.2.next hb3))
   clear H3 hb3
   have hL4 := H4.out.2
   have s0 := hL4.cell 0
   have s1 := hL4.cell 1
   have s2 := hL4.cell 2
   have s3 := hL4.cell 3
   have s4 := hL4.cell 4
   rw [show zTok[0]? = some (.int .u8 0) from rfl] at s0
   rw [show zTok[1]? = some (.string ⟨#[]⟩) from rfl] at s1
   rw [show zTok[2]? = some (.slice none 0 0) from rfl] at s2
   rw [show zTok[3]? = some (.bool false) from rfl] at s3
   rw [show zTok[4]? = some (.string ⟨#[]⟩) from rfl] at s4
   have t0 := hL4.frozen 0
   have t1 := hL4.frozen 1
   have t2 := hL4.frozen 2
   have t3 := hL4.frozen 3
   have t4 := hL4.frozen 4
   clear hL4
   go_wp2_with fail
   have HL := tok_set (a0 := .int .u8 0) (a1 := .string ⟨#[]⟩) (a2 := .slice none 0 0) (a3 := .bool false) (a4 := .string ⟨#[]⟩) H4.out.2 (.int .u8 5) (.string ⟨#[]⟩) (.slice none 0 0) (.bool false) (.string (strOf V))
   have HN := tok_now H4.out.1 HT.out H4.out.2 (.int .u8 5) (.string ⟨#[]⟩) (.slice none 0 0) (.bool false) (.string (strOf V))
   refine bodyPost_ret (results_cell_tmp resDoc _ _ r 25 _ (0, 0) _ rfl HL.1 Tryz.underlying25 rfl (by kernel_rfl) (.int .i64 0) rfl) rfl ?_
   exact ⟨_, _, _, rfl, HN.1, HN.2, by rw [HF.out]; exact ⟨rfl, .inl ⟨rfl, rfl, .slice none 0 0, rfl, rfl, .inl ⟨rfl, rfl⟩⟩⟩⟩
set_option maxHeartbeats 1000000 in
theorem opens_any (s : ByteArray) (w : World) :
 Calls Tryz.prog 118 #[.string s] w fun e w' => e = .returned (.bool (docO (sl s))) ∧ Below w.heap.size w w' := by
 by_cases h9 : 9 ≤ s.size
 ·have h9i : (9 : Int) ≤ (s.size : Int) := by omega
  obtain ⟨T, hT⟩ : ∃ T, T = (sl s).take 9 := ⟨_, rfl⟩
  have hTl : T.length ≤ 9 := by rw [hT, List.length_take]; omega
  have hxT : s.extract 0 9 = strOf T := by rw [ext_take, hT]
  have hsm := hid_mk (small_any (strOf T) w (by rw [size_strOf]; omega))
  rw [sl_strOf, ← hxT] at hsm
  have HL := hid_mk (show docO (sl s) = (smL T == [60, 33, 100, 111, 99, 116, 121, 112, 101]) by
   unfold docO
   rw [len_sl, decide_eq_true h9, Bool.true_and, hT])
  obtain ⟨r, hr⟩ : ∃ r, r = docO (sl s) := ⟨_, rfl⟩
  rw [← hr] at HL ⊢
  obtain ⟨M, hM⟩ : ∃ M, M = smL T := ⟨_, rfl⟩
  rw [← hM] at HL hsm
  clear hr hT hxT hM
  go_enter Tryz.func118, Tryz.ntmps118
  go_wp2_with fail
  refine hsm.out.mono ?_
  rintro e w1 ⟨rfl, hb⟩
  have HB := hid_mk hb
  clear hb
  go_wp2_with fail
  go_ret
  rw [HL.out]
  refine ⟨ret_bool ?_, HB.out⟩
  rw [toList_strOf]
 ·have h9i : ¬ (9 : Int) ≤ (s.size : Int) := by omega
  have HL := hid_mk (show docO (sl s) = false by unfold docO; rw [len_sl, decide_eq_false h9]; rfl)
  go_enter Tryz.func118, Tryz.ntmps118
  go_wp2_with fail
  go_ret
  rw [HL.out]
  exact ⟨rfl, Below.refl _ _⟩
end Go.Proofs.YtlcijlklbabajaaGreatDoor
