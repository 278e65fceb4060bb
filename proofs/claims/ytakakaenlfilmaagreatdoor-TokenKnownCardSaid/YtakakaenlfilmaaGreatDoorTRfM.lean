/-
  The reference's comment and doctype. Conditions: places and lengths are bounded.
-/
import Derived.Test.YtakakaenlfilmaaGreatDoorTRfS
import Derived.Test.YtakakaenlfilmaaGreatDoorTRfP
namespace Go.Proofs.YtakakaenlfilmaaGreatDoor
open Go.RowKit
theorem resRCom : Tryz.f30.results = #[.cell 4 46, .tmp 5, .tmp 6] := by kernel_rfl
theorem resRDoc : Tryz.f31.results = #[.cell 4 46, .tmp 5, .tmp 6] := by kernel_rfl
theorem ext_cut (s : ByteArray) (i n : Nat) : s.extract i (i + n) = strOf (((sl s).drop i).take n) := by
  rw [← strOf_sl (s.extract i (i + n)), sl_cut]
set_option maxHeartbeats 4000000 in
set_option maxRecDepth 100000 in
theorem rComment_any (s : ByteArray) (i : Nat) (w : World) (hi : i ≤ s.size) (hs : s.size ≤ 1000000000) :
    Calls Tryz.prog 30 #[.string s, .int .i64 (i : Int)] w (RPost (comL ((sl s).drop i)) (sl s) w) := by
  obtain ⟨D, hD⟩ : ∃ D, D = (sl s).drop i := ⟨_, rfl⟩
  have hDl : D.length = s.size - i := by rw [hD, List.length_drop, len_sl]
  have hfi := hid_mk (fun w => rFind_any s i [45, 45, 62] w hi (by simp) (by simp) hs)
  have ha1 := hid_mk (fun w => rAt_any s i [62] w (by omega) (by simp) (by simp) hs)
  have ha2 := hid_mk (fun w => rAt_any s i [45, 62] w (by omega) (by simp) (by simp) hs)
  have hcs := findZ_cases (sl s) i [45, 45, 62] (by rw [len_sl]; exact hi)
  rw [show strOf [45, 45, 62] = (⟨#[45, 45, 62]⟩ : ByteArray) from rfl] at hfi
  rw [show strOf [62] = (⟨#[62]⟩ : ByteArray) from rfl] at ha1
  rw [show strOf [45, 62] = (⟨#[45, 62]⟩ : ByteArray) from rfl] at ha2
  rw [← hD] at ha1 ha2 hcs ⊢
  generalize findZ (sl s) i [45, 45, 62] = fz at *
  obtain ⟨R, hR⟩ : ∃ R, R = comL D := ⟨_, rfl⟩
  rw [← hR]
  have H0 := hid_mk (And.intro (rnow_alloc (Below.refl _ w) (.cells zTok 46)) (RLoc.new (Below.refl _ w) zTok 46))
  have hzA := hid_mk (show (w.alloc (.cells zTok 46)) = (w.alloc (.cells #[.int .u8 0, .string ⟨#[]⟩, .slice none 0 0, .bool false, .string ⟨#[]⟩] 46)) from rfl)
  obtain ⟨r, hr⟩ : ∃ r, r = w.heap.size := ⟨_, rfl⟩
  have HRr := hid_mk hr
  rw [← hr] at H0
  have HD := hid_mk hD
  clear hr hD
  rcases hcs with ⟨rfl, hix⟩ | ⟨j, hix, rfl, hjl⟩
  · have HF := hid_mk (show R = (43, .none, []) by rw [hR, comL_no hix])
    clear hR hix
    go_enter Tryz.func30, Tryz.ntmps30
    go_wp2_with fail
    rw [← hzA.out, ← HRr.out]
    (with_reducible refine (hfi.out _).mono ?_)
    rintro e w1 ⟨rfl, rfl⟩
    have hX_ := H0.out.2
    have s0 := hX_.cell 0
    rw [show (zTok)[0]? = some (.int .u8 0) from rfl] at s0
    have f0 := hX_.frozen 0
    have s1 := hX_.cell 1
    rw [show (zTok)[1]? = some (.string ⟨#[]⟩) from rfl] at s1
    have f1 := hX_.frozen 1
    have s2 := hX_.cell 2
    rw [show (zTok)[2]? = some (.slice none 0 0) from rfl] at s2
    have f2 := hX_.frozen 2
    have s3 := hX_.cell 3
    rw [show (zTok)[3]? = some (.bool false) from rfl] at s3
    have f3 := hX_.frozen 3
    have s4 := hX_.cell 4
    rw [show (zTok)[4]? = some (.string ⟨#[]⟩) from rfl] at s4
    have f4 := hX_.frozen 4
    clear hX_
    go_wp2_with fail
    have HL := rtok_set (a0 := .int .u8 0) (a1 := .string ⟨#[]⟩) (a2 := .slice none 0 0) (a3 := .bool false) (a4 := .string ⟨#[]⟩) H0.out.2 (.int .u8 0) (.string ⟨#[]⟩) (.slice none 0 0) (.bool false) (.string ⟨#[]⟩)
    have HN := rtok_now H0.out.1 H0.out.2 (.int .u8 0) (.string ⟨#[]⟩) (.slice none 0 0) (.bool false) (.string ⟨#[]⟩)
    refine bodyPost_ret (results_cell_two resRCom _ _ r 46 _ (0, 0) _ rfl HL.1 Tryz.underlying46 rfl (by kernel_rfl) (.int .i64 ((i : Int))) (.int .i64 43) rfl rfl) rfl ?_
    exact ⟨_, _, by rw [HF.out]; rfl, ⟨_, _, _, _, _, _, _, rfl⟩, HN, fun h => by rw [HF.out] at h; cases h⟩
  · rw [len_sl] at hjl
    simp only [List.length_cons, List.length_nil] at hjl
    obtain ⟨T, hT⟩ : ∃ T, T = D.take j := ⟨_, rfl⟩
    have hxT : s.extract i (i + j) = strOf T := by rw [ext_cut, hT, HD.out]
    have hTl : T.length = j := by rw [hT, List.length_take]; omega
    have hTs := size_strOf T
    have HC := hid_mk (show R = if Lib.hasPrefix D [62] || Lib.hasPrefix D [45, 62] || Lib.contains T [45, 45, 33, 62] || Lib.contains T [60, 33, 45, 45] || Lib.hasSuffix T [60, 33, 45] then (43, .none, []) else (0, ⟨4, [], [], false, T⟩, D.drop (j + 3)) by rw [hR, comL_at hix, hT])
    have hsu := suf_three T [60, 33, 45] rfl
    have hf1 := hid_mk (fun w => rFind_any (strOf T) 0 [45, 45, 33, 62] w (by omega) (by simp) (by simp) (by omega))
    have hf2 := hid_mk (fun w => rFind_any (strOf T) 0 [60, 33, 45, 45] w (by omega) (by simp) (by simp) (by omega))
    rw [sl_strOf, findZ_zero] at hf1 hf2
    rw [show strOf [45, 45, 33, 62] = (⟨#[45, 45, 33, 62]⟩ : ByteArray) from rfl] at hf1
    rw [show strOf [60, 33, 45, 45] = (⟨#[60, 33, 45, 45]⟩ : ByteArray) from rfl] at hf2
    have hc1 : Lib.contains T [45, 45, 33, 62] = decide (0 ≤ Lib.index T [45, 45, 33, 62]) := rfl
    have hc2 : Lib.contains T [60, 33, 45, 45] = decide (0 ≤ Lib.index T [60, 33, 45, 45]) := rfl
    generalize Lib.contains T [45, 45, 33, 62] = b3 at *
    generalize Lib.contains T [60, 33, 45, 45] = b4 at *
    generalize Lib.index T [45, 45, 33, 62] = x1 at *
    generalize Lib.index T [60, 33, 45, 45] = x2 at *
    generalize Lib.hasPrefix D [62] = b1 at *
    generalize Lib.hasPrefix D [45, 62] = b2 at *
    generalize Lib.hasSuffix T [60, 33, 45] = b5 at *
    have hij : (i : Int) ≤ (i : Int) + (j : Int) := by omega
    have hijs : (i : Int) + (j : Int) ≤ (s.size : Int) := by omega
    have hnn : ((i + j : Nat) : Int) = (i : Int) + (j : Int) := by omega
    have hq : ((i : Int) + (j : Int)).toNat = i + j := by omega
    have hge0 : ¬ (i : Int) + (j : Int) < 0 := by omega
    rw [hnn] at hfi
    clear hR hix hT
    cases b1
    case true =>
      have HF := hid_mk (show R = (43, .none, []) by rw [HC.out]; rfl)
      clear hsu hc1 hc2 HC
      go_enter Tryz.func30, Tryz.ntmps30
      go_wp2_with fail
      rw [← hzA.out, ← HRr.out]
      (with_reducible refine (hfi.out _).mono ?_)
      rintro e w1 ⟨rfl, rfl⟩
      have hX_ := H0.out.2
      have s0 := hX_.cell 0
      rw [show (zTok)[0]? = some (.int .u8 0) from rfl] at s0
      have f0 := hX_.frozen 0
      have s1 := hX_.cell 1
      rw [show (zTok)[1]? = some (.string ⟨#[]⟩) from rfl] at s1
      have f1 := hX_.frozen 1
      have s2 := hX_.cell 2
      rw [show (zTok)[2]? = some (.slice none 0 0) from rfl] at s2
      have f2 := hX_.frozen 2
      have s3 := hX_.cell 3
      rw [show (zTok)[3]? = some (.bool false) from rfl] at s3
      have f3 := hX_.frozen 3
      have s4 := hX_.cell 4
      rw [show (zTok)[4]? = some (.string ⟨#[]⟩) from rfl] at s4
      have f4 := hX_.frozen 4
      clear hX_
      go_wp2_with fail
      (with_reducible refine (ha1.out _).mono ?_)
      rintro e w1 ⟨rfl, rfl⟩
      go_wp2_with fail
      have HL := rtok_set (a0 := .int .u8 0) (a1 := .string ⟨#[]⟩) (a2 := .slice none 0 0) (a3 := .bool false) (a4 := .string ⟨#[]⟩) H0.out.2 (.int .u8 0) (.string ⟨#[]⟩) (.slice none 0 0) (.bool false) (.string ⟨#[]⟩)
      have HN := rtok_now H0.out.1 H0.out.2 (.int .u8 0) (.string ⟨#[]⟩) (.slice none 0 0) (.bool false) (.string ⟨#[]⟩)
      refine bodyPost_ret (results_cell_two resRCom _ _ r 46 _ (0, 0) _ rfl HL.1 Tryz.underlying46 rfl (by kernel_rfl) (.int .i64 ((i : Int))) (.int .i64 43) rfl rfl) rfl ?_
      exact ⟨_, _, by rw [HF.out]; rfl, ⟨_, _, _, _, _, _, _, rfl⟩, HN, fun h => by rw [HF.out] at h; cases h⟩
    cases b2
    case true =>
      have HF := hid_mk (show R = (43, .none, []) by rw [HC.out]; rfl)
      clear hsu hc1 hc2 HC
      go_enter Tryz.func30, Tryz.ntmps30
      go_wp2_with fail
      rw [← hzA.out, ← HRr.out]
      (with_reducible refine (hfi.out _).mono ?_)
      rintro e w1 ⟨rfl, rfl⟩
      have hX_ := H0.out.2
      have s0 := hX_.cell 0
      rw [show (zTok)[0]? = some (.int .u8 0) from rfl] at s0
      have f0 := hX_.frozen 0
      have s1 := hX_.cell 1
      rw [show (zTok)[1]? = some (.string ⟨#[]⟩) from rfl] at s1
      have f1 := hX_.frozen 1
      have s2 := hX_.cell 2
      rw [show (zTok)[2]? = some (.slice none 0 0) from rfl] at s2
      have f2 := hX_.frozen 2
      have s3 := hX_.cell 3
      rw [show (zTok)[3]? = some (.bool false) from rfl] at s3
      have f3 := hX_.frozen 3
      have s4 := hX_.cell 4
      rw [show (zTok)[4]? = some (.string ⟨#[]⟩) from rfl] at s4
      have f4 := hX_.frozen 4
      clear hX_
      go_wp2_with fail
      (with_reducible refine (ha1.out _).mono ?_)
      rintro e w1 ⟨rfl, rfl⟩
      go_wp2_with fail
      (with_reducible refine (ha2.out _).mono ?_)
      rintro e w1 ⟨rfl, rfl⟩
      go_wp2_with fail
      have HL := rtok_set (a0 := .int .u8 0) (a1 := .string ⟨#[]⟩) (a2 := .slice none 0 0) (a3 := .bool false) (a4 := .string ⟨#[]⟩) H0.out.2 (.int .u8 0) (.string ⟨#[]⟩) (.slice none 0 0) (.bool false) (.string ⟨#[]⟩)
      have HN := rtok_now H0.out.1 H0.out.2 (.int .u8 0) (.string ⟨#[]⟩) (.slice none 0 0) (.bool false) (.string ⟨#[]⟩)
      refine bodyPost_ret (results_cell_two resRCom _ _ r 46 _ (0, 0) _ rfl HL.1 Tryz.underlying46 rfl (by kernel_rfl) (.int .i64 ((i : Int))) (.int .i64 43) rfl rfl) rfl ?_
      exact ⟨_, _, by rw [HF.out]; rfl, ⟨_, _, _, _, _, _, _, rfl⟩, HN, fun h => by rw [HF.out] at h; cases h⟩
    have HC2 := hid_mk (show R = if decide (0 ≤ x1) || decide (0 ≤ x2) || (decide (3 ≤ j) && (T.drop (j - 3) == [60, 33, 45])) then (43, .none, []) else (0, ⟨4, [], [], false, T⟩, D.drop (j + 3)) by rw [HC.out, hc1, hc2, hsu, hTl]; rfl)
    clear hc1 hc2 hsu HC
    have hxl : (strOf T).extract (j - 3) (strOf T).size = strOf (T.drop (j - 3)) := by rw [ext_drop, sl_strOf]
    have heq : ((strOf (T.drop (j - 3))).toList == [60, 33, 45]) = (T.drop (j - 3) == [60, 33, 45]) := by rw [toList_strOf]
    rw [hTl] at hTs
    rw [hTs] at hxl
    have hsub : 3 ≤ j → ((j : Int) - 3).toNat = j - 3 := by omega
    generalize hy : (T.drop (j - 3) == [60, 33, 45]) = y at *
    obtain ⟨X, hX⟩ : ∃ X, X = strOf T := ⟨_, rfl⟩
    rw [← hX] at hxT hf1 hf2 hTs hxl
    have HX := hid_mk hX
    clear hX
    rw [show ((0 : Nat) : Int) = 0 from rfl] at hf1 hf2
    go_enter Tryz.func30, Tryz.ntmps30
    go_wp2_with fail
    rw [← hzA.out, ← HRr.out]
    (with_reducible refine (hfi.out _).mono ?_)
    rintro e w1 ⟨rfl, rfl⟩
    have hX_ := H0.out.2
    have s0 := hX_.cell 0
    rw [show (zTok)[0]? = some (.int .u8 0) from rfl] at s0
    have f0 := hX_.frozen 0
    have s1 := hX_.cell 1
    rw [show (zTok)[1]? = some (.string ⟨#[]⟩) from rfl] at s1
    have f1 := hX_.frozen 1
    have s2 := hX_.cell 2
    rw [show (zTok)[2]? = some (.slice none 0 0) from rfl] at s2
    have f2 := hX_.frozen 2
    have s3 := hX_.cell 3
    rw [show (zTok)[3]? = some (.bool false) from rfl] at s3
    have f3 := hX_.frozen 3
    have s4 := hX_.cell 4
    rw [show (zTok)[4]? = some (.string ⟨#[]⟩) from rfl] at s4
    have f4 := hX_.frozen 4
    clear hX_
    go_wp2_with fail
    (with_reducible refine (ha1.out _).mono ?_)
    rintro e w1 ⟨rfl, rfl⟩
    go_wp2_with fail
    (with_reducible refine (ha2.out _).mono ?_)
    rintro e w1 ⟨rfl, rfl⟩
    by_cases hx1 : 0 ≤ x1
    · have HF := hid_mk (show R = (43, .none, []) by rw [HC2.out, decide_eq_true hx1]; rfl)
      go_wp2_with fail
      (with_reducible refine (hf1.out _).mono ?_)
      rintro e w1 ⟨rfl, rfl⟩
      go_wp2_with fail
      have HL := rtok_set (a0 := .int .u8 0) (a1 := .string ⟨#[]⟩) (a2 := .slice none 0 0) (a3 := .bool false) (a4 := .string ⟨#[]⟩) H0.out.2 (.int .u8 0) (.string ⟨#[]⟩) (.slice none 0 0) (.bool false) (.string ⟨#[]⟩)
      have HN := rtok_now H0.out.1 H0.out.2 (.int .u8 0) (.string ⟨#[]⟩) (.slice none 0 0) (.bool false) (.string ⟨#[]⟩)
      refine bodyPost_ret (results_cell_two resRCom _ _ r 46 _ (0, 0) _ rfl HL.1 Tryz.underlying46 rfl (by kernel_rfl) (.int .i64 ((i : Int))) (.int .i64 43) rfl rfl) rfl ?_
      exact ⟨_, _, by rw [HF.out]; rfl, ⟨_, _, _, _, _, _, _, rfl⟩, HN, fun h => by rw [HF.out] at h; cases h⟩
    by_cases hx2 : 0 ≤ x2
    · have HF := hid_mk (show R = (43, .none, []) by rw [HC2.out, decide_eq_true hx2, Bool.or_true]; rfl)
      go_wp2_with fail
      (with_reducible refine (hf1.out _).mono ?_)
      rintro e w1 ⟨rfl, rfl⟩
      go_wp2_with fail
      (with_reducible refine (hf2.out _).mono ?_)
      rintro e w1 ⟨rfl, rfl⟩
      go_wp2_with fail
      have HL := rtok_set (a0 := .int .u8 0) (a1 := .string ⟨#[]⟩) (a2 := .slice none 0 0) (a3 := .bool false) (a4 := .string ⟨#[]⟩) H0.out.2 (.int .u8 0) (.string ⟨#[]⟩) (.slice none 0 0) (.bool false) (.string ⟨#[]⟩)
      have HN := rtok_now H0.out.1 H0.out.2 (.int .u8 0) (.string ⟨#[]⟩) (.slice none 0 0) (.bool false) (.string ⟨#[]⟩)
      refine bodyPost_ret (results_cell_two resRCom _ _ r 46 _ (0, 0) _ rfl HL.1 Tryz.underlying46 rfl (by kernel_rfl) (.int .i64 ((i : Int))) (.int .i64 43) rfl rfl) rfl ?_
      exact ⟨_, _, by rw [HF.out]; rfl, ⟨_, _, _, _, _, _, _, rfl⟩, HN, fun h => by rw [HF.out] at h; cases h⟩
    have HC3 := hid_mk (show R = if (decide (3 ≤ j) && y) then (43, .none, []) else (0, ⟨4, [], [], false, T⟩, D.drop (j + 3)) by
      rw [HC2.out, decide_eq_false hx1, decide_eq_false hx2, Bool.false_or, Bool.false_or])
    go_wp2_with fail
    (with_reducible refine (hf1.out _).mono ?_)
    rintro e w1 ⟨rfl, rfl⟩
    go_wp2_with fail
    (with_reducible refine (hf2.out _).mono ?_)
    rintro e w1 ⟨rfl, rfl⟩
    by_cases hj3 : 3 ≤ j
    · have hj3i : (3 : Int) ≤ (j : Int) := by omega
      have hsb := hsub hj3
      have hle3 : (j : Int) - 3 ≤ (j : Int) := by omega
      have hge3 : (0 : Int) ≤ (j : Int) - 3 := by omega
      cases y
      case true =>
        have HF := hid_mk (show R = (43, .none, []) by rw [HC3.out, decide_eq_true hj3]; rfl)
        go_wp2_with fail
        have HL := rtok_set (a0 := .int .u8 0) (a1 := .string ⟨#[]⟩) (a2 := .slice none 0 0) (a3 := .bool false) (a4 := .string ⟨#[]⟩) H0.out.2 (.int .u8 0) (.string ⟨#[]⟩) (.slice none 0 0) (.bool false) (.string ⟨#[]⟩)
        have HN := rtok_now H0.out.1 H0.out.2 (.int .u8 0) (.string ⟨#[]⟩) (.slice none 0 0) (.bool false) (.string ⟨#[]⟩)
        refine bodyPost_ret (results_cell_two resRCom _ _ r 46 _ (0, 0) _ rfl HL.1 Tryz.underlying46 rfl (by kernel_rfl) (.int .i64 ((i : Int))) (.int .i64 43) rfl rfl) rfl ?_
        exact ⟨_, _, by rw [HF.out]; rfl, ⟨_, _, _, _, _, _, _, rfl⟩, HN, fun h => by rw [HF.out] at h; cases h⟩
      case false =>
        have HF := hid_mk (show R = (0, ⟨4, [], [], false, T⟩, D.drop (j + 3)) by rw [HC3.out, Bool.and_false]; rfl)
        go_wp2_with fail
        have HL := rtok_set (a0 := .int .u8 0) (a1 := .string ⟨#[]⟩) (a2 := .slice none 0 0) (a3 := .bool false) (a4 := .string ⟨#[]⟩) H0.out.2 (.int .u8 4) (.string ⟨#[]⟩) (.slice none 0 0) (.bool false) (.string X)
        have HN := rtok_now H0.out.1 H0.out.2 (.int .u8 4) (.string ⟨#[]⟩) (.slice none 0 0) (.bool false) (.string X)
        refine bodyPost_ret (results_cell_two resRCom _ _ r 46 _ (0, 0) _ rfl HL.1 Tryz.underlying46 rfl (by kernel_rfl) (.int .i64 ((i : Int) + (j : Int) + 3)) (.int .i64 0) rfl rfl) rfl ?_
        exact ⟨_, _, by rw [HF.out]; rfl, ⟨_, _, _, _, _, _, _, rfl⟩, HN, fun _ => ⟨i + j + 3, .slice none 0 0, by omega, by rw [len_sl]; omega, by rw [HF.out, HD.out, List.drop_drop, Nat.add_assoc], by rw [HF.out, HX.out]; rfl, by rw [HF.out]; exact ⟨rfl, .inl ⟨rfl, rfl⟩⟩⟩⟩
    · have hj3i : ¬ (3 : Int) ≤ (j : Int) := by omega
      have HF := hid_mk (show R = (0, ⟨4, [], [], false, T⟩, D.drop (j + 3)) by rw [HC3.out, decide_eq_false hj3]; rfl)
      go_wp2_with fail
      have HL := rtok_set (a0 := .int .u8 0) (a1 := .string ⟨#[]⟩) (a2 := .slice none 0 0) (a3 := .bool false) (a4 := .string ⟨#[]⟩) H0.out.2 (.int .u8 4) (.string ⟨#[]⟩) (.slice none 0 0) (.bool false) (.string X)
      have HN := rtok_now H0.out.1 H0.out.2 (.int .u8 4) (.string ⟨#[]⟩) (.slice none 0 0) (.bool false) (.string X)
      refine bodyPost_ret (results_cell_two resRCom _ _ r 46 _ (0, 0) _ rfl HL.1 Tryz.underlying46 rfl (by kernel_rfl) (.int .i64 ((i : Int) + (j : Int) + 3)) (.int .i64 0) rfl rfl) rfl ?_
      exact ⟨_, _, by rw [HF.out]; rfl, ⟨_, _, _, _, _, _, _, rfl⟩, HN, fun _ => ⟨i + j + 3, .slice none 0 0, by omega, by rw [len_sl]; omega, by rw [HF.out, HD.out, List.drop_drop, Nat.add_assoc], by rw [HF.out, HX.out]; rfl, by rw [HF.out]; exact ⟨rfl, .inl ⟨rfl, rfl⟩⟩⟩⟩
end Go.Proofs.YtakakaenlfilmaaGreatDoor
/-
  The reference's doctype. Conditions: places and lengths are bounded.
-/
namespace Go.Proofs.YtakakaenlfilmaaGreatDoor
open Go.RowKit
def docR (l : List UInt8) : Nat × Tk × List UInt8 := if docO l then docL (l.drop 9) else (43, .none, [])
theorem getD_drop (l : List UInt8) (i k : Nat) : (l.drop i).getD k 0 = l.getD (i + k) 0 := by
  rw [List.getD_eq_getElem?_getD, List.getD_eq_getElem?_getD, List.getElem?_drop]
theorem backN_yes {l : List UInt8} {n j : Nat} (h : n ≤ j) (hb : blanksL.contains (l.getD j 0) = true) : backN l n (j + 1) = backN l n j := by
  conv => lhs; unfold backN
  rw [if_pos ⟨h, hb⟩]
theorem backN_no {l : List UInt8} {n j : Nat} (hb : blanksL.contains (l.getD j 0) = false) : backN l n (j + 1) = j + 1 := by
  conv => lhs; unfold backN
  rw [if_neg (fun h => by rw [hb] at h; cases h.2)]
theorem backN_end {l : List UInt8} {n j : Nat} (h : j ≤ n) : backN l n j = j := by
  cases j with
  | zero => rfl
  | succ j =>
    conv => lhs; unfold backN
    rw [if_neg (fun h' => by omega)]
set_option maxHeartbeats 4000000 in
set_option maxRecDepth 100000 in
theorem rDoctype_any (s : ByteArray) (i : Nat) (w : World) (hi : i ≤ s.size) (hs : s.size ≤ 1000000000) :
    Calls Tryz.prog 31 #[.string s, .int .i64 (i : Int)] w (RPost (docR ((sl s).drop i)) (sl s) w) := by
  obtain ⟨R, hR⟩ : ∃ R, R = docR ((sl s).drop i) := ⟨_, rfl⟩
  rw [← hR]
  have H0 := hid_mk (And.intro (rnow_alloc (Below.refl _ w) (.cells zTok 46)) (RLoc.new (Below.refl _ w) zTok 46))
  have hzA := hid_mk (show (w.alloc (.cells zTok 46)) = (w.alloc (.cells #[.int .u8 0, .string ⟨#[]⟩, .slice none 0 0, .bool false, .string ⟨#[]⟩] 46)) from rfl)
  obtain ⟨r, hr⟩ : ∃ r, r = w.heap.size := ⟨_, rfl⟩
  have HRr := hid_mk hr
  rw [← hr] at H0
  clear hr
  by_cases h9 : i + 9 ≤ s.size
  case neg =>
    have h9i : (s.size : Int) < (i : Int) + 9 := by omega
    have HF := hid_mk (show R = (43, .none, []) by
      rw [hR]
      unfold docR docO
      rw [List.length_drop, len_sl, decide_eq_false (by omega)]
      rfl)
    clear hR
    go_enter Tryz.func31, Tryz.ntmps31
    have hX_ := H0.out.2
    have s0 := hX_.cell 0
    rw [show (zTok)[0]? = some (.int .u8 0) from rfl] at s0
    have f0 := hX_.frozen 0
    have s1 := hX_.cell 1
    rw [show (zTok)[1]? = some (.string ⟨#[]⟩) from rfl] at s1
    have f1 := hX_.frozen 1
    have s2 := hX_.cell 2
    rw [show (zTok)[2]? = some (.slice none 0 0) from rfl] at s2
    have f2 := hX_.frozen 2
    have s3 := hX_.cell 3
    rw [show (zTok)[3]? = some (.bool false) from rfl] at s3
    have f3 := hX_.frozen 3
    have s4 := hX_.cell 4
    rw [show (zTok)[4]? = some (.string ⟨#[]⟩) from rfl] at s4
    have f4 := hX_.frozen 4
    clear hX_
    rw [hzA.out, HRr.out] at s0 s1 s2 s3 s4 f0 f1 f2 f3 f4
    go_wp2_with fail
    rw [← hzA.out, ← HRr.out]
    have HL := H0.out.2
    have HN := H0.out.1
    refine bodyPost_ret (results_cell_two resRDoc _ _ r 46 _ (0, 0) _ rfl HL.1 Tryz.underlying46 rfl (by kernel_rfl) (.int .i64 (i : Int)) (.int .i64 43) rfl rfl) rfl ?_
    exact ⟨_, _, by rw [HF.out]; rfl, ⟨_, _, _, _, _, _, _, rfl⟩, HN, fun h => by rw [HF.out] at h; cases h⟩
  case pos =>
  have h9i : (i : Int) + 9 ≤ (s.size : Int) := by omega
  have h9n : ¬ (s.size : Int) < (i : Int) + 9 := by omega
  have hq9 : ((i : Int) + 9).toNat = i + 9 := by omega
  have hi9 : (i : Int) ≤ (i : Int) + 9 := by omega
  obtain ⟨T, hT⟩ : ∃ T, T = ((sl s).drop i).take 9 := ⟨_, rfl⟩
  have hTl : T.length ≤ 9 := by rw [hT, List.length_take]; omega
  obtain ⟨Y, hY⟩ : ∃ Y, Y = strOf T := ⟨_, rfl⟩
  have hxT : s.extract i (i + 9) = Y := by rw [ext_cut, hY, hT]
  have hsm := hid_mk (fun w => rSmall_any Y w (by rw [hY, size_strOf]; omega))
  rw [show smL (sl Y) = smL T by rw [hY, sl_strOf]] at hsm
  have HDO := hid_mk (show docO ((sl s).drop i) = (smL T == [60, 33, 100, 111, 99, 116, 121, 112, 101]) by
    unfold docO
    rw [List.length_drop, len_sl, decide_eq_true (by omega), Bool.true_and, hT])
  have heq : ((strOf (smL T)).toList == [60, 33, 100, 111, 99, 116, 121, 112, 101]) = (smL T == [60, 33, 100, 111, 99, 116, 121, 112, 101]) := by rw [toList_strOf]
  cases hb : (smL T == [60, 33, 100, 111, 99, 116, 121, 112, 101]) with
  | false =>
    rw [hb] at HDO heq
    have HF := hid_mk (show R = (43, .none, []) by
      rw [hR]
      unfold docR
      rw [HDO.out]
      rfl)
    clear hR hT hY hb
    go_enter Tryz.func31, Tryz.ntmps31
    go_wp2_with fail
    rw [← hzA.out, ← HRr.out]
    (with_reducible refine (hsm.out _).mono ?_)
    rintro e w1 ⟨rfl, hb1⟩
    have H1 := hid_mk (And.intro (rnow_next H0.out.1 hb1) (H0.out.2.next hb1))
    clear hb1
    have hX_ := H1.out.2
    have s0 := hX_.cell 0
    rw [show (zTok)[0]? = some (.int .u8 0) from rfl] at s0
    have f0 := hX_.frozen 0
    have s1 := hX_.cell 1
    rw [show (zTok)[1]? = some (.string ⟨#[]⟩) from rfl] at s1
    have f1 := hX_.frozen 1
    have s2 := hX_.cell 2
    rw [show (zTok)[2]? = some (.slice none 0 0) from rfl] at s2
    have f2 := hX_.frozen 2
    have s3 := hX_.cell 3
    rw [show (zTok)[3]? = some (.bool false) from rfl] at s3
    have f3 := hX_.frozen 3
    have s4 := hX_.cell 4
    rw [show (zTok)[4]? = some (.string ⟨#[]⟩) from rfl] at s4
    have f4 := hX_.frozen 4
    clear hX_
    go_wp2_with fail
    have HL := rtok_set (a0 := .int .u8 0) (a1 := .string ⟨#[]⟩) (a2 := .slice none 0 0) (a3 := .bool false) (a4 := .string ⟨#[]⟩) H1.out.2 (.int .u8 0) (.string ⟨#[]⟩) (.slice none 0 0) (.bool false) (.string ⟨#[]⟩)
    have HN := rtok_now H1.out.1 H1.out.2 (.int .u8 0) (.string ⟨#[]⟩) (.slice none 0 0) (.bool false) (.string ⟨#[]⟩)
    refine bodyPost_ret (results_cell_two resRDoc _ _ r 46 _ (0, 0) _ rfl HL.1 Tryz.underlying46 rfl (by kernel_rfl) (.int .i64 ((i : Int))) (.int .i64 43) rfl rfl) rfl ?_
    exact ⟨_, _, by rw [HF.out]; rfl, ⟨_, _, _, _, _, _, _, rfl⟩, HN, fun h => by rw [HF.out] at h; cases h⟩
  | true =>
  rw [hb] at HDO heq
  have HRd := hid_mk (show R = docL ((sl s).drop (i + 9)) by
    rw [hR]
    unfold docR
    rw [HDO.out, if_pos rfl, List.drop_drop])
  obtain ⟨M, hM⟩ : ∃ M, M = (sl s).drop (i + 9) := ⟨_, rfl⟩
  rw [← hM] at HRd
  have hMl : M.length = s.size - (i + 9) := by rw [hM, List.length_drop, len_sl]
  have hfi := hid_mk (fun w => rFind_any s (i + 9) [62] w h9 (by simp) (by simp) hs)
  rw [show strOf [62] = (⟨#[62]⟩ : ByteArray) from rfl, show ((i + 9 : Nat) : Int) = (i : Int) + 9 by omega] at hfi
  have hcs := findZ_cases (sl s) (i + 9) [62] (by rw [len_sl]; exact h9)
  rw [← hM] at hcs
  generalize findZ (sl s) (i + 9) [62] = fz at *
  have HM := hid_mk hM
  clear hR hT hY hb hM HDO
  rcases hcs with ⟨rfl, hix⟩ | ⟨j, hix, rfl, hjl⟩
  · have HF := hid_mk (show R = (43, .none, []) by rw [HRd.out, docL_no hix])
    clear hix
    go_enter Tryz.func31, Tryz.ntmps31
    go_wp2_with fail
    rw [← hzA.out, ← HRr.out]
    (with_reducible refine (hsm.out _).mono ?_)
    rintro e w1 ⟨rfl, hb1⟩
    have H1 := hid_mk (And.intro (rnow_next H0.out.1 hb1) (H0.out.2.next hb1))
    clear hb1
    go_wp2_with fail
    (with_reducible refine (hfi.out _).mono ?_)
    rintro e w2 ⟨rfl, rfl⟩
    have hX_ := H1.out.2
    have s0 := hX_.cell 0
    rw [show (zTok)[0]? = some (.int .u8 0) from rfl] at s0
    have f0 := hX_.frozen 0
    have s1 := hX_.cell 1
    rw [show (zTok)[1]? = some (.string ⟨#[]⟩) from rfl] at s1
    have f1 := hX_.frozen 1
    have s2 := hX_.cell 2
    rw [show (zTok)[2]? = some (.slice none 0 0) from rfl] at s2
    have f2 := hX_.frozen 2
    have s3 := hX_.cell 3
    rw [show (zTok)[3]? = some (.bool false) from rfl] at s3
    have f3 := hX_.frozen 3
    have s4 := hX_.cell 4
    rw [show (zTok)[4]? = some (.string ⟨#[]⟩) from rfl] at s4
    have f4 := hX_.frozen 4
    clear hX_
    go_wp2_with fail
    have HL := rtok_set (a0 := .int .u8 0) (a1 := .string ⟨#[]⟩) (a2 := .slice none 0 0) (a3 := .bool false) (a4 := .string ⟨#[]⟩) H1.out.2 (.int .u8 0) (.string ⟨#[]⟩) (.slice none 0 0) (.bool false) (.string ⟨#[]⟩)
    have HN := rtok_now H1.out.1 H1.out.2 (.int .u8 0) (.string ⟨#[]⟩) (.slice none 0 0) (.bool false) (.string ⟨#[]⟩)
    refine bodyPost_ret (results_cell_two resRDoc _ _ r 46 _ (0, 0) _ rfl HL.1 Tryz.underlying46 rfl (by kernel_rfl) (.int .i64 ((i : Int))) (.int .i64 43) rfl rfl) rfl ?_
    exact ⟨_, _, by rw [HF.out]; rfl, ⟨_, _, _, _, _, _, _, rfl⟩, HN, fun h => by rw [HF.out] at h; cases h⟩
  · rw [len_sl] at hjl
    simp only [List.length_cons, List.length_nil] at hjl
    have hsk := hid_mk (fun w => rSkip_any s (i + 9) w h9 hs)
    have hsl := skip_lt hix
    obtain ⟨n, hn⟩ : ∃ n, n = skipN M 0 := ⟨_, rfl⟩
    rw [skipN_shift, ← HM.out, ← hn, show ((i + 9 : Nat) : Int) = (i : Int) + 9 by omega] at hsk
    have HF0 := hid_mk (docL_at hix)
    rw [← hn] at HF0 hsl
    obtain ⟨b, hbk⟩ : ∃ b, b = backN M n j := ⟨_, rfl⟩
    have hbl := backN_le M n j
    have hbg := backN_ge M n j hsl
    rw [← hbk] at HF0 hbl hbg
    obtain ⟨X, hX⟩ : ∃ X, X = strOf ((M.take b).drop n) := ⟨_, rfl⟩
    have hxX : s.extract (i + 9 + n) (i + 9 + b) = X := by
      have e1 : i + 9 + b = (i + 9 + n) + (b - n) := by omega
      rw [e1, ext_cut, hX, HM.out, List.drop_take, List.drop_drop]
    have HX := hid_mk hX
    have HF := hid_mk (show R = (0, ⟨5, [], [], false, (M.take b).drop n⟩, M.drop (j + 1)) by rw [HRd.out, HF0.out])
    have HBK := hid_mk hbk
    have hnn : ((i + 9 + j : Nat) : Int) = (i : Int) + 9 + (j : Int) := by omega
    have hn2 : ((i + 9 + n : Nat) : Int) = (i : Int) + 9 + (n : Int) := by omega
    have hge0 : ¬ (i : Int) + 9 + (j : Int) < 0 := by omega
    rw [hnn] at hfi
    rw [hn2] at hsk
    clear hX hn hbk hix HF0 HRd hnn hn2
    go_enter Tryz.func31, Tryz.ntmps31
    go_wp2_with fail
    rw [← hzA.out, ← HRr.out]
    (with_reducible refine (hsm.out _).mono ?_)
    rintro e w1 ⟨rfl, hb1⟩
    have H1 := hid_mk (And.intro (rnow_next H0.out.1 hb1) (H0.out.2.next hb1))
    clear hb1
    go_wp2_with fail
    (with_reducible refine (hfi.out _).mono ?_)
    rintro e w2 ⟨rfl, rfl⟩
    go_wp2_with fail
    (with_reducible refine (hsk.out _).mono ?_)
    rintro e w2 ⟨rfl, rfl⟩
    go_wp2_with fail
    go_loop [10] (fun v => ∃ t : Nat, t ≤ j ∧ n ≤ t ∧ v = .int .i64 ((i : Int) + 9 + (t : Int)) ∧ Hid (backN M n t = b)) (fun v => (intOf v).toNat)
    case atStart => exact ⟨j, Nat.le_refl _, hsl, rfl, hid_mk HBK.out.symm⟩
    case round =>
      obtain ⟨t, htj, hnt, rfl, hbt⟩ := hrel
      by_cases hlt : n < t
      · obtain ⟨t', rfl⟩ : ∃ t', t = t' + 1 := ⟨t - 1, by omega⟩
        have h1 : (i : Int) + 9 + (n : Int) < (i : Int) + 9 + ((t' + 1 : Nat) : Int) := by omega
        have hix : i + 9 + t' < s.size := by omega
        have hq : ((i : Int) + 9 + ((t' + 1 : Nat) : Int) - 1).toNat = i + 9 + t' := by omega
        have hq0 : (0 : Int) ≤ (i : Int) + 9 + ((t' + 1 : Nat) : Int) - 1 := by omega
        have hq1 : (i : Int) + 9 + ((t' + 1 : Nat) : Int) - 1 < (s.size : Int) := by omega
        have hblk := hid_mk (fun w => rBlank_any (s[i + 9 + t']'hix) w)
        have hgd : M.getD t' 0 = s[i + 9 + t']'hix := by rw [HM.out, getD_drop, getD_s s _ hix]
        have hy := backN_yes (l := M) (n := n) (j := t') (by omega)
        have hno := backN_no (l := M) (n := n) (j := t')
        rw [hgd] at hy hno
        cases hbb : blanksL.contains (s[i + 9 + t']'hix) with
        | true =>
          rw [hbb] at hblk
          have HN := hid_mk ((hy hbb).symm.trans hbt.out)
          clear hy hno hbb
          go_wp2_with fail
          (with_reducible refine (hblk.out _).mono ?_)
          rintro e w2 ⟨rfl, rfl⟩
          go_wp2_with fail
          go_round
          case rel => exact ⟨t', by omega, by omega, by first | rfl | go_num | (congr 1; omega), HN⟩
          case measure => simp [intOf]; omega
        | false =>
          rw [hbb] at hblk
          obtain rfl : b = t' + 1 := by rw [← hbt.out]; exact hno hbb
          have hmin : min (n : Int) ((t' : Int) + 1) = (n : Int) := by omega
          have hqa : ((i : Int) + 9 + (n : Int)).toNat = i + 9 + n := by omega
          have hqb : ((i : Int) + 9 + ((t' + 1 : Nat) : Int)).toNat = i + 9 + (t' + 1) := by omega
          have hia : (0 : Int) ≤ (i : Int) + 9 + (n : Int) := by omega
          have hib : (i : Int) + 9 + (n : Int) ≤ (i : Int) + 9 + ((t' + 1 : Nat) : Int) := by omega
          have hic : (i : Int) + 9 + ((t' + 1 : Nat) : Int) ≤ (s.size : Int) := by omega
          clear hy hno hbb
          have hX_ := H1.out.2
          have s0 := hX_.cell 0
          rw [show (zTok)[0]? = some (.int .u8 0) from rfl] at s0
          have f0 := hX_.frozen 0
          have s1 := hX_.cell 1
          rw [show (zTok)[1]? = some (.string ⟨#[]⟩) from rfl] at s1
          have f1 := hX_.frozen 1
          have s2 := hX_.cell 2
          rw [show (zTok)[2]? = some (.slice none 0 0) from rfl] at s2
          have f2 := hX_.frozen 2
          have s3 := hX_.cell 3
          rw [show (zTok)[3]? = some (.bool false) from rfl] at s3
          have f3 := hX_.frozen 3
          have s4 := hX_.cell 4
          rw [show (zTok)[4]? = some (.string ⟨#[]⟩) from rfl] at s4
          have f4 := hX_.frozen 4
          clear hX_
          go_wp2_with fail
          (with_reducible refine (hblk.out _).mono ?_)
          rintro e w2 ⟨rfl, rfl⟩
          go_wp2_with fail
          have HL := rtok_set (a0 := .int .u8 0) (a1 := .string ⟨#[]⟩) (a2 := .slice none 0 0) (a3 := .bool false) (a4 := .string ⟨#[]⟩) H1.out.2 (.int .u8 5) (.string ⟨#[]⟩) (.slice none 0 0) (.bool false) (.string X)
          have HN := rtok_now H1.out.1 H1.out.2 (.int .u8 5) (.string ⟨#[]⟩) (.slice none 0 0) (.bool false) (.string X)
          refine bodyPost_ret (results_cell_two resRDoc _ _ r 46 _ (0, 0) _ rfl HL.1 Tryz.underlying46 rfl (by kernel_rfl) (.int .i64 ((i : Int) + 9 + (j : Int) + 1)) (.int .i64 0) rfl rfl) rfl ?_
          exact ⟨_, _, by rw [HF.out]; rfl, ⟨_, _, _, _, _, _, _, rfl⟩, HN, fun _ => ⟨i + 9 + j + 1, .slice none 0 0, by omega, by rw [len_sl]; omega, by rw [HF.out, HM.out, List.drop_drop, Nat.add_assoc (i + 9)], by rw [HF.out, HX.out]; rfl, by rw [HF.out]; exact ⟨rfl, .inl ⟨rfl, rfl⟩⟩⟩⟩
      · have htn : t = n := by omega
        subst htn
        have hbn : b = t := by rw [← hbt.out]; exact backN_end (Nat.le_refl _)
        subst hbn
        have hlt' : ¬ (i : Int) + 9 + (b : Int) < (i : Int) + 9 + (b : Int) := by omega
        have hmin : min ((i : Int) + 9 + (b : Int)) ((i : Int) + 9 + (b : Int)) = (i : Int) + 9 + (b : Int) := by omega
        have hqa : ((i : Int) + 9 + (b : Int)).toNat = i + 9 + b := by omega
        have hia : (0 : Int) ≤ (i : Int) + 9 + (b : Int) := by omega
        have hic : (i : Int) + 9 + (b : Int) ≤ (s.size : Int) := by omega
        clear hlt hxX
        have hXe : Hid (ByteArray.empty = X) := hid_mk (by rw [HX.out, List.drop_take, Nat.sub_self]; rfl)
        have hX_ := H1.out.2
        have s0 := hX_.cell 0
        rw [show (zTok)[0]? = some (.int .u8 0) from rfl] at s0
        have f0 := hX_.frozen 0
        have s1 := hX_.cell 1
        rw [show (zTok)[1]? = some (.string ⟨#[]⟩) from rfl] at s1
        have f1 := hX_.frozen 1
        have s2 := hX_.cell 2
        rw [show (zTok)[2]? = some (.slice none 0 0) from rfl] at s2
        have f2 := hX_.frozen 2
        have s3 := hX_.cell 3
        rw [show (zTok)[3]? = some (.bool false) from rfl] at s3
        have f3 := hX_.frozen 3
        have s4 := hX_.cell 4
        rw [show (zTok)[4]? = some (.string ⟨#[]⟩) from rfl] at s4
        have f4 := hX_.frozen 4
        clear hX_
        go_wp2_with fail
        have HL := rtok_set (a0 := .int .u8 0) (a1 := .string ⟨#[]⟩) (a2 := .slice none 0 0) (a3 := .bool false) (a4 := .string ⟨#[]⟩) H1.out.2 (.int .u8 5) (.string ⟨#[]⟩) (.slice none 0 0) (.bool false) (.string ByteArray.empty)
        have HN := rtok_now H1.out.1 H1.out.2 (.int .u8 5) (.string ⟨#[]⟩) (.slice none 0 0) (.bool false) (.string ByteArray.empty)
        refine bodyPost_ret (results_cell_two resRDoc _ _ r 46 _ (0, 0) _ rfl HL.1 Tryz.underlying46 rfl (by kernel_rfl) (.int .i64 ((i : Int) + 9 + (j : Int) + 1)) (.int .i64 0) rfl rfl) rfl ?_
        exact ⟨_, _, by rw [HF.out]; rfl, ⟨_, _, _, _, _, _, _, rfl⟩, HN, fun _ => ⟨i + 9 + j + 1, .slice none 0 0, by omega, by rw [len_sl]; omega, by rw [HF.out, HM.out, List.drop_drop, Nat.add_assoc (i + 9)], by rw [HF.out, hXe.out, HX.out]; rfl, by rw [HF.out]; exact ⟨rfl, .inl ⟨rfl, rfl⟩⟩⟩⟩
end Go.Proofs.YtakakaenlfilmaaGreatDoor
