/-
  The reference's one: the token at a place, and the place behind it. Conditions: places and lengths are bounded.
-/
import Derived.Test.YtakakaenlfilmaaGreatDoorTRfT
import Derived.Test.YtakakaenlfilmaaGreatDoorTRfM
import Derived.Test.YtakakaenlfilmaaGreatDoorTAll
namespace Go.Proofs.YtakakaenlfilmaaGreatDoor
open Go.RowKit
theorem resROne : Tryz.f12.results = #[.cell 4 46, .tmp 5, .tmp 6] := by kernel_rfl
theorem getD_drop_one (l : List UInt8) (i : Nat) : (l.drop i).getD 1 0 = l.getD (i + 1) 0 := by
  rw [List.getD_eq_getElem?_getD, List.getD_eq_getElem?_getD, List.getElem?_drop]
theorem textN_end {l : List UInt8} {k : Nat} (h : k < l.length → leavesL (l.drop k) = true) : textN (l.drop k) = 0 := by
  by_cases hk : k < l.length
  · have h := h hk
    rw [List.drop_eq_getElem_cons hk] at h ⊢
    unfold textN
    rw [if_pos h]
  · rw [List.drop_eq_nil_of_le (by omega)]
    rfl
theorem textN_more {l : List UInt8} {k : Nat} (hk : k < l.length) (h : leavesL (l.drop k) = false) : textN (l.drop k) = textN (l.drop (k + 1)) + 1 := by
  rw [List.drop_eq_getElem_cons hk] at h ⊢
  conv => lhs; unfold textN
  rw [if_neg (by rw [h]; exact Bool.false_ne_true)]
set_option maxHeartbeats 4000000 in
set_option maxRecDepth 100000 in
theorem rOne_any (s : ByteArray) (i : Nat) (w : World) (hi : i < s.size) (hs : s.size ≤ 1000000000) :
    Calls Tryz.prog 12 #[.string s, .int .i64 (i : Int)] w (RPost (oneL ((sl s).drop i)) (sl s) w) := by
  obtain ⟨D, hD⟩ : ∃ D, D = (sl s).drop i := ⟨_, rfl⟩
  obtain ⟨R, hR⟩ : ∃ R, R = oneL D := ⟨_, rfl⟩
  have hbe := hid_mk (fun w => rBegins_any s i w (by omega))
  rw [← hD] at hbe
  rw [← hD, ← hR]
  have hDl : D.length = s.size - i := by rw [hD, List.length_drop, len_sl]
  have HWS := hid_mk (show w.heap.size ≤ (w.alloc (.cells zTok 46)).heap.size by simp)
  have H0 := hid_mk (And.intro (rnow_alloc (Below.refl _ w) (.cells zTok 46)) (RLoc.new (Below.refl _ w) zTok 46))
  have hzA := hid_mk (show (w.alloc (.cells zTok 46)) = (w.alloc (.cells #[.int .u8 0, .string ⟨#[]⟩, .slice none 0 0, .bool false, .string ⟨#[]⟩] 46)) from rfl)
  obtain ⟨w0, hw0⟩ : ∃ w0, w0 = w.alloc (.cells zTok 46) := ⟨_, rfl⟩
  rw [← hw0] at H0 hzA HWS
  obtain ⟨r, hr⟩ : ∃ r, r = w.heap.size := ⟨_, rfl⟩
  have HRr := hid_mk hr
  rw [← hr] at H0
  have HD := hid_mk hD
  clear hr hw0 hD
  cases hL : leavesL D with
  | false =>
    rw [hL] at hbe
    have HR := hid_mk (show R = (0, ⟨3, [], [], false, decL (D.take (textN (D.drop 1) + 1)) false⟩, D.drop (textN (D.drop 1) + 1)) by
      rw [hR]; unfold oneL; rw [hL]; rfl)
    clear hR hL
    go_enter Tryz.func12, Tryz.ntmps12
    go_wp2_with fail
    rw [← hzA.out, ← HRr.out]
    (with_reducible refine (hbe.out _).mono ?_)
    rintro e w1 ⟨rfl, rfl⟩
    go_wp2_with fail
    go_loop [7] (fun v => ∃ k : Nat, i + 1 ≤ k ∧ k ≤ s.size ∧ v = .int .i64 (k : Int) ∧ Hid (textN (D.drop 1) + 1 = (k - i) + textN ((sl s).drop k))) (fun v => s.size - (intOf v).toNat)
    case atStart => exact ⟨i + 1, Nat.le_refl _, by omega, by first | rfl | go_num, hid_mk (by rw [HD.out, List.drop_drop]; omega)⟩
    case round =>
      obtain ⟨k, hk1, hk, rfl, ht⟩ := hrel
      have hstop : (k < s.size → leavesL ((sl s).drop k) = true) → Hid (textN (D.drop 1) + 1 = k - i) := fun h => hid_mk (by
        rw [ht.out, textN_end (fun h' => h (by rw [len_sl] at h'; exact h'))]; rfl)
      have hdone : textN (D.drop 1) + 1 = k - i → Hid (R = (0, ⟨3, [], [], false, decL (D.take (k - i)) false⟩, (sl s).drop k)) := fun h => hid_mk (by
        rw [HR.out, h, HD.out, List.drop_drop, show i + (k - i) = k by omega])
      obtain ⟨T, hT⟩ : ∃ T, T = D.take (k - i) := ⟨_, rfl⟩
      have hTl : T.length ≤ s.size := by rw [hT, List.length_take]; omega
      have hxT : s.extract i k = strOf T := by rw [ext_to s i k (by omega), ← HD.out, hT]
      obtain ⟨V, hV⟩ : ∃ V, V = decL T false := ⟨_, rfl⟩
      have hdec := hid_mk (fun w => refDecode_any (strOf T) (by rw [size_strOf]; omega) false w)
      rw [sl_strOf, ← hV] at hdec
      rw [← hT, ← hV] at hdone
      have hik : (i : Int) ≤ (k : Int) := by omega
      have hks : (k : Int) ≤ (s.size : Int) := by omega
      have hbk := hid_mk (fun w => rBegins_any s k w (by omega))
      clear hT hV
      by_cases hlt : k < s.size
      · have hlt' : (k : Int) < (s.size : Int) := by omega
        cases hLk : leavesL ((sl s).drop k) with
        | false =>
          rw [hLk] at hbk
          have HN := hid_mk (show textN (D.drop 1) + 1 = (k + 1 - i) + textN ((sl s).drop (k + 1)) by
            rw [ht.out, textN_more (by rw [len_sl]; exact hlt) hLk]; omega)
          clear hLk hstop hdone ht
          go_wp2_with fail
          (with_reducible refine (hbk.out _).mono ?_)
          rintro e w1 ⟨rfl, rfl⟩
          go_wp2_with fail
          go_round
          case rel => exact ⟨k + 1, by omega, by omega, by go_num, HN⟩
          case measure => simp [intOf]; omega
        | true =>
          rw [hLk] at hbk
          have HF := hdone (hstop (fun _ => hLk)).out
          clear hLk hstop hdone ht
          go_wp2_with fail
          (with_reducible refine (hbk.out _).mono ?_)
          rintro e w1 ⟨rfl, rfl⟩
          go_wp2_with fail
          (with_reducible refine (hdec.out _).mono ?_)
          rintro e w3 ⟨rfl, hb3⟩
          have H3 := hid_mk (And.intro (rnow_next H0.out.1 hb3) (H0.out.2.next hb3))
          clear hb3
          have hX_ := H3.out.2
          have s0 := hX_.cell 0
          rw [show (zTok)[0]? = some (.int .u8 0) from rfl] at s0
          have f0 := hX_.frozen 0
          have s1 := hX_.cell 1
          rw [show (zTok)[1]? = some (.string ⟨#[]⟩) from rfl] at s1
          have f1 := hX_.frozen 1
          have s2 := hX_.cell 2
          rw [show (zTok)[2]? = some (.slice none 0 0) from rfl] at s2
          have f2 := hX_.frozen 2
          have s3 := hX_.cell 3
          rw [show (zTok)[3]? = some (.bool false) from rfl] at s3
          have f3 := hX_.frozen 3
          have s4 := hX_.cell 4
          rw [show (zTok)[4]? = some (.string ⟨#[]⟩) from rfl] at s4
          have f4 := hX_.frozen 4
          clear hX_
          go_wp2_with fail
          have HL := rtok_set (a0 := .int .u8 0) (a1 := .string ⟨#[]⟩) (a2 := .slice none 0 0) (a3 := .bool false) (a4 := .string ⟨#[]⟩) H3.out.2 (.int .u8 3) (.string ⟨#[]⟩) (.slice none 0 0) (.bool false) (.string (strOf V))
          have HN := rtok_now H3.out.1 H3.out.2 (.int .u8 3) (.string ⟨#[]⟩) (.slice none 0 0) (.bool false) (.string (strOf V))
          refine bodyPost_ret (results_cell_two resROne _ _ r 46 _ (0, 0) _ rfl HL.1 Tryz.underlying46 rfl (by kernel_rfl) (.int .i64 (k : Int)) (.int .i64 (0)) rfl rfl) rfl ?_
          exact ⟨_, _, by rw [HF.out]; rfl, ⟨_, _, _, _, _, _, _, rfl⟩, HN, fun _ => ⟨k, .slice none 0 0, rfl, by rw [len_sl]; exact hk, by rw [HF.out], by rw [HF.out]; rfl, by rw [HF.out]; exact ⟨rfl, .inl ⟨rfl, rfl⟩⟩⟩⟩
      · have hlt' : ¬ (k : Int) < (s.size : Int) := by omega
        have HF := hdone (hstop (fun h => absurd h hlt)).out
        clear hstop hdone ht
        go_wp2_with fail
        (with_reducible refine (hdec.out _).mono ?_)
        rintro e w3 ⟨rfl, hb3⟩
        have H3 := hid_mk (And.intro (rnow_next H0.out.1 hb3) (H0.out.2.next hb3))
        clear hb3
        have hX_ := H3.out.2
        have s0 := hX_.cell 0
        rw [show (zTok)[0]? = some (.int .u8 0) from rfl] at s0
        have f0 := hX_.frozen 0
        have s1 := hX_.cell 1
        rw [show (zTok)[1]? = some (.string ⟨#[]⟩) from rfl] at s1
        have f1 := hX_.frozen 1
        have s2 := hX_.cell 2
        rw [show (zTok)[2]? = some (.slice none 0 0) from rfl] at s2
        have f2 := hX_.frozen 2
        have s3 := hX_.cell 3
        rw [show (zTok)[3]? = some (.bool false) from rfl] at s3
        have f3 := hX_.frozen 3
        have s4 := hX_.cell 4
        rw [show (zTok)[4]? = some (.string ⟨#[]⟩) from rfl] at s4
        have f4 := hX_.frozen 4
        clear hX_
        go_wp2_with fail
        have HL := rtok_set (a0 := .int .u8 0) (a1 := .string ⟨#[]⟩) (a2 := .slice none 0 0) (a3 := .bool false) (a4 := .string ⟨#[]⟩) H3.out.2 (.int .u8 3) (.string ⟨#[]⟩) (.slice none 0 0) (.bool false) (.string (strOf V))
        have HN := rtok_now H3.out.1 H3.out.2 (.int .u8 3) (.string ⟨#[]⟩) (.slice none 0 0) (.bool false) (.string (strOf V))
        refine bodyPost_ret (results_cell_two resROne _ _ r 46 _ (0, 0) _ rfl HL.1 Tryz.underlying46 rfl (by kernel_rfl) (.int .i64 (k : Int)) (.int .i64 (0)) rfl rfl) rfl ?_
        exact ⟨_, _, by rw [HF.out]; rfl, ⟨_, _, _, _, _, _, _, rfl⟩, HN, fun _ => ⟨k, .slice none 0 0, rfl, by rw [len_sl]; exact hk, by rw [HF.out], by rw [HF.out]; rfl, by rw [HF.out]; exact ⟨rfl, .inl ⟨rfl, rfl⟩⟩⟩⟩
  | true =>
    rw [hL] at hbe
    obtain ⟨h2, h60⟩ := leaves_facts hL
    have h1 : i + 1 < s.size := by omega
    have h1' : (i : Int) + 1 < (s.size : Int) := by omega
    have hq1 : ((i : Int) + 1).toNat = i + 1 := by omega
    have hD1 : D.getD 1 0 = s[i + 1]'h1 := by rw [HD.out, getD_drop_one, getD_s s (i + 1) h1]
    have hb1 : atL D 1 = (s[i + 1]'h1).toNat := by rw [HD.out, atL_drop, byte_atL s (i + 1) h1]
    have hlet := hid_mk (fun w => rLetter_any (s[i + 1]'h1) w)
    rw [← hD1] at hlet
    cases hl1 : isLet (D.getD 1 0) with
    | true =>
      rw [hl1, hD1] at hlet
      have htg := hid_mk (fun w => rTag_any s (i + 1) 1 w h1 hs (by rw [getD_s s (i + 1) h1, ← hD1]; exact hl1) (.inl rfl))
      rw [tagR_one, show ((i + 1 : Nat) : Int) = (i : Int) + 1 by omega, show ((1 : Nat) : Int) = 1 from rfl] at htg
      have hRe : R = tagL 1 ((sl s).drop (i + 1)) := by
        rw [hR]; unfold oneL; rw [hL, hl1, HD.out, List.drop_drop]; rfl
      rw [← hRe] at htg
      clear hR hL hl1 hRe hD1 hb1 h60
      go_enter Tryz.func12, Tryz.ntmps12
      go_wp2_with fail
      rw [← hzA.out, ← HRr.out]
      (with_reducible refine (hbe.out _).mono ?_)
      rintro e w1 ⟨rfl, rfl⟩
      go_wp2_with fail
      (with_reducible refine (hlet.out _).mono ?_)
      rintro e w1 ⟨rfl, rfl⟩
      go_wp2_with fail
      (with_reducible refine (htg.out _).mono ?_)
      rintro e w2 ⟨cs, kk, rfl, ⟨tk, nn, ca, cl, cc, sf, dd, rfl⟩, hb2, hpp⟩
      have H2 := hid_mk (And.intro (rnow_next H0.out.1 hb2) (H0.out.2.next hb2))
      have HP := hid_mk hpp
      clear hb2 hpp htg
      have hX_ := H2.out.2
      have s0 := hX_.cell 0
      rw [show (zTok)[0]? = some (.int .u8 0) from rfl] at s0
      have f0 := hX_.frozen 0
      have s1 := hX_.cell 1
      rw [show (zTok)[1]? = some (.string ⟨#[]⟩) from rfl] at s1
      have f1 := hX_.frozen 1
      have s2 := hX_.cell 2
      rw [show (zTok)[2]? = some (.slice none 0 0) from rfl] at s2
      have f2 := hX_.frozen 2
      have s3 := hX_.cell 3
      rw [show (zTok)[3]? = some (.bool false) from rfl] at s3
      have f3 := hX_.frozen 3
      have s4 := hX_.cell 4
      rw [show (zTok)[4]? = some (.string ⟨#[]⟩) from rfl] at s4
      have f4 := hX_.frozen 4
      clear hX_
      go_wp2_with fail
      have HL := rtok_set (a0 := .int .u8 0) (a1 := .string ⟨#[]⟩) (a2 := .slice none 0 0) (a3 := .bool false) (a4 := .string ⟨#[]⟩) H2.out.2 (.int .u8 tk) (.string nn) (.slice ca cl cc) (.bool sf) (.string dd)
      have HN := rtok_now H2.out.1 H2.out.2 (.int .u8 tk) (.string nn) (.slice ca cl cc) (.bool sf) (.string dd)
      refine bodyPost_ret (results_cell_two resROne _ _ r 46 _ (0, 0) _ rfl HL.1 Tryz.underlying46 rfl (by kernel_rfl) (.int .i64 (kk)) (.int .i64 ((R.1 : Int))) rfl rfl) rfl ?_
      exact ⟨_, kk, rfl, ⟨_, _, _, _, _, _, _, rfl⟩, HN, fun h0 => by
        obtain ⟨n, v, h1, h2, h3, h4, h5⟩ := HP.out h0
        exact ⟨n, v, h1, h2, h3, h4, (rtok_row h5 H2.out.2 (by decide) _ _ _ _ _).mono HWS.out⟩⟩
    | false =>
    rw [hl1, hD1] at hlet
    by_cases h47 : (s[i + 1]'h1).toNat = 47
    · have q47 : (((s[i + 1]'h1).toNat : Int) == 47) = true := by rw [h47]; rfl
      have hRe : R = endL ((sl s).drop (i + 2)) := by
        rw [show (sl s).drop (i + 2) = D.drop 2 by rw [HD.out, List.drop_drop], hR]; unfold oneL; rw [hL, hl1, hb1, h47]; rfl
      have hRE := hid_mk hRe
      clear hRe
      by_cases hend : i + 2 = s.size
      · have HF := hid_mk (show R = (40, .none, []) by
          rw [hRE.out, List.drop_eq_nil_of_le (by rw [len_sl]; omega)]; rfl)
        have e1 : (i : Int) + 2 = (s.size : Int) := by omega
        have e2 : ((i : Int) + 2 == (s.size : Int)) = true := by rw [e1]; exact beq_self_eq_true _
        clear hR hL hl1 hD1 hb1 h60 h47
        have E1 := hid_mk e1
        clear e1 hend
        go_enter Tryz.func12, Tryz.ntmps12
        go_wp2_with fail
        rw [← hzA.out, ← HRr.out]
        (with_reducible refine (hbe.out _).mono ?_)
        rintro e w1 ⟨rfl, rfl⟩
        go_wp2_with fail
        (with_reducible refine (hlet.out _).mono ?_)
        rintro e w1 ⟨rfl, rfl⟩
        have hX_ := H0.out.2
        have s0 := hX_.cell 0
        rw [show (zTok)[0]? = some (.int .u8 0) from rfl] at s0
        have f0 := hX_.frozen 0
        have s1 := hX_.cell 1
        rw [show (zTok)[1]? = some (.string ⟨#[]⟩) from rfl] at s1
        have f1 := hX_.frozen 1
        have s2 := hX_.cell 2
        rw [show (zTok)[2]? = some (.slice none 0 0) from rfl] at s2
        have f2 := hX_.frozen 2
        have s3 := hX_.cell 3
        rw [show (zTok)[3]? = some (.bool false) from rfl] at s3
        have f3 := hX_.frozen 3
        have s4 := hX_.cell 4
        rw [show (zTok)[4]? = some (.string ⟨#[]⟩) from rfl] at s4
        have f4 := hX_.frozen 4
        clear hX_
        go_wp2_with fail
        have HL := rtok_set (a0 := .int .u8 0) (a1 := .string ⟨#[]⟩) (a2 := .slice none 0 0) (a3 := .bool false) (a4 := .string ⟨#[]⟩) H0.out.2 (.int .u8 0) (.string ⟨#[]⟩) (.slice none 0 0) (.bool false) (.string ⟨#[]⟩)
        have HN := rtok_now H0.out.1 H0.out.2 (.int .u8 0) (.string ⟨#[]⟩) (.slice none 0 0) (.bool false) (.string ⟨#[]⟩)
        refine bodyPost_ret (results_cell_two resROne _ _ r 46 _ (0, 0) _ rfl HL.1 Tryz.underlying46 rfl (by kernel_rfl) (.int .i64 (i : Int)) (.int .i64 (40)) rfl rfl) rfl ?_
        exact ⟨_, _, by rw [HF.out]; rfl, ⟨_, _, _, _, _, _, _, rfl⟩, HN, fun h => by rw [HF.out] at h; cases h⟩
      · have hlt2 : i + 2 < s.size := by omega
        have hlt2' : (i : Int) + 2 < (s.size : Int) := by omega
        have hq2 : ((i : Int) + 2).toNat = i + 2 := by omega
        have e2 : ((i : Int) + 2 == (s.size : Int)) = false := beq_false_of_ne (by omega)
        have hlet2 := hid_mk (fun w => rLetter_any (s[i + 2]'hlt2) w)
        have hg2 : ((sl s).drop (i + 2)).getD 0 0 = s[i + 2]'hlt2 := by rw [getD_drop_zero, getD_s s (i + 2) hlt2]
        have hne : (sl s).drop (i + 2) ≠ [] := fun h => by
          have := congrArg List.length h
          rw [List.length_drop, len_sl] at this
          simp at this
          omega
        cases hl2 : isLet (s[i + 2]'hlt2) with
        | false =>
          rw [hl2] at hlet2
          have HF := hid_mk (show R = (40, .none, []) by
            rw [hRE.out]
            unfold endL
            rw [hg2, hl2, Bool.not_false, Bool.or_true]
            rfl)
          clear hR hL hl1 hD1 hb1 h60 h47 hl2 hg2 hne
          go_enter Tryz.func12, Tryz.ntmps12
          go_wp2_with fail
          rw [← hzA.out, ← HRr.out]
          (with_reducible refine (hbe.out _).mono ?_)
          rintro e w1 ⟨rfl, rfl⟩
          go_wp2_with fail
          (with_reducible refine (hlet.out _).mono ?_)
          rintro e w1 ⟨rfl, rfl⟩
          have hX_ := H0.out.2
          have s0 := hX_.cell 0
          rw [show (zTok)[0]? = some (.int .u8 0) from rfl] at s0
          have f0 := hX_.frozen 0
          have s1 := hX_.cell 1
          rw [show (zTok)[1]? = some (.string ⟨#[]⟩) from rfl] at s1
          have f1 := hX_.frozen 1
          have s2 := hX_.cell 2
          rw [show (zTok)[2]? = some (.slice none 0 0) from rfl] at s2
          have f2 := hX_.frozen 2
          have s3 := hX_.cell 3
          rw [show (zTok)[3]? = some (.bool false) from rfl] at s3
          have f3 := hX_.frozen 3
          have s4 := hX_.cell 4
          rw [show (zTok)[4]? = some (.string ⟨#[]⟩) from rfl] at s4
          have f4 := hX_.frozen 4
          clear hX_
          go_wp2_with fail
          (with_reducible refine (hlet2.out _).mono ?_)
          rintro e w1 ⟨rfl, rfl⟩
          go_wp2_with fail
          have HL := rtok_set (a0 := .int .u8 0) (a1 := .string ⟨#[]⟩) (a2 := .slice none 0 0) (a3 := .bool false) (a4 := .string ⟨#[]⟩) H0.out.2 (.int .u8 0) (.string ⟨#[]⟩) (.slice none 0 0) (.bool false) (.string ⟨#[]⟩)
          have HN := rtok_now H0.out.1 H0.out.2 (.int .u8 0) (.string ⟨#[]⟩) (.slice none 0 0) (.bool false) (.string ⟨#[]⟩)
          refine bodyPost_ret (results_cell_two resROne _ _ r 46 _ (0, 0) _ rfl HL.1 Tryz.underlying46 rfl (by kernel_rfl) (.int .i64 (i : Int)) (.int .i64 (40)) rfl rfl) rfl ?_
          exact ⟨_, _, by rw [HF.out]; rfl, ⟨_, _, _, _, _, _, _, rfl⟩, HN, fun h => by rw [HF.out] at h; cases h⟩
        | true =>
          rw [hl2] at hlet2
          have htg := hid_mk (fun w => rTag_any s (i + 2) 2 w hlt2 hs (by rw [getD_s s (i + 2) hlt2]; exact hl2) (.inr rfl))
          rw [tagR_two _ hne (by rw [hg2]; exact hl2), show ((i + 2 : Nat) : Int) = (i : Int) + 2 by omega, show ((2 : Nat) : Int) = 2 from rfl, ← hRE.out] at htg
          clear hR hL hl1 hD1 hb1 h60 h47 hl2 hg2 hne
          go_enter Tryz.func12, Tryz.ntmps12
          go_wp2_with fail
          rw [← hzA.out, ← HRr.out]
          (with_reducible refine (hbe.out _).mono ?_)
          rintro e w1 ⟨rfl, rfl⟩
          go_wp2_with fail
          (with_reducible refine (hlet.out _).mono ?_)
          rintro e w1 ⟨rfl, rfl⟩
          go_wp2_with fail
          (with_reducible refine (hlet2.out _).mono ?_)
          rintro e w1 ⟨rfl, rfl⟩
          go_wp2_with fail
          (with_reducible refine (htg.out _).mono ?_)
          rintro e w2 ⟨cs, kk, rfl, ⟨tk, nn, ca, cl, cc, sf, dd, rfl⟩, hb2, hpp⟩
          have H2 := hid_mk (And.intro (rnow_next H0.out.1 hb2) (H0.out.2.next hb2))
          have HP := hid_mk hpp
          clear hb2 hpp htg
          have hX_ := H2.out.2
          have s0 := hX_.cell 0
          rw [show (zTok)[0]? = some (.int .u8 0) from rfl] at s0
          have f0 := hX_.frozen 0
          have s1 := hX_.cell 1
          rw [show (zTok)[1]? = some (.string ⟨#[]⟩) from rfl] at s1
          have f1 := hX_.frozen 1
          have s2 := hX_.cell 2
          rw [show (zTok)[2]? = some (.slice none 0 0) from rfl] at s2
          have f2 := hX_.frozen 2
          have s3 := hX_.cell 3
          rw [show (zTok)[3]? = some (.bool false) from rfl] at s3
          have f3 := hX_.frozen 3
          have s4 := hX_.cell 4
          rw [show (zTok)[4]? = some (.string ⟨#[]⟩) from rfl] at s4
          have f4 := hX_.frozen 4
          clear hX_
          go_wp2_with fail
          have HL := rtok_set (a0 := .int .u8 0) (a1 := .string ⟨#[]⟩) (a2 := .slice none 0 0) (a3 := .bool false) (a4 := .string ⟨#[]⟩) H2.out.2 (.int .u8 tk) (.string nn) (.slice ca cl cc) (.bool sf) (.string dd)
          have HN := rtok_now H2.out.1 H2.out.2 (.int .u8 tk) (.string nn) (.slice ca cl cc) (.bool sf) (.string dd)
          refine bodyPost_ret (results_cell_two resROne _ _ r 46 _ (0, 0) _ rfl HL.1 Tryz.underlying46 rfl (by kernel_rfl) (.int .i64 (kk)) (.int .i64 ((R.1 : Int))) rfl rfl) rfl ?_
          exact ⟨_, kk, rfl, ⟨_, _, _, _, _, _, _, rfl⟩, HN, fun h0 => by
            obtain ⟨n, v, h1, h2, h3, h4, h5⟩ := HP.out h0
            exact ⟨n, v, h1, h2, h3, h4, (rtok_row h5 H2.out.2 (by decide) _ _ _ _ _).mono HWS.out⟩⟩
    have q47 : (((s[i + 1]'h1).toNat : Int) == 47) = false := beq_false_of_ne (by omega)
    have h47n : (atL D 1 == 47) = false := by rw [hb1]; exact beq_false_of_ne h47
    have hat := hid_mk (fun w => rAt_any s i [60, 33, 45, 45] w (by omega) (by simp) (by simp) hs)
    rw [show strOf [60, 33, 45, 45] = (⟨#[60, 33, 45, 45]⟩ : ByteArray) from rfl, ← HD.out] at hat
    cases hp : Lib.hasPrefix D [60, 33, 45, 45] with
    | true =>
      rw [hp] at hat
      have h4 : i + 4 ≤ s.size := by
        have := pre_le hp
        simp only [List.length_cons, List.length_nil] at this
        omega
      have hco := hid_mk (fun w => rComment_any s (i + 4) w h4 hs)
      have hRe : R = comL ((sl s).drop (i + 4)) := by
        rw [show (sl s).drop (i + 4) = D.drop 4 by rw [HD.out, List.drop_drop], hR]; unfold oneL; rw [hL, hl1, h47n, hp]; rfl
      rw [← hRe, show ((i + 4 : Nat) : Int) = (i : Int) + 4 by omega] at hco
      clear hR hL hl1 hD1 hb1 h60 h47 h47n hp hRe
      go_enter Tryz.func12, Tryz.ntmps12
      go_wp2_with fail
      rw [← hzA.out, ← HRr.out]
      (with_reducible refine (hbe.out _).mono ?_)
      rintro e w1 ⟨rfl, rfl⟩
      go_wp2_with fail
      (with_reducible refine (hlet.out _).mono ?_)
      rintro e w1 ⟨rfl, rfl⟩
      go_wp2_with fail
      (with_reducible refine (hat.out _).mono ?_)
      rintro e w1 ⟨rfl, rfl⟩
      go_wp2_with fail
      (with_reducible refine (hco.out _).mono ?_)
      rintro e w2 ⟨cs, kk, rfl, ⟨tk, nn, ca, cl, cc, sf, dd, rfl⟩, hb2, hpp⟩
      have H2 := hid_mk (And.intro (rnow_next H0.out.1 hb2) (H0.out.2.next hb2))
      have HP := hid_mk hpp
      clear hb2 hpp hco
      have hX_ := H2.out.2
      have s0 := hX_.cell 0
      rw [show (zTok)[0]? = some (.int .u8 0) from rfl] at s0
      have f0 := hX_.frozen 0
      have s1 := hX_.cell 1
      rw [show (zTok)[1]? = some (.string ⟨#[]⟩) from rfl] at s1
      have f1 := hX_.frozen 1
      have s2 := hX_.cell 2
      rw [show (zTok)[2]? = some (.slice none 0 0) from rfl] at s2
      have f2 := hX_.frozen 2
      have s3 := hX_.cell 3
      rw [show (zTok)[3]? = some (.bool false) from rfl] at s3
      have f3 := hX_.frozen 3
      have s4 := hX_.cell 4
      rw [show (zTok)[4]? = some (.string ⟨#[]⟩) from rfl] at s4
      have f4 := hX_.frozen 4
      clear hX_
      go_wp2_with fail
      have HL := rtok_set (a0 := .int .u8 0) (a1 := .string ⟨#[]⟩) (a2 := .slice none 0 0) (a3 := .bool false) (a4 := .string ⟨#[]⟩) H2.out.2 (.int .u8 tk) (.string nn) (.slice ca cl cc) (.bool sf) (.string dd)
      have HN := rtok_now H2.out.1 H2.out.2 (.int .u8 tk) (.string nn) (.slice ca cl cc) (.bool sf) (.string dd)
      refine bodyPost_ret (results_cell_two resROne _ _ r 46 _ (0, 0) _ rfl HL.1 Tryz.underlying46 rfl (by kernel_rfl) (.int .i64 (kk)) (.int .i64 ((R.1 : Int))) rfl rfl) rfl ?_
      exact ⟨_, kk, rfl, ⟨_, _, _, _, _, _, _, rfl⟩, HN, fun h0 => by
        obtain ⟨n, v, h1, h2, h3, h4, h5⟩ := HP.out h0
        exact ⟨n, v, h1, h2, h3, h4, (rtok_row h5 H2.out.2 (by decide) _ _ _ _ _).mono HWS.out⟩⟩
    | false =>
      rw [hp] at hat
      have hdo := hid_mk (fun w => rDoctype_any s i w (by omega) hs)
      have hRe : R = docR ((sl s).drop i) := by
        rw [hR]; unfold oneL; rw [hL, hl1, h47n, hp, HD.out]; rfl
      rw [← hRe] at hdo
      clear hR hL hl1 hD1 hb1 h60 h47 h47n hp hRe
      go_enter Tryz.func12, Tryz.ntmps12
      go_wp2_with fail
      rw [← hzA.out, ← HRr.out]
      (with_reducible refine (hbe.out _).mono ?_)
      rintro e w1 ⟨rfl, rfl⟩
      go_wp2_with fail
      (with_reducible refine (hlet.out _).mono ?_)
      rintro e w1 ⟨rfl, rfl⟩
      go_wp2_with fail
      (with_reducible refine (hat.out _).mono ?_)
      rintro e w1 ⟨rfl, rfl⟩
      go_wp2_with fail
      (with_reducible refine (hdo.out _).mono ?_)
      rintro e w2 ⟨cs, kk, rfl, ⟨tk, nn, ca, cl, cc, sf, dd, rfl⟩, hb2, hpp⟩
      have H2 := hid_mk (And.intro (rnow_next H0.out.1 hb2) (H0.out.2.next hb2))
      have HP := hid_mk hpp
      clear hb2 hpp hdo
      have hX_ := H2.out.2
      have s0 := hX_.cell 0
      rw [show (zTok)[0]? = some (.int .u8 0) from rfl] at s0
      have f0 := hX_.frozen 0
      have s1 := hX_.cell 1
      rw [show (zTok)[1]? = some (.string ⟨#[]⟩) from rfl] at s1
      have f1 := hX_.frozen 1
      have s2 := hX_.cell 2
      rw [show (zTok)[2]? = some (.slice none 0 0) from rfl] at s2
      have f2 := hX_.frozen 2
      have s3 := hX_.cell 3
      rw [show (zTok)[3]? = some (.bool false) from rfl] at s3
      have f3 := hX_.frozen 3
      have s4 := hX_.cell 4
      rw [show (zTok)[4]? = some (.string ⟨#[]⟩) from rfl] at s4
      have f4 := hX_.frozen 4
      clear hX_
      go_wp2_with fail
      have HL := rtok_set (a0 := .int .u8 0) (a1 := .string ⟨#[]⟩) (a2 := .slice none 0 0) (a3 := .bool false) (a4 := .string ⟨#[]⟩) H2.out.2 (.int .u8 tk) (.string nn) (.slice ca cl cc) (.bool sf) (.string dd)
      have HN := rtok_now H2.out.1 H2.out.2 (.int .u8 tk) (.string nn) (.slice ca cl cc) (.bool sf) (.string dd)
      refine bodyPost_ret (results_cell_two resROne _ _ r 46 _ (0, 0) _ rfl HL.1 Tryz.underlying46 rfl (by kernel_rfl) (.int .i64 (kk)) (.int .i64 ((R.1 : Int))) rfl rfl) rfl ?_
      exact ⟨_, kk, rfl, ⟨_, _, _, _, _, _, _, rfl⟩, HN, fun h0 => by
        obtain ⟨n, v, h1, h2, h3, h4, h5⟩ := HP.out h0
        exact ⟨n, v, h1, h2, h3, h4, (rtok_row h5 H2.out.2 (by decide) _ _ _ _ _).mono HWS.out⟩⟩
end Go.Proofs.YtakakaenlfilmaaGreatDoor
/-
  The reference's Tokens: the same as the program's. Condition: the text's length is bounded.
-/
namespace Go.Proofs.YtakakaenlfilmaaGreatDoor
open Go.RowKit
def RTokRow (B : Nat) (v : Value) (ps : List (Tk × Value)) (w : World) : Prop :=
  w.ownsRow B 46 5 v ps.length (ps.flatMap tkF) ∧ ∀ p ∈ ps, AtRow B p.2 p.1.attrs w
theorem infoRTok : (Tryz.prog.info? 46).map (fun i => (i.zero, i.size, i.bytes)) = some (some (.agg #[.int .u8 0, .string ⟨#[]⟩, .slice none 0 0, .bool false, .string ⟨#[]⟩]), 5, 72) := by kernel_rfl
theorem RTokRow.below {B : Nat} {v : Value} {ps : List (Tk × Value)} {w w' : World} (h : RTokRow B v ps w) (hb : Below w.heap.size w w') : RTokRow B v ps w' :=
  ⟨own_below h.1 hb, fun p hp => (h.2 p hp).below hb⟩
theorem RTokRow.nil (B : Nat) (w : World) : RTokRow B (.slice none 0 0) [] w := ⟨⟨rfl, .inl ⟨rfl, rfl⟩⟩, fun p hp => by cases hp⟩
theorem RTokRow.grown {B : Nat} {v v' : Value} {ps : List (Tk × Value)} {p : Tk × Value} {w w' : World} (h : RTokRow B v ps w) (hp : AtRow B p.2 p.1.attrs w) (hg : w.grownBy w' v.ownBlock)
    (hn : w'.ownsRow B 46 5 v' (ps.length + 1) (ps.flatMap tkF ++ tkF p)) : RTokRow B v' (ps ++ [p]) w' := by
  have keep : ∀ q : Tk × Value, AtRow B q.2 q.1.attrs w → AtRow B q.2 q.1.attrs w' := fun q hq => by
    refine World.ownsRow.kept hq hg ?_
    cases hv : v.ownBlock with
    | none =>
      cases hq2 : q.2.ownBlock with
      | none => exact .inl rfl
      | some g => exact .inr (by simp)
    | some g =>
      obtain ⟨cs, hcs⟩ := own_kind h.1 hv
      exact .inr (hq.ne hcs (by decide))
  refine ⟨?_, fun q hq => ?_⟩
  · rw [List.length_append, List.flatMap_append, List.flatMap_cons, List.flatMap_nil, List.append_nil]
    exact hn
  · rw [List.mem_append, List.mem_singleton] at hq
    rcases hq with hq | rfl
    · exact keep q (h.2 q hq)
    · exact keep _ hp
def RToksPost (s : List UInt8) (w : World) (e : Ending) (w' : World) : Prop :=
  ∃ (v : Value) (ps : List (Tk × Value)), e = .returned (.tuple #[v, .int .i64 ((tokensL s).1 : Int), .int .i64 ((tokensL s).2.1 : Int)]) ∧ (tokensL s).2.2 = ps.map (·.1) ∧ RTokRow w.heap.size v ps w' ∧ Below w.heap.size w w'
theorem null_at {l : List UInt8} {k : Nat} (hno : ∀ j < k, l.getD j 0 ≠ 0) (hk : k < l.length) (h : l.getD k 0 = 0) : Lib.indexByte l 0 = k := by
  rw [← Lib.indexAny_one]
  refine Lib.indexAny_hit (x := 0) (fun j x hj hx => ?_) ?_ (by simp)
  · have := hno j hj
    rw [getD_of hx] at this
    simpa using this
  · rw [List.getElem?_eq_getElem hk]
    rw [List.getD_eq_getElem?_getD, List.getElem?_eq_getElem hk] at h
    rw [show l[k] = 0 from h]
theorem null_none {l : List UInt8} (hno : ∀ j < l.length, l.getD j 0 ≠ 0) : Lib.indexByte l 0 = -1 := by
  rw [← Lib.indexAny_one]
  refine Lib.indexAny_none (fun j x hj hx => ?_)
  have := hno j hj
  rw [getD_of hx] at this
  simpa using this
set_option maxHeartbeats 2000000 in
set_option maxRecDepth 100000 in
theorem rTokens_any (s : ByteArray) (w : World) (hs : s.size ≤ 1000000000) :
    Calls Tryz.prog 7 #[.string s] w (RToksPost (sl s) w) := by
  by_cases hbig : 65536 < s.size
  · have hb1 : decide (65536 < s.size) = true := decide_eq_true hbig
    have hb2 : decide ((65536 : Int) < (s.size : Int)) = true := decide_eq_true (by omega)
    have HF := hid_mk (show tokensL (sl s) = (3, 0, []) by unfold tokensL; rw [len_sl, if_pos hbig])
    clear hbig
    go_enter Tryz.func7, Tryz.ntmps7
    go_wp2_with fail
    go_ret3
    exact ⟨_, [], by rw [HF.out]; rfl, by rw [HF.out]; rfl, RTokRow.nil _ _, Below.refl _ _⟩
  have hb1 : decide (65536 < s.size) = false := decide_eq_false hbig
  have hb2 : decide ((65536 : Int) < (s.size : Int)) = false := decide_eq_false (by omega)
  have HBG := hid_mk hbig
  obtain ⟨i0, hi, hz0, hz1, hz2⟩ := info_parts infoRTok
  have HI := hid_mk (And.intro hi (And.intro hz0 (And.intro hz1 hz2)))
  clear hi hz0 hz1 hz2 hbig
  go_enter Tryz.func7, Tryz.ntmps7
  go_wp2_with fail
  go_loop [5] (fun v => ∃ k : Nat, k ≤ s.size ∧ v = .int .i64 (k : Int) ∧ Hid (∀ j < k, (sl s).getD j 0 ≠ 0)) (fun v => s.size - (intOf v).toNat)
  case atStart => exact ⟨0, Nat.zero_le _, rfl, hid_mk (fun j hj => by omega)⟩
  case round =>
    obtain ⟨k, hk, rfl, hno⟩ := hrel
    by_cases hlt : k < s.size
    · have hlt' : (k : Int) < (s.size : Int) := by omega
      have hgd := getD_s s k hlt
      by_cases h0 : (s[k]'hlt).toNat = 0
      · have q0 : (((s[k]'hlt).toNat : Int) == 0) = true := by rw [h0]; rfl
        have HF := hid_mk (show tokensL (sl s) = (42, k, []) by
          have hix := null_at hno.out (by rw [len_sl]; exact hlt) (by rw [hgd]; exact UInt8.toNat_inj.1 h0)
          unfold tokensL
          rw [len_sl, if_neg HBG.out, hix, if_pos (by omega)]
          rfl)
        clear h0 hgd hno
        go_wp2_with fail
        go_ret3
        exact ⟨_, [], by rw [HF.out]; rfl, by rw [HF.out]; rfl, RTokRow.nil _ _, Below.refl _ _⟩
      · have q0 : (((s[k]'hlt).toNat : Int) == 0) = false := beq_false_of_ne (by omega)
        have HN := hid_mk (show ∀ j < k + 1, (sl s).getD j 0 ≠ 0 from fun j hj => by
          by_cases e : j = k
          · subst e
            rw [hgd]
            exact fun h => h0 (by rw [h]; rfl)
          · exact hno.out j (by omega))
        clear h0 hgd hno
        go_wp2_with fail
        go_round
        case rel => exact ⟨k + 1, by omega, by go_num, HN⟩
        case measure => simp [intOf]; omega
    · obtain rfl : k = s.size := by omega
      have hlt' : ¬ (s.size : Int) < (s.size : Int) := by omega
      have HF := hid_mk (show tokensL (sl s) = if (toksL (sl s)).1 = 0 then (0, 0, (toksL (sl s)).2.2) else ((toksL (sl s)).1, s.size - (toksL (sl s)).2.1, []) by
        have hix := null_none (l := sl s) (fun j hj => hno.out j (by rw [len_sl] at hj; exact hj))
        unfold tokensL
        rw [len_sl, if_neg HBG.out, hix, if_neg (by omega)])
      clear hno
      go_wp2_with fail
      go_loopw [6, 7, 8, 9, 10] (fun v6 v7 _ _ _ wx => ∃ (i : Nat) (ps : List (Tk × Value)), v7 = .int .i64 (i : Int) ∧ i ≤ s.size ∧ ps.length ≤ i ∧ Hid (RNow w wx ∧ RTokRow w.heap.size v6 ps wx) ∧ Hid (prepT [] (toksL (sl s)) = prepT (ps.map (·.1)) (toksL ((sl s).drop i)))) (fun _ v7 _ _ _ _ => s.size - (intOf v7).toNat)
      case atStart => exact ⟨0, [], rfl, Nat.zero_le _, Nat.le_refl _, hid_mk ⟨Below.refl _ _, RTokRow.nil _ _⟩, hid_mk rfl⟩
      case round =>
        obtain ⟨i, ps, rfl, his, hps, HW, HQ⟩ := hrel
        obtain ⟨va, vc, hv⟩ := own_slice HW.out.2.1
        subst hv
        by_cases hi : i < s.size
        · have hii : (i : Int) < (s.size : Int) := by omega
          have hone := hid_mk (fun w => rOne_any s i w hi hs)
          obtain ⟨D, hD⟩ : ∃ D, D = (sl s).drop i := ⟨_, rfl⟩
          rw [← hD] at hone HQ
          have hDl : D.length = s.size - i := by rw [hD, List.length_drop, len_sl]
          have hDn : D ≠ [] := fun h => by rw [h] at hDl; simp at hDl; omega
          have hcas := oneL_cases D hDn
          clear hD
          go_wp2_with fail
          (with_reducible refine (hone.out _).mono ?_)
          rintro e w3 ⟨cs, kk, rfl, hfive, hb3, hpp⟩
          have H3 := hid_mk (And.intro (rnow_next HW.out.1 hb3) (HW.out.2.below hb3))
          have hbw : w.heap.size ≤ wr.heap.size := HW.out.1.size
          clear hone hb3 HW
          by_cases h0 : (oneL D).1 = 0
          · obtain ⟨n, v, rfl, hn, hdr, rfl, har⟩ := hpp h0
            rw [len_sl] at hn
            obtain ⟨ta, tc, rfl, _⟩ := own_attrs har
            have HQ2 := hid_mk (HQ.out.trans (prepT_step _ _ hDn h0))
            have HAR := hid_mk (har.mono hbw)
            have hlen : i < n := by
              have h1 := congrArg List.length hdr
              rw [List.length_drop, len_sl] at h1
              omega
            rw [← hdr] at HQ2
            rw [h0]
            generalize hone : oneL D = T at *
            obtain ⟨T0, t, rest⟩ := T
            simp only at HQ2 HAR
            have H4 := hid_mk (And.intro (rnow_alloc H3.out.1 (.cells (tkCells t (.slice ta t.attrs.length tc)) 46)) (And.intro (H3.out.2.below ((Below.refl _ _).alloc (Nat.le_refl _) (.cells (tkCells t (.slice ta t.attrs.length tc)) 46))) (HAR.out.below ((Below.refl _ _).alloc (Nat.le_refl _) (.cells (tkCells t (.slice ta t.attrs.length tc)) 46)))))
            clear hpp hfive har HQ hone hcas hbw HAR h0 hdr
            obtain ⟨tk, tn, tat, tsf, td⟩ := t
            unfold tkCells
            simp only
            go_wp2_with (at_builtin; refine Classical.byContradiction fun hno => ?_)
            refine hno ?_
            clear hno
            obtain ⟨hi', hz0, hz1, hz2⟩ := HI.out
            obtain ⟨t, ht⟩ : ∃ t : Tk, t = ⟨tk, tn, tat, tsf, td⟩ := ⟨_, rfl⟩
            obtain ⟨w4, hw4⟩ : ∃ w4, w4 = w3.alloc (.cells #[.int .u8 (tk : Int), .string (strOf tn), .slice ta tat.length tc, .bool tsf, .string (strOf td)] 46) := ⟨_, rfl⟩
            have hsz4 : w3.heap.size + 1 = w4.heap.size := by rw [hw4]; simp
            have H4b : RNow w w4 ∧ RTokRow w.heap.size (.slice va ps.length vc) ps w4 ∧ AtRow w.heap.size (.slice ta t.attrs.length tc) t.attrs w4 := by rw [hw4, ht]; exact H4.out
            have hbe := Below.alloc (Below.refl w4.heap.size w4) (Nat.le_refl _) (.cells #[.int .u8 (tk : Int), .string (strOf tn), .slice ta tat.length tc, .bool tsf, .string (strOf td)] 46)
            have H5 := And.intro (rnow_next H4b.1 hbe) (And.intro (H4b.2.1.below hbe) (H4b.2.2.below hbe))
            have hws : w.heap.size ≤ _ := H5.1.size
            rw [← hw4, hsz4]
            refine wpList_append_own _ rfl (.tmp 40) (.tmp 42) _ rfl w.heap.size 46 i0 _ 5 72 Tryz.underlying27 hi' hz0 hz1 hz2 rfl (by decide) _ ps.length (ps.flatMap tkF) rfl H5.2.1.1 ⟨w4.heap.size, 0, none⟩ 1 1 (tkF (t, .slice ta t.attrs.length tc)) rfl rfl ?c1 ?c2 ?c3 ?c4 hws ?_
            case c1 =>
              intro j u hu
              rw [addr_add0, cell_of_row _ _ j _ _ _ (heap_alloc_new w4 _), ← hu, ht, ← Array.getElem?_toList]
              rfl
            case c2 =>
              intro u hu
              rw [ht] at hu
              simp only [tkF, tkCells, List.mem_cons, List.not_mem_nil, or_false] at hu
              rcases hu with rfl | rfl | rfl | rfl | rfl <;> rfl
            case c3 => unfold maxLen; omega
            case c4 => omega
            intro v' w6 hown' hgrow _
            have hrow := RTokRow.grown H5.2.1 H5.2.2 hgrow hown'
            have hnow := Below.grown H5.1 hgrow hws (fun k hk => own_base H5.2.1.1 k hk)
            have HN := hid_mk (And.intro hnow hrow)
            have HQ3 := hid_mk (show prepT [] (toksL (sl s)) = prepT ((ps ++ [(t, Value.slice ta t.attrs.length tc)]).map (·.1)) (toksL ((sl s).drop n)) by
              rw [List.map_append, ht]
              exact HQ2.out)
            have hpl : (ps ++ [(t, Value.slice ta t.attrs.length tc)]).length ≤ n := by
              rw [List.length_append, List.length_singleton]
              omega
            generalize ps ++ [(t, Value.slice ta t.attrs.length tc)] = ps2 at *
            clear hown' hgrow hrow hnow H5 hbe hws H4b hi' hz0 hz1 hz2 H4 H3 hsz4 hw4 HQ2 ht
            go_wp2_with fail
            go_roundw
            case rel => exact ⟨n, ps2, rfl, hn, hpl, HN, HQ3⟩
            case measure => simp [intOf]; omega
          · obtain ⟨tk, nn, ca, cl, cc, sf, dd, rfl⟩ := hfive
            have hq := HQ.out.trans (prepT_bad _ _ hDn h0)
            rw [hDl] at hq
            have hq1 : (toksL (sl s)).1 = (oneL D).1 := congrArg (·.1) hq
            have hq2 : (toksL (sl s)).2.1 = s.size - i := by
              have := congrArg (·.2.1) hq
              unfold prepT at this
              rw [if_neg (by rw [hq1]; exact h0)] at this
              exact this
            obtain ⟨n, hn⟩ : ∃ n, n = (oneL D).1 := ⟨_, rfl⟩
            rw [← hn] at h0 hq1 ⊢
            have HR := hid_mk (show tokensL (sl s) = (n, i, []) by rw [HF.out, if_neg (by rw [hq1]; exact h0), hq1, hq2, Nat.sub_sub_self (Nat.le_of_lt hi)])
            have e1 : ((n : Int) == 0) = false := beq_false_of_ne (by omega)
            have e2 : ((n : Int) != 0) = true := by rw [bne, e1]; rfl
            have H4 := hid_mk (rnow_alloc H3.out.1 (.cells #[.int .u8 tk, .string nn, .slice ca cl cc, .bool sf, .string dd] 46))
            clear hpp hq hq1 hq2 hn HQ hcas hbw H3 h0
            go_wp2_with fail
            go_ret3
            exact ⟨_, [], by rw [HR.out]; rfl, by rw [HR.out]; rfl, RTokRow.nil _ _, H4.out⟩
        · obtain rfl : i = s.size := by omega
          have hii : ¬ (s.size : Int) < (s.size : Int) := by omega
          have hq := HQ.out
          rw [List.drop_eq_nil_of_le (by rw [len_sl]; exact Nat.le_refl _), toksL_nil] at hq
          have hq1 : (toksL (sl s)).1 = 0 := congrArg (·.1) hq
          have hq2 : (toksL (sl s)).2.2 = ps.map (·.1) := by
            have := congrArg (·.2.2) hq
            unfold prepT at this
            simp only [hq1, if_true, List.nil_append, List.append_nil] at this
            exact this
          have HR := hid_mk (show tokensL (sl s) = (0, 0, ps.map (·.1)) by rw [HF.out, if_pos hq1, hq2])
          clear hq hq1 hq2 HQ
          go_wp2_with fail
          go_ret3
          exact ⟨_, ps, by rw [HR.out]; rfl, by rw [HR.out], HW.out.2, HW.out.1⟩
end Go.Proofs.YtakakaenlfilmaaGreatDoor
