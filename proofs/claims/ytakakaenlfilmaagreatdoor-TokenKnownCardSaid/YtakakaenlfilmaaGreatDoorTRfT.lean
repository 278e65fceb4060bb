/-
  The reference's attribute. Conditions: places and lengths are bounded.
-/
import Derived.Test.YtakakaenlfilmaaGreatDoorTRfM
import Derived.Test.YtakakaenlfilmaaGreatDoorRDec
import Derived.Deep.QuietTactic
import Derived.BigQuiet
namespace Go.Proofs.YtakakaenlfilmaaGreatDoor
open Go.RowKit
theorem resRAttr : Tryz.f48.results = #[.cell 4 35, .tmp 5, .tmp 6] := by kernel_rfl
theorem rattr_set {r : Nat} {u0 v0 : Value} {w0 w : World} (h : RLoc r #[u0, v0] 35 w0 w) (u v : Value) : RLoc r #[u, v] 35 w0 ((w.setCell ⟨r, 0, none⟩ u).setCell ⟨r, 1, none⟩ v) :=
  (h.setAt 0 u).setAt 1 v
theorem rattr_now {r : Nat} {cs : Array Value} {w0 w : World} (hn : RNow w0 w) (h : RLoc r cs 35 w0 w) (u v : Value) : RNow w0 ((w.setCell ⟨r, 0, none⟩ u).setCell ⟨r, 1, none⟩ v) :=
  rnow_set (rnow_set hn h 0 u) (h.setAt 0 u) 1 v
/-- What the reference's reader of an attribute tells. -/
def RAPost (R : Option (Atr × List UInt8)) (l : List UInt8) (w : World) (e : Ending) (w' : World) : Prop :=
  ∃ (x1 x2 : ByteArray) (k err : Int), e = .returned (.tuple #[.agg #[.string x1, .string x2], .int .i64 k, .int .i64 err]) ∧ Below w.heap.size w w' ∧
    match R with
    | some p => x1 = strOf p.1.1 ∧ x2 = strOf p.1.2 ∧ err = 0 ∧ ∃ n : Nat, k = (n : Int) ∧ n ≤ l.length ∧ l.drop n = p.2
    | none => err = 41
theorem ext_to (s : ByteArray) (i k : Nat) (h : i ≤ k) : s.extract i k = strOf (((sl s).drop i).take (k - i)) := by
  have e : k = i + (k - i) := by omega
  conv => lhs; rw [e]
  rw [ext_cut]
set_option maxHeartbeats 2000000 in
set_option maxRecDepth 100000 in
theorem rAttr_any (s : ByteArray) (i : Nat) (w : World) (hi : i ≤ s.size) (hs : s.size ≤ 1000000000) :
    Calls Tryz.prog 48 #[.string s, .int .i64 (i : Int)] w (RAPost (attrL ((sl s).drop i)) (sl s) w) := by
  obtain ⟨D, hD⟩ : ∃ D, D = (sl s).drop i := ⟨_, rfl⟩
  obtain ⟨R, hR⟩ : ∃ R, R = attrL D := ⟨_, rfl⟩
  rw [← hD, ← hR]
  have hDl : D.length = s.size - i := by rw [hD, List.length_drop, len_sl]
  -- the name
  have hw0 := hid_mk (fun w => rWord_any s i [61, 47, 62] w hi hs (by simp))
  rw [show strOf [61, 47, 62] = (⟨#[61, 47, 62]⟩ : ByteArray) from rfl, show blanksL ++ [61, 47, 62] = [9, 10, 12, 32, 61, 47, 62] from rfl] at hw0
  have hw1 := wordN_le (sl s) i [9, 10, 12, 32, 61, 47, 62] (by rw [len_sl]; exact hi)
  have hw2 := wordN_take (sl s) i [9, 10, 12, 32, 61, 47, 62]
  have hw3 := wordN_drop (sl s) i [9, 10, 12, 32, 61, 47, 62]
  rw [len_sl] at hw1
  rw [← hD] at hw2 hw3
  obtain ⟨k0, hk0⟩ : ∃ k0, k0 = wordN (sl s) i [9, 10, 12, 32, 61, 47, 62] := ⟨_, rfl⟩
  rw [← hk0] at hw0 hw1 hw2 hw3
  obtain ⟨N, hN⟩ : ∃ N, N = upL D [9, 10, 12, 32, 61, 47, 62] := ⟨_, rfl⟩
  have hx0 : s.extract i k0 = strOf N := by rw [ext_to s i k0 hw1.1, ← hD, hw2, hN]
  have hNl : N.length ≤ 1000000000 := by rw [hN]; have := up_le D [9, 10, 12, 32, 61, 47, 62]; omega
  obtain ⟨M, hM⟩ : ∃ M, M = smL N := ⟨_, rfl⟩
  have hMl : M.length ≤ 1000000000 := by rw [hM]; unfold smL; rw [List.length_map]; exact hNl
  have HA := hid_mk (show R = if M.isEmpty || !madeL M [45, 95] then none
    else if Lib.hasPrefix (skB (downL D [9, 10, 12, 32, 61, 47, 62])) [61] then
      match valueL (skB ((skB (downL D [9, 10, 12, 32, 61, 47, 62])).drop 1)) with
      | none => none
      | some (v, r) => some ((M, decL v true), r)
    else some ((M, []), skB (downL D [9, 10, 12, 32, 61, 47, 62])) by
    rw [hR, hM, show (smL N).isEmpty = N.isEmpty by cases N <;> rfl, hN]; rfl)
  have hsm := hid_mk (fun w => rSmall_any (strOf N) w (by rw [size_strOf]; exact hNl))
  rw [sl_strOf, ← hM] at hsm
  have hof := hid_mk (fun w => rOf_any (strOf M) [45, 95] w (by rw [size_strOf]; exact hMl) (by simp))
  rw [sl_strOf, show strOf [45, 95] = (⟨#[45, 95]⟩ : ByteArray) from rfl] at hof
  have hi0 : (i : Int) ≤ (k0 : Int) := by omega
  have hi1 : (k0 : Int) ≤ (s.size : Int) := by omega
  have hk0s : k0 ≤ s.size := hw1.2
  have HW3 := hid_mk hw3
  have HD := hid_mk hD
  have H0 := hid_mk (And.intro (rnow_alloc (Below.refl _ w) (.cells zAttr 35)) (RLoc.new (Below.refl _ w) zAttr 35))
  have hzA := hid_mk (show (w.alloc (.cells zAttr 35)) = (w.alloc (.cells #[.string ⟨#[]⟩, .string ⟨#[]⟩] 35)) from rfl)
  obtain ⟨r, hr⟩ : ∃ r, r = w.heap.size := ⟨_, rfl⟩
  have HRr := hid_mk hr
  rw [← hr] at H0
  clear hr hR hD hw1 hw2 hw3 hk0 hN hM
  have hbody : (M.isEmpty || !madeL M [45, 95]) = false → Hid (R = if Lib.hasPrefix (skB (downL D [9, 10, 12, 32, 61, 47, 62])) [61] then
      match valueL (skB ((skB (downL D [9, 10, 12, 32, 61, 47, 62])).drop 1)) with
      | none => none
      | some (v, r) => some ((M, decL v true), r)
    else some ((M, []), skB (downL D [9, 10, 12, 32, 61, 47, 62]))) := fun h => hid_mk (by rw [HA.out, h]; rfl)
  go_enter Tryz.func48, Tryz.ntmps48
  go_wp2_with fail
  rw [← hzA.out, ← HRr.out]
  (with_reducible refine (hw0.out _).mono ?_)
  rintro e w1 ⟨rfl, rfl⟩
  go_wp2_with fail
  (with_reducible refine (hsm.out _).mono ?_)
  rintro e w9 ⟨rfl, hb1⟩
  have H1 := hid_mk (And.intro (rnow_next H0.out.1 hb1) (H0.out.2.next hb1))
  clear hb1 H0 hzA hw0 hsm
  obtain ⟨g, hg⟩ : ∃ g, g = w9.heap.size := ⟨_, rfl⟩
  have HG := hid_mk hg
  have hgr : r ≠ g := by have := H1.out.2.lt; omega
  have H2 := hid_mk (And.intro (rnow_alloc H1.out.1 (.cells #[.string (strOf M), .string ⟨#[]⟩] 35)) (And.intro (H1.out.2.alloc (.cells #[.string (strOf M), .string ⟨#[]⟩] 35)) (RLoc.new H1.out.1 #[.string (strOf M), .string ⟨#[]⟩] 35)))
  rw [← hg] at H2
  clear hg H1
  go_wp2_with fail
  rw [← HG.out]
  obtain ⟨w2, hw2⟩ : ∃ w2, w2 = w9.alloc (.cells #[.string (strOf M), .string ⟨#[]⟩] 35) := ⟨_, rfl⟩
  rw [← hw2] at H2 ⊢
  clear hw2
  cases hmd : (!M.isEmpty && madeL M [45, 95]) with
  | false =>
    rw [hmd] at hof
    have HF := hid_mk (show R = none by
      rw [HA.out, if_pos]
      rw [Bool.eq_iff_iff] at hmd
      revert hmd
      cases M.isEmpty <;> cases madeL M [45, 95] <;> simp)
    clear HA hbody hmd
    (with_reducible refine (hof.out _).mono ?_)
    rintro e w1 ⟨rfl, rfl⟩
    have hX_ := H2.out.2.1
    have s0 := hX_.cell 0
    rw [show (zAttr)[0]? = some (.string ⟨#[]⟩) from rfl] at s0
    have f0 := hX_.frozen 0
    have s1 := hX_.cell 1
    rw [show (zAttr)[1]? = some (.string ⟨#[]⟩) from rfl] at s1
    have f1 := hX_.frozen 1
    clear hX_
    have hX_ := H2.out.2.2
    have g0 := hX_.cell 0
    rw [show (#[Value.string (strOf M), Value.string ⟨#[]⟩])[0]? = some (.string (strOf M)) from rfl] at g0
    have g1 := hX_.cell 1
    rw [show (#[Value.string (strOf M), Value.string ⟨#[]⟩])[1]? = some (.string ⟨#[]⟩) from rfl] at g1
    clear hX_
    go_wp2_with fail
    have HL := rattr_set (u0 := .string ⟨#[]⟩) (v0 := .string ⟨#[]⟩) H2.out.2.1 (.string (strOf M)) (.string ⟨#[]⟩)
    have HN := rattr_now H2.out.1 H2.out.2.1 (.string (strOf M)) (.string ⟨#[]⟩)
    refine bodyPost_ret (results_cell_two resRAttr _ _ r 35 _ (0, 0) _ rfl HL.1 Tryz.underlying35 rfl (by kernel_rfl) (.int .i64 (k0 : Int)) (.int .i64 41) rfl rfl) rfl ?_
    exact ⟨_, _, _, _, rfl, HN, by rw [HF.out]⟩
  | true =>
  rw [hmd] at hof
  have HB := hbody (by
    revert hmd
    cases M.isEmpty <;> cases madeL M [45, 95] <;> simp)
  clear HA hbody hmd
  rw [← HW3.out, ← skipN_drop] at HB
  have hsk := hid_mk (fun w => rSkip_any s k0 w hk0s hs)
  have hsl := skipN_le (sl s) k0 (by rw [len_sl]; exact hk0s)
  rw [len_sl] at hsl
  obtain ⟨k1, hk1⟩ : ∃ k1, k1 = skipN (sl s) k0 := ⟨_, rfl⟩
  rw [← hk1] at HB hsk hsl
  obtain ⟨hk1a, hk1s⟩ := hsl
  clear hk1
  (with_reducible refine (hof.out _).mono ?_)
  rintro e w1 ⟨rfl, rfl⟩
  go_wp2_with fail
  (with_reducible refine (hsk.out _).mono ?_)
  rintro e w9 ⟨rfl, rfl⟩
  clear hof hsk
  have hk1i : (k1 : Int) ≤ (s.size : Int) := by omega
  rw [pre_one_at _ 61 (by decide), atL_drop, Nat.add_zero, show (61 : UInt8).toNat = 61 from rfl] at HB
  by_cases hq : atL (sl s) k1 = 61
  case neg =>
    have HF := hid_mk (show R = some ((M, []), (sl s).drop k1) by rw [HB.out, if_neg (by rw [decide_eq_false hq]; exact Bool.false_ne_true)])
    by_cases he : k1 = s.size
    · subst he
      have hX_ := H2.out.2.1
      have s0 := hX_.cell 0
      rw [show (zAttr)[0]? = some (.string ⟨#[]⟩) from rfl] at s0
      have f0 := hX_.frozen 0
      have s1 := hX_.cell 1
      rw [show (zAttr)[1]? = some (.string ⟨#[]⟩) from rfl] at s1
      have f1 := hX_.frozen 1
      clear hX_
      have hX_ := H2.out.2.2
      have g0 := hX_.cell 0
      rw [show (#[Value.string (strOf M), Value.string ⟨#[]⟩])[0]? = some (.string (strOf M)) from rfl] at g0
      have g1 := hX_.cell 1
      rw [show (#[Value.string (strOf M), Value.string ⟨#[]⟩])[1]? = some (.string ⟨#[]⟩) from rfl] at g1
      clear hX_
      clear HB
      go_wp2_with fail
      have HL := rattr_set (u0 := .string ⟨#[]⟩) (v0 := .string ⟨#[]⟩) H2.out.2.1 (.string (strOf M)) (.string ⟨#[]⟩)
      have HN := rattr_now H2.out.1 H2.out.2.1 (.string (strOf M)) (.string ⟨#[]⟩)
      refine bodyPost_ret (results_cell_two resRAttr _ _ r 35 _ (0, 0) _ rfl HL.1 Tryz.underlying35 rfl (by kernel_rfl) (.int .i64 (s.size : Int)) (.int .i64 0) rfl rfl) rfl ?_
      exact ⟨_, _, _, _, rfl, HN, by rw [HF.out]; exact ⟨rfl, rfl, rfl, s.size, rfl, by rw [len_sl]; exact Nat.le_refl _, rfl⟩⟩
    · have hlt : k1 < s.size := by omega
      have hlt' : (k1 : Int) < (s.size : Int) := by omega
      have he1 : ((k1 : Int) == (s.size : Int)) = false := beq_false_of_ne (by omega)
      have he2 : (k1 == s.size) = false := beq_false_of_ne he
      have hb0 := byte_atL s k1 hlt
      have hb1 : (((s[k1]'hlt).toNat : Int) == 61) = false := beq_false_of_ne (by omega)
      have hb2 : (((s[k1]'hlt).toNat : Int) != 61) = true := by rw [bne, hb1]; rfl
      clear hb0
      have hX_ := H2.out.2.1
      have s0 := hX_.cell 0
      rw [show (zAttr)[0]? = some (.string ⟨#[]⟩) from rfl] at s0
      have f0 := hX_.frozen 0
      have s1 := hX_.cell 1
      rw [show (zAttr)[1]? = some (.string ⟨#[]⟩) from rfl] at s1
      have f1 := hX_.frozen 1
      clear hX_
      have hX_ := H2.out.2.2
      have g0 := hX_.cell 0
      rw [show (#[Value.string (strOf M), Value.string ⟨#[]⟩])[0]? = some (.string (strOf M)) from rfl] at g0
      have g1 := hX_.cell 1
      rw [show (#[Value.string (strOf M), Value.string ⟨#[]⟩])[1]? = some (.string ⟨#[]⟩) from rfl] at g1
      clear hX_
      clear HB
      go_wp2_with fail
      have HL := rattr_set (u0 := .string ⟨#[]⟩) (v0 := .string ⟨#[]⟩) H2.out.2.1 (.string (strOf M)) (.string ⟨#[]⟩)
      have HN := rattr_now H2.out.1 H2.out.2.1 (.string (strOf M)) (.string ⟨#[]⟩)
      refine bodyPost_ret (results_cell_two resRAttr _ _ r 35 _ (0, 0) _ rfl HL.1 Tryz.underlying35 rfl (by kernel_rfl) (.int .i64 (k1 : Int)) (.int .i64 0) rfl rfl) rfl ?_
      exact ⟨_, _, _, _, rfl, HN, by rw [HF.out]; exact ⟨rfl, rfl, rfl, k1, rfl, by rw [len_sl]; exact hk1s, rfl⟩⟩
  case pos =>
  have hlt : k1 < s.size := by
    have := atL_pos (l := sl s) (k := k1) (by omega)
    rw [len_sl] at this
    exact this
  have hlt' : (k1 : Int) < (s.size : Int) := by omega
  have he1 : ((k1 : Int) == (s.size : Int)) = false := beq_false_of_ne (by omega)
  have he2 : (k1 == s.size) = false := beq_false_of_ne (by omega)
  have hb0 := byte_atL s k1 hlt
  have hb1 : (((s[k1]'hlt).toNat : Int) == 61) = true := by rw [hb0, hq]; rfl
  have hb2 : (((s[k1]'hlt).toNat : Int) != 61) = false := by rw [bne, hb1]; rfl
  rw [decide_eq_true hq, if_pos rfl, List.drop_drop, ← skipN_drop] at HB
  clear hb0 hq
  have hsk := hid_mk (fun w => rSkip_any s (k1 + 1) w (by omega) hs)
  have hsl := skipN_le (sl s) (k1 + 1) (by rw [len_sl]; omega)
  rw [len_sl] at hsl
  rw [show ((k1 + 1 : Nat) : Int) = (k1 : Int) + 1 by omega] at hsk
  obtain ⟨k2, hk2⟩ : ∃ k2, k2 = skipN (sl s) (k1 + 1) := ⟨_, rfl⟩
  rw [← hk2] at HB hsk hsl
  obtain ⟨_, hk2s⟩ := hsl
  clear hk2
  go_wp2_with fail
  (with_reducible refine (hsk.out _).mono ?_)
  rintro e w9 ⟨rfl, rfl⟩
  clear hsk hb1 hb2 he1 he2
  have hk2i : (k2 : Int) ≤ (s.size : Int) := by omega
  obtain ⟨S, hS⟩ : ∃ S, S = (sl s).drop k2 := ⟨_, rfl⟩
  rw [← hS] at HB
  have HS := hid_mk hS
  have hSl : S.length = s.size - k2 := by rw [hS, List.length_drop, len_sl]
  have hp34 : Lib.hasPrefix S [34] = decide (atL (sl s) k2 = 34) := by rw [pre_one_at _ 34 (by decide), hS, atL_drop, Nat.add_zero]; rfl
  have hp39 : Lib.hasPrefix S [39] = decide (atL (sl s) k2 = 39) := by rw [pre_one_at _ 39 (by decide), hS, atL_drop, Nat.add_zero]; rfl
  clear hS
  by_cases hqt : atL (sl s) k2 = 34 ∨ atL (sl s) k2 = 39
  case pos =>
    have hlt2 : k2 < s.size := by
      have := atL_pos (l := sl s) (k := k2) (by omega)
      rw [len_sl] at this
      exact this
    have hlt2' : (k2 : Int) < (s.size : Int) := by omega
    have hle2' : (k2 : Int) + 1 ≤ (s.size : Int) := by omega
    have hq2 : ((k2 : Int) + 1).toNat = k2 + 1 := by omega
    obtain ⟨c, hc⟩ : ∃ c, c = s[k2]'hlt2 := ⟨_, rfl⟩
    have hcn : c.toNat = atL (sl s) k2 := by rw [hc, byte_atL s k2 hlt2]
    have hc34 : c = 34 ∨ c = 39 := by
      rcases hqt with h | h
      · exact .inl (UInt8.toNat_inj.1 (by rw [hcn, h]; rfl))
      · exact .inr (UInt8.toNat_inj.1 (by rw [hcn, h]; rfl))
    have hpc : Lib.hasPrefix S [c] = true := by
      rcases hc34 with rfl | rfl
      · rw [hp34]; exact decide_eq_true hcn.symm
      · rw [hp39]; exact decide_eq_true hcn.symm
    have hvq := value_quote hc34 hpc
    rw [HS.out, List.drop_drop, ← HS.out] at hvq
    have hxq : s.extract k2 (k2 + 1) = strOf [c] := by rw [ext_one s k2 hlt2, hc]
    have hfi := hid_mk (fun w => rFind_any s (k2 + 1) [c] w (by omega) (by simp) (by simp) hs)
    have hcs := findZ_cases (sl s) (k2 + 1) [c] (by rw [len_sl]; omega)
    rw [show ((k2 + 1 : Nat) : Int) = (k2 : Int) + 1 by omega] at hfi
    have hbs : (((s[k2]'hlt2).toNat : Int) = 34) ∨ (¬ ((s[k2]'hlt2).toNat : Int) = 34 ∧ ((s[k2]'hlt2).toNat : Int) = 39) := by
      rw [← hc]
      rcases hc34 with rfl | rfl
      · exact .inl rfl
      · exact .inr ⟨by decide, rfl⟩
    obtain ⟨Qs, hQs⟩ : ∃ Qs, Qs = strOf [c] := ⟨_, rfl⟩
    rw [← hQs] at hxq hfi
    generalize findZ (sl s) (k2 + 1) [c] = fz at *
    clear hQs hpc hp34 hp39 hqt hcn hc hc34
    rcases hcs with ⟨rfl, hix⟩ | ⟨j, hix, rfl, hjl⟩
    · have HF := hid_mk (show R = none by
        rcases hvq with ⟨_, h⟩ | ⟨j, h, _⟩
        · rw [HB.out, h]
        · omega)
      clear HB hvq hix
      have hX_ := H2.out.2.1
      have s0 := hX_.cell 0
      rw [show (zAttr)[0]? = some (.string ⟨#[]⟩) from rfl] at s0
      have f0 := hX_.frozen 0
      have s1 := hX_.cell 1
      rw [show (zAttr)[1]? = some (.string ⟨#[]⟩) from rfl] at s1
      have f1 := hX_.frozen 1
      clear hX_
      have hX_ := H2.out.2.2
      have g0 := hX_.cell 0
      rw [show (#[Value.string (strOf M), Value.string ⟨#[]⟩])[0]? = some (.string (strOf M)) from rfl] at g0
      have g1 := hX_.cell 1
      rw [show (#[Value.string (strOf M), Value.string ⟨#[]⟩])[1]? = some (.string ⟨#[]⟩) from rfl] at g1
      clear hX_
      rcases hbs with e34 | ⟨e34, e39⟩
      · go_wp2_with fail
        (with_reducible refine (hfi.out _).mono ?_)
        rintro e w8 ⟨rfl, rfl⟩
        go_wp2_with fail
        have HL := rattr_set (u0 := .string ⟨#[]⟩) (v0 := .string ⟨#[]⟩) H2.out.2.1 (.string (strOf M)) (.string ⟨#[]⟩)
        have HN := rattr_now H2.out.1 H2.out.2.1 (.string (strOf M)) (.string ⟨#[]⟩)
        refine bodyPost_ret (results_cell_two resRAttr _ _ r 35 _ (0, 0) _ rfl HL.1 Tryz.underlying35 rfl (by kernel_rfl) (.int .i64 (k2 : Int)) (.int .i64 41) rfl rfl) rfl ?_
        exact ⟨_, _, _, _, rfl, HN, by rw [HF.out]⟩
      · go_wp2_with fail
        (with_reducible refine (hfi.out _).mono ?_)
        rintro e w8 ⟨rfl, rfl⟩
        go_wp2_with fail
        have HL := rattr_set (u0 := .string ⟨#[]⟩) (v0 := .string ⟨#[]⟩) H2.out.2.1 (.string (strOf M)) (.string ⟨#[]⟩)
        have HN := rattr_now H2.out.1 H2.out.2.1 (.string (strOf M)) (.string ⟨#[]⟩)
        refine bodyPost_ret (results_cell_two resRAttr _ _ r 35 _ (0, 0) _ rfl HL.1 Tryz.underlying35 rfl (by kernel_rfl) (.int .i64 (k2 : Int)) (.int .i64 41) rfl rfl) rfl ?_
        exact ⟨_, _, _, _, rfl, HN, by rw [HF.out]⟩
    · rw [len_sl] at hjl
      simp only [List.length_cons, List.length_nil] at hjl
      obtain ⟨V, hV⟩ : ∃ V, V = ((sl s).drop (k2 + 1)).take j := ⟨_, rfl⟩
      have hVl : V.length ≤ j := by rw [hV, List.length_take]; omega
      obtain ⟨W, hW⟩ : ∃ W, W = decL V true := ⟨_, rfl⟩
      have HF := hid_mk (show R = some ((M, W), (sl s).drop (k2 + 1 + j + 1)) by
        rcases hvq with ⟨h, _⟩ | ⟨j', h, h2⟩
        · omega
        · obtain rfl : j' = j := by omega
          rw [HB.out, h2, hW, hV, List.drop_drop, Nat.add_assoc (k2 + 1)])
      have hxv : s.extract (k2 + 1) (k2 + 1 + j) = strOf V := by rw [ext_cut, hV]
      have hdec := hid_mk (fun w => refDecode_any (strOf V) (by rw [size_strOf]; omega) true w)
      rw [sl_strOf, ← hW] at hdec
      have hnn : ((k2 + 1 + j : Nat) : Int) = (k2 : Int) + 1 + (j : Int) := by omega
      rw [hnn] at hfi
      have hge0 : ¬ (k2 : Int) + 1 + (j : Int) < 0 := by omega
      have hqb : ((k2 : Int) + 1 + (j : Int)).toNat = k2 + 1 + j := by omega
      have hle3 : (k2 : Int) + 1 ≤ (k2 : Int) + 1 + (j : Int) := by omega
      have hle4 : (k2 : Int) + 1 + (j : Int) ≤ (s.size : Int) := by omega
      have hjlE : k2 + 1 + j + 1 ≤ s.size := by omega
      clear HB hvq hix hV hW hnn
      rcases hbs with e34 | ⟨e34, e39⟩
      · go_wp2_with fail
        (with_reducible refine (hfi.out _).mono ?_)
        rintro e w8 ⟨rfl, rfl⟩
        go_wp2_with fail
        (with_reducible refine (hdec.out _).mono ?_)
        rintro e w9 ⟨rfl, hb3⟩
        have H3 := hid_mk (And.intro (rnow_next H2.out.1 hb3) (And.intro (H2.out.2.1.next hb3) (H2.out.2.2.next hb3)))
        clear hb3
        have H4 := hid_mk (And.intro (rnow_set H3.out.1 H3.out.2.2 1 (.string (strOf W))) (And.intro (H3.out.2.1.setOther ⟨g, 1, none⟩ (.string (strOf W)) hgr) (H3.out.2.2.setAt 1 (.string (strOf W)))))
        have hX_ := H3.out.2.1
        have s0 := hX_.cell 0
        rw [show (zAttr)[0]? = some (.string ⟨#[]⟩) from rfl] at s0
        have f0 := hX_.frozen 0
        have s1 := hX_.cell 1
        rw [show (zAttr)[1]? = some (.string ⟨#[]⟩) from rfl] at s1
        have f1 := hX_.frozen 1
        clear hX_
        have hX_ := H3.out.2.2
        have g0 := hX_.cell 0
        rw [show (#[Value.string (strOf M), Value.string ⟨#[]⟩])[0]? = some (.string (strOf M)) from rfl] at g0
        have h0 := hX_.frozen 0
        have g1 := hX_.cell 1
        rw [show (#[Value.string (strOf M), Value.string ⟨#[]⟩])[1]? = some (.string ⟨#[]⟩) from rfl] at g1
        have h1 := hX_.frozen 1
        clear hX_
        go_wp2_with fail
        have HL := rattr_set (u0 := .string ⟨#[]⟩) (v0 := .string ⟨#[]⟩) H4.out.2.1 (.string (strOf M)) (.string (strOf W))
        have HN := rattr_now H4.out.1 H4.out.2.1 (.string (strOf M)) (.string (strOf W))
        refine bodyPost_ret (results_cell_two resRAttr _ _ r 35 _ (0, 0) _ rfl HL.1 Tryz.underlying35 rfl (by kernel_rfl) (.int .i64 ((k2 : Int) + 1 + (j : Int) + 1)) (.int .i64 0) rfl rfl) rfl ?_
        exact ⟨_, _, _, _, rfl, HN, by rw [HF.out]; exact ⟨rfl, rfl, rfl, k2 + 1 + j + 1, by omega, by rw [len_sl]; exact hjlE, rfl⟩⟩
      · go_wp2_with fail
        (with_reducible refine (hfi.out _).mono ?_)
        rintro e w8 ⟨rfl, rfl⟩
        go_wp2_with fail
        (with_reducible refine (hdec.out _).mono ?_)
        rintro e w9 ⟨rfl, hb3⟩
        have H3 := hid_mk (And.intro (rnow_next H2.out.1 hb3) (And.intro (H2.out.2.1.next hb3) (H2.out.2.2.next hb3)))
        clear hb3
        have H4 := hid_mk (And.intro (rnow_set H3.out.1 H3.out.2.2 1 (.string (strOf W))) (And.intro (H3.out.2.1.setOther ⟨g, 1, none⟩ (.string (strOf W)) hgr) (H3.out.2.2.setAt 1 (.string (strOf W)))))
        have hX_ := H3.out.2.1
        have s0 := hX_.cell 0
        rw [show (zAttr)[0]? = some (.string ⟨#[]⟩) from rfl] at s0
        have f0 := hX_.frozen 0
        have s1 := hX_.cell 1
        rw [show (zAttr)[1]? = some (.string ⟨#[]⟩) from rfl] at s1
        have f1 := hX_.frozen 1
        clear hX_
        have hX_ := H3.out.2.2
        have g0 := hX_.cell 0
        rw [show (#[Value.string (strOf M), Value.string ⟨#[]⟩])[0]? = some (.string (strOf M)) from rfl] at g0
        have h0 := hX_.frozen 0
        have g1 := hX_.cell 1
        rw [show (#[Value.string (strOf M), Value.string ⟨#[]⟩])[1]? = some (.string ⟨#[]⟩) from rfl] at g1
        have h1 := hX_.frozen 1
        clear hX_
        go_wp2_with fail
        have HL := rattr_set (u0 := .string ⟨#[]⟩) (v0 := .string ⟨#[]⟩) H4.out.2.1 (.string (strOf M)) (.string (strOf W))
        have HN := rattr_now H4.out.1 H4.out.2.1 (.string (strOf M)) (.string (strOf W))
        refine bodyPost_ret (results_cell_two resRAttr _ _ r 35 _ (0, 0) _ rfl HL.1 Tryz.underlying35 rfl (by kernel_rfl) (.int .i64 ((k2 : Int) + 1 + (j : Int) + 1)) (.int .i64 0) rfl rfl) rfl ?_
        exact ⟨_, _, _, _, rfl, HN, by rw [HF.out]; exact ⟨rfl, rfl, rfl, k2 + 1 + j + 1, by omega, by rw [len_sl]; exact hjlE, rfl⟩⟩
  case neg =>
    have h34 : Lib.hasPrefix S [34] = false := by rw [hp34]; exact decide_eq_false (fun h => hqt (.inl h))
    have h39 : Lib.hasPrefix S [39] = false := by rw [hp39]; exact decide_eq_false (fun h => hqt (.inr h))
    have hvp := value_plain h34 h39
    have hw0 := hid_mk (fun w => rWord_any s k2 [62] w hk2s hs (by simp))
    rw [show strOf [62] = (⟨#[62]⟩ : ByteArray) from rfl, show blanksL ++ [62] = [9, 10, 12, 32, 62] from rfl] at hw0
    have hw1 := wordN_le (sl s) k2 [9, 10, 12, 32, 62] (by rw [len_sl]; exact hk2s)
    have hw2 := wordN_take (sl s) k2 [9, 10, 12, 32, 62]
    have hw3 := wordN_drop (sl s) k2 [9, 10, 12, 32, 62]
    rw [len_sl] at hw1
    rw [← HS.out] at hw2 hw3
    obtain ⟨k3, hk3⟩ : ∃ k3, k3 = wordN (sl s) k2 [9, 10, 12, 32, 62] := ⟨_, rfl⟩
    rw [← hk3] at hw0 hw1 hw2 hw3
    obtain ⟨V, hV⟩ : ∃ V, V = upL S [9, 10, 12, 32, 62] := ⟨_, rfl⟩
    obtain ⟨X, hX⟩ : ∃ X, X = strOf V := ⟨_, rfl⟩
    have hxv : s.extract k2 k3 = X := by rw [ext_to s k2 k3 hw1.1, ← HS.out, hw2, hX, hV]
    have hVl : V.length ≤ S.length := by rw [hV]; exact up_le _ _
    rw [← hV, ← hw3] at hvp
    obtain ⟨W, hW⟩ : ∃ W, W = decL V true := ⟨_, rfl⟩
    have hXV : sl X = V := by rw [hX, sl_strOf]
    have hXs : X.size = V.length := by rw [hX, size_strOf]
    have HR2 := hid_mk (show R = if V.isEmpty || Lib.containsAny V [34, 39, 60, 61, 96] then none else some ((M, W), (sl s).drop k3) by
      rw [HB.out, hvp, hW]
      cases (V.isEmpty || Lib.containsAny V [34, 39, 60, 61, 96]) <;> rfl)
    have hdec := hid_mk (fun w => refDecode_any X (by rw [hXs]; omega) true w)
    rw [hXV, ← hW] at hdec
    obtain ⟨hw1a, hw1b⟩ := hw1
    have hw1a' : (k2 : Int) ≤ (k3 : Int) := by omega
    have hw1b' : (k3 : Int) ≤ (s.size : Int) := by omega
    have HXV := hid_mk hXV
    have hbk : k2 = s.size ∨ ∃ h : k2 < s.size, ¬ ((s[k2]'h).toNat : Int) = 34 ∧ ¬ ((s[k2]'h).toNat : Int) = 39 := by
      by_cases he : k2 = s.size
      · exact .inl he
      · have hlt2 : k2 < s.size := by omega
        have hb := byte_atL s k2 hlt2
        refine .inr ⟨hlt2, fun h => hqt (.inl (by omega)), fun h => hqt (.inr (by omega))⟩
    clear HB hvp hw2 hw3 hk3 hV hW hX h34 h39 hp34 hp39 hqt
    have hpick : ∀ (a : Act) (w : World) (Q : Prop), Q → Q := fun _ _ _ h => h
    clear hpick
    by_cases hVe : V = []
    · have HF := hid_mk (show R = none by rw [HR2.out, hVe]; rfl)
      have heX : X.toList = [] := by rw [Lib.toList_data]; show sl X = []; rw [hXV, hVe]
      have heX2 : X.toList.isEmpty = true := by rw [heX]; rfl
      clear hXV HR2
      have hX_ := H2.out.2.1
      have s0 := hX_.cell 0
      rw [show (zAttr)[0]? = some (.string ⟨#[]⟩) from rfl] at s0
      have f0 := hX_.frozen 0
      have s1 := hX_.cell 1
      rw [show (zAttr)[1]? = some (.string ⟨#[]⟩) from rfl] at s1
      have f1 := hX_.frozen 1
      clear hX_
      have hX_ := H2.out.2.2
      have g0 := hX_.cell 0
      rw [show (#[Value.string (strOf M), Value.string ⟨#[]⟩])[0]? = some (.string (strOf M)) from rfl] at g0
      have g1 := hX_.cell 1
      rw [show (#[Value.string (strOf M), Value.string ⟨#[]⟩])[1]? = some (.string ⟨#[]⟩) from rfl] at g1
      clear hX_
      rcases hbk with he | ⟨hlt2, e34, e39⟩
      · subst he
        have hlt2' : ¬ (s.size : Int) < (s.size : Int) := by omega
        go_wp2_with fail
        (with_reducible refine (hw0.out _).mono ?_)
        rintro e w9 ⟨rfl, rfl⟩
        go_wp2_with fail
        have HL := rattr_set (u0 := .string ⟨#[]⟩) (v0 := .string ⟨#[]⟩) H2.out.2.1 (.string (strOf M)) (.string ⟨#[]⟩)
        have HN := rattr_now H2.out.1 H2.out.2.1 (.string (strOf M)) (.string ⟨#[]⟩)
        refine bodyPost_ret (results_cell_two resRAttr _ _ r 35 _ (0, 0) _ rfl HL.1 Tryz.underlying35 rfl (by kernel_rfl) (.int .i64 (s.size : Int)) (.int .i64 41) rfl rfl) rfl ?_
        exact ⟨_, _, _, _, rfl, HN, by rw [HF.out]⟩
      · have hlt2' : (k2 : Int) < (s.size : Int) := by omega
        have q34 : (((s[k2]'hlt2).toNat : Int) == 34) = false := beq_false_of_ne e34
        have q39 : (((s[k2]'hlt2).toNat : Int) == 39) = false := beq_false_of_ne e39
        go_wp2_with fail
        (with_reducible refine (hw0.out _).mono ?_)
        rintro e w9 ⟨rfl, rfl⟩
        go_wp2_with fail
        have HL := rattr_set (u0 := .string ⟨#[]⟩) (v0 := .string ⟨#[]⟩) H2.out.2.1 (.string (strOf M)) (.string ⟨#[]⟩)
        have HN := rattr_now H2.out.1 H2.out.2.1 (.string (strOf M)) (.string ⟨#[]⟩)
        refine bodyPost_ret (results_cell_two resRAttr _ _ r 35 _ (0, 0) _ rfl HL.1 Tryz.underlying35 rfl (by kernel_rfl) (.int .i64 (k2 : Int)) (.int .i64 41) rfl rfl) rfl ?_
        exact ⟨_, _, _, _, rfl, HN, by rw [HF.out]⟩
    · obtain ⟨hlt2, e34, e39⟩ : ∃ h : k2 < s.size, ¬ ((s[k2]'h).toNat : Int) = 34 ∧ ¬ ((s[k2]'h).toNat : Int) = 39 := by
        rcases hbk with he | h
        · exfalso
          have : V.length ≤ 0 := by omega
          exact hVe (List.eq_nil_of_length_eq_zero (by omega))
        · exact h
      have hlt2' : (k2 : Int) < (s.size : Int) := by omega
      have q34 : (((s[k2]'hlt2).toNat : Int) == 34) = false := beq_false_of_ne e34
      have q39 : (((s[k2]'hlt2).toNat : Int) == 39) = false := beq_false_of_ne e39
      have hpos : 0 < V.length := List.length_pos_iff.2 hVe
      have hneX : X.toList.isEmpty = false := by
        rw [Lib.toList_data]
        show (sl X).isEmpty = false
        rw [hXV]
        cases V with
        | nil => exact absurd rfl hVe
        | cons _ _ => rfl
      have hVe2 : V.isEmpty = false := by
        cases V with
        | nil => exact absurd rfl hVe
        | cons _ _ => rfl
      rw [hVe2, Bool.false_or] at HR2
      have hXl : X.size ≤ s.size := by omega
      clear hXV hbk hVe hVe2
      have hX_ := H2.out.2.1
      have s0 := hX_.cell 0
      rw [show (zAttr)[0]? = some (.string ⟨#[]⟩) from rfl] at s0
      have f0 := hX_.frozen 0
      have s1 := hX_.cell 1
      rw [show (zAttr)[1]? = some (.string ⟨#[]⟩) from rfl] at s1
      have f1 := hX_.frozen 1
      clear hX_
      have hX_ := H2.out.2.2
      have g0 := hX_.cell 0
      rw [show (#[Value.string (strOf M), Value.string ⟨#[]⟩])[0]? = some (.string (strOf M)) from rfl] at g0
      have g1 := hX_.cell 1
      rw [show (#[Value.string (strOf M), Value.string ⟨#[]⟩])[1]? = some (.string ⟨#[]⟩) from rfl] at g1
      clear hX_
      go_wp2_with fail
      (with_reducible refine (hw0.out _).mono ?_)
      rintro e w9 ⟨rfl, rfl⟩
      go_wp2_with fail
      go_loop [12] (fun v => ∃ j : Nat, j ≤ X.size ∧ v = .int .i64 (j : Int) ∧ Hid (∀ k < j, ([34, 39, 60, 61, 96] : List UInt8).contains (V.getD k 0) = false)) (fun v => X.size - (intOf v).toNat)
      case atStart => exact ⟨0, Nat.zero_le _, rfl, hid_mk (fun k h => by omega)⟩
      case round =>
        obtain ⟨j, hj, rfl, hno⟩ := hrel
        by_cases hjlt : j < X.size
        · have hjlt' : (j : Int) < (X.size : Int) := by omega
          have hgd : V.getD j 0 = X[j]'hjlt := by rw [← HXV.out, getD_s X j hjlt]
          have hbd := bad5_iff (V.getD j 0)
          rw [hgd] at hbd
          cases hb : bad5 (X[j]'hjlt) with
          | true =>
            have HF := hid_mk (show R = none by rw [HR2.out, any_bad (v := V) (k := j) (by omega) (by rw [hgd, hbd, hb])]; rfl)
            have hor : ((X[j]'hjlt).toNat : Int) = 34 ∨ ((X[j]'hjlt).toNat : Int) = 39 ∨ ((X[j]'hjlt).toNat : Int) = 60 ∨ ((X[j]'hjlt).toNat : Int) = 61 ∨ ((X[j]'hjlt).toNat : Int) = 96 := by
              unfold bad5 at hb
              simp only [Bool.or_eq_true, decide_eq_true_eq] at hb
              omega
            clear hb hbd hgd HR2
            rcases (show (((X[j]'hjlt).toNat : Int) = 34) ∨ (¬ ((X[j]'hjlt).toNat : Int) = 34 ∧ ((X[j]'hjlt).toNat : Int) = 39) ∨ (¬ ((X[j]'hjlt).toNat : Int) = 34 ∧ ¬ ((X[j]'hjlt).toNat : Int) = 39 ∧ ((X[j]'hjlt).toNat : Int) = 60) ∨ (¬ ((X[j]'hjlt).toNat : Int) = 34 ∧ ¬ ((X[j]'hjlt).toNat : Int) = 39 ∧ ¬ ((X[j]'hjlt).toNat : Int) = 60 ∧ ((X[j]'hjlt).toNat : Int) = 61) ∨ (¬ ((X[j]'hjlt).toNat : Int) = 34 ∧ ¬ ((X[j]'hjlt).toNat : Int) = 39 ∧ ¬ ((X[j]'hjlt).toNat : Int) = 60 ∧ ¬ ((X[j]'hjlt).toNat : Int) = 61 ∧ ((X[j]'hjlt).toNat : Int) = 96) from by omega) with e34 | ⟨e34, e39⟩ | ⟨e34, e39, e60⟩ | ⟨e34, e39, e60, e61⟩ | ⟨e34, e39, e60, e61, e96⟩
            · have r34 : (((X[j]'hjlt).toNat : Int) == 34) = true := by rw [e34]; rfl
              clear hor
              go_wp2_with fail
              have HL := rattr_set (u0 := .string ⟨#[]⟩) (v0 := .string ⟨#[]⟩) H2.out.2.1 (.string (strOf M)) (.string ⟨#[]⟩)
              have HN := rattr_now H2.out.1 H2.out.2.1 (.string (strOf M)) (.string ⟨#[]⟩)
              refine bodyPost_ret (results_cell_two resRAttr _ _ r 35 _ (0, 0) _ rfl HL.1 Tryz.underlying35 rfl (by kernel_rfl) (.int .i64 (k2 : Int)) (.int .i64 41) rfl rfl) rfl ?_
              exact ⟨_, _, _, _, rfl, HN, by rw [HF.out]⟩
            · have r34 : (((X[j]'hjlt).toNat : Int) == 34) = false := beq_false_of_ne e34
              have r39 : (((X[j]'hjlt).toNat : Int) == 39) = true := by rw [e39]; rfl
              clear hor
              go_wp2_with fail
              have HL := rattr_set (u0 := .string ⟨#[]⟩) (v0 := .string ⟨#[]⟩) H2.out.2.1 (.string (strOf M)) (.string ⟨#[]⟩)
              have HN := rattr_now H2.out.1 H2.out.2.1 (.string (strOf M)) (.string ⟨#[]⟩)
              refine bodyPost_ret (results_cell_two resRAttr _ _ r 35 _ (0, 0) _ rfl HL.1 Tryz.underlying35 rfl (by kernel_rfl) (.int .i64 (k2 : Int)) (.int .i64 41) rfl rfl) rfl ?_
              exact ⟨_, _, _, _, rfl, HN, by rw [HF.out]⟩
            · have r34 : (((X[j]'hjlt).toNat : Int) == 34) = false := beq_false_of_ne e34
              have r39 : (((X[j]'hjlt).toNat : Int) == 39) = false := beq_false_of_ne e39
              have r60 : (((X[j]'hjlt).toNat : Int) == 60) = true := by rw [e60]; rfl
              clear hor
              go_wp2_with fail
              have HL := rattr_set (u0 := .string ⟨#[]⟩) (v0 := .string ⟨#[]⟩) H2.out.2.1 (.string (strOf M)) (.string ⟨#[]⟩)
              have HN := rattr_now H2.out.1 H2.out.2.1 (.string (strOf M)) (.string ⟨#[]⟩)
              refine bodyPost_ret (results_cell_two resRAttr _ _ r 35 _ (0, 0) _ rfl HL.1 Tryz.underlying35 rfl (by kernel_rfl) (.int .i64 (k2 : Int)) (.int .i64 41) rfl rfl) rfl ?_
              exact ⟨_, _, _, _, rfl, HN, by rw [HF.out]⟩
            · have r34 : (((X[j]'hjlt).toNat : Int) == 34) = false := beq_false_of_ne e34
              have r39 : (((X[j]'hjlt).toNat : Int) == 39) = false := beq_false_of_ne e39
              have r60 : (((X[j]'hjlt).toNat : Int) == 60) = false := beq_false_of_ne e60
              have r61 : (((X[j]'hjlt).toNat : Int) == 61) = true := by rw [e61]; rfl
              clear hor
              go_wp2_with fail
              have HL := rattr_set (u0 := .string ⟨#[]⟩) (v0 := .string ⟨#[]⟩) H2.out.2.1 (.string (strOf M)) (.string ⟨#[]⟩)
              have HN := rattr_now H2.out.1 H2.out.2.1 (.string (strOf M)) (.string ⟨#[]⟩)
              refine bodyPost_ret (results_cell_two resRAttr _ _ r 35 _ (0, 0) _ rfl HL.1 Tryz.underlying35 rfl (by kernel_rfl) (.int .i64 (k2 : Int)) (.int .i64 41) rfl rfl) rfl ?_
              exact ⟨_, _, _, _, rfl, HN, by rw [HF.out]⟩
            · have r34 : (((X[j]'hjlt).toNat : Int) == 34) = false := beq_false_of_ne e34
              have r39 : (((X[j]'hjlt).toNat : Int) == 39) = false := beq_false_of_ne e39
              have r60 : (((X[j]'hjlt).toNat : Int) == 60) = false := beq_false_of_ne e60
              have r61 : (((X[j]'hjlt).toNat : Int) == 61) = false := beq_false_of_ne e61
              have r96 : (((X[j]'hjlt).toNat : Int) == 96) = true := by rw [e96]; rfl
              clear hor
              go_wp2_with fail
              have HL := rattr_set (u0 := .string ⟨#[]⟩) (v0 := .string ⟨#[]⟩) H2.out.2.1 (.string (strOf M)) (.string ⟨#[]⟩)
              have HN := rattr_now H2.out.1 H2.out.2.1 (.string (strOf M)) (.string ⟨#[]⟩)
              refine bodyPost_ret (results_cell_two resRAttr _ _ r 35 _ (0, 0) _ rfl HL.1 Tryz.underlying35 rfl (by kernel_rfl) (.int .i64 (k2 : Int)) (.int .i64 41) rfl rfl) rfl ?_
              exact ⟨_, _, _, _, rfl, HN, by rw [HF.out]⟩
          | false =>
            have hn : ¬ ((X[j]'hjlt).toNat : Int) = 34 ∧ ¬ ((X[j]'hjlt).toNat : Int) = 39 ∧ ¬ ((X[j]'hjlt).toNat : Int) = 60 ∧ ¬ ((X[j]'hjlt).toNat : Int) = 61 ∧ ¬ ((X[j]'hjlt).toNat : Int) = 96 := by
              unfold bad5 at hb
              simp only [Bool.or_eq_false_iff, decide_eq_false_iff_not] at hb
              omega
            have HN := hid_mk (show ∀ k < j + 1, ([34, 39, 60, 61, 96] : List UInt8).contains (V.getD k 0) = false from fun k hk => by
              by_cases e : k = j
              · rw [e, hgd, hbd, hb]
              · exact hno.out k (by omega))
            obtain ⟨n1, n2, n3, n4, n5⟩ := hn
            have r34 : (((X[j]'hjlt).toNat : Int) == 34) = false := beq_false_of_ne n1
            have r39 : (((X[j]'hjlt).toNat : Int) == 39) = false := beq_false_of_ne n2
            have r60 : (((X[j]'hjlt).toNat : Int) == 60) = false := beq_false_of_ne n3
            have r61 : (((X[j]'hjlt).toNat : Int) == 61) = false := beq_false_of_ne n4
            have r96 : (((X[j]'hjlt).toNat : Int) == 96) = false := beq_false_of_ne n5
            clear hb hbd hgd hno
            go_wp2_with fail
            go_round
            case rel => exact ⟨j + 1, by omega, by go_num, HN⟩
            case measure => simp [intOf]; omega
        · have hjlt' : ¬ (j : Int) < (X.size : Int) := by omega
          have HF := hid_mk (show R = some ((M, W), (sl s).drop k3) by
            rw [HR2.out, any_none (fun k hk => hno.out k (by omega))]; rfl)
          clear HR2 hno s0 s1 f0 f1 g0 g1
          go_wp2_with fail
          (with_reducible refine (hdec.out _).mono ?_)
          rintro e w9 ⟨rfl, hb3⟩
          have H3 := hid_mk (And.intro (rnow_next H2.out.1 hb3) (And.intro (H2.out.2.1.next hb3) (H2.out.2.2.next hb3)))
          clear hb3
          have H4 := hid_mk (And.intro (rnow_set H3.out.1 H3.out.2.2 1 (.string (strOf W))) (And.intro (H3.out.2.1.setOther ⟨g, 1, none⟩ (.string (strOf W)) hgr) (H3.out.2.2.setAt 1 (.string (strOf W)))))
          have hX_ := H3.out.2.1
          have s0 := hX_.cell 0
          rw [show (zAttr)[0]? = some (.string ⟨#[]⟩) from rfl] at s0
          have f0 := hX_.frozen 0
          have s1 := hX_.cell 1
          rw [show (zAttr)[1]? = some (.string ⟨#[]⟩) from rfl] at s1
          have f1 := hX_.frozen 1
          clear hX_
          have hX_ := H3.out.2.2
          have g0 := hX_.cell 0
          rw [show (#[Value.string (strOf M), Value.string ⟨#[]⟩])[0]? = some (.string (strOf M)) from rfl] at g0
          have h0 := hX_.frozen 0
          have g1 := hX_.cell 1
          rw [show (#[Value.string (strOf M), Value.string ⟨#[]⟩])[1]? = some (.string ⟨#[]⟩) from rfl] at g1
          have h1 := hX_.frozen 1
          clear hX_
          go_wp2_with fail
          have HL := rattr_set (u0 := .string ⟨#[]⟩) (v0 := .string ⟨#[]⟩) H4.out.2.1 (.string (strOf M)) (.string (strOf W))
          have HN := rattr_now H4.out.1 H4.out.2.1 (.string (strOf M)) (.string (strOf W))
          refine bodyPost_ret (results_cell_two resRAttr _ _ r 35 _ (0, 0) _ rfl HL.1 Tryz.underlying35 rfl (by kernel_rfl) (.int .i64 (k3 : Int)) (.int .i64 0) rfl rfl) rfl ?_
          exact ⟨_, _, _, _, rfl, HN, by rw [HF.out]; exact ⟨rfl, rfl, rfl, k3, rfl, by rw [len_sl]; exact hw1b, rfl⟩⟩
end Go.Proofs.YtakakaenlfilmaaGreatDoor
/-
  The reference's tag. Conditions: places and lengths are bounded; a letter stands there.
-/
namespace Go.Proofs.YtakakaenlfilmaaGreatDoor
open Go.RowKit
theorem getD_drop_zero (l : List UInt8) (i : Nat) : (l.drop i).getD 0 0 = l.getD i 0 := by
  rw [List.getD_eq_getElem?_getD, List.getD_eq_getElem?_getD, List.getElem?_drop, Nat.add_zero]
theorem resRTag : Tryz.f28.results = #[.cell 6 46, .tmp 7, .tmp 8] := by kernel_rfl
/-- A tag, by its attributes; an end tag has none. -/
def tagE (kind : Nat) (M : List UInt8) : Nat × List Atr × Bool × List UInt8 → Nat × Tk × List UInt8
  | (0, al, self, r) => if kind = 2 ∧ (self = true ∨ al ≠ []) then (40, .none, []) else (0, ⟨kind, M, al, self, []⟩, r)
  | (e + 1, _, _, _) => (e + 1, .none, [])
theorem tagE_ok {kind : Nat} {M : List UInt8} {al : List Atr} {self : Bool} {r : List UInt8} (h : ¬ (kind = 2 ∧ (self = true ∨ al ≠ []))) : tagE kind M (0, al, self, r) = (0, ⟨kind, M, al, self, []⟩, r) := by
  show (if kind = 2 ∧ (self = true ∨ al ≠ []) then _ else _) = _
  rw [if_neg h]
theorem tagE_bad {kind : Nat} {M : List UInt8} {al : List Atr} {self : Bool} {r : List UInt8} (h : kind = 2 ∧ (self = true ∨ al ≠ [])) : tagE kind M (0, al, self, r) = (40, .none, []) := by
  show (if kind = 2 ∧ (self = true ∨ al ≠ []) then _ else _) = _
  rw [if_pos h]
def tagR (kind : Nat) (l : List UInt8) : Nat × Tk × List UInt8 :=
  if !madeL (smL (upL l [9, 10, 12, 32, 47, 62])) [] then (40, .none, []) else tagE kind (smL (upL l [9, 10, 12, 32, 47, 62])) (attrsF 17 (downL l [9, 10, 12, 32, 47, 62]) [])
theorem tagR_one (l : List UInt8) : tagR 1 l = tagL 1 l := by
  unfold tagR tagL
  split
  · rfl
  · generalize attrsF 17 (downL l [9, 10, 12, 32, 47, 62]) [] = R
    obtain ⟨e, al, sf, r⟩ := R
    cases e with
    | zero => rfl
    | succ _ => rfl
theorem tagR_two (l : List UInt8) (hl : l ≠ []) (h : isLet (l.getD 0 0) = true) : tagR 2 l = endL l := by
  have he : l.isEmpty = false := by cases l with
    | nil => exact absurd rfl hl
    | cons _ _ => rfl
  unfold endL
  rw [he, h]
  simp only [Bool.not_true, Bool.or_false, Bool.false_eq_true, if_false]
  unfold tagR tagL
  split
  · rfl
  · generalize attrsF 17 (downL l [9, 10, 12, 32, 47, 62]) [] = R
    obtain ⟨e, al, sf, r⟩ := R
    cases e with
    | zero =>
      unfold tagE
      simp only [true_and]
      cases sf with
      | true => cases al <;> simp
      | false => cases al <;> simp
    | succ _ => rfl
theorem up_letter {l st : List UInt8} (hl : l ≠ []) (h : st.contains (l.getD 0 0) = false) : (smL (upL l st)).isEmpty = false := by
  cases l with
  | nil => exact absurd rfl hl
  | cons c t =>
    have e : (c :: t).getD 0 0 = c := rfl
    rw [e] at h
    unfold upL
    rw [List.takeWhile_cons, h]
    rfl
theorem let_stop (c : UInt8) (h : isLet c = true) : ([9, 10, 12, 32, 47, 62] : List UInt8).contains c = false := by
  have : ∀ n : Fin 256, isLet (UInt8.ofNat n.val) = true → ([9, 10, 12, 32, 47, 62] : List UInt8).contains (UInt8.ofNat n.val) = false := by decide +kernel
  have h2 := this ⟨c.toNat, UInt8.toNat_lt c⟩
  simpa using h2 (by simpa using h)
theorem tag5_next {w w1 w2 : World} {r g ga B : Nat} {c1 c2 c3 : Array Value} {t1 t2 t3 : TypeId} {v : Value} {l : List Atr} (h : RNow w w1 ∧ RLoc r c1 t1 w w1 ∧ RLoc g c2 t2 w w1 ∧ AtRow B v l w1 ∧ RLoc ga c3 t3 w w1) (hb : Below w1.heap.size w1 w2) :
    RNow w w2 ∧ RLoc r c1 t1 w w2 ∧ RLoc g c2 t2 w w2 ∧ AtRow B v l w2 ∧ RLoc ga c3 t3 w w2 :=
  ⟨rnow_next h.1 hb, h.2.1.next hb, h.2.2.1.next hb, h.2.2.2.1.below hb, h.2.2.2.2.next hb⟩
theorem ratt_set {w0 w : World} {B g : Nat} {v : Value} {l : List Atr} (h : AtRow B v l w) {cs : Array Value} {t : TypeId} (hg : RLoc g cs t w0 w) (ht : 35 ≠ t) (j : Nat) (u : Value) : AtRow B v l (w.setCell ⟨g, j, none⟩ u) := h.rset hg ht j u
set_option maxHeartbeats 4000000 in
set_option maxRecDepth 100000 in
theorem rTag_any (s : ByteArray) (i kind : Nat) (w : World) (hi : i < s.size) (hs : s.size ≤ 1000000000) (hlt : isLet ((sl s).getD i 0) = true) (hkind : kind = 1 ∨ kind = 2) :
    Calls Tryz.prog 28 #[.string s, .int .i64 (i : Int), .int .u8 (kind : Int)] w (RPost (tagR kind ((sl s).drop i)) (sl s) w) := by
  obtain ⟨D, hD⟩ : ∃ D, D = (sl s).drop i := ⟨_, rfl⟩
  obtain ⟨R, hR⟩ : ∃ R, R = tagR kind D := ⟨_, rfl⟩
  rw [← hD, ← hR]
  have hDl : D.length = s.size - i := by rw [hD, List.length_drop, len_sl]
  have hDn : D ≠ [] := fun h => by rw [h] at hDl; simp at hDl; omega
  have hD0 : isLet (D.getD 0 0) = true := by rw [hD, getD_drop_zero]; exact hlt
  have hMe := up_letter hDn (let_stop _ hD0)
  have hw0 := hid_mk (fun w => rWord_any s i [47, 62] w (Nat.le_of_lt hi) hs (by simp))
  rw [show strOf [47, 62] = (⟨#[47, 62]⟩ : ByteArray) from rfl, show blanksL ++ [47, 62] = [9, 10, 12, 32, 47, 62] from rfl] at hw0
  have hw1 := wordN_le (sl s) i [9, 10, 12, 32, 47, 62] (by rw [len_sl]; omega)
  have hw2 := wordN_take (sl s) i [9, 10, 12, 32, 47, 62]
  have hw3 := wordN_drop (sl s) i [9, 10, 12, 32, 47, 62]
  rw [len_sl] at hw1
  rw [← hD] at hw2 hw3
  obtain ⟨k0, hk0⟩ : ∃ k0, k0 = wordN (sl s) i [9, 10, 12, 32, 47, 62] := ⟨_, rfl⟩
  rw [← hk0] at hw0 hw1 hw2 hw3
  obtain ⟨N, hN⟩ : ∃ N, N = upL D [9, 10, 12, 32, 47, 62] := ⟨_, rfl⟩
  have hx0 : s.extract i k0 = strOf N := by rw [ext_to s i k0 hw1.1, ← hD, hw2, hN]
  have hNl : N.length ≤ 1000000000 := by rw [hN]; have := up_le D [9, 10, 12, 32, 47, 62]; omega
  obtain ⟨M, hM⟩ : ∃ M, M = smL N := ⟨_, rfl⟩
  have hMl : M.length ≤ 1000000000 := by rw [hM]; unfold smL; rw [List.length_map]; exact hNl
  have HA := hid_mk (show R = if !madeL M [] then (40, .none, []) else tagE kind M (attrsF 17 ((sl s).drop k0) []) by
    rw [hR, hM, hN, hw3]; rfl)
  rw [← hN, ← hM] at hMe
  have hsm := hid_mk (fun w => rSmall_any (strOf N) w (by rw [size_strOf]; exact hNl))
  rw [sl_strOf, ← hM] at hsm
  have hof := hid_mk (fun w => rOf_any (strOf M) [] w (by rw [size_strOf]; exact hMl) (by simp))
  rw [sl_strOf, hMe, Bool.not_false, Bool.true_and, show strOf [] = (⟨#[]⟩ : ByteArray) from rfl] at hof
  have hi0 : (i : Int) ≤ (k0 : Int) := by omega
  have hi1 : (k0 : Int) ≤ (s.size : Int) := by omega
  have hk0s : k0 ≤ s.size := hw1.2
  have H0 := hid_mk (And.intro (rnow_alloc (Below.refl _ w) (.cells zTok 46)) (RLoc.new (Below.refl _ w) zTok 46))
  have hzA := hid_mk (show (w.alloc (.cells zTok 46)) = (w.alloc (.cells #[.int .u8 0, .string ⟨#[]⟩, .slice none 0 0, .bool false, .string ⟨#[]⟩] 46)) from rfl)
  obtain ⟨r, hr⟩ : ∃ r, r = w.heap.size := ⟨_, rfl⟩
  have HRr := hid_mk hr
  rw [← hr] at H0
  clear hr hR hD hw1 hw2 hw3 hk0 hN hM hDn hD0 hMe hlt hDl
  go_enter Tryz.func28, Tryz.ntmps28
  go_wp2_with fail
  rw [← hzA.out, ← HRr.out]
  (with_reducible refine (hw0.out _).mono ?_)
  rintro e w1 ⟨rfl, rfl⟩
  go_wp2_with fail
  (with_reducible refine (hsm.out _).mono ?_)
  rintro e w9 ⟨rfl, hb1⟩
  have H1 := hid_mk (And.intro (rnow_next H0.out.1 hb1) (H0.out.2.next hb1))
  clear hb1 H0 hzA hw0 hsm
  obtain ⟨g, hg⟩ : ∃ g, g = w9.heap.size := ⟨_, rfl⟩
  have HG := hid_mk hg
  have hgr : r < g := by have := H1.out.2.lt; omega
  obtain ⟨w2, hw2⟩ : ∃ w2, w2 = w9.alloc (.cells #[.int .u8 (kind : Int), .string (strOf M), .slice none 0 0, .bool false, .string ⟨#[]⟩] 46) := ⟨_, rfl⟩
  have H2 : Hid (RNow w w2 ∧ RLoc r zTok 46 w w2 ∧ RLoc g (tkC kind M (.slice none 0 0) false) 46 w w2 ∧ AtRow w.heap.size (.slice none 0 0) [] w2) := hid_mk (by
    rw [hw2, hg]
    exact ⟨rnow_alloc H1.out.1 _, H1.out.2.alloc _, RLoc.new H1.out.1 _ 46, ⟨rfl, .inl ⟨rfl, rfl⟩⟩⟩)
  have HW2 := hid_mk hw2
  clear hg H1 hw2
  go_wp2_with fail
  rw [← HG.out, ← HW2.out]
  clear HW2
  cases hmd : madeL M [] with
  | false =>
    rw [hmd] at hof
    have HF := hid_mk (show R = (40, .none, []) by rw [HA.out, hmd]; rfl)
    clear HA hmd
    (with_reducible refine (hof.out _).mono ?_)
    rintro e w1 ⟨rfl, rfl⟩
    have hX_ := H2.out.2.1
    have s0 := hX_.cell 0
    rw [show (zTok)[0]? = some (.int .u8 0) from rfl] at s0
    have f0 := hX_.frozen 0
    have s1 := hX_.cell 1
    rw [show (zTok)[1]? = some (.string ⟨#[]⟩) from rfl] at s1
    have f1 := hX_.frozen 1
    have s2 := hX_.cell 2
    rw [show (zTok)[2]? = some (.slice none 0 0) from rfl] at s2
    have f2 := hX_.frozen 2
    have s3 := hX_.cell 3
    rw [show (zTok)[3]? = some (.bool false) from rfl] at s3
    have f3 := hX_.frozen 3
    have s4 := hX_.cell 4
    rw [show (zTok)[4]? = some (.string ⟨#[]⟩) from rfl] at s4
    have f4 := hX_.frozen 4
    clear hX_
    have hX_ := H2.out.2.2.1
    have g0 := hX_.cell 0
    rw [show (tkC kind M (.slice none 0 0) false)[0]? = some (.int .u8 (kind : Int)) from rfl] at g0
    have g1 := hX_.cell 1
    rw [show (tkC kind M (.slice none 0 0) false)[1]? = some (.string (strOf M)) from rfl] at g1
    have g2 := hX_.cell 2
    rw [show (tkC kind M (.slice none 0 0) false)[2]? = some (.slice none 0 0) from rfl] at g2
    have g3 := hX_.cell 3
    rw [show (tkC kind M (.slice none 0 0) false)[3]? = some (.bool false) from rfl] at g3
    have g4 := hX_.cell 4
    rw [show (tkC kind M (.slice none 0 0) false)[4]? = some (.string ⟨#[]⟩) from rfl] at g4
    clear hX_
    go_wp2_with fail
    have HL := rtok_set (a0 := .int .u8 0) (a1 := .string ⟨#[]⟩) (a2 := .slice none 0 0) (a3 := .bool false) (a4 := .string ⟨#[]⟩) H2.out.2.1 (.int .u8 (kind : Int)) (.string (strOf M)) (.slice none 0 0) (.bool false) (.string ⟨#[]⟩)
    have HN := rtok_now H2.out.1 H2.out.2.1 (.int .u8 (kind : Int)) (.string (strOf M)) (.slice none 0 0) (.bool false) (.string ⟨#[]⟩)
    refine bodyPost_ret (results_cell_two resRTag _ _ r 46 _ (0, 0) _ rfl HL.1 Tryz.underlying46 rfl (by kernel_rfl) (.int .i64 (k0 : Int)) (.int .i64 40) rfl rfl) rfl ?_
    exact ⟨_, _, by rw [HF.out]; rfl, ⟨_, _, _, _, _, _, _, rfl⟩, HN, fun h => by rw [HF.out] at h; cases h⟩
  | true =>
  rw [hmd] at hof HA
  have HA2 := hid_mk (show R = tagE kind M (attrsF 17 ((sl s).drop k0) []) from HA.out.trans rfl)
  obtain ⟨i0, hi', hz0, hz1, hz2⟩ := info_parts infoAttr
  have HI := hid_mk (And.intro hi' (And.intro hz0 (And.intro hz1 hz2)))
  clear HA hmd hi' hz0 hz1 hz2
  (with_reducible refine (hof.out _).mono ?_)
  rintro e w1 ⟨rfl, rfl⟩
  clear hof
  go_wp2_with fail
  go_loopg [9, 11, 12, 13, 14] 17 (fun gh v9 _ _ _ _ wx => ∃ (k : Nat) (al : List Atr) (v : Value), v9 = .int .i64 (k : Int) ∧ 1 ≤ gh ∧ gh + al.length = 17 ∧ k ≤ s.size ∧ Hid (RNow w wx ∧ RLoc r zTok 46 w wx ∧ RLoc g (tkC kind M v false) 46 w wx ∧ AtRow w.heap.size v al wx) ∧ Hid (attrsF 17 ((sl s).drop k0) [] = attrsF gh ((sl s).drop k) al))
  case atStart => exact ⟨k0, [], .slice none 0 0, rfl, by omega, rfl, hk0s, H2, hid_mk rfl⟩
  case round =>
    obtain ⟨k, al, v, rfl, hg1, hga, hks, HW, HQ⟩ := hrel
    obtain ⟨va, vc, hv, _⟩ := own_attrs HW.out.2.2.2
    subst hv
    clear H2
    cases gk with
    | zero => omega
    | succ n =>
    have hsk := hid_mk (fun w => rSkip_any s k w hks hs)
    have hsl := skipN_le (sl s) k (by rw [len_sl]; exact hks)
    rw [len_sl] at hsl
    have hsd := skipN_drop (sl s) k
    obtain ⟨k1, hk1⟩ : ∃ k1, k1 = skipN (sl s) k := ⟨_, rfl⟩
    rw [← hk1] at hsk hsl hsd
    obtain ⟨hk1a, hk1s⟩ := hsl
    have HSk := hid_mk hsd
    obtain ⟨S, hS⟩ : ∃ S, S = (sl s).drop k1 := ⟨_, rfl⟩
    rw [← hS] at HSk
    have HS := hid_mk hS
    have hSl : S.length = s.size - k1 := by rw [hS, List.length_drop, len_sl]
    clear hk1 hsd hS
    go_wp2_with fail
    (with_reducible refine (hsk.out _).mono ?_)
    rintro e w9 ⟨rfl, rfl⟩
    clear hsk
    by_cases he : k1 = s.size
    · have hSe : S = [] := List.eq_nil_of_length_eq_zero (by omega)
      have HF := hid_mk (show R = (40, .none, []) by rw [HA2.out, HQ.out, attrsF_bad HSk.out (by rw [hSe]; rfl) (by rw [hSe]; rfl) (by rw [hSe]; rfl)]; rfl)
      subst he
      have hX_ := HW.out.2.1
      have s0 := hX_.cell 0
      rw [show (zTok)[0]? = some (.int .u8 0) from rfl] at s0
      have f0 := hX_.frozen 0
      have s1 := hX_.cell 1
      rw [show (zTok)[1]? = some (.string ⟨#[]⟩) from rfl] at s1
      have f1 := hX_.frozen 1
      have s2 := hX_.cell 2
      rw [show (zTok)[2]? = some (.slice none 0 0) from rfl] at s2
      have f2 := hX_.frozen 2
      have s3 := hX_.cell 3
      rw [show (zTok)[3]? = some (.bool false) from rfl] at s3
      have f3 := hX_.frozen 3
      have s4 := hX_.cell 4
      rw [show (zTok)[4]? = some (.string ⟨#[]⟩) from rfl] at s4
      have f4 := hX_.frozen 4
      clear hX_
      have hX_ := HW.out.2.2.1
      have g0 := hX_.cell 0
      rw [show (tkC kind M (.slice va al.length vc) false)[0]? = some (.int .u8 (kind : Int)) from rfl] at g0
      have g1 := hX_.cell 1
      rw [show (tkC kind M (.slice va al.length vc) false)[1]? = some (.string (strOf M)) from rfl] at g1
      have g2 := hX_.cell 2
      rw [show (tkC kind M (.slice va al.length vc) false)[2]? = some (.slice va al.length vc) from rfl] at g2
      have g3 := hX_.cell 3
      rw [show (tkC kind M (.slice va al.length vc) false)[3]? = some (.bool false) from rfl] at g3
      have g4 := hX_.cell 4
      rw [show (tkC kind M (.slice va al.length vc) false)[4]? = some (.string ⟨#[]⟩) from rfl] at g4
      clear hX_
      go_wp2_with fail
      have HL := rtok_set (a0 := .int .u8 0) (a1 := .string ⟨#[]⟩) (a2 := .slice none 0 0) (a3 := .bool false) (a4 := .string ⟨#[]⟩) HW.out.2.1 (.int .u8 (kind : Int)) (.string (strOf M)) (.slice va al.length vc) (.bool false) (.string ⟨#[]⟩)
      have HN := rtok_now HW.out.1 HW.out.2.1 (.int .u8 (kind : Int)) (.string (strOf M)) (.slice va al.length vc) (.bool false) (.string ⟨#[]⟩)
      refine bodyPost_ret (results_cell_two resRTag _ _ r 46 _ (0, 0) _ rfl HL.1 Tryz.underlying46 rfl (by kernel_rfl) (.int .i64 (s.size : Int)) (.int .i64 40) rfl rfl) rfl ?_
      exact ⟨_, _, by rw [HF.out]; rfl, ⟨_, _, _, _, _, _, _, rfl⟩, HN, fun h => by rw [HF.out] at h; cases h⟩
    have hlt : k1 < s.size := by omega
    have hlt' : (k1 : Int) < (s.size : Int) := by omega
    have he1 : ((k1 : Int) == (s.size : Int)) = false := beq_false_of_ne (by omega)
    have he2 : (k1 == s.size) = false := beq_false_of_ne he
    have hSn : S ≠ [] := fun h => by rw [h] at hSl; simp at hSl; omega
    have hSe2 : S.isEmpty = false := by cases S with
      | nil => exact absurd rfl hSn
      | cons _ _ => rfl
    have hS0 : atL S 0 = (s[k1]'hlt).toNat := by rw [HS.out, atL_drop, Nat.add_zero, byte_atL s k1 hlt]
    have hp62 : Lib.hasPrefix S [62] = decide ((s[k1]'hlt).toNat = 62) := by rw [pre_one_at _ 62 (by decide), hS0]; rfl
    have hk12 : (((kind : Int) == 2) = false ∧ (kind == 2) = false ∧ Hid (kind = 1)) ∨ (((kind : Int) == 2) = true ∧ (kind == 2) = true ∧ Hid (kind = 2)) := by
      rcases hkind with h | h
      · exact .inl ⟨beq_false_of_ne (by omega), beq_false_of_ne (by omega), hid_mk h⟩
      · exact .inr ⟨by rw [h]; rfl, by rw [h]; rfl, hid_mk h⟩
    by_cases e62 : (s[k1]'hlt).toNat = 62
    · have r62 : (((s[k1]'hlt).toNat : Int) == 62) = true := by rw [e62]; rfl
      have r47 : (((s[k1]'hlt).toNat : Int) == 47) = false := by rw [e62]; rfl
      have HF0 := hid_mk (show R = tagE kind M (0, al, false, (sl s).drop (k1 + 1)) by
        rw [HA2.out, HQ.out, attrsF_gt HSk.out (by rw [hp62]; exact decide_eq_true e62), HS.out, List.drop_drop])
      have hX_ := HW.out.2.1
      have s0 := hX_.cell 0
      rw [show (zTok)[0]? = some (.int .u8 0) from rfl] at s0
      have f0 := hX_.frozen 0
      have s1 := hX_.cell 1
      rw [show (zTok)[1]? = some (.string ⟨#[]⟩) from rfl] at s1
      have f1 := hX_.frozen 1
      have s2 := hX_.cell 2
      rw [show (zTok)[2]? = some (.slice none 0 0) from rfl] at s2
      have f2 := hX_.frozen 2
      have s3 := hX_.cell 3
      rw [show (zTok)[3]? = some (.bool false) from rfl] at s3
      have f3 := hX_.frozen 3
      have s4 := hX_.cell 4
      rw [show (zTok)[4]? = some (.string ⟨#[]⟩) from rfl] at s4
      have f4 := hX_.frozen 4
      clear hX_
      have hX_ := HW.out.2.2.1
      have g0 := hX_.cell 0
      rw [show (tkC kind M (.slice va al.length vc) false)[0]? = some (.int .u8 (kind : Int)) from rfl] at g0
      have g1 := hX_.cell 1
      rw [show (tkC kind M (.slice va al.length vc) false)[1]? = some (.string (strOf M)) from rfl] at g1
      have g2 := hX_.cell 2
      rw [show (tkC kind M (.slice va al.length vc) false)[2]? = some (.slice va al.length vc) from rfl] at g2
      have g3 := hX_.cell 3
      rw [show (tkC kind M (.slice va al.length vc) false)[3]? = some (.bool false) from rfl] at g3
      have g4 := hX_.cell 4
      rw [show (tkC kind M (.slice va al.length vc) false)[4]? = some (.string ⟨#[]⟩) from rfl] at g4
      clear hX_
      clear hp62 hS0 hSn e62 hSe2
      rcases hk12 with ⟨q1, q2, q3⟩ | ⟨q1, q2, q3⟩
      · have HF := hid_mk (show R = (0, ⟨kind, M, al, false, []⟩, (sl s).drop (k1 + 1)) by
          rw [HF0.out, tagE_ok (fun h => by have := q3.out; omega)])
        go_wp2_with fail
        have HL := rtok_set (a0 := .int .u8 0) (a1 := .string ⟨#[]⟩) (a2 := .slice none 0 0) (a3 := .bool false) (a4 := .string ⟨#[]⟩) HW.out.2.1 (.int .u8 (kind : Int)) (.string (strOf M)) (.slice va al.length vc) (.bool false) (.string ⟨#[]⟩)
        have HN := rtok_now HW.out.1 HW.out.2.1 (.int .u8 (kind : Int)) (.string (strOf M)) (.slice va al.length vc) (.bool false) (.string ⟨#[]⟩)
        have HO := rtok_row HW.out.2.2.2 HW.out.2.1 (by decide) (.int .u8 (kind : Int)) (.string (strOf M)) (.slice va al.length vc) (.bool false) (.string ⟨#[]⟩)
        refine bodyPost_ret (results_cell_two resRTag _ _ r 46 _ (0, 0) _ rfl HL.1 Tryz.underlying46 rfl (by kernel_rfl) (.int .i64 ((k1 : Int) + 1)) (.int .i64 0) rfl rfl) rfl ?_
        exact ⟨_, _, by rw [HF.out]; rfl, ⟨_, _, _, _, _, _, _, rfl⟩, HN, fun _ => ⟨k1 + 1, .slice va al.length vc, by omega, by rw [len_sl]; omega, by rw [HF.out], by rw [HF.out]; rfl, by rw [HF.out]; exact HO⟩⟩
      · by_cases hal : al = []
        · have HF := hid_mk (show R = (0, ⟨kind, M, al, false, []⟩, (sl s).drop (k1 + 1)) by
            rw [HF0.out, tagE_ok (fun h => by
              rcases h.2 with h | h
              · cases h
              · exact h hal)])
          have hal0 : ¬ (0 : Int) < (al.length : Int) := by rw [hal]; simp
          have hal1 : ¬ 0 < al.length := by rw [hal]; simp
          clear hal
          go_wp2_with fail
          have HL := rtok_set (a0 := .int .u8 0) (a1 := .string ⟨#[]⟩) (a2 := .slice none 0 0) (a3 := .bool false) (a4 := .string ⟨#[]⟩) HW.out.2.1 (.int .u8 (kind : Int)) (.string (strOf M)) (.slice va al.length vc) (.bool false) (.string ⟨#[]⟩)
          have HN := rtok_now HW.out.1 HW.out.2.1 (.int .u8 (kind : Int)) (.string (strOf M)) (.slice va al.length vc) (.bool false) (.string ⟨#[]⟩)
          have HO := rtok_row HW.out.2.2.2 HW.out.2.1 (by decide) (.int .u8 (kind : Int)) (.string (strOf M)) (.slice va al.length vc) (.bool false) (.string ⟨#[]⟩)
          refine bodyPost_ret (results_cell_two resRTag _ _ r 46 _ (0, 0) _ rfl HL.1 Tryz.underlying46 rfl (by kernel_rfl) (.int .i64 ((k1 : Int) + 1)) (.int .i64 0) rfl rfl) rfl ?_
          exact ⟨_, _, by rw [HF.out]; rfl, ⟨_, _, _, _, _, _, _, rfl⟩, HN, fun _ => ⟨k1 + 1, .slice va al.length vc, by omega, by rw [len_sl]; omega, by rw [HF.out], by rw [HF.out]; rfl, by rw [HF.out]; exact HO⟩⟩
        · have HF := hid_mk (show R = (40, .none, []) by
            rw [HF0.out, tagE_bad ⟨q3.out, .inr hal⟩])
          have hal1 : 0 < al.length := List.length_pos_iff.2 hal
          have hal0 : (0 : Int) < (al.length : Int) := by omega
          clear hal
          go_wp2_with fail
          have HL := rtok_set (a0 := .int .u8 0) (a1 := .string ⟨#[]⟩) (a2 := .slice none 0 0) (a3 := .bool false) (a4 := .string ⟨#[]⟩) HW.out.2.1 (.int .u8 (kind : Int)) (.string (strOf M)) (.slice va al.length vc) (.bool false) (.string ⟨#[]⟩)
          have HN := rtok_now HW.out.1 HW.out.2.1 (.int .u8 (kind : Int)) (.string (strOf M)) (.slice va al.length vc) (.bool false) (.string ⟨#[]⟩)
          refine bodyPost_ret (results_cell_two resRTag _ _ r 46 _ (0, 0) _ rfl HL.1 Tryz.underlying46 rfl (by kernel_rfl) (.int .i64 (k1 : Int)) (.int .i64 40) rfl rfl) rfl ?_
          exact ⟨_, _, by rw [HF.out]; rfl, ⟨_, _, _, _, _, _, _, rfl⟩, HN, fun h => by rw [HF.out] at h; cases h⟩
    have r62 : (((s[k1]'hlt).toNat : Int) == 62) = false := beq_false_of_ne (by omega)
    rw [decide_eq_false e62] at hp62
    have hat := hid_mk (fun w => rAt_any s k1 [47, 62] w (by omega) (by simp) (by simp) hs)
    rw [show strOf [47, 62] = (⟨#[47, 62]⟩ : ByteArray) from rfl, ← HS.out] at hat
    cases hp2 : Lib.hasPrefix S [47, 62] with
    | true =>
      rw [hp2] at hat
      have e47 : (s[k1]'hlt).toNat = 47 := by
        rw [← hS0]
        cases S with
        | nil => exact absurd rfl hSn
        | cons c t =>
          simp [Lib.hasPrefix, List.isPrefixOf] at hp2
          show c.toNat = 47
          rw [← hp2.1]; rfl
      have hk1l : k1 + 2 ≤ s.size := by
        have := pre_le hp2
        simp only [List.length_cons, List.length_nil] at this
        omega
      have r47 : (((s[k1]'hlt).toNat : Int) == 47) = true := by rw [e47]; rfl
      have HF0 := hid_mk (show R = tagE kind M (0, al, true, (sl s).drop (k1 + 2)) by
        rw [HA2.out, HQ.out, attrsF_self HSk.out hp62 hp2, HS.out, List.drop_drop])
      have hgne : ¬ r = g := by omega
      have HC1 := hid_mk (And.intro (rnow_set HW.out.1 HW.out.2.2.1 3 (.bool true)) (And.intro (HW.out.2.1.setOther ⟨g, 3, none⟩ (.bool true) (by show r ≠ g; omega)) (And.intro (show RLoc g (tkC kind M (.slice va al.length vc) true) 46 w _ from HW.out.2.2.1.setAt 3 (.bool true)) (HW.out.2.2.2.rset HW.out.2.2.1 (by decide) 3 (.bool true)))))
      have hX_ := HW.out.2.1
      have s0 := hX_.cell 0
      rw [show (zTok)[0]? = some (.int .u8 0) from rfl] at s0
      have f0 := hX_.frozen 0
      have s1 := hX_.cell 1
      rw [show (zTok)[1]? = some (.string ⟨#[]⟩) from rfl] at s1
      have f1 := hX_.frozen 1
      have s2 := hX_.cell 2
      rw [show (zTok)[2]? = some (.slice none 0 0) from rfl] at s2
      have f2 := hX_.frozen 2
      have s3 := hX_.cell 3
      rw [show (zTok)[3]? = some (.bool false) from rfl] at s3
      have f3 := hX_.frozen 3
      have s4 := hX_.cell 4
      rw [show (zTok)[4]? = some (.string ⟨#[]⟩) from rfl] at s4
      have f4 := hX_.frozen 4
      clear hX_
      have hX_ := HW.out.2.2.1
      have g0 := hX_.cell 0
      rw [show (tkC kind M (.slice va al.length vc) false)[0]? = some (.int .u8 (kind : Int)) from rfl] at g0
      have h0 := hX_.frozen 0
      have g1 := hX_.cell 1
      rw [show (tkC kind M (.slice va al.length vc) false)[1]? = some (.string (strOf M)) from rfl] at g1
      have h1 := hX_.frozen 1
      have g2 := hX_.cell 2
      rw [show (tkC kind M (.slice va al.length vc) false)[2]? = some (.slice va al.length vc) from rfl] at g2
      have h2 := hX_.frozen 2
      have g3 := hX_.cell 3
      rw [show (tkC kind M (.slice va al.length vc) false)[3]? = some (.bool false) from rfl] at g3
      have h3 := hX_.frozen 3
      have g4 := hX_.cell 4
      rw [show (tkC kind M (.slice va al.length vc) false)[4]? = some (.string ⟨#[]⟩) from rfl] at g4
      have h4 := hX_.frozen 4
      clear hX_
      clear hp62 hS0 hSn e62 hp2 hSe2 e47
      rcases hk12 with ⟨q1, q2, q3⟩ | ⟨q1, q2, q3⟩
      · have HF := hid_mk (show R = (0, ⟨kind, M, al, true, []⟩, (sl s).drop (k1 + 2)) by
          rw [HF0.out, tagE_ok (fun h => by have := q3.out; omega)])
        go_wp2_with fail
        (with_reducible refine (hat.out _).mono ?_)
        rintro e w9 ⟨rfl, rfl⟩
        go_wp2_with fail
        have HL := rtok_set (a0 := .int .u8 0) (a1 := .string ⟨#[]⟩) (a2 := .slice none 0 0) (a3 := .bool false) (a4 := .string ⟨#[]⟩) HC1.out.2.1 (.int .u8 (kind : Int)) (.string (strOf M)) (.slice va al.length vc) (.bool true) (.string ⟨#[]⟩)
        have HN := rtok_now HC1.out.1 HC1.out.2.1 (.int .u8 (kind : Int)) (.string (strOf M)) (.slice va al.length vc) (.bool true) (.string ⟨#[]⟩)
        have HO := rtok_row HC1.out.2.2.2 HC1.out.2.1 (by decide) (.int .u8 (kind : Int)) (.string (strOf M)) (.slice va al.length vc) (.bool true) (.string ⟨#[]⟩)
        refine bodyPost_ret (results_cell_two resRTag _ _ r 46 _ (0, 0) _ rfl HL.1 Tryz.underlying46 rfl (by kernel_rfl) (.int .i64 ((k1 : Int) + 1 + 1)) (.int .i64 0) rfl rfl) rfl ?_
        exact ⟨_, _, by rw [HF.out]; rfl, ⟨_, _, _, _, _, _, _, rfl⟩, HN, fun _ => ⟨k1 + 2, .slice va al.length vc, by omega, by rw [len_sl]; omega, by rw [HF.out], by rw [HF.out]; rfl, by rw [HF.out]; exact HO⟩⟩
      · have HF := hid_mk (show R = (40, .none, []) by
          rw [HF0.out, tagE_bad ⟨q3.out, .inl rfl⟩])
        go_wp2_with fail
        (with_reducible refine (hat.out _).mono ?_)
        rintro e w9 ⟨rfl, rfl⟩
        go_wp2_with fail
        have HL := rtok_set (a0 := .int .u8 0) (a1 := .string ⟨#[]⟩) (a2 := .slice none 0 0) (a3 := .bool false) (a4 := .string ⟨#[]⟩) HC1.out.2.1 (.int .u8 (kind : Int)) (.string (strOf M)) (.slice va al.length vc) (.bool true) (.string ⟨#[]⟩)
        have HN := rtok_now HC1.out.1 HC1.out.2.1 (.int .u8 (kind : Int)) (.string (strOf M)) (.slice va al.length vc) (.bool true) (.string ⟨#[]⟩)
        refine bodyPost_ret (results_cell_two resRTag _ _ r 46 _ (0, 0) _ rfl HL.1 Tryz.underlying46 rfl (by kernel_rfl) (.int .i64 ((k1 : Int) + 1)) (.int .i64 40) rfl rfl) rfl ?_
        exact ⟨_, _, by rw [HF.out]; rfl, ⟨_, _, _, _, _, _, _, rfl⟩, HN, fun h => by rw [HF.out] at h; cases h⟩
    | false =>
    rw [hp2] at hat
    by_cases e47 : (s[k1]'hlt).toNat = 47
    · have r47 : (((s[k1]'hlt).toNat : Int) == 47) = true := by rw [e47]; rfl
      have HF := hid_mk (show R = (40, .none, []) by rw [HA2.out, HQ.out, attrsF_bad HSk.out hp62 hp2 (by rw [hSe2, hS0, e47]; rfl)]; rfl)
      have hX_ := HW.out.2.1
      have s0 := hX_.cell 0
      rw [show (zTok)[0]? = some (.int .u8 0) from rfl] at s0
      have f0 := hX_.frozen 0
      have s1 := hX_.cell 1
      rw [show (zTok)[1]? = some (.string ⟨#[]⟩) from rfl] at s1
      have f1 := hX_.frozen 1
      have s2 := hX_.cell 2
      rw [show (zTok)[2]? = some (.slice none 0 0) from rfl] at s2
      have f2 := hX_.frozen 2
      have s3 := hX_.cell 3
      rw [show (zTok)[3]? = some (.bool false) from rfl] at s3
      have f3 := hX_.frozen 3
      have s4 := hX_.cell 4
      rw [show (zTok)[4]? = some (.string ⟨#[]⟩) from rfl] at s4
      have f4 := hX_.frozen 4
      clear hX_
      have hX_ := HW.out.2.2.1
      have g0 := hX_.cell 0
      rw [show (tkC kind M (.slice va al.length vc) false)[0]? = some (.int .u8 (kind : Int)) from rfl] at g0
      have g1 := hX_.cell 1
      rw [show (tkC kind M (.slice va al.length vc) false)[1]? = some (.string (strOf M)) from rfl] at g1
      have g2 := hX_.cell 2
      rw [show (tkC kind M (.slice va al.length vc) false)[2]? = some (.slice va al.length vc) from rfl] at g2
      have g3 := hX_.cell 3
      rw [show (tkC kind M (.slice va al.length vc) false)[3]? = some (.bool false) from rfl] at g3
      have g4 := hX_.cell 4
      rw [show (tkC kind M (.slice va al.length vc) false)[4]? = some (.string ⟨#[]⟩) from rfl] at g4
      clear hX_
      clear hp62 hS0 hSn e62 hp2 hSe2 e47
      go_wp2_with fail
      (with_reducible refine (hat.out _).mono ?_)
      rintro e w9 ⟨rfl, rfl⟩
      go_wp2_with fail
      have HL := rtok_set (a0 := .int .u8 0) (a1 := .string ⟨#[]⟩) (a2 := .slice none 0 0) (a3 := .bool false) (a4 := .string ⟨#[]⟩) HW.out.2.1 (.int .u8 (kind : Int)) (.string (strOf M)) (.slice va al.length vc) (.bool false) (.string ⟨#[]⟩)
      have HN := rtok_now HW.out.1 HW.out.2.1 (.int .u8 (kind : Int)) (.string (strOf M)) (.slice va al.length vc) (.bool false) (.string ⟨#[]⟩)
      refine bodyPost_ret (results_cell_two resRTag _ _ r 46 _ (0, 0) _ rfl HL.1 Tryz.underlying46 rfl (by kernel_rfl) (.int .i64 (k1 : Int)) (.int .i64 40) rfl rfl) rfl ?_
      exact ⟨_, _, by rw [HF.out]; rfl, ⟨_, _, _, _, _, _, _, rfl⟩, HN, fun h => by rw [HF.out] at h; cases h⟩
    have r47 : (((s[k1]'hlt).toNat : Int) == 47) = false := beq_false_of_ne (by omega)
    have HPP := hid_mk (And.intro hp62 (And.intro hp2 (show (S.isEmpty || atL S 0 == 47) = false by rw [hSe2, Bool.false_or, hS0]; exact beq_false_of_ne e47)))
    have hatt := hid_mk (fun w => rAttr_any s k1 w hk1s hs)
    rw [← HS.out] at hatt
    clear hp62 hS0 hSn e62 hp2 hSe2 e47
    go_wp2_with fail
    (with_reducible refine (hat.out _).mono ?_)
    rintro e w9 ⟨rfl, rfl⟩
    clear hat
    go_wp2_with fail
    (with_reducible refine (hatt.out _).mono ?_)
    rintro e w7 ⟨x1, x2, kk, err, rfl, hb7, hm⟩
    have HE := hid_mk (And.intro (rnow_next HW.out.1 hb7) (And.intro (HW.out.2.1.next hb7) (And.intro (HW.out.2.2.1.next hb7) (HW.out.2.2.2.below hb7))))
    clear hb7 hatt HW
    have hlt7 := HE.out.2.1.lt
    have hltg := HE.out.2.2.1.lt
    cases hal : attrL S with
    | none =>
      rw [hal] at hm
      subst hm
      have HF := hid_mk (show R = (41, .none, []) by rw [HA2.out, HQ.out, attrsF_none HSk.out HPP.out.1 HPP.out.2.1 HPP.out.2.2 hal]; rfl)
      clear hal
      have hX_ := HE.out.2.1
      have s0 := hX_.cell 0
      rw [show (zTok)[0]? = some (.int .u8 0) from rfl] at s0
      have f0 := hX_.frozen 0
      have s1 := hX_.cell 1
      rw [show (zTok)[1]? = some (.string ⟨#[]⟩) from rfl] at s1
      have f1 := hX_.frozen 1
      have s2 := hX_.cell 2
      rw [show (zTok)[2]? = some (.slice none 0 0) from rfl] at s2
      have f2 := hX_.frozen 2
      have s3 := hX_.cell 3
      rw [show (zTok)[3]? = some (.bool false) from rfl] at s3
      have f3 := hX_.frozen 3
      have s4 := hX_.cell 4
      rw [show (zTok)[4]? = some (.string ⟨#[]⟩) from rfl] at s4
      have f4 := hX_.frozen 4
      clear hX_
      have hX_ := HE.out.2.2.1
      have g0 := hX_.cell 0
      rw [show (tkC kind M (.slice va al.length vc) false)[0]? = some (.int .u8 (kind : Int)) from rfl] at g0
      have g1 := hX_.cell 1
      rw [show (tkC kind M (.slice va al.length vc) false)[1]? = some (.string (strOf M)) from rfl] at g1
      have g2 := hX_.cell 2
      rw [show (tkC kind M (.slice va al.length vc) false)[2]? = some (.slice va al.length vc) from rfl] at g2
      have g3 := hX_.cell 3
      rw [show (tkC kind M (.slice va al.length vc) false)[3]? = some (.bool false) from rfl] at g3
      have g4 := hX_.cell 4
      rw [show (tkC kind M (.slice va al.length vc) false)[4]? = some (.string ⟨#[]⟩) from rfl] at g4
      clear hX_
      go_wp2_with fail
      have HL := rtok_set (a0 := .int .u8 0) (a1 := .string ⟨#[]⟩) (a2 := .slice none 0 0) (a3 := .bool false) (a4 := .string ⟨#[]⟩) HE.out.2.1 (.int .u8 (kind : Int)) (.string (strOf M)) (.slice va al.length vc) (.bool false) (.string ⟨#[]⟩)
      have HN := rtok_now HE.out.1 HE.out.2.1 (.int .u8 (kind : Int)) (.string (strOf M)) (.slice va al.length vc) (.bool false) (.string ⟨#[]⟩)
      refine bodyPost_ret (results_cell_two resRTag _ _ r 46 _ (0, 0) _ rfl (HL.alloc (.cells #[.string x1, .string x2] 35)).1 Tryz.underlying46 rfl (by kernel_rfl) (.int .i64 (k1 : Int)) (.int .i64 41) rfl rfl) rfl ?_
      exact ⟨_, _, by rw [HF.out]; rfl, ⟨_, _, _, _, _, _, _, rfl⟩, rnow_alloc HN _, fun h => by rw [HF.out] at h; cases h⟩
    | some p =>
    obtain ⟨at1, rest⟩ := p
    rw [hal] at hm
    simp only at hm
    obtain ⟨rfl, rfl, rfl, kn, rfl, hkn, hrest⟩ := hm
    rw [len_sl] at hkn
    obtain ⟨ga, hga2⟩ : ∃ ga, ga = w7.heap.size := ⟨_, rfl⟩
    obtain ⟨w8, hw8⟩ : ∃ w8, w8 = w7.alloc (.cells #[.string (strOf at1.1), .string (strOf at1.2)] 35) := ⟨_, rfl⟩
    have H5 : Hid (RNow w w8 ∧ RLoc r zTok 46 w w8 ∧ RLoc g (tkC kind M (.slice va al.length vc) false) 46 w w8 ∧ AtRow w.heap.size (.slice va al.length vc) al w8 ∧ RLoc ga #[.string (strOf at1.1), .string (strOf at1.2)] 35 w w8) := hid_mk (by
      rw [hw8, hga2]
      exact ⟨rnow_alloc HE.out.1 _, HE.out.2.1.alloc _, HE.out.2.2.1.alloc _, HE.out.2.2.2.below ((Below.refl _ _).alloc (Nat.le_refl _) _), RLoc.new HE.out.1 _ 35⟩)
    have HGA := hid_mk hga2
    have HW8 := hid_mk hw8
    have HREST := hid_mk hrest
    have HAL := hid_mk hal
    clear hga2 hw8 HE hlt7 hltg hrest hal
    generalize wr = wo at *
    go_wp2_with fail
    rw [← HGA.out, ← HW8.out]
    go_loopw [14] (fun v14 wx => ∃ j : Nat, j ≤ al.length ∧ v14 = .int .i64 (j : Int) ∧ Hid ((al.take j).any (fun b => b.1 == at1.1) = false) ∧ Hid (RNow w wx ∧ RLoc r zTok 46 w wx ∧ RLoc g (tkC kind M (.slice va al.length vc) false) 46 w wx ∧ AtRow w.heap.size (.slice va al.length vc) al wx ∧ RLoc ga #[.string (strOf at1.1), .string (strOf at1.2)] 35 w wx)) (fun v14 _ => al.length - (intOf v14).toNat)
    case atStart => exact ⟨0, Nat.zero_le _, rfl, hid_mk rfl, H5⟩
    case round =>
      obtain ⟨j, hj, rfl, hmm, HX⟩ := hrel
      clear H5 HW8
      have hX_ := HX.out.2.2.1
      have g2 := hX_.cell 2
      rw [show (tkC kind M (.slice va al.length vc) false)[2]? = some (.slice va al.length vc) from rfl] at g2
      clear hX_
      by_cases hjl : j < al.length
      · have hjli : (j : Int) < (al.length : Int) := by omega
        obtain ⟨ge, hva, hgel, hcell⟩ : ∃ ge, va = some ⟨ge, 0, none⟩ ∧ ge < wr.heap.size ∧ ∀ k (h : k < al.length), wr.cell? ⟨ge, k * 2, none⟩ = some (.string (strOf al[k].1)) ∧ wr.cell? ⟨ge, k * 2 + 1, none⟩ = some (.string (strOf al[k].2)) := by
          obtain ⟨a', c', hv', hha⟩ := own_attrs HX.out.2.2.2.1
          injection hv' with ha _ hc
          subst ha
          rcases hha with ⟨_, hx⟩ | h
          · rw [hx] at hjl; simp at hjl
          · exact h
        have c1 := (hcell j hjl).1
        have g2x := g2
        rw [hva] at g2x
        clear g2 hcell
        have hA4 := HX.out.2.2.2.2
        have a0 := hA4.cell 0
        rw [show (#[Value.string (strOf at1.1), Value.string (strOf at1.2)] : Array Value)[0]? = some (.string (strOf at1.1)) from rfl] at a0
        have hlg := HX.out.2.2.1.lt
        have hlga := hA4.lt
        clear hA4
        have hat := any_take (nm := at1.1) hjl
        rw [hmm.out, Bool.false_or] at hat
        have hall : (al[j].1 == at1.1) = true → al.any (fun b => b.1 == at1.1) = true := fun h => List.any_eq_true.2 ⟨_, List.getElem_mem hjl, h⟩
        have HVA := hid_mk hva
        obtain ⟨nm, hnm⟩ : ∃ nm, nm = al[j].1 := ⟨_, rfl⟩
        rw [← hnm] at c1 hat hall
        clear hnm hva
        by_cases hee : nm = at1.1
        · have HF := hid_mk (show R = (41, .none, []) by rw [HA2.out, HQ.out, attrsF_dup HSk.out HPP.out.1 HPP.out.2.1 HPP.out.2.2 HAL.out (hall (by rw [hee]; exact beq_self_eq_true _))]; rfl)
          have heq : ((strOf nm).toList == (strOf at1.1).toList) = true := by rw [hee]; exact beq_self_eq_true _
          clear hat hall hee
          go_wp2_with fail
          obtain ⟨hi', hz0, hz1, hz2⟩ := HI.out
          go_quiet (fail)
          have HD := hid_mk (tag5_next HX.out (below_drewN (Below.refl _ wr) nq))
          clear hi' hz0 hz1 hz2 g2x c1 a0 hgel hlg hlga
          have hX_ := HD.out.2.1
          have s0 := hX_.cell 0
          rw [show (zTok)[0]? = some (.int .u8 0) from rfl] at s0
          have f0 := hX_.frozen 0
          have s1 := hX_.cell 1
          rw [show (zTok)[1]? = some (.string ⟨#[]⟩) from rfl] at s1
          have f1 := hX_.frozen 1
          have s2 := hX_.cell 2
          rw [show (zTok)[2]? = some (.slice none 0 0) from rfl] at s2
          have f2 := hX_.frozen 2
          have s3 := hX_.cell 3
          rw [show (zTok)[3]? = some (.bool false) from rfl] at s3
          have f3 := hX_.frozen 3
          have s4 := hX_.cell 4
          rw [show (zTok)[4]? = some (.string ⟨#[]⟩) from rfl] at s4
          have f4 := hX_.frozen 4
          clear hX_
          have hX_ := HD.out.2.2.1
          have g0 := hX_.cell 0
          rw [show (tkC kind M (.slice va al.length vc) false)[0]? = some (.int .u8 (kind : Int)) from rfl] at g0
          have g1 := hX_.cell 1
          rw [show (tkC kind M (.slice va al.length vc) false)[1]? = some (.string (strOf M)) from rfl] at g1
          have g2 := hX_.cell 2
          rw [show (tkC kind M (.slice va al.length vc) false)[2]? = some (.slice va al.length vc) from rfl] at g2
          have g3 := hX_.cell 3
          rw [show (tkC kind M (.slice va al.length vc) false)[3]? = some (.bool false) from rfl] at g3
          have g4 := hX_.cell 4
          rw [show (tkC kind M (.slice va al.length vc) false)[4]? = some (.string ⟨#[]⟩) from rfl] at g4
          clear hX_
          go_wp2_with fail
          have HL := rtok_set (a0 := .int .u8 0) (a1 := .string ⟨#[]⟩) (a2 := .slice none 0 0) (a3 := .bool false) (a4 := .string ⟨#[]⟩) HD.out.2.1 (.int .u8 (kind : Int)) (.string (strOf M)) (.slice va al.length vc) (.bool false) (.string ⟨#[]⟩)
          have HN := rtok_now HD.out.1 HD.out.2.1 (.int .u8 (kind : Int)) (.string (strOf M)) (.slice va al.length vc) (.bool false) (.string ⟨#[]⟩)
          refine bodyPost_ret (results_cell_two resRTag _ _ r 46 _ (0, 0) _ rfl HL.1 Tryz.underlying46 rfl (by kernel_rfl) (.int .i64 (k1 : Int)) (.int .i64 41) rfl rfl) rfl ?_
          exact ⟨_, _, by rw [HF.out]; rfl, ⟨_, _, _, _, _, _, _, rfl⟩, HN, fun h => by rw [HF.out] at h; cases h⟩
        · have heq : ((strOf nm).toList == (strOf at1.1).toList) = false := by rw [toList_strOf, toList_strOf]; exact beq_false_of_ne hee
          have HT := hid_mk (hat.trans (beq_false_of_ne hee))
          clear hat hall hee
          go_wp2_with fail
          obtain ⟨hi', hz0, hz1, hz2⟩ := HI.out
          go_quiet (fail)
          have HD := hid_mk (tag5_next HX.out (below_drewN (Below.refl _ wr) nq))
          clear hi' hz0 hz1 hz2
          go_wp2_with fail
          go_roundw
          case rel => exact ⟨j + 1, by omega, by go_num, HT, HD⟩
          case measure => simp [intOf]; omega
      · obtain rfl : j = al.length := by omega
        have hdp := hmm.out
        rw [List.take_of_length_le (Nat.le_refl _)] at hdp
        have hjli : ¬ (al.length : Int) < (al.length : Int) := by omega
        have HM := hid_mk (attrsF_more (n := n) HSk.out HPP.out.1 HPP.out.2.1 HPP.out.2.2 HAL.out hdp)
        clear hdp hmm
        by_cases h16 : al.length = 16
        · have hn0 : n = 0 := by omega
          have HF := hid_mk (show R = (3, .none, []) by rw [HA2.out, HQ.out, HM.out, hn0]; rfl)
          have h16i : ((al.length : Int) == 16) = true := by rw [h16]; rfl
          have h16n : (al.length == 16) = true := by rw [h16]; rfl
          have H16 := hid_mk h16
          clear h16 g2
          have hX_ := HX.out.2.1
          have s0 := hX_.cell 0
          rw [show (zTok)[0]? = some (.int .u8 0) from rfl] at s0
          have f0 := hX_.frozen 0
          have s1 := hX_.cell 1
          rw [show (zTok)[1]? = some (.string ⟨#[]⟩) from rfl] at s1
          have f1 := hX_.frozen 1
          have s2 := hX_.cell 2
          rw [show (zTok)[2]? = some (.slice none 0 0) from rfl] at s2
          have f2 := hX_.frozen 2
          have s3 := hX_.cell 3
          rw [show (zTok)[3]? = some (.bool false) from rfl] at s3
          have f3 := hX_.frozen 3
          have s4 := hX_.cell 4
          rw [show (zTok)[4]? = some (.string ⟨#[]⟩) from rfl] at s4
          have f4 := hX_.frozen 4
          clear hX_
          have hX_ := HX.out.2.2.1
          have g0 := hX_.cell 0
          rw [show (tkC kind M (.slice va al.length vc) false)[0]? = some (.int .u8 (kind : Int)) from rfl] at g0
          have g1 := hX_.cell 1
          rw [show (tkC kind M (.slice va al.length vc) false)[1]? = some (.string (strOf M)) from rfl] at g1
          have g2 := hX_.cell 2
          rw [show (tkC kind M (.slice va al.length vc) false)[2]? = some (.slice va al.length vc) from rfl] at g2
          have g3 := hX_.cell 3
          rw [show (tkC kind M (.slice va al.length vc) false)[3]? = some (.bool false) from rfl] at g3
          have g4 := hX_.cell 4
          rw [show (tkC kind M (.slice va al.length vc) false)[4]? = some (.string ⟨#[]⟩) from rfl] at g4
          clear hX_
          go_wp2_with fail
          have HL := rtok_set (a0 := .int .u8 0) (a1 := .string ⟨#[]⟩) (a2 := .slice none 0 0) (a3 := .bool false) (a4 := .string ⟨#[]⟩) HX.out.2.1 (.int .u8 (kind : Int)) (.string (strOf M)) (.slice va al.length vc) (.bool false) (.string ⟨#[]⟩)
          have HN := rtok_now HX.out.1 HX.out.2.1 (.int .u8 (kind : Int)) (.string (strOf M)) (.slice va al.length vc) (.bool false) (.string ⟨#[]⟩)
          refine bodyPost_ret (results_cell_two resRTag _ _ r 46 _ (0, 0) _ rfl HL.1 Tryz.underlying46 rfl (by kernel_rfl) (.int .i64 (k1 : Int)) (.int .i64 3) rfl rfl) rfl ?_
          exact ⟨_, _, by rw [HF.out]; rfl, ⟨_, _, _, _, _, _, _, rfl⟩, HN, fun h => by rw [HF.out] at h; cases h⟩
        have hn1 : 1 ≤ n := by omega
        have h16i : ((al.length : Int) == 16) = false := beq_false_of_ne (by omega)
        have h16n : (al.length == 16) = false := beq_false_of_ne h16
        have k2 := HX.out.2.2.1.frozen 2
        have hA4 := HX.out.2.2.2.2
        have a0 := hA4.cell 0
        have a1 := hA4.cell 1
        rw [show (#[Value.string (strOf at1.1), Value.string (strOf at1.2)] : Array Value)[0]? = some (.string (strOf at1.1)) from rfl] at a0
        rw [show (#[Value.string (strOf at1.1), Value.string (strOf at1.2)] : Array Value)[1]? = some (.string (strOf at1.2)) from rfl] at a1
        clear hA4
        go_wp2_with (at_builtin; refine Classical.byContradiction fun hno => ?_)
        refine hno ?_
        clear hno
        obtain ⟨hi', hz0, hz1, hz2⟩ := HI.out
        have hbe := Below.alloc (Below.refl wr.heap.size wr) (Nat.le_refl _) (.cells #[.string (strOf at1.1), .string (strOf at1.2)] 35)
        have H9 := tag5_next HX.out hbe
        have hown9 := H9.2.2.2.1
        have hws : w.heap.size ≤ (wr.alloc (.cells #[.string (strOf at1.1), .string (strOf at1.2)] 35)).heap.size := H9.1.size
        refine wpList_append_own _ rfl (.tmp 92) (.tmp 94) _ rfl w.heap.size 35 i0 _ 2 32 Tryz.underlying31 hi' hz0 hz1 hz2 rfl (by decide) _ al.length (atCells al) rfl hown9 ⟨wr.heap.size, 0, none⟩ 1 1 [.string (strOf at1.1), .string (strOf at1.2)] rfl rfl ?c1 ?c2 ?c3 ?c4 hws ?_
        case c1 =>
          intro j u hu
          rw [addr_add0, cell_of_row _ _ j _ _ _ (heap_alloc_new wr _)]
          rw [← hu, ← Array.getElem?_toList]
        case c2 =>
          intro u hu
          simp only [List.mem_cons, List.not_mem_nil, or_false] at hu
          rcases hu with rfl | rfl <;> rfl
        case c3 => unfold maxLen; omega
        case c4 => omega
        intro v' w10 hown' hgrow _
        rw [atCells_snoc] at hown'
        have hrow : AtRow w.heap.size v' (al ++ [at1]) w10 := by
          unfold AtRow
          rw [List.length_append]
          exact hown'
        obtain ⟨va', vc', hv', _⟩ := own_attrs hrow
        subst hv'
        have hng := AtRow.ne hown9 H9.2.2.1.1 (by decide)
        have hnr := AtRow.ne hown9 H9.2.1.1 (by decide)
        have HJ := hid_mk (And.intro (Below.grown H9.1 hgrow hws (fun k hk => own_base hown9 k hk)) (And.intro (H9.2.1.grown hgrow hnr) (And.intro (H9.2.2.1.grown hgrow hng) hrow)))
        clear hown' hgrow hrow hown9 hng hnr H9 hbe hws hi' hz0 hz1 hz2 HX g2 k2 a0 a1
        have hG4 := HJ.out.2.2.1
        have g2 := hG4.cell 2
        rw [show (tkC kind M (.slice va al.length vc) false)[2]? = some (.slice va al.length vc) from rfl] at g2
        have k2 := hG4.frozen 2
        clear hG4
        have HK := hid_mk (And.intro (rnow_set HJ.out.1 HJ.out.2.2.1 2 (.slice va' (al ++ [at1]).length vc')) (And.intro (HJ.out.2.1.setOther ⟨g, 2, none⟩ (.slice va' (al ++ [at1]).length vc') (by show r ≠ g; omega)) (And.intro (show RLoc g (tkC kind M (.slice va' (al ++ [at1]).length vc') false) 46 w _ from HJ.out.2.2.1.setAt 2 (.slice va' (al ++ [at1]).length vc')) (HJ.out.2.2.2.rset HJ.out.2.2.1 (by decide) 2 (.slice va' (al ++ [at1]).length vc')))))
        obtain ⟨al', hal'⟩ : ∃ al', al' = al ++ [at1] := ⟨_, rfl⟩
        have hgl : n + al'.length = 17 := by rw [hal', List.length_append]; show n + (al.length + 1) = 17; omega
        have HQ2 := hid_mk (show attrsF 17 ((sl s).drop k0) [] = attrsF n ((sl s).drop kn) al' by rw [HQ.out, HM.out, hal', HREST.out])
        rw [← hal'] at HK ⊢
        clear hal' HM HQ HJ
        go_wp2_with fail
        go_roundg n
        case measure => omega
        case rel => exact ⟨kn, al', _, rfl, hn1, hgl, hkn, HK, HQ2⟩
end Go.Proofs.YtakakaenlfilmaaGreatDoor
