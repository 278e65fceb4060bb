/-
  The reference tokenizer's at, find, Blank, skip, word. Conditions: places and lengths are bounded.
-/
import Derived.Test.YtakakaenlfilmaaGreatDoorTRfP
import Derived.Test.YtakakaenlfilmaaGreatDoorTRefA
import Derived.Test.YtakakaenlfilmaaGreatDoorTNext
namespace Go.Proofs.YtakakaenlfilmaaGreatDoor
open Go.RowKit
theorem retb {a b : Bool} (h : a = b) : Ending.returned (.bool a) = .returned (.bool b) := by rw [h]
theorem at_extract (s : ByteArray) (i : Nat) (p : List UInt8) : ((s.extract i (i + p.length)).toList == (strOf p).toList) = Lib.hasPrefix ((sl s).drop i) p := by
  rw [Lib.toList_data, Lib.toList_data]
  have h1 : (s.extract i (i + p.length)).data.toList = ((sl s).drop i).take p.length := sl_cut s i p.length
  rw [h1, show (strOf p).data.toList = p from sl_strOf p, Bool.eq_iff_iff]
  unfold Lib.hasPrefix
  rw [beq_iff_eq, List.isPrefixOf_iff_prefix, List.prefix_iff_eq_take]
  exact eq_comm
theorem pre_short {l p : List UInt8} (h : l.length < p.length) : Lib.hasPrefix l p = false := by
  cases hp : Lib.hasPrefix l p with
  | false => rfl
  | true => have := pre_le hp; omega
theorem rAt_any (s : ByteArray) (i : Nat) (p : List UInt8) (w : World) (hi : i ≤ 2000000000) (hp : p.length ≤ 1000000000) (hp0 : 0 < p.length) (hs : s.size ≤ 1000000000) :
    Calls Tryz.prog 29 #[.string s, .int .i64 (i : Int), .string (strOf p)] w fun e w' => e = .returned (.bool (Lib.hasPrefix ((sl s).drop i) p)) ∧ w = w' := by
  have hps := size_strOf p
  have he := at_extract s i p
  by_cases hl : i + p.length ≤ s.size
  · have hl' : (i : Int) + (p.length : Int) ≤ (s.size : Int) := by omega
    have hq : ((i : Int) + (p.length : Int)).toNat = i + p.length := by omega
    have hi0 : (0 : Int) ≤ (i : Int) := by omega
    have hle : (i : Int) ≤ (i : Int) + (p.length : Int) := by omega
    generalize Lib.hasPrefix ((sl s).drop i) p = b at *
    go_enter Tryz.func29, Tryz.ntmps29
    go_wp2
    go_ret
    exact ⟨rfl, rfl⟩
  · have hl' : ¬ (i : Int) + (p.length : Int) ≤ (s.size : Int) := by omega
    have hv := hid_mk (pre_short (l := (sl s).drop i) (p := p) (by rw [List.length_drop, len_sl]; omega))
    clear he
    go_enter Tryz.func29, Tryz.ntmps29
    go_wp2
    go_ret
    rw [hv.out]
    exact ⟨rfl, rfl⟩
set_option maxHeartbeats 1000000 in
set_option maxRecDepth 100000 in
theorem rFind_any (s : ByteArray) (i : Nat) (p : List UInt8) (w : World) (hi : i ≤ s.size) (hp : p.length ≤ 1000000000) (hp0 : p ≠ []) (hs : s.size ≤ 1000000000) :
    Calls Tryz.prog 49 #[.string s, .int .i64 (i : Int), .string (strOf p)] w fun e w' => e = .returned (.int .i64 (findZ (sl s) i p)) ∧ w = w' := by
  have hps := size_strOf p
  have hpp : 0 < p.length := List.length_pos_iff.2 hp0
  obtain ⟨F, hF⟩ : ∃ F, F = findZ (sl s) i p := ⟨_, rfl⟩
  rw [← hF]
  have HF := hid_mk hF
  have HP0 := hid_mk hp0
  clear hF hp0
  go_enter Tryz.func49, Tryz.ntmps49
  go_wp2_with fail
  go_loop [7] (fun v => ∃ k : Nat, i + k ≤ s.size + 1 ∧ v = .int .i64 ((i + k : Nat) : Int) ∧ Hid (Lib.NoOcc ((sl s).drop i) p k)) (fun v => s.size + 1 - (intOf v).toNat)
  case atStart => exact ⟨0, by omega, rfl, hid_mk (Lib.NoOcc.zero _ _)⟩
  case round =>
    obtain ⟨k, hk, rfl, hno⟩ := hrel
    have hat := hid_mk (fun w => rAt_any s (i + k) p w (by omega) hp hpp hs)
    obtain ⟨j, hj⟩ : ∃ j, j = i + k := ⟨_, rfl⟩
    rw [← hj] at hat hk ⊢
    have HJ := hid_mk hj
    clear hj
    by_cases hlt : j + p.length ≤ s.size
    · have hlt' : (j : Int) ≤ (s.size : Int) - (p.length : Int) := by omega
      cases hb : Lib.hasPrefix ((sl s).drop j) p with
      | true =>
        rw [hb] at hat
        have HE := hid_mk (show F = (j : Int) by rw [HF.out, findZ_hit hno.out (by rw [len_sl, ← HJ.out]; omega) (by rw [← HJ.out]; exact hb), HJ.out])
        clear hb
        go_wp2_with fail
        refine (hat.out _).mono ?_
        rintro e w' ⟨rfl, rfl⟩
        go_wp2_with fail
        go_ret
        rw [HE.out]
        exact ⟨rfl, rfl⟩
      | false =>
        rw [hb] at hat
        have HN := hid_mk (hno.out.succ (by rw [occ_drop, ← HJ.out]; exact hb))
        clear hb
        go_wp2_with fail
        refine (hat.out _).mono ?_
        rintro e w' ⟨rfl, rfl⟩
        go_wp2_with fail
        go_round
        case rel => exact ⟨k + 1, by have := HJ.out; omega, by have := HJ.out; first | go_num | (subst this; go_num), HN⟩
        case measure => simp [intOf]; omega
    · have hlt' : ¬ (j : Int) ≤ (s.size : Int) - (p.length : Int) := by omega
      have HE := hid_mk (show F = -1 by rw [HF.out]; exact findZ_none HP0.out hno.out (by rw [len_sl]; exact hi) (by rw [len_sl, ← HJ.out]; omega))
      go_wp2_with fail
      go_ret
      rw [HE.out]
      exact ⟨rfl, rfl⟩
theorem rBlank_any (c : UInt8) (w : World) :
    Calls Tryz.prog 50 #[.int .u8 (c.toNat : Int)] w fun e w' => e = .returned (.bool (blanksL.contains c)) ∧ w = w' := by
  rw [blB_iff]
  go_enter Tryz.func50, Tryz.ntmps50
  go_wp2
  all_goals
    go_ret
    refine ⟨retb ?_, rfl⟩
    rw [Bool.eq_iff_iff]
    unfold blB
    simp
    omega
theorem getD_s (s : ByteArray) (k : Nat) (h : k < s.size) : (sl s).getD k 0 = s[k]'h := by
  have := Lib.data_getElem? s k h
  rw [List.getD_eq_getElem?_getD]
  show (s.data.toList[k]?).getD 0 = _
  rw [this]
  rfl
set_option maxHeartbeats 1000000 in
set_option maxRecDepth 100000 in
theorem rSkip_any (s : ByteArray) (i : Nat) (w : World) (hi : i ≤ s.size) (hs : s.size ≤ 1000000000) :
    Calls Tryz.prog 47 #[.string s, .int .i64 (i : Int)] w fun e w' => e = .returned (.int .i64 (skipN (sl s) i : Nat)) ∧ w = w' := by
  obtain ⟨F, hF⟩ : ∃ F, F = skipN (sl s) i := ⟨_, rfl⟩
  rw [← hF]
  have HF := hid_mk hF
  clear hF
  go_enter Tryz.func47, Tryz.ntmps47
  go_wp2_with fail
  go_loop [1] (fun v => ∃ k : Nat, k ≤ s.size ∧ v = .int .i64 (k : Int) ∧ Hid (F = skipN (sl s) k)) (fun v => s.size - (intOf v).toNat)
  case atStart => exact ⟨i, hi, rfl, HF⟩
  case round =>
    obtain ⟨k, hk, rfl, hf⟩ := hrel
    clear HF
    by_cases hlt : k < s.size
    · have hlt' : (k : Int) < (s.size : Int) := by omega
      have hbl := hid_mk (fun w => rBlank_any (s[k]'hlt) w)
      have hst := skipN_step (sl s) k (by rw [len_sl]; exact hlt)
      have hsp := skipN_stop (sl s) k
      rw [getD_s s k hlt] at hst hsp
      cases hc : blanksL.contains (s[k]'hlt) with
      | true =>
        rw [hc] at hbl
        have HN := hid_mk (hf.out.trans (hst hc))
        clear hst hsp hc hf
        go_wp2_with fail
        refine (hbl.out _).mono ?_
        rintro e w' ⟨rfl, rfl⟩
        go_wp2_with fail
        go_round
        case rel => exact ⟨k + 1, by omega, by go_num, HN⟩
        case measure => simp [intOf]; omega
      | false =>
        rw [hc] at hbl
        have HN := hid_mk (hf.out.trans (hsp (fun _ => hc)))
        clear hst hsp hc hf
        go_wp2_with fail
        refine (hbl.out _).mono ?_
        rintro e w' ⟨rfl, rfl⟩
        go_wp2_with fail
        go_ret
        rw [HN.out]
        exact ⟨rfl, rfl⟩
    · have hlt' : ¬ (k : Int) < (s.size : Int) := by omega
      have HN := hid_mk (hf.out.trans (skipN_stop (sl s) k (fun h => absurd (by rw [len_sl] at h; exact h) hlt)))
      clear hf
      go_wp2_with fail
      go_ret
      rw [HN.out]
      exact ⟨rfl, rfl⟩
theorem ext_one (s : ByteArray) (k : Nat) (h : k < s.size) : s.extract k (k + 1) = strOf [s[k]'h] := by
  rw [← strOf_sl (s.extract k (k + 1)), sl_cut, ← getD_s s k h]
  have hl : k < (sl s).length := by rw [len_sl]; exact h
  have e : ((sl s).drop k).take 1 = [(sl s)[k]] := by rw [List.drop_eq_getElem_cons hl]; rfl
  rw [e]
  simp [List.getD, hl]
set_option maxHeartbeats 1000000 in
set_option maxRecDepth 100000 in
theorem rWord_any (s : ByteArray) (i : Nat) (st : List UInt8) (w : World) (hi : i ≤ s.size) (hs : s.size ≤ 1000000000) (hst : st.length ≤ 1000) :
    Calls Tryz.prog 45 #[.string s, .int .i64 (i : Int), .string (strOf st)] w fun e w' => e = .returned (.int .i64 (wordN (sl s) i (blanksL ++ st) : Nat)) ∧ w = w' := by
  obtain ⟨F, hF⟩ : ∃ F, F = wordN (sl s) i (blanksL ++ st) := ⟨_, rfl⟩
  rw [← hF]
  have HF := hid_mk hF
  have hps := size_strOf st
  clear hF
  go_enter Tryz.func45, Tryz.ntmps45
  go_wp2_with fail
  go_loop [1] (fun v => ∃ k : Nat, k ≤ s.size ∧ v = .int .i64 (k : Int) ∧ Hid (F = wordN (sl s) k (blanksL ++ st))) (fun v => s.size - (intOf v).toNat)
  case atStart => exact ⟨i, hi, rfl, HF⟩
  case round =>
    obtain ⟨k, hk, rfl, hf⟩ := hrel
    clear HF
    by_cases hlt : k < s.size
    · have hlt' : (k : Int) < (s.size : Int) := by omega
      have hle' : (k : Int) + 1 ≤ (s.size : Int) := by omega
      have hbl := hid_mk (fun w => rBlank_any (s[k]'hlt) w)
      have hfi := hid_mk (fun w => rFind_any (strOf st) 0 [s[k]'hlt] w (by omega) (by simp) (by simp) (by rw [size_strOf]; omega))
      rw [← ext_one s k hlt, sl_strOf, findZ_zero] at hfi
      have hin := index_in st (s[k]'hlt)
      have hst := wordN_step (sl s) k (blanksL ++ st) (by rw [len_sl]; exact hlt)
      have hsp := wordN_stop (sl s) k (blanksL ++ st)
      rw [getD_s s k hlt] at hst hsp
      have hap : (blanksL ++ st).contains (s[k]'hlt) = (blanksL.contains (s[k]'hlt) || st.contains (s[k]'hlt)) := by
        rw [Bool.eq_iff_iff]; simp
      generalize Lib.index st [s[k]'hlt] = ix at *
      rw [hap] at hst hsp
      cases hc : blanksL.contains (s[k]'hlt) with
      | true =>
        rw [hc] at hbl
        have HN := hid_mk (hf.out.trans (hsp (fun _ => by rw [hc]; rfl)))
        clear hst hsp hc hf hap hin
        go_wp2_with fail
        refine (hbl.out _).mono ?_
        rintro e w' ⟨rfl, rfl⟩
        go_wp2_with fail
        go_ret
        rw [HN.out]
        exact ⟨rfl, rfl⟩
      | false =>
        rw [hc] at hbl
        cases hd : st.contains (s[k]'hlt) with
        | true =>
          have hix : ¬ ix < 0 := by rw [hd] at hin; exact of_decide_eq_false hin
          have HN := hid_mk (hf.out.trans (hsp (fun _ => by rw [hc, hd]; rfl)))
          clear hst hsp hc hf hap hin hd
          go_wp2_with fail
          refine (hbl.out _).mono ?_
          rintro e w' ⟨rfl, rfl⟩
          go_wp2_with fail
          refine (hfi.out _).mono ?_
          rintro e w' ⟨rfl, rfl⟩
          go_wp2_with fail
          go_ret
          rw [HN.out]
          exact ⟨rfl, rfl⟩
        | false =>
          have hix : ix < 0 := by rw [hd] at hin; exact of_decide_eq_true hin
          have HN := hid_mk (hf.out.trans (hst (by rw [hc, hd]; rfl)))
          clear hst hsp hc hf hap hin hd
          go_wp2_with fail
          refine (hbl.out _).mono ?_
          rintro e w' ⟨rfl, rfl⟩
          go_wp2_with fail
          refine (hfi.out _).mono ?_
          rintro e w' ⟨rfl, rfl⟩
          go_wp2_with fail
          go_round
          case rel => exact ⟨k + 1, by omega, by go_num, HN⟩
          case measure => simp [intOf]; omega
    · have hlt' : ¬ (k : Int) < (s.size : Int) := by omega
      have HN := hid_mk (hf.out.trans (wordN_stop (sl s) k (blanksL ++ st) (fun h => absurd (by rw [len_sl] at h; exact h) hlt)))
      clear hf
      go_wp2_with fail
      go_ret
      rw [HN.out]
      exact ⟨rfl, rfl⟩
end Go.Proofs.YtakakaenlfilmaaGreatDoor
/-
  The reference tokenizer's of, begins; a call's own blocks; comment. Conditions: places and lengths are bounded.
-/
namespace Go.Proofs.YtakakaenlfilmaaGreatDoor
open Go.RowKit
set_option maxHeartbeats 2000000 in
set_option maxRecDepth 100000 in
theorem rOf_any (s : ByteArray) (o : List UInt8) (w : World) (hs : s.size ≤ 1000000000) (ho : o.length ≤ 1000) :
    Calls Tryz.prog 46 #[.string s, .string (strOf o)] w fun e w' => e = .returned (.bool (!(sl s).isEmpty && madeL (sl s) o)) ∧ w = w' := by
  have hps := size_strOf o
  obtain ⟨F, hF⟩ : ∃ F, F = (!(sl s).isEmpty && madeL (sl s) o) := ⟨_, rfl⟩
  rw [← hF]
  have HF := hid_mk hF
  clear hF
  go_enter Tryz.func46, Tryz.ntmps46
  go_wp2_with fail
  go_loop [5] (fun i => ∃ k : Nat, k ≤ s.size ∧ i = .int .i64 k ∧ Hid (madeL ((sl s).take k) o = true)) (fun i => s.size - (intOf i).toNat)
  case atStart => exact ⟨0, Nat.zero_le _, rfl, hid_mk rfl⟩
  case round =>
    obtain ⟨k, hk, rfl, hm⟩ := hrel
    by_cases hlt : k < s.size
    · have hlt' : (k : Int) < (s.size : Int) := by omega
      have hle' : (k : Int) + 1 ≤ (s.size : Int) := by omega
      have hkl : k < (sl s).length := by rw [len_sl]; exact hlt
      have ht := madeL_take (l := sl s) (o := o) (k := k) hkl
      have hb := madeL_bad (l := sl s) (o := o) (k := k) hkl
      rw [hm.out, Bool.true_and] at ht
      rw [getD_s s k hlt] at ht hb
      have hfi := hid_mk (fun w => rFind_any (strOf o) 0 [s[k]'hlt] w (by omega) (by simp) (by simp) (by rw [size_strOf]; omega))
      rw [← ext_one s k hlt, sl_strOf, findZ_zero] at hfi
      have hin := index_in o (s[k]'hlt)
      generalize Lib.index o [s[k]'hlt] = ix at *
      have HL := hid_mk (fun w => rLetter_any (s[k]'hlt) w)
      have HD := hid_mk (fun w => rDigit_any (s[k]'hlt) w)
      cases hlet : isLet (s[k]'hlt) with
      | true =>
        have HT := hid_mk (ht.trans (by rw [hlet]; first | done | rfl))
        rw [hlet] at HL
        clear ht hb hin hm hlet
        go_wp2_with fail
        refine (HL.out _).mono ?_
        rintro e w' ⟨rfl, rfl⟩
        go_wp2_with fail
        go_round
        case rel => exact ⟨k + 1, by omega, by go_num, HT⟩
        case measure => simp [intOf]; omega
      | false =>
        rw [hlet] at HL
        cases hdig : isDig (s[k]'hlt) with
        | true =>
          have HT := hid_mk (ht.trans (by rw [hlet, hdig]; first | done | rfl))
          rw [hdig] at HD
          clear ht hb hin hm hlet hdig
          go_wp2_with fail
          refine (HL.out _).mono ?_
          rintro e w' ⟨rfl, rfl⟩
          go_wp2_with fail
          refine (HD.out _).mono ?_
          rintro e w' ⟨rfl, rfl⟩
          go_wp2_with fail
          go_round
          case rel => exact ⟨k + 1, by omega, by go_num, HT⟩
          case measure => simp [intOf]; omega
        | false =>
          rw [hdig] at HD
          cases hc : o.contains (s[k]'hlt) with
          | true =>
            have hix : ¬ ix < 0 := by rw [hc] at hin; exact of_decide_eq_false hin
            have HT := hid_mk (ht.trans (by rw [hlet, hdig, hc]; first | done | rfl))
            clear ht hb hin hm hlet hdig hc
            go_wp2_with fail
            refine (HL.out _).mono ?_
            rintro e w' ⟨rfl, rfl⟩
            go_wp2_with fail
            refine (HD.out _).mono ?_
            rintro e w' ⟨rfl, rfl⟩
            go_wp2_with fail
            refine (hfi.out _).mono ?_
            rintro e w' ⟨rfl, rfl⟩
            go_wp2_with fail
            go_round
            case rel => exact ⟨k + 1, by omega, by go_num, HT⟩
            case measure => simp [intOf]; omega
          | false =>
            have hix : ix < 0 := by rw [hc] at hin; exact of_decide_eq_true hin
            have HT := hid_mk (show F = false by rw [HF.out, hb (by rw [hlet, hdig, hc]; rfl), Bool.and_false])
            clear ht hb hin hm hlet hdig hc
            go_wp2_with fail
            refine (HL.out _).mono ?_
            rintro e w' ⟨rfl, rfl⟩
            go_wp2_with fail
            refine (HD.out _).mono ?_
            rintro e w' ⟨rfl, rfl⟩
            go_wp2_with fail
            refine (hfi.out _).mono ?_
            rintro e w' ⟨rfl, rfl⟩
            go_wp2_with fail
            go_ret
            rw [HT.out]
            exact ⟨rfl, rfl⟩
    · obtain rfl : k = s.size := by omega
      have hm2 := hm.out
      rw [List.take_of_length_le (by rw [len_sl]; exact Nat.le_refl _)] at hm2
      have HT := hid_mk (show F = decide ((0 : Int) < (s.size : Int)) by
        rw [HF.out, hm2, Bool.and_true, ← len_sl]
        cases sl s with
        | nil => rfl
        | cons _ _ => simp)
      have hlt' : ¬ (s.size : Int) < (s.size : Int) := by omega
      clear hm2 hm
      go_wp2
      all_goals
        go_ret
        refine ⟨retb ?_, rfl⟩
        rw [HT.out]
        try simp
        try omega
set_option maxHeartbeats 1000000 in
theorem rBegins_any (s : ByteArray) (i : Nat) (w : World) (hi : i ≤ 1000000000) :
    Calls Tryz.prog 26 #[.string s, .int .i64 (i : Int)] w fun e w' => e = .returned (.bool (leavesL ((sl s).drop i))) ∧ w = w' := by
  by_cases h1 : i + 1 < s.size
  · have h0 : i < s.size := by omega
    have h1' : (i : Int) + 1 < (s.size : Int) := by omega
    have h0' : (i : Int) < (s.size : Int) := by omega
    have hq : ((i : Int) + 1).toNat = i + 1 := by omega
    have HB := hid_mk (fun w => rLetter_any (s[i + 1]'h1) w)
    have HL := hid_mk (show leavesL ((sl s).drop i) = (decide ((s[i]'h0).toNat = 60) && (isLet (s[i + 1]'h1) || decide ((s[i + 1]'h1).toNat = 47) || decide ((s[i + 1]'h1).toNat = 33) || decide ((s[i + 1]'h1).toNat = 63))) by
      unfold leavesL
      have e1 : ((sl s).drop i).getD 1 0 = s[i + 1]'h1 := by
        rw [← getD_s s (i + 1) h1, List.getD_eq_getElem?_getD, List.getD_eq_getElem?_getD, List.getElem?_drop]
      have e0 : atL ((sl s).drop i) 0 = (s[i]'h0).toNat := by rw [atL_drop, Nat.add_zero, byte_atL s i h0]
      have e2 : ([47, 33, 63] : List UInt8).contains (s[i + 1]'h1) = (decide ((s[i + 1]'h1).toNat = 47) || decide ((s[i + 1]'h1).toNat = 33) || decide ((s[i + 1]'h1).toNat = 63)) := by
        have : ∀ n : Fin 256, ([47, 33, 63] : List UInt8).contains (UInt8.ofNat n.val) = (decide ((UInt8.ofNat n.val).toNat = 47) || decide ((UInt8.ofNat n.val).toNat = 33) || decide ((UInt8.ofNat n.val).toNat = 63)) := by decide +kernel
        have h := this ⟨(s[i + 1]'h1).toNat, UInt8.toNat_lt _⟩
        simpa using h
      rw [List.length_drop, len_sl, e0, e1, e2, decide_eq_true (show 2 ≤ s.size - i by omega), Bool.true_and]
      simp [Bool.or_assoc]
      rfl)
    obtain ⟨F, hF⟩ : ∃ F, F = leavesL ((sl s).drop i) := ⟨_, rfl⟩
    rw [← hF] at HL ⊢
    clear hF
    go_enter Tryz.func26, Tryz.ntmps26
    go_wp2_with (go_at_call 27; refine (HB.out _).mono ?_; rintro e w' ⟨rfl, rfl⟩)
    all_goals
      go_ret
      refine ⟨retb ?_, rfl⟩
      rw [HL.out]
      clear HL HB
      first
        | (simp_all; done)
        | (simp_all; intros; omega)
        | (rw [Bool.eq_iff_iff]; simp_all; omega)
        | (have h60 : s[i].toNat = 60 := by omega
           rw [Bool.eq_iff_iff]; simp_all; omega)
  · have HL := hid_mk (show leavesL ((sl s).drop i) = false by
      unfold leavesL
      rw [List.length_drop, len_sl, decide_eq_false (by omega)]
      rfl)
    have h1' : ¬ (i : Int) + 1 < (s.size : Int) := by omega
    go_enter Tryz.func26, Tryz.ntmps26
    go_wp2
    go_ret
    rw [HL.out]
    exact ⟨rfl, rfl⟩
/-- Nothing of what was there when the call began has turned. -/
abbrev RNow (w0 w : World) : Prop := Below w0.heap.size w0 w
/-- A block of the call's own, made since w0. -/
def RLoc (g : Nat) (cs : Array Value) (t : TypeId) (w0 w : World) : Prop := Blk g (.cells cs t (0, 0)) w ∧ w0.heap.size ≤ g
theorem RLoc.new {w0 w : World} (h : RNow w0 w) (cs : Array Value) (t : TypeId) : RLoc w.heap.size cs t w0 (w.alloc (.cells cs t)) := ⟨Blk.new _ _, h.size⟩
theorem RLoc.next {g : Nat} {cs : Array Value} {t : TypeId} {w0 w w' : World} (h : RLoc g cs t w0 w) (hb : Below w.heap.size w w') : RLoc g cs t w0 w' := ⟨h.1.next hb, h.2⟩
theorem RLoc.alloc {g : Nat} {cs : Array Value} {t : TypeId} {w0 w : World} (h : RLoc g cs t w0 w) (o : Obj) : RLoc g cs t w0 (w.alloc o) := h.next ((Below.refl _ _).alloc (Nat.le_refl _) o)
theorem RLoc.setAt {g : Nat} {cs : Array Value} {t : TypeId} {w0 w : World} (h : RLoc g cs t w0 w) (j : Nat) (v : Value) : RLoc g (cs.setIfInBounds j v) t w0 (w.setCell ⟨g, j, none⟩ v) := ⟨h.1.setAt j v, h.2⟩
theorem RLoc.setOther {g : Nat} {cs : Array Value} {t : TypeId} {w0 w : World} (h : RLoc g cs t w0 w) (a : Addr) (v : Value) (hne : g ≠ a.block) : RLoc g cs t w0 (w.setCell a v) := ⟨h.1.set a v hne, h.2⟩
theorem RLoc.cell {g : Nat} {cs : Array Value} {t : TypeId} {w0 w : World} (h : RLoc g cs t w0 w) (j : Nat) : w.cell? ⟨g, j, none⟩ = cs[j]? := h.1.cell j
theorem RLoc.frozen {g : Nat} {cs : Array Value} {t : TypeId} {w0 w : World} (h : RLoc g cs t w0 w) (j : Nat) : w.frozen? ⟨g, j, none⟩ = false := h.1.frozen j
theorem RLoc.lt {g : Nat} {cs : Array Value} {t : TypeId} {w0 w : World} (h : RLoc g cs t w0 w) : g < w.heap.size := h.1.lt
theorem RLoc.grown {g : Nat} {cs : Array Value} {t : TypeId} {w0 w w' : World} {row : Option Nat} (h : RLoc g cs t w0 w) (hg : w.grownBy w' row) (hne : row ≠ some g) : RLoc g cs t w0 w' :=
  ⟨(hg.block g h.1.lt (fun e => hne e.symm)).trans h.1, h.2⟩
theorem rnow_alloc {w0 w : World} (h : RNow w0 w) (o : Obj) : RNow w0 (w.alloc o) := h.alloc h.size o
theorem rnow_next {w0 w w' : World} (h : RNow w0 w) (hb : Below w.heap.size w w') : RNow w0 w' := h.trans (hb.mono h.size)
theorem rnow_set {g : Nat} {cs : Array Value} {t : TypeId} {w0 w : World} (h : RNow w0 w) (hl : RLoc g cs t w0 w) (j : Nat) (v : Value) : RNow w0 (w.setCell ⟨g, j, none⟩ v) := h.setCell (p := ⟨g, j, none⟩) hl.2 v
theorem results_cell_two {P : Program} {fn : Func} {p q r : Tmp} {ty : TypeId} (h : fn.results = #[.cell p ty, .tmp q, .tmp r]) (tmps : Array Value) (w : World) (g : Nat) (t : TypeId) (cs : Array Value) (fr : Nat × Nat) (d : TypeDesc)
    (hp : tmps.getD p undef = .pointer (some ⟨g, 0, none⟩)) (hg : w.heap[g]? = some (.cells cs t fr))
    (hu : P.underlying ty = some d) (hd : (match d with | .struct _ | .array _ _ => true | _ => false) = true) (hi : (P.info? ty).map (·.size) = some cs.size) (x y : Value) (hx : tmps.getD q undef = x) (hy : tmps.getD r undef = y) :
    (results fn tmps).run P w = .ok (.tuple #[.agg cs, x, y]) w := by
  subst hx hy
  have hp' : tmps[p]?.getD undef = .pointer (some ⟨g, 0, none⟩) := by simpa using hp
  simp [results, h, hp', asAddr, run_loadVar_row w g t ty cs fr d hg hu hd hi]
theorem rtok_set {r : Nat} {a0 a1 a2 a3 a4 : Value} {w0 w : World} (h : RLoc r #[a0, a1, a2, a3, a4] 46 w0 w) (u0 u1 u2 u3 u4 : Value) :
    RLoc r #[u0, u1, u2, u3, u4] 46 w0 (((((w.setCell ⟨r, 0, none⟩ u0).setCell ⟨r, 1, none⟩ u1).setCell ⟨r, 2, none⟩ u2).setCell ⟨r, 3, none⟩ u3).setCell ⟨r, 4, none⟩ u4) :=
  ((((h.setAt 0 u0).setAt 1 u1).setAt 2 u2).setAt 3 u3).setAt 4 u4
theorem rtok_now {r : Nat} {t : TypeId} {cs : Array Value} {w0 w : World} (hn : RNow w0 w) (h : RLoc r cs t w0 w) (u0 u1 u2 u3 u4 : Value) :
    RNow w0 (((((w.setCell ⟨r, 0, none⟩ u0).setCell ⟨r, 1, none⟩ u1).setCell ⟨r, 2, none⟩ u2).setCell ⟨r, 3, none⟩ u3).setCell ⟨r, 4, none⟩ u4) :=
  rnow_set (rnow_set (rnow_set (rnow_set (rnow_set hn h 0 u0) (h.setAt 0 u0) 1 u1) ((h.setAt 0 u0).setAt 1 u1) 2 u2) (((h.setAt 0 u0).setAt 1 u1).setAt 2 u2) 3 u3) ((((h.setAt 0 u0).setAt 1 u1).setAt 2 u2).setAt 3 u3) 4 u4
theorem AtRow.rset {B g : Nat} {v : Value} {l : List Atr} {w0 w : World} (h : AtRow B v l w) {cs : Array Value} {t : TypeId} (hg : RLoc g cs t w0 w) (ht : 35 ≠ t) (j : Nat) (u : Value) : AtRow B v l (w.setCell ⟨g, j, none⟩ u) :=
  h.setOther hg.1 ht j u
theorem rtok_row {r B : Nat} {v : Value} {l : List Atr} {cs : Array Value} {t : TypeId} {w0 w : World} (ha : AtRow B v l w) (h : RLoc r cs t w0 w) (ht : 35 ≠ t) (u0 u1 u2 u3 u4 : Value) :
    AtRow B v l (((((w.setCell ⟨r, 0, none⟩ u0).setCell ⟨r, 1, none⟩ u1).setCell ⟨r, 2, none⟩ u2).setCell ⟨r, 3, none⟩ u3).setCell ⟨r, 4, none⟩ u4) :=
  ((((ha.rset h ht 0 u0).rset (h.setAt 0 u0) ht 1 u1).rset ((h.setAt 0 u0).setAt 1 u1) ht 2 u2).rset (((h.setAt 0 u0).setAt 1 u1).setAt 2 u2) ht 3 u3).rset ((((h.setAt 0 u0).setAt 1 u1).setAt 2 u2).setAt 3 u3) ht 4 u4
/-- What the reference's readers of a token tell: what is wrong; else the token, and the place behind it. -/
def RPost (R : Nat × Tk × List UInt8) (l : List UInt8) (w : World) (e : Ending) (w' : World) : Prop :=
  ∃ (cs : Array Value) (k : Int), e = .returned (.tuple #[.agg cs, .int .i64 k, .int .i64 (R.1 : Int)]) ∧ (∃ (tk : Int) (n : ByteArray) (a : Option Addr) (l c : Nat) (sf : Bool) (d : ByteArray), cs = #[.int .u8 tk, .string n, .slice a l c, .bool sf, .string d]) ∧ Below w.heap.size w w' ∧
    (R.1 = 0 → ∃ (n : Nat) (v : Value), k = (n : Int) ∧ n ≤ l.length ∧ l.drop n = R.2.2 ∧ cs = tkCells R.2.1 v ∧ AtRow w.heap.size v R.2.1.attrs w')
end Go.Proofs.YtakakaenlfilmaaGreatDoor
