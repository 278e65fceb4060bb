/-
  The law of layer 2 about there and back: it returns true for every row of bytes and every row of characters, which stay.
-/
import Derived.Test.YtflgiejnklbjnaaNo13
namespace Go.Proofs.Ytflgiejnklbjnaa
open Go.RowKit
theorem runeVals_cast (l : List Nat) : runeVals l = (l.map fun (r : Nat) => (r : Int)).map (Value.int .i32) := by
  unfold runeVals
  rw [List.map_map]
  rfl
set_option maxHeartbeats 4000000 in
set_option maxRecDepth 100000 in
theorem utfBack_w (a : Option Addr) (cap : Nat) (bs : List UInt8) (al : Option Addr) (capl : Nat) (rs : List Int) (hr : ∀ r ∈ rs, -2147483648 ≤ r ∧ r ≤ 2147483647) (w : World) (h : HasBytes w a bs) (hl : HasRunes w al rs) :
    Calls Try.prog 3 #[.slice a bs.length cap, .slice al rs.length capl] w fun e w' => e = .returned (.bool true) ∧ (Below w.heap.size w w' ∧ True) := by
  obtain ⟨n, hn⟩ : ∃ n, n = bs.length := ⟨_, rfl⟩
  obtain ⟨m, hm⟩ : ∃ m, m = rs.length := ⟨_, rfl⟩
  by_cases hs : n ≤ 60000 ∧ m ≤ 20000
  · obtain ⟨hs1, hs2⟩ := hs
    have d1 : decide (60000 < (n : Int)) = false := by simp; omega
    have d2 : decide (60000 < n) = false := by simp; omega
    have d3 : decide (20000 < (m : Int)) = false := by simp; omega
    have d4 : decide (20000 < m) = false := by simp; omega
    have ho : decOut bs = (decT bs, 0) := by unfold decOut; rw [if_neg (by omega)]; rfl
    have H0 := hid_mk (decode_any a cap bs w (by omega) h)
    rw [ho, ← hn] at H0
    rw [← hn, ← hm]
    have HN := hid_mk hn
    have HM := hid_mk hm
    have HR := hid_mk hr
    have HH := hid_mk (And.intro h hl)
    clear ho h hl hn hm hr
    go_enter Try.func3, Try.ntmps3
    go_wp2_with fail
    refine H0.out.mono ?_
    rintro e w1 ⟨rfl, hb1⟩
    have hw := hid_mk (decT_runes bs)
    have h13 := hid_mk (decT_no13 bs)
    have hag := hid_mk (decT_again bs)
    have hln := decT_len bs
    have HH1 := hid_mk (And.intro (HH.out.2.below hb1) hb1)
    clear hb1 HH H0
    have hN2 : bs.length ≤ 60000 := HN.out ▸ hs1
    generalize decT bs = T at *
    have hTs : (strOf T).size = T.length := by show T.toArray.size = _; rw [List.size_toArray]
    have hTl := hid_mk (sl_strOf T)
    obtain ⟨N, hN⟩ : ∃ N, N = T.length := ⟨_, rfl⟩
    have hNle : N ≤ 240000 := by omega
    have HTS := hid_mk (hTs.trans hN.symm)
    have HTN := hid_mk hN
    clear hTs hN hln hN2
    go_wp2_with fail
    refine (refWell_any (strOf T) (by rw [HTS.out]; omega) _).mono ?_
    rintro e w2 ⟨rfl, hb2⟩
    rw [hTl.out, hw.out.2]
    have HH2 := hid_mk (And.intro (HH1.out.1.below hb2) (HH1.out.2.trans (hb2.mono HH1.out.2.size)))
    clear hb2 HH1
    go_wp2_with fail
    go_loop [7] (fun vi => ∃ i : Nat, i ≤ N ∧ vi = .int .i64 (i : Int)) (fun vi => N - (intOf vi).toNat)
    case atStart => exact ⟨0, by omega, rfl⟩
    case round =>
      obtain ⟨i, hi, rfl⟩ := hrel
      by_cases hin : i < N
      · have hin' : (i : Int) < ((strOf T).size : Int) := by rw [HTS.out]; omega
        have hin2 : i < (strOf T).size := by rw [HTS.out]; omega
        have hi0 : (0 : Int) ≤ (i : Int) := by omega
        have hne : ((((strOf T)[i]'hin2).toNat : Int) == 13) = false := by
          have h1 := byte_atL (strOf T) i hin2
          have h2 := h13.out i
          rw [hTl.out] at h1
          rw [← h1] at h2
          exact beq_false_of_ne (by omega)
        go_wp2
        go_round
        case rel => exact ⟨i + 1, by omega, by go_num⟩
        case measure => simp [intOf]; omega
      · have hin' : ¬ (i : Int) < ((strOf T).size : Int) := by rw [HTS.out]; omega
        have hin2 : ¬ i < (strOf T).size := by rw [HTS.out]; omega
        by_cases h65 : N ≤ 65536
        · have e1 : decide (((strOf T).size : Int) ≤ 65536) = true := by rw [HTS.out]; simp; omega
          have e2 : decide ((strOf T).size ≤ 65536) = true := by rw [HTS.out]; simp; omega
          have hcv := Lib.run_convert_string_bytes (P := Try.prog) w2 9 22 5 (strOf T) Try.underlying9 Try.underlying22 Try.underlying5
          have hB1 := Lib.bytesWorld_below w2 5 (strOf T)
          have HB := hid_mk (And.intro (has_world w2 T) hB1)
          generalize grownCap w2 (strOf T).size 0 5 = gc at hcv
          generalize Lib.bytesWorld w2 5 (strOf T) = w3 at *
          have HB2 := hid_mk (And.intro (HH2.out.1.below HB.out.2) (HH2.out.2.trans (HB.out.2.mono HH2.out.2.size)))
          clear hB1
          have ho : decOut T = (T, 0) := by
            unfold decOut
            rw [if_neg (by rw [← HTN.out]; omega)]
            have := hag.out
            unfold decT at this
            rw [this]
          have H0 := hid_mk (decode_any (some ⟨w2.heap.size, 0, none⟩) gc T w3 (by rw [← HTN.out]; omega) HB.out.1)
          rw [ho] at H0
          rw [show (strOf T).size = T.length from HTS.out.trans HTN.out] at hcv
          clear ho HB
          go_wp2_with fail
          refine H0.out.mono ?_
          rintro e w4 ⟨rfl, hb4⟩
          have HH3 := hid_mk (And.intro (HB2.out.1.below hb4) (HB2.out.2.trans (hb4.mono HB2.out.2.size)))
          clear hb4 H0 hcv HB2
          clear hin hi hin' hin2 e1 e2
          go_wp2_with fail
          refine (runes_any (strOf T) (by rw [HTS.out]; omega) _).mono ?_
          rintro e w5 ⟨v, rfl, hown, hb5⟩
          rw [hTl.out] at hown
          have hov := runeVals_cast (runesL T) ▸ hown
          obtain ⟨a5, c5, rfl, hr5⟩ := own_ints hov
          have henc : encL ((runesL T).map fun (r : Nat) => (r : Int)) = T := encL_runes T.length T (Nat.le_refl _) hw.out.2
          have HS := hid_mk (string_any a5 c5 _ w5 hr5)
          rw [henc, List.length_map] at HS
          have HH4 := hid_mk (And.intro (HH3.out.1.below hb5) (HH3.out.2.trans (hb5.mono HH3.out.2.size)))
          clear hown hov hr5 henc hb5 HH3
          go_wp2_with fail
          refine HS.out.mono ?_
          rintro e w6 ⟨rfl, hw6⟩
          have hw6 := hw6.symm
          subst hw6
          clear HS
          have HL := hid_mk (string_any al capl rs w5 HH4.out.1)
          rw [← HM.out] at HL
          go_wp2_with fail
          refine HL.out.mono ?_
          rintro e w6 ⟨rfl, hw6⟩
          have hw6 := hw6.symm
          subst hw6
          clear HL
          have hel := encL_len rs
          have hes : (strOf (encL rs)).size = (encL rs).length := by show (encL rs).toArray.size = _; rw [List.size_toArray]
          have HE := hid_mk (And.intro (sl_strOf (encL rs)) (runes_encL rs).1)
          rw [← HM.out] at hel
          have hes2 : (strOf (encL rs)).size ≤ 80000 := by omega
          clear hel hes
          generalize strOf (encL rs) = E at *
          go_wp2_with fail
          refine (runes_any E (by omega) _).mono ?_
          rintro e w6 ⟨v, rfl, hown, hb6⟩
          rw [HE.out.1, HE.out.2] at hown
          rw [List.length_map, ← HM.out, runeVals_cast] at hown
          obtain ⟨a6, c6, rfl, hr6⟩ := own_ints hown
          have HH5 := hid_mk (And.intro (HH4.out.1.below hb6) (And.intro hr6 (HH4.out.2.trans (hb6.mono HH4.out.2.size))))
          clear hown hb6 hr6 HH4 HE hes2
          go_wp2_with fail
          go_loopw [11] (fun vi wr => ∃ i : Nat, i ≤ m ∧ vi = .int .i64 (i : Int) ∧ Hid (HasRunes wr al rs ∧ HasRunes wr a6 ((rs.map fixR).map fun (r : Nat) => (r : Int)) ∧ Below w.heap.size w wr)) (fun vi _ => m - (intOf vi).toNat)
          case atStart => exact ⟨0, by omega, rfl, HH5⟩
          case round =>
            obtain ⟨i, hi, rfl, HW⟩ := hrel
            by_cases hin : i < m
            · have hin' : (i : Int) < (m : Int) := by omega
              have hi0 : (0 : Int) ≤ (i : Int) := by omega
              have hlen : i < rs.length := by rw [← HM.out]; exact hin
              rcases HW.out.1 with ⟨_, h0⟩ | ⟨x, rfl, _, hcx⟩
              · rw [h0] at hlen
                exact absurd hlen (by simp)
              rcases HW.out.2.1 with ⟨_, h0⟩ | ⟨y, rfl, _, hcy⟩
              · have := congrArg List.length h0
                rw [List.length_map, List.length_map, List.length_nil] at this
                omega
              have e1 := hcx i hlen
              have e2 := hcy i (by rw [List.length_map, List.length_map]; exact hlen)
              have e3 : ((rs.map fixR).map fun (r : Nat) => (r : Int)).getD i 0 = ((fixR (rs.getD i 0) : Nat) : Int) := by
                simp [List.getD, hlen]
              rw [e3] at e2
              have hrb := HR.out (rs.getD i 0) (by simp [List.getD, hlen])
              clear hcx hcy hlen e3
              generalize rs.getD i 0 = r at e1 e2 hrb
              obtain ⟨hrb1, hrb2⟩ := hrb
              by_cases q1 : r < 0
              · rw [show fixR r = 65533 from if_pos (.inl q1)] at e2
                clear HH5
                go_wp2
                refine ⟨⟨i + 1, by omega, by first | rfl | go_num, HW⟩, ?_⟩
                simp [intOf]
                omega
              by_cases q2 : 1114111 < r
              · rw [show fixR r = 65533 from if_pos (.inr (.inr q2))] at e2
                clear HH5
                go_wp2
                refine ⟨⟨i + 1, by omega, by first | rfl | go_num, HW⟩, ?_⟩
                simp [intOf]
                omega
              by_cases q3 : 55296 ≤ r ∧ r ≤ 57343
              · rw [show fixR r = 65533 from if_pos (.inr (.inl q3))] at e2
                obtain ⟨q3, q4⟩ := q3
                clear HH5
                go_wp2
                refine ⟨⟨i + 1, by omega, by first | rfl | go_num, HW⟩, ?_⟩
                simp [intOf]
                omega
              have hf : ((fixR r : Nat) : Int) = r := by
                unfold fixR
                rw [if_neg (by omega)]
                omega
              rw [hf] at e2
              clear HH5 hf
              by_cases q5 : 55296 ≤ r
              · have q6 : 57343 < r := by omega
                clear q3
                go_wp2
                refine ⟨⟨i + 1, by omega, by first | rfl | go_num, HW⟩, ?_⟩
                simp [intOf]
                omega
              · clear q3
                go_wp2
                refine ⟨⟨i + 1, by omega, by first | rfl | go_num, HW⟩, ?_⟩
                simp [intOf]
                omega
            · have hin' : ¬ (i : Int) < (m : Int) := by omega
              have HB2 := hid_mk HW.out.2.2
              clear HW HH5
              go_wp2_with fail
              refine (works_any _).mono ?_
              rintro e w7 ⟨rfl, hb⟩
              have HB3 := hid_mk (HB2.out.trans (hb.mono HB2.out.size))
              clear hb
              go_wp2
              go_ret
              exact ⟨rfl, HB3.out, trivial⟩
        · have e1 : decide (((strOf T).size : Int) ≤ 65536) = false := by rw [HTS.out]; simp; omega
          have e2 : decide ((strOf T).size ≤ 65536) = false := by rw [HTS.out]; simp; omega
          have HH3 := hid_mk HH2.out
          clear HH2
          go_wp2_with fail
          clear hin hi hin' hin2 e1 e2
          refine (runes_any (strOf T) (by rw [HTS.out]; omega) _).mono ?_
          rintro e w5 ⟨v, rfl, hown, hb5⟩
          rw [hTl.out] at hown
          have hov := runeVals_cast (runesL T) ▸ hown
          obtain ⟨a5, c5, rfl, hr5⟩ := own_ints hov
          have henc : encL ((runesL T).map fun (r : Nat) => (r : Int)) = T := encL_runes T.length T (Nat.le_refl _) hw.out.2
          have HS := hid_mk (string_any a5 c5 _ w5 hr5)
          rw [henc, List.length_map] at HS
          have HH4 := hid_mk (And.intro (HH3.out.1.below hb5) (HH3.out.2.trans (hb5.mono HH3.out.2.size)))
          clear hown hov hr5 henc hb5 HH3
          go_wp2_with fail
          refine HS.out.mono ?_
          rintro e w6 ⟨rfl, hw6⟩
          have hw6 := hw6.symm
          subst hw6
          clear HS
          have HL := hid_mk (string_any al capl rs w5 HH4.out.1)
          rw [← HM.out] at HL
          go_wp2_with fail
          refine HL.out.mono ?_
          rintro e w6 ⟨rfl, hw6⟩
          have hw6 := hw6.symm
          subst hw6
          clear HL
          have hel := encL_len rs
          have hes : (strOf (encL rs)).size = (encL rs).length := by show (encL rs).toArray.size = _; rw [List.size_toArray]
          have HE := hid_mk (And.intro (sl_strOf (encL rs)) (runes_encL rs).1)
          rw [← HM.out] at hel
          have hes2 : (strOf (encL rs)).size ≤ 80000 := by omega
          clear hel hes
          generalize strOf (encL rs) = E at *
          go_wp2_with fail
          refine (runes_any E (by omega) _).mono ?_
          rintro e w6 ⟨v, rfl, hown, hb6⟩
          rw [HE.out.1, HE.out.2] at hown
          rw [List.length_map, ← HM.out, runeVals_cast] at hown
          obtain ⟨a6, c6, rfl, hr6⟩ := own_ints hown
          have HH5 := hid_mk (And.intro (HH4.out.1.below hb6) (And.intro hr6 (HH4.out.2.trans (hb6.mono HH4.out.2.size))))
          clear hown hb6 hr6 HH4 HE hes2
          go_wp2_with fail
          go_loopw [11] (fun vi wr => ∃ i : Nat, i ≤ m ∧ vi = .int .i64 (i : Int) ∧ Hid (HasRunes wr al rs ∧ HasRunes wr a6 ((rs.map fixR).map fun (r : Nat) => (r : Int)) ∧ Below w.heap.size w wr)) (fun vi _ => m - (intOf vi).toNat)
          case atStart => exact ⟨0, by omega, rfl, HH5⟩
          case round =>
            obtain ⟨i, hi, rfl, HW⟩ := hrel
            by_cases hin : i < m
            · have hin' : (i : Int) < (m : Int) := by omega
              have hi0 : (0 : Int) ≤ (i : Int) := by omega
              have hlen : i < rs.length := by rw [← HM.out]; exact hin
              rcases HW.out.1 with ⟨_, h0⟩ | ⟨x, rfl, _, hcx⟩
              · rw [h0] at hlen
                exact absurd hlen (by simp)
              rcases HW.out.2.1 with ⟨_, h0⟩ | ⟨y, rfl, _, hcy⟩
              · have := congrArg List.length h0
                rw [List.length_map, List.length_map, List.length_nil] at this
                omega
              have e1 := hcx i hlen
              have e2 := hcy i (by rw [List.length_map, List.length_map]; exact hlen)
              have e3 : ((rs.map fixR).map fun (r : Nat) => (r : Int)).getD i 0 = ((fixR (rs.getD i 0) : Nat) : Int) := by
                simp [List.getD, hlen]
              rw [e3] at e2
              have hrb := HR.out (rs.getD i 0) (by simp [List.getD, hlen])
              clear hcx hcy hlen e3
              generalize rs.getD i 0 = r at e1 e2 hrb
              obtain ⟨hrb1, hrb2⟩ := hrb
              by_cases q1 : r < 0
              · rw [show fixR r = 65533 from if_pos (.inl q1)] at e2
                clear HH5
                go_wp2
                refine ⟨⟨i + 1, by omega, by first | rfl | go_num, HW⟩, ?_⟩
                simp [intOf]
                omega
              by_cases q2 : 1114111 < r
              · rw [show fixR r = 65533 from if_pos (.inr (.inr q2))] at e2
                clear HH5
                go_wp2
                refine ⟨⟨i + 1, by omega, by first | rfl | go_num, HW⟩, ?_⟩
                simp [intOf]
                omega
              by_cases q3 : 55296 ≤ r ∧ r ≤ 57343
              · rw [show fixR r = 65533 from if_pos (.inr (.inl q3))] at e2
                obtain ⟨q3, q4⟩ := q3
                clear HH5
                go_wp2
                refine ⟨⟨i + 1, by omega, by first | rfl | go_num, HW⟩, ?_⟩
                simp [intOf]
                omega
              have hf : ((fixR r : Nat) : Int) = r := by
                unfold fixR
                rw [if_neg (by omega)]
                omega
              rw [hf] at e2
              clear HH5 hf
              by_cases q5 : 55296 ≤ r
              · have q6 : 57343 < r := by omega
                clear q3
                go_wp2
                refine ⟨⟨i + 1, by omega, by first | rfl | go_num, HW⟩, ?_⟩
                simp [intOf]
                omega
              · clear q3
                go_wp2
                refine ⟨⟨i + 1, by omega, by first | rfl | go_num, HW⟩, ?_⟩
                simp [intOf]
                omega
            · have hin' : ¬ (i : Int) < (m : Int) := by omega
              have HB2 := hid_mk HW.out.2.2
              clear HW HH5
              go_wp2_with fail
              refine (works_any _).mono ?_
              rintro e w7 ⟨rfl, hb⟩
              have HB3 := hid_mk (HB2.out.trans (hb.mono HB2.out.size))
              clear hb
              go_wp2
              go_ret
              exact ⟨rfl, HB3.out, trivial⟩
  · by_cases h1 : 60000 < n
    · have d1 : decide (60000 < (n : Int)) = true := by simp; omega
      have d2 : decide (60000 < n) = true := by simp; omega
      rw [← hn, ← hm]
      clear hn hm hs
      go_enter Try.func3, Try.ntmps3
      go_wp2_with fail
      refine (works_any _).mono ?_
      rintro e w1 ⟨rfl, hb⟩
      go_wp2
      go_ret
      exact ⟨rfl, hb, trivial⟩
    · have d1 : decide (60000 < (n : Int)) = false := by simp; omega
      have d2 : decide (60000 < n) = false := by simp; omega
      have d3 : decide (20000 < (m : Int)) = true := by simp; omega
      have d4 : decide (20000 < m) = true := by simp; omega
      rw [← hn, ← hm]
      clear hn hm hs
      go_enter Try.func3, Try.ntmps3
      go_wp2_with fail
      refine (works_any _).mono ?_
      rintro e w1 ⟨rfl, hb⟩
      go_wp2
      go_ret
      exact ⟨rfl, hb, trivial⟩
theorem utfBack_c (a : Option Addr) (len cap : Nat) (z : List Int) (al : Option Addr) (lenl capl : Nat) (zl : List Int) (w : World) (h : IsRow .u8 w a len cap z) (hl : IsRow .i32 w al lenl capl zl) :
    Calls Try.prog 3 #[.slice a len cap, .slice al lenl capl] w fun e w' => e = .returned (.bool true) ∧ (Below w.heap.size w w' ∧ True) := by
  obtain ⟨bs, rfl, hh⟩ := row_bytes h
  obtain ⟨rs, rfl, hh2, hr⟩ := row_runes hl
  exact utfBack_w a cap bs al capl rs hr w hh hh2
end Go.Proofs.Ytflgiejnklbjnaa
