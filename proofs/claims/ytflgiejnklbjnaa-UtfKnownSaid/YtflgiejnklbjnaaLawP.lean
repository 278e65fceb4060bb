/-
  The law of layer 2 about a well-formed text with another one behind: it returns true for every two texts.
-/
import Derived.Test.YtflgiejnklbjnaaPieces
namespace Go.Proofs.Ytflgiejnklbjnaa
open Go.RowKit
theorem strOf_app (A B : List UInt8) : strOf A ++ strOf B = strOf (A ++ B) := by
  rw [← strOf_sl (strOf A ++ strOf B), sl_append, sl_strOf, sl_strOf]
theorem size_strOf (A : List UInt8) : (strOf A).size = A.length := by show A.toArray.size = _; rw [List.size_toArray]
/-- Bytes of a text, decoded. -/
theorem dec_text (A : List UInt8) (hA : A.length ≤ 65536) (w : World) : ∃ gc w1, (convert 9 22 (.string (strOf A))).run Try.prog w = .ok (.slice (some ⟨w.heap.size, 0, none⟩) A.length gc) w1 ∧ Below w.heap.size w w1 ∧ Calls Try.prog 7 #[.slice (some ⟨w.heap.size, 0, none⟩) A.length gc] w1 fun e w' => e = .returned (.tuple #[.string (strOf (decT A)), .int .i64 0]) ∧ Below w1.heap.size w1 w' := by
  have hcv := Lib.run_convert_string_bytes (P := Try.prog) w 9 22 5 (strOf A) Try.underlying9 Try.underlying22 Try.underlying5
  have hB1 := Lib.bytesWorld_below w 5 (strOf A)
  have ho : decOut A = (decT A, 0) := by
    unfold decOut
    rw [if_neg (by omega)]
    rfl
  have H0 := decode_any (some ⟨w.heap.size, 0, none⟩) (grownCap w (strOf A).size 0 5) A _ (by omega) (has_world w A)
  rw [ho] at H0
  rw [size_strOf] at hcv
  rw [size_strOf] at H0
  exact ⟨_, _, hcv, hB1, H0⟩
set_option maxHeartbeats 4000000 in
set_option maxRecDepth 100000 in
theorem utfPieces_w (a b : ByteArray) (w : World) :
    Calls Try.prog 4 #[.string a, .string b] w fun e w' => e = .returned (.bool true) ∧ (Below w.heap.size w w' ∧ True) := by
  obtain ⟨A, rfl⟩ : ∃ A, a = strOf A := ⟨sl a, (strOf_sl a).symm⟩
  obtain ⟨B, rfl⟩ : ∃ B, b = strOf B := ⟨sl b, (strOf_sl b).symm⟩
  by_cases h1 : 20000 < (strOf A).size
  · have d1 : decide (20000 < ((strOf A).size : Int)) = true := by simp; omega
    go_enter Try.func4, Try.ntmps4
    go_wp2_with fail
    refine (works_any _).mono ?_
    rintro e w1 ⟨rfl, hb⟩
    go_wp2
    go_ret
    exact ⟨rfl, hb, trivial⟩
  have d1 : decide (20000 < ((strOf A).size : Int)) = false := by simp; omega
  by_cases h2 : 20000 < (strOf B).size
  · have d2 : decide (20000 < ((strOf B).size : Int)) = true := by simp; omega
    go_enter Try.func4, Try.ntmps4
    go_wp2_with fail
    refine (works_any _).mono ?_
    rintro e w1 ⟨rfl, hb⟩
    go_wp2
    go_ret
    exact ⟨rfl, hb, trivial⟩
  have d2 : decide (20000 < ((strOf B).size : Int)) = false := by simp; omega
  have HW := hid_mk (fun w => refWell_any (strOf A) (by omega) w)
  rw [sl_strOf] at HW
  cases hw : wellL A with
  | false =>
    rw [hw] at HW
    clear hw
    go_enter Try.func4, Try.ntmps4
    go_wp2_with fail
    refine (HW.out _).mono ?_
    rintro e w1 ⟨rfl, hb1⟩
    have HB1 := hid_mk hb1
    clear hb1
    go_wp2_with fail
    refine (works_any _).mono ?_
    rintro e w2 ⟨rfl, hb⟩
    have HB2 := hid_mk (HB1.out.trans (hb.mono HB1.out.size))
    clear hb
    go_wp2
    go_ret
    exact ⟨rfl, HB2.out, trivial⟩
  | true =>
    rw [hw] at HW
    have HWA := hid_mk hw
    clear hw
    have hA : A.length ≤ 65536 := by rw [← size_strOf]; omega
    have hB : B.length ≤ 65536 := by rw [← size_strOf]; omega
    have hAB : A.length + B.length ≤ 65536 := by rw [← size_strOf, ← size_strOf]; omega
    have hsA : (strOf (decT A)).size ≤ 80000 := by
      have := decT_len A
      rw [size_strOf] at *
      omega
    have hsB : (strOf (decT B)).size ≤ 80000 := by
      have := decT_len B
      rw [size_strOf] at *
      omega
    by_cases hA0 : 0 < (strOf A).size
    · have hA1 : 0 < ((strOf A).size : Int) := by omega
      have hA2 : (1 : Int) ≤ ((strOf A).size : Int) := by omega
      have hA3 : (0 : Int) ≤ ((strOf A).size : Int) - 1 := by omega
      have hA4 : ((strOf A).size : Int) - 1 < ((strOf A).size : Int) := by omega
      have hA5 : (((strOf A).size : Int) - 1).toNat = (strOf A).size - 1 := by omega
      have hA6 : (strOf A).size - 1 < (strOf A).size := by omega
      by_cases h13 : ((strOf A)[(strOf A).size - 1]'hA6).toNat = 13
      · have k13 : ((((strOf A)[(strOf A).size - 1]'hA6).toNat : Int) == 13) = true := by rw [h13]; rfl
        clear h13
        go_enter Try.func4, Try.ntmps4
        go_wp2_with fail
        refine (HW.out _).mono ?_
        rintro e w1 ⟨rfl, hb1⟩
        have HB1 := hid_mk hb1
        clear hb1
        go_wp2_with fail
        refine (works_any _).mono ?_
        rintro e w2 ⟨rfl, hb⟩
        have HB2 := hid_mk (HB1.out.trans (hb.mono HB1.out.size))
        clear hb
        go_wp2
        go_ret
        exact ⟨rfl, HB2.out, trivial⟩
      · have k13 : ((((strOf A)[(strOf A).size - 1]'hA6).toNat : Int) == 13) = false := beq_false_of_ne (by omega)
        have HDA := hid_mk (decT_app A B HWA.out (fun t ht => by
          have h1 := byte_atL (strOf A) _ hA6
          rw [h1, sl_strOf, size_strOf, ht] at h13
          apply h13
          unfold atL
          simp))
        clear h13
        go_enter Try.func4, Try.ntmps4
        go_wp2_with fail
        refine (HW.out _).mono ?_
        rintro e w1 ⟨rfl, hb1⟩
        have HB1 := hid_mk hb1
        clear hb1
        obtain ⟨gc1, w2, hcv, hb2, hd1⟩ := dec_text A hA w1
        have HD := hid_mk hd1
        have HB2 := hid_mk (HB1.out.trans (hb2.mono HB1.out.size))
        clear hd1 hb2
        go_wp2_with fail
        with_reducible refine HD.out.mono ?_
        rintro e w3 ⟨rfl, hb3⟩
        have HB3 := hid_mk (HB2.out.trans (hb3.mono HB2.out.size))
        clear hb3 hcv HD HB1 HB2
        obtain ⟨gc2, w4, hcv, hb2, hd1⟩ := dec_text B hB w3
        have HD := hid_mk hd1
        have HB4 := hid_mk (HB3.out.trans (hb2.mono HB3.out.size))
        clear hd1 hb2
        go_wp2_with fail
        with_reducible refine HD.out.mono ?_
        rintro e w5 ⟨rfl, hb3⟩
        have HB5 := hid_mk (HB4.out.trans (hb3.mono HB4.out.size))
        clear hb3 hcv HD HB3 HB4
        obtain ⟨gc3, w6, hcv, hb2, hd1⟩ := dec_text (A ++ B) (by rw [List.length_append]; omega) w5
        rw [← strOf_app] at hcv
        rw [HDA.out, ← strOf_app] at hd1
        generalize (A ++ B).length = L at hcv hd1
        have HD := hid_mk hd1
        have HB6 := hid_mk (HB5.out.trans (hb2.mono HB5.out.size))
        clear hd1 hb2
        go_wp2_with fail
        with_reducible refine HD.out.mono ?_
        rintro e w7 ⟨rfl, hb3⟩
        have HB7 := hid_mk (HB6.out.trans (hb3.mono HB6.out.size))
        clear hb3 hcv HD HB5 HB6
        go_wp2_with fail
        clear HDA
        go_loop [11, 12] (fun vn vi => ∃ i c : Nat, i ≤ (strOf A).size ∧ c ≤ i ∧ vi = .int .i64 (i : Int) ∧ vn = .int .i64 (c : Int) ∧ Hid (c = cntL (A.take i))) (fun _ vi => (strOf A).size - (intOf vi).toNat)
        case atStart => exact ⟨0, 0, by omega, by omega, rfl, rfl, hid_mk rfl⟩
        case round =>
          obtain ⟨i, c, hi, hci, rfl, rfl, hc⟩ := hrel
          by_cases hin : i < (strOf A).size
          · have hin' : (i : Int) < ((strOf A).size : Int) := by omega
            have hi0 : (0 : Int) ≤ (i : Int) := by omega
            have hct := cnt_take A i (by rw [← size_strOf]; exact hin)
            have hby := byte_atL (strOf A) i hin
            rw [sl_strOf] at hby
            rw [← hby, ← hc.out] at hct
            have hx := byte_lt ((strOf A)[i]'hin)
            have hand := and192 _ hx
            clear hby
            by_cases hx2 : 128 ≤ ((strOf A)[i]'hin).toNat ∧ ((strOf A)[i]'hin).toNat ≤ 191
            · rw [if_pos hx2] at hct
              have hct := hid_mk hct
              rw [show ((((strOf A)[i]'hin).toNat / 64) * 64 : Nat) = 128 by omega] at hand
              clear hx hx2 hc
              go_wp2
              go_round
              case rel => exact ⟨i + 1, c, by omega, by omega, by go_num, rfl, hid_mk hct.out.symm⟩
              case measure => simp [intOf]; omega
            · rw [if_neg hx2] at hct
              have hct := hid_mk hct
              obtain ⟨y, hy⟩ : ∃ y, y = ((((strOf A)[i]'hin).toNat / 64) * 64 : Nat) := ⟨_, rfl⟩
              rw [← hy] at hand
              have hny : ((y : Int) == 128) = false := beq_false_of_ne (by omega)
              have hny2 : ((y : Int) != 128) = true := by simp [bne, hny]
              have hny3 : (y == 128) = false := beq_false_of_ne (by omega)
              have hny4 : (y != 128) = true := by simp [bne, hny3]
              clear hx hx2 hc hy
              go_wp2
              go_round
              case rel => exact ⟨i + 1, c + 1, by omega, by omega, by go_num, by go_num, hid_mk hct.out.symm⟩
              case measure => simp [intOf]; omega
          · have hin' : ¬ (i : Int) < ((strOf A).size : Int) := by omega
            have hcA := hc.out
            rw [List.take_of_length_le (by rw [← size_strOf]; omega), cnt_runes A HWA.out] at hcA
            have HC := hid_mk hcA
            clear hcA hc
            go_wp2_with fail
            refine (runes_any (strOf A) (by omega) _).mono ?_
            rintro e w8 ⟨v, rfl, hown, hb8⟩
            rw [sl_strOf, ← HC.out] at hown
            obtain ⟨a8, c8, rfl, _, _⟩ := own_rows hown
            have HB8 := hid_mk (HB7.out.trans (hb8.mono HB7.out.size))
            clear hown hb8 HB7 HC
            go_wp2_with fail
            refine (works_any _).mono ?_
            rintro e w9 ⟨rfl, hb⟩
            have HB9 := hid_mk (HB8.out.trans (hb.mono HB8.out.size))
            clear hb HB8
            go_wp2
            go_ret
            exact ⟨rfl, HB9.out, trivial⟩
    · have hA1 : ¬ 0 < ((strOf A).size : Int) := by omega
      have HDA := hid_mk (decT_app A B HWA.out (fun t ht => by
        have := congrArg List.length ht
        rw [List.length_append, List.length_singleton, ← size_strOf] at this
        omega))
      go_enter Try.func4, Try.ntmps4
      go_wp2_with fail
      refine (HW.out _).mono ?_
      rintro e w1 ⟨rfl, hb1⟩
      have HB1 := hid_mk hb1
      clear hb1
      obtain ⟨gc1, w2, hcv, hb2, hd1⟩ := dec_text A hA w1
      have HD := hid_mk hd1
      have HB2 := hid_mk (HB1.out.trans (hb2.mono HB1.out.size))
      clear hd1 hb2
      go_wp2_with fail
      with_reducible refine HD.out.mono ?_
      rintro e w3 ⟨rfl, hb3⟩
      have HB3 := hid_mk (HB2.out.trans (hb3.mono HB2.out.size))
      clear hb3 hcv HD HB1 HB2
      obtain ⟨gc2, w4, hcv, hb2, hd1⟩ := dec_text B hB w3
      have HD := hid_mk hd1
      have HB4 := hid_mk (HB3.out.trans (hb2.mono HB3.out.size))
      clear hd1 hb2
      go_wp2_with fail
      with_reducible refine HD.out.mono ?_
      rintro e w5 ⟨rfl, hb3⟩
      have HB5 := hid_mk (HB4.out.trans (hb3.mono HB4.out.size))
      clear hb3 hcv HD HB3 HB4
      obtain ⟨gc3, w6, hcv, hb2, hd1⟩ := dec_text (A ++ B) (by rw [List.length_append]; omega) w5
      rw [← strOf_app] at hcv
      rw [HDA.out, ← strOf_app] at hd1
      generalize (A ++ B).length = L at hcv hd1
      have HD := hid_mk hd1
      have HB6 := hid_mk (HB5.out.trans (hb2.mono HB5.out.size))
      clear hd1 hb2
      go_wp2_with fail
      with_reducible refine HD.out.mono ?_
      rintro e w7 ⟨rfl, hb3⟩
      have HB7 := hid_mk (HB6.out.trans (hb3.mono HB6.out.size))
      clear hb3 hcv HD HB5 HB6
      go_wp2_with fail
      clear HDA
      go_loop [11, 12] (fun vn vi => ∃ i c : Nat, i ≤ (strOf A).size ∧ c ≤ i ∧ vi = .int .i64 (i : Int) ∧ vn = .int .i64 (c : Int) ∧ Hid (c = cntL (A.take i))) (fun _ vi => (strOf A).size - (intOf vi).toNat)
      case atStart => exact ⟨0, 0, by omega, by omega, rfl, rfl, hid_mk rfl⟩
      case round =>
        obtain ⟨i, c, hi, hci, rfl, rfl, hc⟩ := hrel
        by_cases hin : i < (strOf A).size
        · have hin' : (i : Int) < ((strOf A).size : Int) := by omega
          have hi0 : (0 : Int) ≤ (i : Int) := by omega
          have hct := cnt_take A i (by rw [← size_strOf]; exact hin)
          have hby := byte_atL (strOf A) i hin
          rw [sl_strOf] at hby
          rw [← hby, ← hc.out] at hct
          have hx := byte_lt ((strOf A)[i]'hin)
          have hand := and192 _ hx
          clear hby
          by_cases hx2 : 128 ≤ ((strOf A)[i]'hin).toNat ∧ ((strOf A)[i]'hin).toNat ≤ 191
          · rw [if_pos hx2] at hct
            have hct := hid_mk hct
            rw [show ((((strOf A)[i]'hin).toNat / 64) * 64 : Nat) = 128 by omega] at hand
            clear hx hx2 hc
            go_wp2
            go_round
            case rel => exact ⟨i + 1, c, by omega, by omega, by go_num, rfl, hid_mk hct.out.symm⟩
            case measure => simp [intOf]; omega
          · rw [if_neg hx2] at hct
            have hct := hid_mk hct
            obtain ⟨y, hy⟩ : ∃ y, y = ((((strOf A)[i]'hin).toNat / 64) * 64 : Nat) := ⟨_, rfl⟩
            rw [← hy] at hand
            have hny : ((y : Int) == 128) = false := beq_false_of_ne (by omega)
            have hny2 : ((y : Int) != 128) = true := by simp [bne, hny]
            have hny3 : (y == 128) = false := beq_false_of_ne (by omega)
            have hny4 : (y != 128) = true := by simp [bne, hny3]
            clear hx hx2 hc hy
            go_wp2
            go_round
            case rel => exact ⟨i + 1, c + 1, by omega, by omega, by go_num, by go_num, hid_mk hct.out.symm⟩
            case measure => simp [intOf]; omega
        · have hin' : ¬ (i : Int) < ((strOf A).size : Int) := by omega
          have hcA := hc.out
          rw [List.take_of_length_le (by rw [← size_strOf]; omega), cnt_runes A HWA.out] at hcA
          have HC := hid_mk hcA
          clear hcA hc
          go_wp2_with fail
          refine (runes_any (strOf A) (by omega) _).mono ?_
          rintro e w8 ⟨v, rfl, hown, hb8⟩
          rw [sl_strOf, ← HC.out] at hown
          obtain ⟨a8, c8, rfl, _, _⟩ := own_rows hown
          have HB8 := hid_mk (HB7.out.trans (hb8.mono HB7.out.size))
          clear hown hb8 HB7 HC
          go_wp2_with fail
          refine (works_any _).mono ?_
          rintro e w9 ⟨rfl, hb⟩
          have HB9 := hid_mk (HB8.out.trans (hb.mono HB8.out.size))
          clear hb HB8
          go_wp2
          go_ret
          exact ⟨rfl, HB9.out, trivial⟩
theorem utfPieces_c (a b : ByteArray) (w : World) {c d : Prop} (_ : c) (_ : d) :
    Calls Try.prog 4 #[.string a, .string b] w fun e w' => e = .returned (.bool true) ∧ (Below w.heap.size w w' ∧ True) := utfPieces_w a b w
end Go.Proofs.Ytflgiejnklbjnaa
