/-
  The law of layer 3 about numbers: it returns true for every input. Condition: the table of replaced characters lies in the first package-level variable.
-/
import Derived.Test.YtflgiejnklbjnaaDoorDigits
import Derived.Test.YtflgiejnklbjnaaDoorLawCN
namespace Go.Proofs.YtflgiejnklbjnaaDoor
open Go.RowKit
theorem num_one (d10 d16 : List UInt8) (n : Nat) (a10 : AllDig 10 d10) (e10 : d10 ≠ []) (h10 : hor 10 d10 0 = n) (a16 : AllDig 16 d16) (e16 : d16 ≠ []) (h16 : hor 16 d16 0 = n) (n0 : n ≠ 0) (h8 : ¬ (128 ≤ n ∧ n < 160)) :
    decL (38 :: 35 :: (d10 ++ 59 :: 38 :: 35 :: 120 :: (d16 ++ [59]))) false = Lib.encodeRune (n : Int) ++ Lib.encodeRune (n : Int) := by
  rw [dec_dec d10 _ false n a10 e10 h10 n0 h8 (by show 10 ≤ digV 59; decide)]
  show Lib.encodeRune (n : Int) ++ decL (38 :: 35 :: 120 :: (d16 ++ [59])) false = _
  rw [dec_hex d16 [59] false n a16 e16 h16 n0 h8 (by show 16 ≤ digV 59; decide)]
  show Lib.encodeRune (n : Int) ++ (Lib.encodeRune (n : Int) ++ []) = _
  rw [List.append_nil]
theorem num_two (d10 d16 : List UInt8) (n : Nat) (a10 : AllDig 10 d10) (e10 : d10 ≠ []) (h10 : hor 10 d10 0 = n) (a16 : AllDig 16 d16) (e16 : d16 ≠ []) (h16 : hor 16 d16 0 = n) (n0 : n ≠ 0) (h8 : ¬ (128 ≤ n ∧ n < 160)) :
    decL (38 :: 35 :: (d10 ++ 33 :: 38 :: 35 :: 120 :: (d16 ++ 32 :: 38 :: 35 :: 120 :: (d16 ++ [])))) true = Lib.encodeRune (n : Int) ++ 33 :: (Lib.encodeRune (n : Int) ++ 32 :: Lib.encodeRune (n : Int)) := by
  rw [dec_dec d10 _ true n a10 e10 h10 n0 h8 (by show 10 ≤ digV 33; decide)]
  show Lib.encodeRune (n : Int) ++ decL (33 :: 38 :: 35 :: 120 :: (d16 ++ 32 :: 38 :: 35 :: 120 :: (d16 ++ []))) true = _
  rw [decL_none (findL_other (by decide)), dec_hex d16 _ true n a16 e16 h16 n0 h8 (by show 16 ≤ digV 32; decide)]
  show Lib.encodeRune (n : Int) ++ 33 :: (Lib.encodeRune (n : Int) ++ decL (32 :: 38 :: 35 :: 120 :: (d16 ++ [])) true) = _
  rw [decL_none (findL_other (by decide)), dec_hex d16 [] true n a16 e16 h16 n0 h8 (by decide)]
  show Lib.encodeRune (n : Int) ++ 33 :: (Lib.encodeRune (n : Int) ++ 32 :: (Lib.encodeRune (n : Int) ++ [])) = _
  rw [List.append_nil]
set_option maxHeartbeats 4000000 in
set_option maxRecDepth 100000 in
theorem charrefNumbers_w (r : Int) (hr : -2147483648 ≤ r ∧ r ≤ 2147483647) (z : Nat) (hz : z < 256) (w : World) (hT : Tab w) :
    Calls Tryd.prog 6 #[.int .i32 r, .int .u8 (z : Int)] w fun e w' => e = .returned (.bool true) ∧ Next w w' := by
  have hN0 := hid_mk (Next.of hT ((Below.refl w.heap.size w).alloc (Nat.le_refl _) (.cells #[.int .i32 r] 21)))
  have hst := hid_mk (refString_next w r hr hN0.out.2)
  clear hT
  obtain ⟨hr1, hr2⟩ := hr
  by_cases c1 : r ≤ 0
  · go_enter Tryd.func6, Tryd.ntmps6
    go_wp2_with fail
    refine hst.out.mono ?_
    rintro e w1 ⟨rfl, hn1⟩
    have H1 := hid_mk (hN0.out.trans hn1)
    clear hn1 hst hN0
    go_wp2_with fail
    refine (works_any w1 H1.out.2).mono ?_
    rintro e w2 ⟨rfl, hn2⟩
    have H2 := hid_mk (H1.out.trans hn2)
    clear hn2 H1
    go_wp2
    go_ret
    exact ⟨rfl, H2.out⟩
  by_cases c2 : 128 ≤ r ∧ r ≤ 159
  · obtain ⟨c2, c3⟩ := c2
    go_enter Tryd.func6, Tryd.ntmps6
    go_wp2_with fail
    refine hst.out.mono ?_
    rintro e w1 ⟨rfl, hn1⟩
    have H1 := hid_mk (hN0.out.trans hn1)
    clear hn1 hst hN0
    go_wp2_with fail
    refine (works_any w1 H1.out.2).mono ?_
    rintro e w2 ⟨rfl, hn2⟩
    have H2 := hid_mk (H1.out.trans hn2)
    clear hn2 H1
    go_wp2
    go_ret
    exact ⟨rfl, H2.out⟩
  obtain ⟨n, rfl⟩ : ∃ n : Nat, r = (n : Int) := ⟨r.toNat, by omega⟩
  have hd10 := hid_mk (fun w => (digits_any n 10 z (by omega) (.inl rfl) hz w : Calls Tryd.prog 17 #[.int .u32 (n : Int), .int .u32 10, .int .u8 (z : Int)] w (DigPost 10 n w)))
  have hd16 := hid_mk (fun w => (digits_any n 16 z (by omega) (.inr rfl) hz w : Calls Tryd.prog 17 #[.int .u32 (n : Int), .int .u32 16, .int .u8 (z : Int)] w (DigPost 16 n w)))
  have n0 : n ≠ 0 := by omega
  have h8 : ¬ (128 ≤ n ∧ n < 160) := by omega
  have NN := hid_mk (And.intro n0 h8)
  have hn0 : (0 : Int) ≤ (n : Int) := by omega
  have k1 : ¬ (n : Int) ≤ 0 := by omega
  have hsplit : (n : Int) < 128 ∨ (128 ≤ (n : Int) ∧ 159 < (n : Int)) := by omega
  have hse : (strOf (Lib.encodeRune (n : Int))).size ≤ 4 := by rw [size_strOf]; exact (enc_le _).2
  obtain ⟨W, hW⟩ : ∃ W, W = strOf (Lib.encodeRune (n : Int)) := ⟨_, rfl⟩
  rw [← hW] at hst hse
  have HW := hid_mk hW
  clear n0 h8 c1 c2 hW hr1
  rcases hsplit with k2 | ⟨k2, k3⟩
  all_goals
    go_enter Tryd.func6, Tryd.ntmps6
    go_wp2_with fail
    refine hst.out.mono ?_
    rintro e w1 ⟨rfl, hn1⟩
    have H1 := hid_mk (hN0.out.trans hn1)
    clear hn1 hst hN0
    go_wp2_with fail
    refine (hd10.out w1).mono ?_
    rintro e w2 ⟨d10, rfl, a10, e10, h10, l10, rfl⟩
    have hs10 := size_strOf d10
    go_wp2_with fail
    refine (hd16.out w1).mono ?_
    rintro e w2 ⟨d16, rfl, a16, e16, h16, l16, rfl⟩
    have hs16 := size_strOf d16
    obtain ⟨X, hX⟩ : ∃ X, X = (⟨#[38, 35]⟩ : ByteArray) ++ strOf d10 ++ ⟨#[59]⟩ ++ (⟨#[38, 35, 120]⟩ ++ strOf d16) ++ ⟨#[59]⟩ := ⟨_, rfl⟩
    obtain ⟨Y, hY⟩ : ∃ Y, Y = (⟨#[38, 35]⟩ : ByteArray) ++ strOf d10 ++ ⟨#[33]⟩ ++ (⟨#[38, 35, 120]⟩ ++ strOf d16) ++ ⟨#[32]⟩ ++ (⟨#[38, 35, 120]⟩ ++ strOf d16) := ⟨_, rfl⟩
    have hXl : sl X = 38 :: 35 :: (d10 ++ 59 :: 38 :: 35 :: 120 :: (d16 ++ [59])) := by
      rw [hX, sl_append, sl_append, sl_append, sl_append, sl_append, sl_strOf, sl_strOf]
      show [38, 35] ++ d10 ++ [59] ++ ([38, 35, 120] ++ d16) ++ [59] = _
      simp
    have hYl : sl Y = 38 :: 35 :: (d10 ++ 33 :: 38 :: 35 :: 120 :: (d16 ++ 32 :: 38 :: 35 :: 120 :: (d16 ++ []))) := by
      rw [hY, sl_append, sl_append, sl_append, sl_append, sl_append, sl_append, sl_strOf, sl_strOf]
      show [38, 35] ++ d10 ++ [33] ++ ([38, 35, 120] ++ d16) ++ [32] ++ ([38, 35, 120] ++ d16) = _
      simp
    have hXs : X.size ≤ 1000 := by
      rw [← len_sl, hXl]
      simp
      omega
    have hYs : Y.size ≤ 1000 := by
      rw [← len_sl, hYl]
      simp
      omega
    have hx := hid_mk (fun w hT => decode_any X (by omega) false w hT)
    rw [hXl, num_one d10 d16 n a10 e10 h10 a16 e16 h16 NN.out.1 NN.out.2, ← strOf_app, ← HW.out] at hx
    have hy := hid_mk (fun w hT => decode_any Y (by omega) true w hT)
    rw [hYl, num_two d10 d16 n a10 e10 h10 a16 e16 h16 NN.out.1 NN.out.2] at hy
    have hyj : strOf (Lib.encodeRune (n : Int) ++ 33 :: (Lib.encodeRune (n : Int) ++ 32 :: Lib.encodeRune (n : Int))) = W ++ ⟨#[33]⟩ ++ W ++ ⟨#[32]⟩ ++ W := by
      have e1 : (⟨#[33]⟩ : ByteArray) = strOf [33] := rfl
      have e2 : (⟨#[32]⟩ : ByteArray) = strOf [32] := rfl
      rw [HW.out, e1, e2, strOf_app, strOf_app, strOf_app, strOf_app]
      congr 1
      simp
    rw [hyj] at hy
    have HX := hid_mk hX.symm
    have HY := hid_mk hY.symm
    clear hXl hYl hX hY hyj a10 e10 h10 a16 e16 h16 hd10 hd16
    generalize strOf d10 = D1 at *
    generalize strOf d16 = D2 at *
    go_wp2_with fail
    rw [HX.out]
    refine (hx.out w1 H1.out.2).mono ?_
    rintro e w2 ⟨rfl, hn2⟩
    have H2 := hid_mk (H1.out.trans hn2)
    clear hn2 hx H1
    go_wp2_with fail
    rw [HY.out]
    refine (hy.out w2 H2.out.2).mono ?_
    rintro e w3 ⟨rfl, hn3⟩
    have H3 := hid_mk (H2.out.trans hn3)
    clear hn3 hy H2
    go_wp2_with fail
    refine (works_any w3 H3.out.2).mono ?_
    rintro e w4 ⟨rfl, hn4⟩
    have H4 := hid_mk (H3.out.trans hn4)
    clear hn4 H3
    go_wp2
    go_ret
    exact ⟨rfl, H4.out⟩
theorem charrefNumbers_c (r z : Int) (w : World) (hr : (Lit.int .i32 r).wf = true) (hz : (Lit.int .u8 z).wf = true) (hT : Tab w) :
    Calls Tryd.prog 6 #[.int .i32 r, .int .u8 z] w fun e w' => e = .returned (.bool true) ∧ Next w w' := by
  have hb := bounds_u8 hz
  obtain ⟨k, rfl⟩ : ∃ k : Nat, z = (k : Int) := ⟨z.toNat, by omega⟩
  exact charrefNumbers_w r (bounds_i32 hr) k (by omega) w hT
end Go.Proofs.YtflgiejnklbjnaaDoor
