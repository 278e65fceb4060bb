/-
  References by number, of the program: digit, sumDigits, numbered, findNumber. Condition: the table of replaced characters lies in the first package-level variable.
-/
import Derived.Test.YtnooofnlbfhopaaDoorPlain
namespace Go.Proofs.YtnooofnlbfhopaaDoor
open Go.RowKit
set_option maxRecDepth 100000 in
set_option maxHeartbeats 1000000 in
theorem digit_any (c : Nat) (hc : c < 256) (w : World) :
    Calls Tryd.prog 62 #[.int .u8 (c : Int)] w fun e w' => e = .returned (.int .i32 (digV c : Int)) ∧ w = w' := by
  have h0 : (0 : Int) ≤ (c : Int) := by omega
  have hc2 : (c : Int) < 256 := by omega
  have hcase : (48 ≤ c ∧ c ≤ 57) ∨ (97 ≤ c ∧ c ≤ 102) ∨ (65 ≤ c ∧ c ≤ 70) ∨ (¬ (48 ≤ c ∧ c ≤ 57) ∧ ¬ (97 ≤ c ∧ c ≤ 102) ∧ ¬ (65 ≤ c ∧ c ≤ 70)) := by omega
  rcases hcase with h | h | h | h
  · have hv : Hid (((digV c : Nat) : Int) = (c : Int) - 48) := hid_mk (by unfold digV; rw [if_pos h]; omega)
    obtain ⟨a1, a2⟩ := h
    go_enter Tryd.func62, Tryd.ntmps62
    go_wp2
    all_goals
      go_ret
      rw [hv.out]
      exact ⟨rfl, rfl⟩
  · have hv : Hid (((digV c : Nat) : Int) = (c : Int) - 97 + 10) := hid_mk (by unfold digV; rw [if_neg (by omega), if_pos h]; omega)
    obtain ⟨a1, a2⟩ := h
    go_enter Tryd.func62, Tryd.ntmps62
    go_wp2
    all_goals
      go_ret
      rw [hv.out]
      exact ⟨rfl, rfl⟩
  · have hv : Hid (((digV c : Nat) : Int) = (c : Int) - 65 + 10) := hid_mk (by unfold digV; rw [if_neg (by omega), if_neg (by omega), if_pos h]; omega)
    obtain ⟨a1, a2⟩ := h
    go_enter Tryd.func62, Tryd.ntmps62
    go_wp2
    all_goals
      go_ret
      rw [hv.out]
      exact ⟨rfl, rfl⟩
  · have hv : Hid (((digV c : Nat) : Int) = 16) := hid_mk (by unfold digV; rw [if_neg h.1, if_neg h.2.1, if_neg h.2.2]; rfl)
    go_enter Tryd.func62, Tryd.ntmps62
    go_wp2
    all_goals first
      | (exfalso; omega)
      | (go_ret
         rw [hv.out]
         exact ⟨rfl, rfl⟩)
theorem digV_le (c : Nat) : digV c ≤ 16 := by
  unfold digV
  (repeat' split) <;> omega
theorem sumD_step (b : Nat) (l : List UInt8) (k n : Nat) (h : k < l.length) : sumD b (l.drop k) n = if digV (atL l k) < b then ((sumD b (l.drop (k + 1)) (min (n * b + digV (atL l k)) 1114112)).1, (sumD b (l.drop (k + 1)) (min (n * b + digV (atL l k)) 1114112)).2 + 1) else (n, 0) := by
  rw [List.drop_eq_getElem_cons h]
  have e : atL l k = l[k].toNat := by unfold atL; rw [List.getElem?_eq_getElem h]; rfl
  rw [e]
  rfl
set_option maxHeartbeats 2000000 in
theorem sumDigits_any (s : ByteArray) (hs : s.size ≤ 9223372036854775806) (b : Nat) (hb : b = 10 ∨ b = 16) (w : World) :
    Calls Tryd.prog 46 #[.string s, .int .i32 (b : Int)] w fun e w' => e = .returned (.tuple #[.int .i32 ((sumD b (sl s) 0).1 : Int), .int .i64 ((sumD b (sl s) 0).2 : Int)]) ∧ w = w' := by
  have hb2 : b ≤ 16 := by omega
  have hb3 : (b : Int) ≤ 16 := by omega
  have hb4 : (0 : Int) ≤ (b : Int) := by omega
  clear hb
  obtain ⟨R, hR⟩ : ∃ R, R = sumD b (sl s) 0 := ⟨_, rfl⟩
  rw [← hR]
  have HR := hid_mk hR
  clear hR
  go_enter Tryd.func46, Tryd.ntmps46
  go_wp2_with fail
  go_loop [6, 11] (fun vn vi => ∃ i n : Nat, i ≤ s.size ∧ n ≤ 1114112 ∧ vi = .int .i64 (i : Int) ∧ vn = .int .i32 (n : Int) ∧ Hid (R.1 = (sumD b ((sl s).drop i) n).1 ∧ R.2 = (sumD b ((sl s).drop i) n).2 + i)) (fun _ vi => s.size - (intOf vi).toNat)
  case atStart => exact ⟨0, 0, by omega, by omega, rfl, rfl, hid_mk (by rw [HR.out]; exact ⟨rfl, rfl⟩)⟩
  case round =>
    obtain ⟨i, n, hi, hn, rfl, rfl, hr⟩ := hrel
    by_cases hin : i < s.size
    · have hin' : (i : Int) < (s.size : Int) := by omega
      have hi0 : (0 : Int) ≤ (i : Int) := by omega
      have hst := sumD_step b (sl s) i n (by rw [len_sl]; exact hin)
      have hby := byte_atL s i hin
      rw [← hby] at hst
      have hx := byte_lt (s[i]'hin)
      generalize hxx : (s[i]'hin).toNat = x at *
      have hd := digV_le x
      by_cases hlt : digV x < b
      · rw [if_pos hlt] at hst
        have hst := hid_mk hst
        have hlt' : (digV x : Int) < (b : Int) := by omega
        clear hby
        have hm1 : n * b ≤ 17825792 := Nat.le_trans (Nat.mul_le_mul hn hb2) (by decide)
        have hm2 : (n : Int) * (b : Int) ≤ 17825792 := by rw [← Int.natCast_mul]; omega
        have hm3 : (0 : Int) ≤ (n : Int) * (b : Int) := by rw [← Int.natCast_mul]; omega
        go_wp2_with fail
        refine (digit_any x hx w).mono ?_
        rintro e w' ⟨rfl, rfl⟩
        generalize digV x = d at *
        have hmin : Hid ((if (1114112 : Int) < (n : Int) * (b : Int) + (d : Int) then (1114112 : Int) else (n : Int) * (b : Int) + (d : Int)) = ((min (n * b + d) 1114112 : Nat) : Int)) := hid_mk (by
          rw [← Int.natCast_mul]
          split <;> omega)
        go_wp2
        refine ⟨⟨i + 1, min (n * b + d) 1114112, by omega, Nat.min_le_right .., by go_num, by rw [hmin.out], hid_mk ?_⟩, ?_⟩
        · have h1 := hr.out
          rw [hst.out] at h1
          exact ⟨h1.1, by rw [h1.2]; simp only; omega⟩
        · simp [intOf]
          omega
      · rw [if_neg hlt] at hst
        have hst' := hid_mk hst
        have hlt' : ¬ (digV x : Int) < (b : Int) := by omega
        have hlt2 : (b : Int) ≤ (digV x : Int) := by omega
        clear hby
        go_wp2_with fail
        refine (digit_any x hx w).mono ?_
        rintro e w' ⟨rfl, rfl⟩
        generalize digV x = d at *
        clear hst hlt
        have h1 := hr.out
        rw [hst'.out] at h1
        have HV := hid_mk (show (R.1 : Int) = (n : Int) ∧ (R.2 : Int) = (i : Int) from ⟨by rw [h1.1], by rw [h1.2]; simp⟩)
        clear h1
        go_wp2
        go_ret2
        rw [HV.out.1, HV.out.2]
        exact ⟨rfl, rfl⟩
    · obtain rfl : i = s.size := by omega
      have h1 := hr.out
      rw [List.drop_eq_nil_of_le (by rw [len_sl]; omega)] at h1
      have HV := hid_mk (show (R.1 : Int) = (n : Int) ∧ (R.2 : Int) = (s.size : Int) from ⟨by rw [h1.1]; rfl, by rw [h1.2]; simp [sumD]⟩)
      clear h1 hr
      have hin' : ¬ (s.size : Int) < (s.size : Int) := by omega
      go_wp2
      go_ret2
      rw [HV.out.1, HV.out.2]
      exact ⟨rfl, rfl⟩
/-- The table of replaced characters lies in its package-level variable; the search's bound is some number. -/
def replCells : Array Value := (replT.map fun (r : Nat) => Value.int .i32 (r : Int)).toArray
def Tab (w : World) : Prop := (∃ (T : TypeId) (fr : Nat × Nat), w.heap[1]? = some (.cells replCells T fr)) ∧ ∃ m : Int, w.cell? ⟨0, 0, none⟩ = some (.int .i64 m)
theorem tab_pos {w : World} (h : Tab w) : 1 < w.heap.size := by
  obtain ⟨⟨T, fr, h⟩, _⟩ := h
  exact (Array.getElem?_eq_some_iff.1 h).1
theorem max_lt {w : World} (h : Tab w) : 0 < w.heap.size := by
  obtain ⟨_, m, h⟩ := h
  exact World.block_lt_of_cell? w _ h
theorem Tab.of_blocks {w w' : World} (h : Tab w) (hr : w'.heap[1]? = w.heap[1]?) (hm : w'.heap[0]? = w.heap[0]?) : Tab w' := by
  obtain ⟨⟨T, fr, h1⟩, m, h2⟩ := h
  exact ⟨⟨T, fr, hr.trans h1⟩, m, (World.cell?_of_block (w := w) (a := ⟨0, 0, none⟩) hm).trans h2⟩
theorem Tab.below {w w' : World} (h : Tab w) (hb : Below w.heap.size w w') : Tab w' := h.of_blocks (hb.block _ (tab_pos h)) (hb.block _ (max_lt h))
theorem Tab.drew {w : World} (h : Tab w) : Tab w.drew := h
/-- What is grown behind a call: nothing that was there is written, and the table is there still. -/
def Next (w w' : World) : Prop := Below w.heap.size w w' ∧ Tab w'
theorem Next.trans {a b c : World} (h : Next a b) (k : Next b c) : Next a c := ⟨h.1.trans (k.1.mono h.1.size), k.2⟩
theorem Next.refl {w : World} (h : Tab w) : Next w w := ⟨Below.refl _ _, h⟩
theorem Next.of {w w' : World} (h : Tab w) (hb : Below w.heap.size w w') : Next w w' := ⟨hb, h.below hb⟩
theorem repl_cell (w : World) (h : Tab w) (k : Nat) (hk : k < 32) : w.cell? ⟨1, k, none⟩ = some (.int .i32 (replT.getD k 0 : Int)) := by
  obtain ⟨⟨T, fr, h⟩, _⟩ := h
  rw [cell_of_row w _ k _ _ _ h]
  unfold replCells
  have hl : replT.length = 32 := by decide
  simp [List.getD, hl, hk]
set_option maxHeartbeats 1000000 in
set_option maxRecDepth 100000 in
theorem numbered_any (n : Nat) (hn : n ≤ 1114112) (w : World) (hT : Tab w) :
    Calls Tryd.prog 47 #[.int .i32 (n : Int)] w fun e w' => e = .returned (.int .i32 (numC n : Int)) ∧ w = w' := by
  have h0 : (0 : Int) ≤ (n : Int) := by omega
  have hn2 : (n : Int) ≤ 1114112 := by omega
  have HT := hid_mk hT
  clear hT
  by_cases c1 : n = 0
  · subst c1
    have hv : Hid (((numC 0 : Nat) : Int) = 65533) := hid_mk (by decide)
    go_enter Tryd.func47, Tryd.ntmps47
    go_wp2
    go_ret
    rw [hv.out]
    exact ⟨rfl, rfl⟩
  have c1' : ((n : Int) == 0) = false := beq_false_of_ne (by omega)
  by_cases c2 : 55296 ≤ n ∧ n ≤ 57343
  · have hv : Hid (((numC n : Nat) : Int) = 65533) := hid_mk (by unfold numC; rw [if_pos (.inr (.inl c2))]; rfl)
    obtain ⟨a1, a2⟩ := c2
    go_enter Tryd.func47, Tryd.ntmps47
    go_wp2
    go_ret
    rw [hv.out]
    exact ⟨rfl, rfl⟩
  by_cases c3 : 1114111 < n
  · have hv : Hid (((numC n : Nat) : Int) = 65533) := hid_mk (by unfold numC; rw [if_pos (.inr (.inr c3))]; rfl)
    have a1 : 55296 ≤ n := by omega
    have a2 : ¬ n ≤ 57343 := by omega
    clear c2
    go_enter Tryd.func47, Tryd.ntmps47
    go_wp2
    go_ret
    rw [hv.out]
    exact ⟨rfl, rfl⟩
  by_cases c4 : 128 ≤ n ∧ n < 160
  · have hv : Hid (numC n = replT.getD (n - 128) 0) := hid_mk (by unfold numC; rw [if_neg (by omega), if_pos c4])
    obtain ⟨a1, a2⟩ := c4
    have hc := repl_cell w HT.out (n - 128) (by omega)
    have a3 : ¬ 55296 ≤ n := by omega
    have e1 : ((n : Int) - 128).toNat = n - 128 := by omega
    have a4 : (128 : Int) ≤ (n : Int) := by omega
    have a5 : (n : Int) < 160 := by omega
    have a6 : ¬ (55296 : Int) ≤ (n : Int) := by omega
    have a7 : ¬ (1114111 : Int) < (n : Int) := by omega
    have a8 : (n : Int) - 128 < 32 := by omega
    have a9 : (0 : Int) ≤ (n : Int) - 128 := by omega
    clear c2 c3
    generalize replT.getD (n - 128) 0 = x at *
    go_enter Tryd.func47, Tryd.ntmps47
    go_wp2
    go_ret
    rw [hv.out]
    exact ⟨rfl, rfl⟩
  · have hv : Hid (numC n = n) := hid_mk (by unfold numC; rw [if_neg (by omega), if_neg c4])
    have c3' : n ≤ 1114111 := by omega
    have hcase : n < 128 ∨ (128 ≤ n ∧ 160 ≤ n ∧ n < 55296) ∨ (128 ≤ n ∧ 160 ≤ n ∧ 55296 ≤ n ∧ 57343 < n) := by omega
    clear c2 c4 c3
    rcases hcase with a1 | ⟨a1, a2, a3⟩ | ⟨a1, a2, a3, a4⟩
    · have a5 : ¬ 55296 ≤ n := by omega
      have a6 : ¬ 128 ≤ n := by omega
      go_enter Tryd.func47, Tryd.ntmps47
      go_wp2
      go_ret
      rw [hv.out]
      exact ⟨rfl, rfl⟩
    · have a5 : ¬ 55296 ≤ n := by omega
      have a6 : ¬ n < 160 := by omega
      go_enter Tryd.func47, Tryd.ntmps47
      go_wp2
      go_ret
      rw [hv.out]
      exact ⟨rfl, rfl⟩
    · have a5 : ¬ n ≤ 57343 := by omega
      have a6 : ¬ n < 160 := by omega
      go_enter Tryd.func47, Tryd.ntmps47
      go_wp2
      go_ret
      rw [hv.out]
      exact ⟨rfl, rfl⟩
set_option maxHeartbeats 4000000 in
set_option maxRecDepth 100000 in
theorem findNumber_any (s : ByteArray) (h2 : 2 ≤ s.size) (hs : s.size ≤ 9223372036854775000) (w : World) (hT' : Tab w) :
    Calls Tryd.prog 33 #[.string s] w fun e w' => e = .returned (resV (findNum (sl s))) ∧ w = w' := by
  have hT := hid_mk hT'
  clear hT'
  obtain ⟨F, hF⟩ : ∃ F, F = findNum (sl s) := ⟨_, rfl⟩
  rw [← hF]
  have HF := hF
  clear hF
  unfold findNum baseOf fromOf at HF
  by_cases hx : atL (sl s) 2 = 120 ∨ atL (sl s) 2 = 88
  · simp only [if_pos hx] at HF
    have h3 : 2 < s.size := by
      rcases Nat.lt_or_ge 2 s.size with h | h
      · exact h
      · unfold atL at hx
        rw [List.getElem?_eq_none (by rw [len_sl]; omega)] at hx
        simp at hx
    have h3' : (2 : Int) < (s.size : Int) := by omega
    have h3'' : (3 : Int) ≤ (s.size : Int) := by omega
    have hby := byte_atL s 2 h3
    rw [← hby] at hx
    rcases hx with hx | hx
    · have hx1 : (((s[2]'h3).toNat : Int) == 120) = true := by rw [hx]; rfl
      clear hx hby
      go_enter Tryd.func33, Tryd.ntmps33
      have hsl : sl (s.extract 3 s.size) = (sl s).drop 3 := sl_extract s 3
      have hes : (s.extract 3 s.size).size ≤ 9223372036854775806 := by rw [size_extract]; omega
      have HSD := hid_mk (sumDigits_any (s.extract 3 s.size) hes 16 (by decide) w)
      rw [hsl] at HSD
      have hle := sumD_le 16 ((sl s).drop 3) 0 (by omega)
      rw [List.length_drop, len_sl] at hle
      obtain ⟨D, hD⟩ : ∃ D, D = sumD 16 ((sl s).drop 3) 0 := ⟨_, rfl⟩
      rw [← hD] at HSD hle HF
      have HD := hid_mk hD
      clear hD hsl hes
      obtain ⟨d1, d2⟩ := D
      simp only at HSD hle HF
      obtain ⟨hle1, hle2⟩ := hle
      go_wp2_with fail
      refine HSD.out.mono ?_
      rintro e w' ⟨rfl, rfl⟩
      by_cases hz : d2 = 0
      · rw [if_pos hz] at HF
        have HF' := hid_mk HF
        clear HF
        have hz' : ((d2 : Int) == 0) = true := by rw [hz]; rfl
        clear hz
        go_wp2
        go_ret3
        rw [HF'.out]
        exact ⟨rfl, rfl⟩
      · rw [if_neg hz] at HF
        have hz' : ((d2 : Int) == 0) = false := beq_false_of_ne (by omega)
        by_cases hend : 3 + d2 < s.size
        · have hend' : (3 : Int) + (d2 : Int) < (s.size : Int) := by omega
          have htn : ((3 : Int) + (d2 : Int)).toNat = 3 + d2 := by omega
          have hby := byte_atL s (3 + d2) hend
          rw [← hby] at HF
          by_cases h59 : (s[3 + d2]'hend).toNat = 59
          · rw [if_pos h59] at HF
            have HF' := hid_mk HF
            have h59' : (((s[3 + d2]'hend).toNat : Int) == 59) = true := by rw [h59]; rfl
            clear h59 hby HF
            go_wp2_with fail
            refine (numbered_any d1 hle1 w hT.out).mono ?_
            rintro e w' ⟨rfl, rfl⟩
            generalize numC d1 = x at *
            go_wp2
            go_ret3
            rw [HF'.out]
            exact ⟨by simp [resV], rfl⟩
          · rw [if_neg h59] at HF
            have HF' := hid_mk HF
            have h59' : (((s[3 + d2]'hend).toNat : Int) == 59) = false := beq_false_of_ne (by omega)
            clear h59 hby HF
            go_wp2_with fail
            refine (numbered_any d1 hle1 w hT.out).mono ?_
            rintro e w' ⟨rfl, rfl⟩
            generalize numC d1 = x at *
            go_wp2
            go_ret3
            rw [HF'.out]
            exact ⟨by simp [resV], rfl⟩
        · have hend' : ¬ (3 : Int) + (d2 : Int) < (s.size : Int) := by omega
          have h59 : ¬ atL (sl s) (3 + d2) = 59 := by
            unfold atL
            rw [List.getElem?_eq_none (by rw [len_sl]; omega)]
            decide
          rw [if_neg h59] at HF
          have HF' := hid_mk HF
          clear HF h59
          go_wp2_with fail
          refine (numbered_any d1 hle1 w hT.out).mono ?_
          rintro e w' ⟨rfl, rfl⟩
          generalize numC d1 = x at *
          go_wp2
          go_ret3
          rw [HF'.out]
          exact ⟨by simp [resV], rfl⟩
    · have hx1 : (((s[2]'h3).toNat : Int) == 120) = false := by rw [hx]; rfl
      have hx2 : (((s[2]'h3).toNat : Int) == 88) = true := by rw [hx]; rfl
      clear hx hby
      go_enter Tryd.func33, Tryd.ntmps33
      have hsl : sl (s.extract 3 s.size) = (sl s).drop 3 := sl_extract s 3
      have hes : (s.extract 3 s.size).size ≤ 9223372036854775806 := by rw [size_extract]; omega
      have HSD := hid_mk (sumDigits_any (s.extract 3 s.size) hes 16 (by decide) w)
      rw [hsl] at HSD
      have hle := sumD_le 16 ((sl s).drop 3) 0 (by omega)
      rw [List.length_drop, len_sl] at hle
      obtain ⟨D, hD⟩ : ∃ D, D = sumD 16 ((sl s).drop 3) 0 := ⟨_, rfl⟩
      rw [← hD] at HSD hle HF
      have HD := hid_mk hD
      clear hD hsl hes
      obtain ⟨d1, d2⟩ := D
      simp only at HSD hle HF
      obtain ⟨hle1, hle2⟩ := hle
      go_wp2_with fail
      refine HSD.out.mono ?_
      rintro e w' ⟨rfl, rfl⟩
      by_cases hz : d2 = 0
      · rw [if_pos hz] at HF
        have HF' := hid_mk HF
        clear HF
        have hz' : ((d2 : Int) == 0) = true := by rw [hz]; rfl
        clear hz
        go_wp2
        go_ret3
        rw [HF'.out]
        exact ⟨rfl, rfl⟩
      · rw [if_neg hz] at HF
        have hz' : ((d2 : Int) == 0) = false := beq_false_of_ne (by omega)
        by_cases hend : 3 + d2 < s.size
        · have hend' : (3 : Int) + (d2 : Int) < (s.size : Int) := by omega
          have htn : ((3 : Int) + (d2 : Int)).toNat = 3 + d2 := by omega
          have hby := byte_atL s (3 + d2) hend
          rw [← hby] at HF
          by_cases h59 : (s[3 + d2]'hend).toNat = 59
          · rw [if_pos h59] at HF
            have HF' := hid_mk HF
            have h59' : (((s[3 + d2]'hend).toNat : Int) == 59) = true := by rw [h59]; rfl
            clear h59 hby HF
            go_wp2_with fail
            refine (numbered_any d1 hle1 w hT.out).mono ?_
            rintro e w' ⟨rfl, rfl⟩
            generalize numC d1 = x at *
            go_wp2
            go_ret3
            rw [HF'.out]
            exact ⟨by simp [resV], rfl⟩
          · rw [if_neg h59] at HF
            have HF' := hid_mk HF
            have h59' : (((s[3 + d2]'hend).toNat : Int) == 59) = false := beq_false_of_ne (by omega)
            clear h59 hby HF
            go_wp2_with fail
            refine (numbered_any d1 hle1 w hT.out).mono ?_
            rintro e w' ⟨rfl, rfl⟩
            generalize numC d1 = x at *
            go_wp2
            go_ret3
            rw [HF'.out]
            exact ⟨by simp [resV], rfl⟩
        · have hend' : ¬ (3 : Int) + (d2 : Int) < (s.size : Int) := by omega
          have h59 : ¬ atL (sl s) (3 + d2) = 59 := by
            unfold atL
            rw [List.getElem?_eq_none (by rw [len_sl]; omega)]
            decide
          rw [if_neg h59] at HF
          have HF' := hid_mk HF
          clear HF h59
          go_wp2_with fail
          refine (numbered_any d1 hle1 w hT.out).mono ?_
          rintro e w' ⟨rfl, rfl⟩
          generalize numC d1 = x at *
          go_wp2
          go_ret3
          rw [HF'.out]
          exact ⟨by simp [resV], rfl⟩
  · simp only [if_neg hx] at HF
    by_cases h3 : 2 < s.size
    · have h3' : (2 : Int) < (s.size : Int) := by omega
      have hby := byte_atL s 2 h3
      rw [← hby] at hx
      have hx1 : (((s[2]'h3).toNat : Int) == 120) = false := beq_false_of_ne (by omega)
      have hx2 : (((s[2]'h3).toNat : Int) == 88) = false := beq_false_of_ne (by omega)
      clear hx hby
      go_enter Tryd.func33, Tryd.ntmps33
      have hsl : sl (s.extract 2 s.size) = (sl s).drop 2 := sl_extract s 2
      have hes : (s.extract 2 s.size).size ≤ 9223372036854775806 := by rw [size_extract]; omega
      have HSD := hid_mk (sumDigits_any (s.extract 2 s.size) hes 10 (by decide) w)
      rw [hsl] at HSD
      have hle := sumD_le 10 ((sl s).drop 2) 0 (by omega)
      rw [List.length_drop, len_sl] at hle
      obtain ⟨D, hD⟩ : ∃ D, D = sumD 10 ((sl s).drop 2) 0 := ⟨_, rfl⟩
      rw [← hD] at HSD hle HF
      have HD := hid_mk hD
      clear hD hsl hes
      obtain ⟨d1, d2⟩ := D
      simp only at HSD hle HF
      obtain ⟨hle1, hle2⟩ := hle
      go_wp2_with fail
      refine HSD.out.mono ?_
      rintro e w' ⟨rfl, rfl⟩
      by_cases hz : d2 = 0
      · rw [if_pos hz] at HF
        have HF' := hid_mk HF
        clear HF
        have hz' : ((d2 : Int) == 0) = true := by rw [hz]; rfl
        clear hz
        go_wp2
        go_ret3
        rw [HF'.out]
        exact ⟨rfl, rfl⟩
      · rw [if_neg hz] at HF
        have hz' : ((d2 : Int) == 0) = false := beq_false_of_ne (by omega)
        by_cases hend : 2 + d2 < s.size
        · have hend' : (2 : Int) + (d2 : Int) < (s.size : Int) := by omega
          have htn : ((2 : Int) + (d2 : Int)).toNat = 2 + d2 := by omega
          have hby := byte_atL s (2 + d2) hend
          rw [← hby] at HF
          by_cases h59 : (s[2 + d2]'hend).toNat = 59
          · rw [if_pos h59] at HF
            have HF' := hid_mk HF
            have h59' : (((s[2 + d2]'hend).toNat : Int) == 59) = true := by rw [h59]; rfl
            clear h59 hby HF
            go_wp2_with fail
            refine (numbered_any d1 hle1 w hT.out).mono ?_
            rintro e w' ⟨rfl, rfl⟩
            generalize numC d1 = x at *
            go_wp2
            go_ret3
            rw [HF'.out]
            exact ⟨by simp [resV], rfl⟩
          · rw [if_neg h59] at HF
            have HF' := hid_mk HF
            have h59' : (((s[2 + d2]'hend).toNat : Int) == 59) = false := beq_false_of_ne (by omega)
            clear h59 hby HF
            go_wp2_with fail
            refine (numbered_any d1 hle1 w hT.out).mono ?_
            rintro e w' ⟨rfl, rfl⟩
            generalize numC d1 = x at *
            go_wp2
            go_ret3
            rw [HF'.out]
            exact ⟨by simp [resV], rfl⟩
        · have hend' : ¬ (2 : Int) + (d2 : Int) < (s.size : Int) := by omega
          have h59 : ¬ atL (sl s) (2 + d2) = 59 := by
            unfold atL
            rw [List.getElem?_eq_none (by rw [len_sl]; omega)]
            decide
          rw [if_neg h59] at HF
          have HF' := hid_mk HF
          clear HF h59
          go_wp2_with fail
          refine (numbered_any d1 hle1 w hT.out).mono ?_
          rintro e w' ⟨rfl, rfl⟩
          generalize numC d1 = x at *
          go_wp2
          go_ret3
          rw [HF'.out]
          exact ⟨by simp [resV], rfl⟩
    · have h3' : ¬ (2 : Int) < (s.size : Int) := by omega
      have h3'' : (2 : Int) ≤ (s.size : Int) := by omega
      clear hx
      go_enter Tryd.func33, Tryd.ntmps33
      have hsl : sl (s.extract 2 s.size) = (sl s).drop 2 := sl_extract s 2
      have hes : (s.extract 2 s.size).size ≤ 9223372036854775806 := by rw [size_extract]; omega
      have HSD := hid_mk (sumDigits_any (s.extract 2 s.size) hes 10 (by decide) w)
      rw [hsl] at HSD
      have hle := sumD_le 10 ((sl s).drop 2) 0 (by omega)
      rw [List.length_drop, len_sl] at hle
      obtain ⟨D, hD⟩ : ∃ D, D = sumD 10 ((sl s).drop 2) 0 := ⟨_, rfl⟩
      rw [← hD] at HSD hle HF
      have HD := hid_mk hD
      clear hD hsl hes
      obtain ⟨d1, d2⟩ := D
      simp only at HSD hle HF
      obtain ⟨hle1, hle2⟩ := hle
      go_wp2_with fail
      refine HSD.out.mono ?_
      rintro e w' ⟨rfl, rfl⟩
      by_cases hz : d2 = 0
      · rw [if_pos hz] at HF
        have HF' := hid_mk HF
        clear HF
        have hz' : ((d2 : Int) == 0) = true := by rw [hz]; rfl
        clear hz
        go_wp2
        go_ret3
        rw [HF'.out]
        exact ⟨rfl, rfl⟩
      · exact absurd (by omega) hz
end Go.Proofs.YtnooofnlbfhopaaDoor
