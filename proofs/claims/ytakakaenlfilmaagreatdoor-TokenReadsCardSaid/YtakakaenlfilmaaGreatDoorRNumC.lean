/-
  The reference's number, digits ahead. Condition: the text's length is bounded.
-/
import Derived.Test.YtakakaenlfilmaaGreatDoorRNumH
namespace Go.Proofs.YtakakaenlfilmaaGreatDoor
open Go.RowKit
set_option maxHeartbeats 16000000 in
set_option maxRecDepth 100000 in
theorem number_dec (s : ByteArray) (hs : s.size ≤ 9223372036854775000) (w : World) (hx : ¬ (atL (sl s) 0 = 120 ∨ atL (sl s) 0 = 88)) :
    Calls Tryz.prog 76 #[.string s] w fun e w' => e = .returned (resV (numR (sl s))) ∧ Below w.heap.size w w' := by
  obtain ⟨F, hF⟩ : ∃ F, F = numR (sl s) := ⟨_, rfl⟩
  rw [← hF]
  have HF := hF
  clear hF
  unfold numR nbR nfR at HF
  have hb1 := hid_mk (begins_any s [120] w)
  have hb2 := hid_mk (begins_any s [88] w)
  rw [pfx_byte 120 _ (by decide)] at hb1
  rw [pfx_byte 88 _ (by decide)] at hb2
  simp only [show (120 : UInt8).toNat = 120 from rfl, show (88 : UInt8).toNat = 88 from rfl] at hb1 hb2
  simp only [if_neg hx] at HF
  rw [decide_eq_false (fun h => hx (.inl h))] at hb1
  rw [decide_eq_false (fun h => hx (.inr h))] at hb2
  obtain ⟨R, hR⟩ : ∃ R, R = sumD 10 ((sl s).drop 0) 0 := ⟨_, rfl⟩
  rw [← hR] at HF
  have HR := hid_mk hR
  clear hR hx
  go_enter Tryz.func76, Tryz.ntmps76
  go_wp2_with fail
  refine hb1.out.mono ?_
  rintro e w' ⟨rfl, rfl⟩
  go_wp2_with fail
  refine hb2.out.mono ?_
  rintro e w' ⟨rfl, rfl⟩
  go_wp2_with fail
  go_loop [6, 8] (fun va vn => ∃ i n : Nat, 0 ≤ i ∧ i ≤ s.size ∧ n ≤ 1114112 ∧ va = .int .i64 (i : Int) ∧ vn = .int .i32 (n : Int) ∧ Hid (R.1 = (sumD 10 ((sl s).drop i) n).1 ∧ R.2 + 0 = (sumD 10 ((sl s).drop i) n).2 + i)) (fun va _ => s.size - (intOf va).toNat)
  case atStart => exact ⟨0, 0, by omega, by omega, by omega, rfl, rfl, hid_mk (by rw [HR.out]; exact ⟨rfl, rfl⟩)⟩
  case round =>
    obtain ⟨i, n, hfi, hi, hn, rfl, rfl, hr⟩ := hrel
    have hi0 : (0 : Int) ≤ (i : Int) := by omega
    have hn0 : (0 : Int) ≤ (n : Int) := by omega
    have hn2 : (n : Int) ≤ 1114112 := by omega
    by_cases hin : i < s.size
    · have hin' : (i : Int) < (s.size : Int) := by omega
      have hst := sumD_step 10 (sl s) i n (by rw [len_sl]; exact hin)
      have hby := byte_atL s i hin
      rw [← hby] at hst
      have hx := byte_lt (s[i]'hin)
      generalize hxx : (s[i]'hin).toNat = x at *
      have hd := digV_le x
      by_cases hlt : digV x < 10
      · rw [if_pos hlt] at hst
        have hst := hid_mk hst
        have hdz := hid_mk (show digZ x = (digV x : Int) by unfold digZ; rw [if_neg (by omega)])
        have hlt' : (digV x : Int) < 10 := by omega
        have hmin : Hid ((if (1114112 : Int) < (n : Int) * 10 + (digV x : Int) then (1114112 : Int) else (n : Int) * 10 + (digV x : Int)) = ((min (n * 10 + digV x) 1114112 : Nat) : Int)) := hid_mk (by split <;> omega)
        clear hby HF
        go_wp2_with (go_at_call 94; ((with_reducible refine (refDigit_any x hx w).mono ?_); skip); rintro e w' ⟨rfl, rfl⟩; rw [hdz.out])
        refine ⟨⟨i + 1, min (n * 10 + digV x) 1114112, by omega, by omega, Nat.min_le_right .., by go_num, by rw [hmin.out], hid_mk ?_⟩, ?_⟩
        · have h1 := hr.out
          rw [hst.out] at h1
          exact ⟨h1.1, by rw [h1.2]; simp only; omega⟩
        · simp [intOf]
          omega
      · rw [if_neg hlt] at hst
        have h1 := hr.out
        rw [hst] at h1
        obtain ⟨hr1, hr2⟩ := h1
        simp only at hr1 hr2
        rw [Nat.zero_add] at hr2
        rw [hr1, show R.2 = i - 0 by omega, show 0 + (i - 0) = i by omega] at HF
        clear hst hr hr1 hr2
        have hatx : atL (sl s) i = x := hby.symm
        clear hby
        by_cases h16 : digV x = 16
        · have hdz := hid_mk (show digZ x = -1 by unfold digZ; rw [if_pos h16])
          clear h16 hlt hd
          by_cases hz : i = 0
          · rw [if_pos (by omega)] at HF
            have HF' := hid_mk HF
            have hz' : ((i : Int) == 0) = true := by rw [hz]; rfl
            clear HF hz
            go_wp2_with fail
            ((with_reducible refine (refDigit_any x hx w).mono ?_); skip)
            rintro e w' ⟨rfl, rfl⟩
            rw [hdz.out]
            go_wp2
            go_ret3
            rw [HF'.out]
            exact ⟨rfl, Below.refl _ _⟩
          · rw [if_neg (by omega)] at HF
            have hz' : ((i : Int) == 0) = false := beq_false_of_ne (by omega)
            clear hz
            by_cases h59 : x = 59
            · rw [if_pos (by rw [hatx]; exact h59)] at HF
              have h59' : ((x : Int) == 59) = true := by rw [h59]; rfl
              clear h59 hatx
              have HF' := hid_mk HF
              clear HF
              by_cases n0 : n = 0
              · have HL := hid_mk (show numC n = lkp 65533 (twoTab.drop 0) by subst n0; decide +kernel)
                have n0' : ((n : Int) == 0) = true := by rw [n0]; rfl
                clear n0
                go_wp2_with fail
                ((with_reducible refine (refDigit_any x hx w).mono ?_); skip)
                rintro e w' ⟨rfl, rfl⟩
                rw [hdz.out]
                go_wp2_with fail
                ((with_reducible refine (replaced_any _).mono ?_); skip)
                rintro e w1 ⟨rfl, rfl⟩
                have hb1 := hid_mk (show Below w.heap.size w (w.alloc (.cells twoCells 108)) ∧ ∀ j, (w.alloc (.cells twoCells 108)).cell? ⟨w.heap.size, j, none⟩ = twoCells[j]? from
                  ⟨(Below.refl _ _).alloc (Nat.le_refl _) _, fun j => cell_of_row _ _ j _ _ _ (heap_alloc_new w _)⟩)
                generalize w.alloc (.cells twoCells 108) = w1 at *
                go_wp2_with fail
                go_loop [10] (fun vk => ∃ k : Nat, k ≤ 27 ∧ vk = .int .i64 (k : Int) ∧ Hid (numC n = lkp 65533 (twoTab.drop k))) (fun vk => 27 - (intOf vk).toNat)
                case atStart => exact ⟨0, by omega, rfl, HL⟩
                case round =>
                  obtain ⟨k, hk, rfl, hl⟩ := hrel
                  clear HL
                  by_cases hlt : k < 27
                  · have hlt' : (k : Int) < 27 := by omega
                    have hk0 : (0 : Int) ≤ (k : Int) := by omega
                    have hkl : k < twoTab.length := by rw [lenTwo]; exact hlt
                    have hst := lkp_drop 65533 k hkl
                    have hkey := two_key k hkl
                    have c0 := (hb1.out.2 (k * 2)).trans (two_at k hkl).1
                    have c1 := (hb1.out.2 (k * 2 + 1)).trans (two_at k hkl).2
                    rw [← hl.out] at hst
                    generalize twoTab[k] = p at *
                    obtain ⟨pa, pb⟩ := p
                    simp only at hst hkey c0 c1
                    have hne : ((pa : Int) == 65533) = false := beq_false_of_ne (by omega)
                    rw [if_neg (by omega)] at hst
                    have hst' := hid_mk hst
                    clear hst hl
                    go_wp2
                    go_round
                    case rel => exact ⟨k + 1, by omega, by go_num, hst'⟩
                    case measure => simp [intOf]; omega
                  · obtain rfl : k = 27 := by omega
                    have hv := hid_mk (show numC n = 65533 by rw [hl.out]; rfl)
                    have hlt' : ¬ ((27 : Nat) : Int) < 27 := by omega
                    clear hl
                    go_wp2
                    go_ret3
                    rw [HF'.out, hv.out]
                    exact ⟨rfl, hb1.out.1⟩
              have n0' : ((n : Int) == 0) = false := beq_false_of_ne (by omega)
              by_cases n1 : 1114111 < n
              · have HL := hid_mk (show numC n = lkp 65533 (twoTab.drop 0) by
                  rw [List.drop_zero, lkp_out 65533 (by omega)]
                  unfold numC
                  rw [if_pos (.inr (.inr n1))])
                have n1' : (1114111 : Int) < (n : Int) := by omega
                clear n0
                go_wp2_with fail
                ((with_reducible refine (refDigit_any x hx w).mono ?_); skip)
                rintro e w' ⟨rfl, rfl⟩
                rw [hdz.out]
                go_wp2_with fail
                ((with_reducible refine (replaced_any _).mono ?_); skip)
                rintro e w1 ⟨rfl, rfl⟩
                have hb1 := hid_mk (show Below w.heap.size w (w.alloc (.cells twoCells 108)) ∧ ∀ j, (w.alloc (.cells twoCells 108)).cell? ⟨w.heap.size, j, none⟩ = twoCells[j]? from
                  ⟨(Below.refl _ _).alloc (Nat.le_refl _) _, fun j => cell_of_row _ _ j _ _ _ (heap_alloc_new w _)⟩)
                generalize w.alloc (.cells twoCells 108) = w1 at *
                go_wp2_with fail
                go_loop [10] (fun vk => ∃ k : Nat, k ≤ 27 ∧ vk = .int .i64 (k : Int) ∧ Hid (numC n = lkp 65533 (twoTab.drop k))) (fun vk => 27 - (intOf vk).toNat)
                case atStart => exact ⟨0, by omega, rfl, HL⟩
                case round =>
                  obtain ⟨k, hk, rfl, hl⟩ := hrel
                  clear HL
                  by_cases hlt : k < 27
                  · have hlt' : (k : Int) < 27 := by omega
                    have hk0 : (0 : Int) ≤ (k : Int) := by omega
                    have hkl : k < twoTab.length := by rw [lenTwo]; exact hlt
                    have hst := lkp_drop 65533 k hkl
                    have hkey := two_key k hkl
                    have c0 := (hb1.out.2 (k * 2)).trans (two_at k hkl).1
                    have c1 := (hb1.out.2 (k * 2 + 1)).trans (two_at k hkl).2
                    rw [← hl.out] at hst
                    generalize twoTab[k] = p at *
                    obtain ⟨pa, pb⟩ := p
                    simp only at hst hkey c0 c1
                    have hne : ((pa : Int) == 65533) = false := beq_false_of_ne (by omega)
                    rw [if_neg (by omega)] at hst
                    have hst' := hid_mk hst
                    clear hst hl
                    go_wp2
                    go_round
                    case rel => exact ⟨k + 1, by omega, by go_num, hst'⟩
                    case measure => simp [intOf]; omega
                  · obtain rfl : k = 27 := by omega
                    have hv := hid_mk (show numC n = 65533 by rw [hl.out]; rfl)
                    have hlt' : ¬ ((27 : Nat) : Int) < 27 := by omega
                    clear hl
                    go_wp2
                    go_ret3
                    rw [HF'.out, hv.out]
                    exact ⟨rfl, hb1.out.1⟩
              have n1' : ¬ (1114111 : Int) < (n : Int) := by omega
              by_cases n2 : 55296 ≤ n ∧ n ≤ 57343
              · have HL := hid_mk (show numC n = lkp 65533 (twoTab.drop 0) by
                  rw [List.drop_zero, lkp_out 65533 (by omega)]
                  unfold numC
                  rw [if_pos (.inr (.inl n2))])
                obtain ⟨n2, n3⟩ := n2
                have n2' : (55296 : Int) ≤ (n : Int) := by omega
                have n3' : (n : Int) ≤ 57343 := by omega
                clear n0 n1
                go_wp2_with fail
                ((with_reducible refine (refDigit_any x hx w).mono ?_); skip)
                rintro e w' ⟨rfl, rfl⟩
                rw [hdz.out]
                go_wp2_with fail
                ((with_reducible refine (replaced_any _).mono ?_); skip)
                rintro e w1 ⟨rfl, rfl⟩
                have hb1 := hid_mk (show Below w.heap.size w (w.alloc (.cells twoCells 108)) ∧ ∀ j, (w.alloc (.cells twoCells 108)).cell? ⟨w.heap.size, j, none⟩ = twoCells[j]? from
                  ⟨(Below.refl _ _).alloc (Nat.le_refl _) _, fun j => cell_of_row _ _ j _ _ _ (heap_alloc_new w _)⟩)
                generalize w.alloc (.cells twoCells 108) = w1 at *
                go_wp2_with fail
                go_loop [10] (fun vk => ∃ k : Nat, k ≤ 27 ∧ vk = .int .i64 (k : Int) ∧ Hid (numC n = lkp 65533 (twoTab.drop k))) (fun vk => 27 - (intOf vk).toNat)
                case atStart => exact ⟨0, by omega, rfl, HL⟩
                case round =>
                  obtain ⟨k, hk, rfl, hl⟩ := hrel
                  clear HL
                  by_cases hlt : k < 27
                  · have hlt' : (k : Int) < 27 := by omega
                    have hk0 : (0 : Int) ≤ (k : Int) := by omega
                    have hkl : k < twoTab.length := by rw [lenTwo]; exact hlt
                    have hst := lkp_drop 65533 k hkl
                    have hkey := two_key k hkl
                    have c0 := (hb1.out.2 (k * 2)).trans (two_at k hkl).1
                    have c1 := (hb1.out.2 (k * 2 + 1)).trans (two_at k hkl).2
                    rw [← hl.out] at hst
                    generalize twoTab[k] = p at *
                    obtain ⟨pa, pb⟩ := p
                    simp only at hst hkey c0 c1
                    have hne : ((pa : Int) == 65533) = false := beq_false_of_ne (by omega)
                    rw [if_neg (by omega)] at hst
                    have hst' := hid_mk hst
                    clear hst hl
                    go_wp2
                    go_round
                    case rel => exact ⟨k + 1, by omega, by go_num, hst'⟩
                    case measure => simp [intOf]; omega
                  · obtain rfl : k = 27 := by omega
                    have hv := hid_mk (show numC n = 65533 by rw [hl.out]; rfl)
                    have hlt' : ¬ ((27 : Nat) : Int) < 27 := by omega
                    clear hl
                    go_wp2
                    go_ret3
                    rw [HF'.out, hv.out]
                    exact ⟨rfl, hb1.out.1⟩
              have HL := hid_mk (show numC n = lkp n (twoTab.drop 0) by
                rw [List.drop_zero, lkp_num n (by omega)])
              by_cases n4 : 55296 ≤ n
              · have n5 : ¬ n ≤ 57343 := by omega
                have n4' : (55296 : Int) ≤ (n : Int) := by omega
                have n5' : ¬ (n : Int) ≤ 57343 := by omega
                clear n0 n1 n2
                go_wp2_with fail
                ((with_reducible refine (refDigit_any x hx w).mono ?_); skip)
                rintro e w' ⟨rfl, rfl⟩
                rw [hdz.out]
                go_wp2_with fail
                ((with_reducible refine (replaced_any _).mono ?_); skip)
                rintro e w1 ⟨rfl, rfl⟩
                have hb1 := hid_mk (show Below w.heap.size w (w.alloc (.cells twoCells 108)) ∧ ∀ j, (w.alloc (.cells twoCells 108)).cell? ⟨w.heap.size, j, none⟩ = twoCells[j]? from
                  ⟨(Below.refl _ _).alloc (Nat.le_refl _) _, fun j => cell_of_row _ _ j _ _ _ (heap_alloc_new w _)⟩)
                generalize w.alloc (.cells twoCells 108) = w1 at *
                go_wp2_with fail
                go_loop [10] (fun vk => ∃ k : Nat, k ≤ 27 ∧ vk = .int .i64 (k : Int) ∧ Hid (numC n = lkp n (twoTab.drop k))) (fun vk => 27 - (intOf vk).toNat)
                case atStart => exact ⟨0, by omega, rfl, HL⟩
                case round =>
                  obtain ⟨k, hk, rfl, hl⟩ := hrel
                  clear HL
                  by_cases hlt : k < 27
                  · have hlt' : (k : Int) < 27 := by omega
                    have hk0 : (0 : Int) ≤ (k : Int) := by omega
                    have hkl : k < twoTab.length := by rw [lenTwo]; exact hlt
                    have hst := lkp_drop n k hkl
                    have hkey := two_key k hkl
                    have c0 := (hb1.out.2 (k * 2)).trans (two_at k hkl).1
                    have c1 := (hb1.out.2 (k * 2 + 1)).trans (two_at k hkl).2
                    rw [← hl.out] at hst
                    generalize twoTab[k] = p at *
                    obtain ⟨pa, pb⟩ := p
                    simp only at hst hkey c0 c1
                    by_cases hp : pa = n
                    · rw [if_pos hp] at hst
                      have hne : ((pa : Int) == (n : Int)) = true := by rw [hp]; simp
                      have hst' := hid_mk hst
                      clear hst hl hp
                      go_wp2
                      go_ret3
                      rw [HF'.out, hst'.out]
                      exact ⟨rfl, hb1.out.1⟩
                    · rw [if_neg hp] at hst
                      have hne : ((pa : Int) == (n : Int)) = false := beq_false_of_ne (by omega)
                      have hst' := hid_mk hst
                      clear hst hl hp
                      go_wp2
                      go_round
                      case rel => exact ⟨k + 1, by omega, by go_num, hst'⟩
                      case measure => simp [intOf]; omega
                  · obtain rfl : k = 27 := by omega
                    have hv := hid_mk (show numC n = n by rw [hl.out]; rfl)
                    have hlt' : ¬ ((27 : Nat) : Int) < 27 := by omega
                    clear hl
                    go_wp2
                    go_ret3
                    rw [HF'.out, hv.out]
                    exact ⟨rfl, hb1.out.1⟩
              · have n4' : decide ((55296 : Int) ≤ (n : Int)) = false := by rw [decide_eq_false_iff_not]; omega
                clear n0 n1 n2 n4
                go_wp2_with fail
                ((with_reducible refine (refDigit_any x hx w).mono ?_); skip)
                rintro e w' ⟨rfl, rfl⟩
                rw [hdz.out]
                go_wp2_with fail
                ((with_reducible refine (replaced_any _).mono ?_); skip)
                rintro e w1 ⟨rfl, rfl⟩
                have hb1 := hid_mk (show Below w.heap.size w (w.alloc (.cells twoCells 108)) ∧ ∀ j, (w.alloc (.cells twoCells 108)).cell? ⟨w.heap.size, j, none⟩ = twoCells[j]? from
                  ⟨(Below.refl _ _).alloc (Nat.le_refl _) _, fun j => cell_of_row _ _ j _ _ _ (heap_alloc_new w _)⟩)
                generalize w.alloc (.cells twoCells 108) = w1 at *
                go_wp2_with fail
                go_loop [10] (fun vk => ∃ k : Nat, k ≤ 27 ∧ vk = .int .i64 (k : Int) ∧ Hid (numC n = lkp n (twoTab.drop k))) (fun vk => 27 - (intOf vk).toNat)
                case atStart => exact ⟨0, by omega, rfl, HL⟩
                case round =>
                  obtain ⟨k, hk, rfl, hl⟩ := hrel
                  clear HL
                  by_cases hlt : k < 27
                  · have hlt' : (k : Int) < 27 := by omega
                    have hk0 : (0 : Int) ≤ (k : Int) := by omega
                    have hkl : k < twoTab.length := by rw [lenTwo]; exact hlt
                    have hst := lkp_drop n k hkl
                    have hkey := two_key k hkl
                    have c0 := (hb1.out.2 (k * 2)).trans (two_at k hkl).1
                    have c1 := (hb1.out.2 (k * 2 + 1)).trans (two_at k hkl).2
                    rw [← hl.out] at hst
                    generalize twoTab[k] = p at *
                    obtain ⟨pa, pb⟩ := p
                    simp only at hst hkey c0 c1
                    by_cases hp : pa = n
                    · rw [if_pos hp] at hst
                      have hne : ((pa : Int) == (n : Int)) = true := by rw [hp]; simp
                      have hst' := hid_mk hst
                      clear hst hl hp
                      go_wp2
                      go_ret3
                      rw [HF'.out, hst'.out]
                      exact ⟨rfl, hb1.out.1⟩
                    · rw [if_neg hp] at hst
                      have hne : ((pa : Int) == (n : Int)) = false := beq_false_of_ne (by omega)
                      have hst' := hid_mk hst
                      clear hst hl hp
                      go_wp2
                      go_round
                      case rel => exact ⟨k + 1, by omega, by go_num, hst'⟩
                      case measure => simp [intOf]; omega
                  · obtain rfl : k = 27 := by omega
                    have hv := hid_mk (show numC n = n by rw [hl.out]; rfl)
                    have hlt' : ¬ ((27 : Nat) : Int) < 27 := by omega
                    clear hl
                    go_wp2
                    go_ret3
                    rw [HF'.out, hv.out]
                    exact ⟨rfl, hb1.out.1⟩
            · rw [if_neg (by rw [hatx]; exact h59)] at HF
              have h59' : ((x : Int) == 59) = false := beq_false_of_ne (by omega)
              clear h59 hatx
              have HF' := hid_mk HF
              clear HF
              by_cases n0 : n = 0
              · have HL := hid_mk (show numC n = lkp 65533 (twoTab.drop 0) by subst n0; decide +kernel)
                have n0' : ((n : Int) == 0) = true := by rw [n0]; rfl
                clear n0
                go_wp2_with fail
                ((with_reducible refine (refDigit_any x hx w).mono ?_); skip)
                rintro e w' ⟨rfl, rfl⟩
                rw [hdz.out]
                go_wp2_with fail
                ((with_reducible refine (replaced_any _).mono ?_); skip)
                rintro e w1 ⟨rfl, rfl⟩
                have hb1 := hid_mk (show Below w.heap.size w (w.alloc (.cells twoCells 108)) ∧ ∀ j, (w.alloc (.cells twoCells 108)).cell? ⟨w.heap.size, j, none⟩ = twoCells[j]? from
                  ⟨(Below.refl _ _).alloc (Nat.le_refl _) _, fun j => cell_of_row _ _ j _ _ _ (heap_alloc_new w _)⟩)
                generalize w.alloc (.cells twoCells 108) = w1 at *
                go_wp2_with fail
                go_loop [10] (fun vk => ∃ k : Nat, k ≤ 27 ∧ vk = .int .i64 (k : Int) ∧ Hid (numC n = lkp 65533 (twoTab.drop k))) (fun vk => 27 - (intOf vk).toNat)
                case atStart => exact ⟨0, by omega, rfl, HL⟩
                case round =>
                  obtain ⟨k, hk, rfl, hl⟩ := hrel
                  clear HL
                  by_cases hlt : k < 27
                  · have hlt' : (k : Int) < 27 := by omega
                    have hk0 : (0 : Int) ≤ (k : Int) := by omega
                    have hkl : k < twoTab.length := by rw [lenTwo]; exact hlt
                    have hst := lkp_drop 65533 k hkl
                    have hkey := two_key k hkl
                    have c0 := (hb1.out.2 (k * 2)).trans (two_at k hkl).1
                    have c1 := (hb1.out.2 (k * 2 + 1)).trans (two_at k hkl).2
                    rw [← hl.out] at hst
                    generalize twoTab[k] = p at *
                    obtain ⟨pa, pb⟩ := p
                    simp only at hst hkey c0 c1
                    have hne : ((pa : Int) == 65533) = false := beq_false_of_ne (by omega)
                    rw [if_neg (by omega)] at hst
                    have hst' := hid_mk hst
                    clear hst hl
                    go_wp2
                    go_round
                    case rel => exact ⟨k + 1, by omega, by go_num, hst'⟩
                    case measure => simp [intOf]; omega
                  · obtain rfl : k = 27 := by omega
                    have hv := hid_mk (show numC n = 65533 by rw [hl.out]; rfl)
                    have hlt' : ¬ ((27 : Nat) : Int) < 27 := by omega
                    clear hl
                    go_wp2
                    go_ret3
                    rw [HF'.out, hv.out]
                    exact ⟨rfl, hb1.out.1⟩
              have n0' : ((n : Int) == 0) = false := beq_false_of_ne (by omega)
              by_cases n1 : 1114111 < n
              · have HL := hid_mk (show numC n = lkp 65533 (twoTab.drop 0) by
                  rw [List.drop_zero, lkp_out 65533 (by omega)]
                  unfold numC
                  rw [if_pos (.inr (.inr n1))])
                have n1' : (1114111 : Int) < (n : Int) := by omega
                clear n0
                go_wp2_with fail
                ((with_reducible refine (refDigit_any x hx w).mono ?_); skip)
                rintro e w' ⟨rfl, rfl⟩
                rw [hdz.out]
                go_wp2_with fail
                ((with_reducible refine (replaced_any _).mono ?_); skip)
                rintro e w1 ⟨rfl, rfl⟩
                have hb1 := hid_mk (show Below w.heap.size w (w.alloc (.cells twoCells 108)) ∧ ∀ j, (w.alloc (.cells twoCells 108)).cell? ⟨w.heap.size, j, none⟩ = twoCells[j]? from
                  ⟨(Below.refl _ _).alloc (Nat.le_refl _) _, fun j => cell_of_row _ _ j _ _ _ (heap_alloc_new w _)⟩)
                generalize w.alloc (.cells twoCells 108) = w1 at *
                go_wp2_with fail
                go_loop [10] (fun vk => ∃ k : Nat, k ≤ 27 ∧ vk = .int .i64 (k : Int) ∧ Hid (numC n = lkp 65533 (twoTab.drop k))) (fun vk => 27 - (intOf vk).toNat)
                case atStart => exact ⟨0, by omega, rfl, HL⟩
                case round =>
                  obtain ⟨k, hk, rfl, hl⟩ := hrel
                  clear HL
                  by_cases hlt : k < 27
                  · have hlt' : (k : Int) < 27 := by omega
                    have hk0 : (0 : Int) ≤ (k : Int) := by omega
                    have hkl : k < twoTab.length := by rw [lenTwo]; exact hlt
                    have hst := lkp_drop 65533 k hkl
                    have hkey := two_key k hkl
                    have c0 := (hb1.out.2 (k * 2)).trans (two_at k hkl).1
                    have c1 := (hb1.out.2 (k * 2 + 1)).trans (two_at k hkl).2
                    rw [← hl.out] at hst
                    generalize twoTab[k] = p at *
                    obtain ⟨pa, pb⟩ := p
                    simp only at hst hkey c0 c1
                    have hne : ((pa : Int) == 65533) = false := beq_false_of_ne (by omega)
                    rw [if_neg (by omega)] at hst
                    have hst' := hid_mk hst
                    clear hst hl
                    go_wp2
                    go_round
                    case rel => exact ⟨k + 1, by omega, by go_num, hst'⟩
                    case measure => simp [intOf]; omega
                  · obtain rfl : k = 27 := by omega
                    have hv := hid_mk (show numC n = 65533 by rw [hl.out]; rfl)
                    have hlt' : ¬ ((27 : Nat) : Int) < 27 := by omega
                    clear hl
                    go_wp2
                    go_ret3
                    rw [HF'.out, hv.out]
                    exact ⟨rfl, hb1.out.1⟩
              have n1' : ¬ (1114111 : Int) < (n : Int) := by omega
              by_cases n2 : 55296 ≤ n ∧ n ≤ 57343
              · have HL := hid_mk (show numC n = lkp 65533 (twoTab.drop 0) by
                  rw [List.drop_zero, lkp_out 65533 (by omega)]
                  unfold numC
                  rw [if_pos (.inr (.inl n2))])
                obtain ⟨n2, n3⟩ := n2
                have n2' : (55296 : Int) ≤ (n : Int) := by omega
                have n3' : (n : Int) ≤ 57343 := by omega
                clear n0 n1
                go_wp2_with fail
                ((with_reducible refine (refDigit_any x hx w).mono ?_); skip)
                rintro e w' ⟨rfl, rfl⟩
                rw [hdz.out]
                go_wp2_with fail
                ((with_reducible refine (replaced_any _).mono ?_); skip)
                rintro e w1 ⟨rfl, rfl⟩
                have hb1 := hid_mk (show Below w.heap.size w (w.alloc (.cells twoCells 108)) ∧ ∀ j, (w.alloc (.cells twoCells 108)).cell? ⟨w.heap.size, j, none⟩ = twoCells[j]? from
                  ⟨(Below.refl _ _).alloc (Nat.le_refl _) _, fun j => cell_of_row _ _ j _ _ _ (heap_alloc_new w _)⟩)
                generalize w.alloc (.cells twoCells 108) = w1 at *
                go_wp2_with fail
                go_loop [10] (fun vk => ∃ k : Nat, k ≤ 27 ∧ vk = .int .i64 (k : Int) ∧ Hid (numC n = lkp 65533 (twoTab.drop k))) (fun vk => 27 - (intOf vk).toNat)
                case atStart => exact ⟨0, by omega, rfl, HL⟩
                case round =>
                  obtain ⟨k, hk, rfl, hl⟩ := hrel
                  clear HL
                  by_cases hlt : k < 27
                  · have hlt' : (k : Int) < 27 := by omega
                    have hk0 : (0 : Int) ≤ (k : Int) := by omega
                    have hkl : k < twoTab.length := by rw [lenTwo]; exact hlt
                    have hst := lkp_drop 65533 k hkl
                    have hkey := two_key k hkl
                    have c0 := (hb1.out.2 (k * 2)).trans (two_at k hkl).1
                    have c1 := (hb1.out.2 (k * 2 + 1)).trans (two_at k hkl).2
                    rw [← hl.out] at hst
                    generalize twoTab[k] = p at *
                    obtain ⟨pa, pb⟩ := p
                    simp only at hst hkey c0 c1
                    have hne : ((pa : Int) == 65533) = false := beq_false_of_ne (by omega)
                    rw [if_neg (by omega)] at hst
                    have hst' := hid_mk hst
                    clear hst hl
                    go_wp2
                    go_round
                    case rel => exact ⟨k + 1, by omega, by go_num, hst'⟩
                    case measure => simp [intOf]; omega
                  · obtain rfl : k = 27 := by omega
                    have hv := hid_mk (show numC n = 65533 by rw [hl.out]; rfl)
                    have hlt' : ¬ ((27 : Nat) : Int) < 27 := by omega
                    clear hl
                    go_wp2
                    go_ret3
                    rw [HF'.out, hv.out]
                    exact ⟨rfl, hb1.out.1⟩
              have HL := hid_mk (show numC n = lkp n (twoTab.drop 0) by
                rw [List.drop_zero, lkp_num n (by omega)])
              by_cases n4 : 55296 ≤ n
              · have n5 : ¬ n ≤ 57343 := by omega
                have n4' : (55296 : Int) ≤ (n : Int) := by omega
                have n5' : ¬ (n : Int) ≤ 57343 := by omega
                clear n0 n1 n2
                go_wp2_with fail
                ((with_reducible refine (refDigit_any x hx w).mono ?_); skip)
                rintro e w' ⟨rfl, rfl⟩
                rw [hdz.out]
                go_wp2_with fail
                ((with_reducible refine (replaced_any _).mono ?_); skip)
                rintro e w1 ⟨rfl, rfl⟩
                have hb1 := hid_mk (show Below w.heap.size w (w.alloc (.cells twoCells 108)) ∧ ∀ j, (w.alloc (.cells twoCells 108)).cell? ⟨w.heap.size, j, none⟩ = twoCells[j]? from
                  ⟨(Below.refl _ _).alloc (Nat.le_refl _) _, fun j => cell_of_row _ _ j _ _ _ (heap_alloc_new w _)⟩)
                generalize w.alloc (.cells twoCells 108) = w1 at *
                go_wp2_with fail
                go_loop [10] (fun vk => ∃ k : Nat, k ≤ 27 ∧ vk = .int .i64 (k : Int) ∧ Hid (numC n = lkp n (twoTab.drop k))) (fun vk => 27 - (intOf vk).toNat)
                case atStart => exact ⟨0, by omega, rfl, HL⟩
                case round =>
                  obtain ⟨k, hk, rfl, hl⟩ := hrel
                  clear HL
                  by_cases hlt : k < 27
                  · have hlt' : (k : Int) < 27 := by omega
                    have hk0 : (0 : Int) ≤ (k : Int) := by omega
                    have hkl : k < twoTab.length := by rw [lenTwo]; exact hlt
                    have hst := lkp_drop n k hkl
                    have hkey := two_key k hkl
                    have c0 := (hb1.out.2 (k * 2)).trans (two_at k hkl).1
                    have c1 := (hb1.out.2 (k * 2 + 1)).trans (two_at k hkl).2
                    rw [← hl.out] at hst
                    generalize twoTab[k] = p at *
                    obtain ⟨pa, pb⟩ := p
                    simp only at hst hkey c0 c1
                    by_cases hp : pa = n
                    · rw [if_pos hp] at hst
                      have hne : ((pa : Int) == (n : Int)) = true := by rw [hp]; simp
                      have hst' := hid_mk hst
                      clear hst hl hp
                      go_wp2
                      go_ret3
                      rw [HF'.out, hst'.out]
                      exact ⟨rfl, hb1.out.1⟩
                    · rw [if_neg hp] at hst
                      have hne : ((pa : Int) == (n : Int)) = false := beq_false_of_ne (by omega)
                      have hst' := hid_mk hst
                      clear hst hl hp
                      go_wp2
                      go_round
                      case rel => exact ⟨k + 1, by omega, by go_num, hst'⟩
                      case measure => simp [intOf]; omega
                  · obtain rfl : k = 27 := by omega
                    have hv := hid_mk (show numC n = n by rw [hl.out]; rfl)
                    have hlt' : ¬ ((27 : Nat) : Int) < 27 := by omega
                    clear hl
                    go_wp2
                    go_ret3
                    rw [HF'.out, hv.out]
                    exact ⟨rfl, hb1.out.1⟩
              · have n4' : decide ((55296 : Int) ≤ (n : Int)) = false := by rw [decide_eq_false_iff_not]; omega
                clear n0 n1 n2 n4
                go_wp2_with fail
                ((with_reducible refine (refDigit_any x hx w).mono ?_); skip)
                rintro e w' ⟨rfl, rfl⟩
                rw [hdz.out]
                go_wp2_with fail
                ((with_reducible refine (replaced_any _).mono ?_); skip)
                rintro e w1 ⟨rfl, rfl⟩
                have hb1 := hid_mk (show Below w.heap.size w (w.alloc (.cells twoCells 108)) ∧ ∀ j, (w.alloc (.cells twoCells 108)).cell? ⟨w.heap.size, j, none⟩ = twoCells[j]? from
                  ⟨(Below.refl _ _).alloc (Nat.le_refl _) _, fun j => cell_of_row _ _ j _ _ _ (heap_alloc_new w _)⟩)
                generalize w.alloc (.cells twoCells 108) = w1 at *
                go_wp2_with fail
                go_loop [10] (fun vk => ∃ k : Nat, k ≤ 27 ∧ vk = .int .i64 (k : Int) ∧ Hid (numC n = lkp n (twoTab.drop k))) (fun vk => 27 - (intOf vk).toNat)
                case atStart => exact ⟨0, by omega, rfl, HL⟩
                case round =>
                  obtain ⟨k, hk, rfl, hl⟩ := hrel
                  clear HL
                  by_cases hlt : k < 27
                  · have hlt' : (k : Int) < 27 := by omega
                    have hk0 : (0 : Int) ≤ (k : Int) := by omega
                    have hkl : k < twoTab.length := by rw [lenTwo]; exact hlt
                    have hst := lkp_drop n k hkl
                    have hkey := two_key k hkl
                    have c0 := (hb1.out.2 (k * 2)).trans (two_at k hkl).1
                    have c1 := (hb1.out.2 (k * 2 + 1)).trans (two_at k hkl).2
                    rw [← hl.out] at hst
                    generalize twoTab[k] = p at *
                    obtain ⟨pa, pb⟩ := p
                    simp only at hst hkey c0 c1
                    by_cases hp : pa = n
                    · rw [if_pos hp] at hst
                      have hne : ((pa : Int) == (n : Int)) = true := by rw [hp]; simp
                      have hst' := hid_mk hst
                      clear hst hl hp
                      go_wp2
                      go_ret3
                      rw [HF'.out, hst'.out]
                      exact ⟨rfl, hb1.out.1⟩
                    · rw [if_neg hp] at hst
                      have hne : ((pa : Int) == (n : Int)) = false := beq_false_of_ne (by omega)
                      have hst' := hid_mk hst
                      clear hst hl hp
                      go_wp2
                      go_round
                      case rel => exact ⟨k + 1, by omega, by go_num, hst'⟩
                      case measure => simp [intOf]; omega
                  · obtain rfl : k = 27 := by omega
                    have hv := hid_mk (show numC n = n by rw [hl.out]; rfl)
                    have hlt' : ¬ ((27 : Nat) : Int) < 27 := by omega
                    clear hl
                    go_wp2
                    go_ret3
                    rw [HF'.out, hv.out]
                    exact ⟨rfl, hb1.out.1⟩
        · have hdz := hid_mk (show digZ x = (digV x : Int) by unfold digZ; rw [if_neg h16])
          have hge : ¬ (digV x : Int) < 10 := by omega
          have hge0 : (0 : Int) ≤ (digV x : Int) := by omega
          have h59 : x ≠ 59 := fun h => h16 (by rw [h]; decide)
          clear h16 hlt hd
          by_cases hz : i = 0
          · rw [if_pos (by omega)] at HF
            have HF' := hid_mk HF
            have hz' : ((i : Int) == 0) = true := by rw [hz]; rfl
            clear HF hz
            go_wp2_with fail
            ((with_reducible refine (refDigit_any x hx w).mono ?_); skip)
            rintro e w' ⟨rfl, rfl⟩
            rw [hdz.out]
            go_wp2_with fail
            ((with_reducible refine (refDigit_any x hx w).mono ?_); skip)
            rintro e w' ⟨rfl, rfl⟩
            rw [hdz.out]
            go_wp2
            go_ret3
            rw [HF'.out]
            exact ⟨rfl, Below.refl _ _⟩
          · rw [if_neg (by omega)] at HF
            have hz' : ((i : Int) == 0) = false := beq_false_of_ne (by omega)
            clear hz
            rw [if_neg (by rw [hatx]; exact h59)] at HF
            have h59' : ((x : Int) == 59) = false := beq_false_of_ne (by omega)
            clear h59 hatx
            have HF' := hid_mk HF
            clear HF
            by_cases n0 : n = 0
            · have HL := hid_mk (show numC n = lkp 65533 (twoTab.drop 0) by subst n0; decide +kernel)
              have n0' : ((n : Int) == 0) = true := by rw [n0]; rfl
              clear n0
              go_wp2_with fail
              ((with_reducible refine (refDigit_any x hx w).mono ?_); skip)
              rintro e w' ⟨rfl, rfl⟩
              rw [hdz.out]
              go_wp2_with fail
              ((with_reducible refine (refDigit_any x hx w).mono ?_); skip)
              rintro e w' ⟨rfl, rfl⟩
              rw [hdz.out]
              go_wp2_with fail
              ((with_reducible refine (replaced_any _).mono ?_); skip)
              rintro e w1 ⟨rfl, rfl⟩
              have hb1 := hid_mk (show Below w.heap.size w (w.alloc (.cells twoCells 108)) ∧ ∀ j, (w.alloc (.cells twoCells 108)).cell? ⟨w.heap.size, j, none⟩ = twoCells[j]? from
                ⟨(Below.refl _ _).alloc (Nat.le_refl _) _, fun j => cell_of_row _ _ j _ _ _ (heap_alloc_new w _)⟩)
              generalize w.alloc (.cells twoCells 108) = w1 at *
              go_wp2_with fail
              go_loop [10] (fun vk => ∃ k : Nat, k ≤ 27 ∧ vk = .int .i64 (k : Int) ∧ Hid (numC n = lkp 65533 (twoTab.drop k))) (fun vk => 27 - (intOf vk).toNat)
              case atStart => exact ⟨0, by omega, rfl, HL⟩
              case round =>
                obtain ⟨k, hk, rfl, hl⟩ := hrel
                clear HL
                by_cases hlt : k < 27
                · have hlt' : (k : Int) < 27 := by omega
                  have hk0 : (0 : Int) ≤ (k : Int) := by omega
                  have hkl : k < twoTab.length := by rw [lenTwo]; exact hlt
                  have hst := lkp_drop 65533 k hkl
                  have hkey := two_key k hkl
                  have c0 := (hb1.out.2 (k * 2)).trans (two_at k hkl).1
                  have c1 := (hb1.out.2 (k * 2 + 1)).trans (two_at k hkl).2
                  rw [← hl.out] at hst
                  generalize twoTab[k] = p at *
                  obtain ⟨pa, pb⟩ := p
                  simp only at hst hkey c0 c1
                  have hne : ((pa : Int) == 65533) = false := beq_false_of_ne (by omega)
                  rw [if_neg (by omega)] at hst
                  have hst' := hid_mk hst
                  clear hst hl
                  go_wp2
                  go_round
                  case rel => exact ⟨k + 1, by omega, by go_num, hst'⟩
                  case measure => simp [intOf]; omega
                · obtain rfl : k = 27 := by omega
                  have hv := hid_mk (show numC n = 65533 by rw [hl.out]; rfl)
                  have hlt' : ¬ ((27 : Nat) : Int) < 27 := by omega
                  clear hl
                  go_wp2
                  go_ret3
                  rw [HF'.out, hv.out]
                  exact ⟨rfl, hb1.out.1⟩
            have n0' : ((n : Int) == 0) = false := beq_false_of_ne (by omega)
            by_cases n1 : 1114111 < n
            · have HL := hid_mk (show numC n = lkp 65533 (twoTab.drop 0) by
                rw [List.drop_zero, lkp_out 65533 (by omega)]
                unfold numC
                rw [if_pos (.inr (.inr n1))])
              have n1' : (1114111 : Int) < (n : Int) := by omega
              clear n0
              go_wp2_with fail
              ((with_reducible refine (refDigit_any x hx w).mono ?_); skip)
              rintro e w' ⟨rfl, rfl⟩
              rw [hdz.out]
              go_wp2_with fail
              ((with_reducible refine (refDigit_any x hx w).mono ?_); skip)
              rintro e w' ⟨rfl, rfl⟩
              rw [hdz.out]
              go_wp2_with fail
              ((with_reducible refine (replaced_any _).mono ?_); skip)
              rintro e w1 ⟨rfl, rfl⟩
              have hb1 := hid_mk (show Below w.heap.size w (w.alloc (.cells twoCells 108)) ∧ ∀ j, (w.alloc (.cells twoCells 108)).cell? ⟨w.heap.size, j, none⟩ = twoCells[j]? from
                ⟨(Below.refl _ _).alloc (Nat.le_refl _) _, fun j => cell_of_row _ _ j _ _ _ (heap_alloc_new w _)⟩)
              generalize w.alloc (.cells twoCells 108) = w1 at *
              go_wp2_with fail
              go_loop [10] (fun vk => ∃ k : Nat, k ≤ 27 ∧ vk = .int .i64 (k : Int) ∧ Hid (numC n = lkp 65533 (twoTab.drop k))) (fun vk => 27 - (intOf vk).toNat)
              case atStart => exact ⟨0, by omega, rfl, HL⟩
              case round =>
                obtain ⟨k, hk, rfl, hl⟩ := hrel
                clear HL
                by_cases hlt : k < 27
                · have hlt' : (k : Int) < 27 := by omega
                  have hk0 : (0 : Int) ≤ (k : Int) := by omega
                  have hkl : k < twoTab.length := by rw [lenTwo]; exact hlt
                  have hst := lkp_drop 65533 k hkl
                  have hkey := two_key k hkl
                  have c0 := (hb1.out.2 (k * 2)).trans (two_at k hkl).1
                  have c1 := (hb1.out.2 (k * 2 + 1)).trans (two_at k hkl).2
                  rw [← hl.out] at hst
                  generalize twoTab[k] = p at *
                  obtain ⟨pa, pb⟩ := p
                  simp only at hst hkey c0 c1
                  have hne : ((pa : Int) == 65533) = false := beq_false_of_ne (by omega)
                  rw [if_neg (by omega)] at hst
                  have hst' := hid_mk hst
                  clear hst hl
                  go_wp2
                  go_round
                  case rel => exact ⟨k + 1, by omega, by go_num, hst'⟩
                  case measure => simp [intOf]; omega
                · obtain rfl : k = 27 := by omega
                  have hv := hid_mk (show numC n = 65533 by rw [hl.out]; rfl)
                  have hlt' : ¬ ((27 : Nat) : Int) < 27 := by omega
                  clear hl
                  go_wp2
                  go_ret3
                  rw [HF'.out, hv.out]
                  exact ⟨rfl, hb1.out.1⟩
            have n1' : ¬ (1114111 : Int) < (n : Int) := by omega
            by_cases n2 : 55296 ≤ n ∧ n ≤ 57343
            · have HL := hid_mk (show numC n = lkp 65533 (twoTab.drop 0) by
                rw [List.drop_zero, lkp_out 65533 (by omega)]
                unfold numC
                rw [if_pos (.inr (.inl n2))])
              obtain ⟨n2, n3⟩ := n2
              have n2' : (55296 : Int) ≤ (n : Int) := by omega
              have n3' : (n : Int) ≤ 57343 := by omega
              clear n0 n1
              go_wp2_with fail
              ((with_reducible refine (refDigit_any x hx w).mono ?_); skip)
              rintro e w' ⟨rfl, rfl⟩
              rw [hdz.out]
              go_wp2_with fail
              ((with_reducible refine (refDigit_any x hx w).mono ?_); skip)
              rintro e w' ⟨rfl, rfl⟩
              rw [hdz.out]
              go_wp2_with fail
              ((with_reducible refine (replaced_any _).mono ?_); skip)
              rintro e w1 ⟨rfl, rfl⟩
              have hb1 := hid_mk (show Below w.heap.size w (w.alloc (.cells twoCells 108)) ∧ ∀ j, (w.alloc (.cells twoCells 108)).cell? ⟨w.heap.size, j, none⟩ = twoCells[j]? from
                ⟨(Below.refl _ _).alloc (Nat.le_refl _) _, fun j => cell_of_row _ _ j _ _ _ (heap_alloc_new w _)⟩)
              generalize w.alloc (.cells twoCells 108) = w1 at *
              go_wp2_with fail
              go_loop [10] (fun vk => ∃ k : Nat, k ≤ 27 ∧ vk = .int .i64 (k : Int) ∧ Hid (numC n = lkp 65533 (twoTab.drop k))) (fun vk => 27 - (intOf vk).toNat)
              case atStart => exact ⟨0, by omega, rfl, HL⟩
              case round =>
                obtain ⟨k, hk, rfl, hl⟩ := hrel
                clear HL
                by_cases hlt : k < 27
                · have hlt' : (k : Int) < 27 := by omega
                  have hk0 : (0 : Int) ≤ (k : Int) := by omega
                  have hkl : k < twoTab.length := by rw [lenTwo]; exact hlt
                  have hst := lkp_drop 65533 k hkl
                  have hkey := two_key k hkl
                  have c0 := (hb1.out.2 (k * 2)).trans (two_at k hkl).1
                  have c1 := (hb1.out.2 (k * 2 + 1)).trans (two_at k hkl).2
                  rw [← hl.out] at hst
                  generalize twoTab[k] = p at *
                  obtain ⟨pa, pb⟩ := p
                  simp only at hst hkey c0 c1
                  have hne : ((pa : Int) == 65533) = false := beq_false_of_ne (by omega)
                  rw [if_neg (by omega)] at hst
                  have hst' := hid_mk hst
                  clear hst hl
                  go_wp2
                  go_round
                  case rel => exact ⟨k + 1, by omega, by go_num, hst'⟩
                  case measure => simp [intOf]; omega
                · obtain rfl : k = 27 := by omega
                  have hv := hid_mk (show numC n = 65533 by rw [hl.out]; rfl)
                  have hlt' : ¬ ((27 : Nat) : Int) < 27 := by omega
                  clear hl
                  go_wp2
                  go_ret3
                  rw [HF'.out, hv.out]
                  exact ⟨rfl, hb1.out.1⟩
            have HL := hid_mk (show numC n = lkp n (twoTab.drop 0) by
              rw [List.drop_zero, lkp_num n (by omega)])
            by_cases n4 : 55296 ≤ n
            · have n5 : ¬ n ≤ 57343 := by omega
              have n4' : (55296 : Int) ≤ (n : Int) := by omega
              have n5' : ¬ (n : Int) ≤ 57343 := by omega
              clear n0 n1 n2
              go_wp2_with fail
              ((with_reducible refine (refDigit_any x hx w).mono ?_); skip)
              rintro e w' ⟨rfl, rfl⟩
              rw [hdz.out]
              go_wp2_with fail
              ((with_reducible refine (refDigit_any x hx w).mono ?_); skip)
              rintro e w' ⟨rfl, rfl⟩
              rw [hdz.out]
              go_wp2_with fail
              ((with_reducible refine (replaced_any _).mono ?_); skip)
              rintro e w1 ⟨rfl, rfl⟩
              have hb1 := hid_mk (show Below w.heap.size w (w.alloc (.cells twoCells 108)) ∧ ∀ j, (w.alloc (.cells twoCells 108)).cell? ⟨w.heap.size, j, none⟩ = twoCells[j]? from
                ⟨(Below.refl _ _).alloc (Nat.le_refl _) _, fun j => cell_of_row _ _ j _ _ _ (heap_alloc_new w _)⟩)
              generalize w.alloc (.cells twoCells 108) = w1 at *
              go_wp2_with fail
              go_loop [10] (fun vk => ∃ k : Nat, k ≤ 27 ∧ vk = .int .i64 (k : Int) ∧ Hid (numC n = lkp n (twoTab.drop k))) (fun vk => 27 - (intOf vk).toNat)
              case atStart => exact ⟨0, by omega, rfl, HL⟩
              case round =>
                obtain ⟨k, hk, rfl, hl⟩ := hrel
                clear HL
                by_cases hlt : k < 27
                · have hlt' : (k : Int) < 27 := by omega
                  have hk0 : (0 : Int) ≤ (k : Int) := by omega
                  have hkl : k < twoTab.length := by rw [lenTwo]; exact hlt
                  have hst := lkp_drop n k hkl
                  have hkey := two_key k hkl
                  have c0 := (hb1.out.2 (k * 2)).trans (two_at k hkl).1
                  have c1 := (hb1.out.2 (k * 2 + 1)).trans (two_at k hkl).2
                  rw [← hl.out] at hst
                  generalize twoTab[k] = p at *
                  obtain ⟨pa, pb⟩ := p
                  simp only at hst hkey c0 c1
                  by_cases hp : pa = n
                  · rw [if_pos hp] at hst
                    have hne : ((pa : Int) == (n : Int)) = true := by rw [hp]; simp
                    have hst' := hid_mk hst
                    clear hst hl hp
                    go_wp2
                    go_ret3
                    rw [HF'.out, hst'.out]
                    exact ⟨rfl, hb1.out.1⟩
                  · rw [if_neg hp] at hst
                    have hne : ((pa : Int) == (n : Int)) = false := beq_false_of_ne (by omega)
                    have hst' := hid_mk hst
                    clear hst hl hp
                    go_wp2
                    go_round
                    case rel => exact ⟨k + 1, by omega, by go_num, hst'⟩
                    case measure => simp [intOf]; omega
                · obtain rfl : k = 27 := by omega
                  have hv := hid_mk (show numC n = n by rw [hl.out]; rfl)
                  have hlt' : ¬ ((27 : Nat) : Int) < 27 := by omega
                  clear hl
                  go_wp2
                  go_ret3
                  rw [HF'.out, hv.out]
                  exact ⟨rfl, hb1.out.1⟩
            · have n4' : decide ((55296 : Int) ≤ (n : Int)) = false := by rw [decide_eq_false_iff_not]; omega
              clear n0 n1 n2 n4
              go_wp2_with fail
              ((with_reducible refine (refDigit_any x hx w).mono ?_); skip)
              rintro e w' ⟨rfl, rfl⟩
              rw [hdz.out]
              go_wp2_with fail
              ((with_reducible refine (refDigit_any x hx w).mono ?_); skip)
              rintro e w' ⟨rfl, rfl⟩
              rw [hdz.out]
              go_wp2_with fail
              ((with_reducible refine (replaced_any _).mono ?_); skip)
              rintro e w1 ⟨rfl, rfl⟩
              have hb1 := hid_mk (show Below w.heap.size w (w.alloc (.cells twoCells 108)) ∧ ∀ j, (w.alloc (.cells twoCells 108)).cell? ⟨w.heap.size, j, none⟩ = twoCells[j]? from
                ⟨(Below.refl _ _).alloc (Nat.le_refl _) _, fun j => cell_of_row _ _ j _ _ _ (heap_alloc_new w _)⟩)
              generalize w.alloc (.cells twoCells 108) = w1 at *
              go_wp2_with fail
              go_loop [10] (fun vk => ∃ k : Nat, k ≤ 27 ∧ vk = .int .i64 (k : Int) ∧ Hid (numC n = lkp n (twoTab.drop k))) (fun vk => 27 - (intOf vk).toNat)
              case atStart => exact ⟨0, by omega, rfl, HL⟩
              case round =>
                obtain ⟨k, hk, rfl, hl⟩ := hrel
                clear HL
                by_cases hlt : k < 27
                · have hlt' : (k : Int) < 27 := by omega
                  have hk0 : (0 : Int) ≤ (k : Int) := by omega
                  have hkl : k < twoTab.length := by rw [lenTwo]; exact hlt
                  have hst := lkp_drop n k hkl
                  have hkey := two_key k hkl
                  have c0 := (hb1.out.2 (k * 2)).trans (two_at k hkl).1
                  have c1 := (hb1.out.2 (k * 2 + 1)).trans (two_at k hkl).2
                  rw [← hl.out] at hst
                  generalize twoTab[k] = p at *
                  obtain ⟨pa, pb⟩ := p
                  simp only at hst hkey c0 c1
                  by_cases hp : pa = n
                  · rw [if_pos hp] at hst
                    have hne : ((pa : Int) == (n : Int)) = true := by rw [hp]; simp
                    have hst' := hid_mk hst
                    clear hst hl hp
                    go_wp2
                    go_ret3
                    rw [HF'.out, hst'.out]
                    exact ⟨rfl, hb1.out.1⟩
                  · rw [if_neg hp] at hst
                    have hne : ((pa : Int) == (n : Int)) = false := beq_false_of_ne (by omega)
                    have hst' := hid_mk hst
                    clear hst hl hp
                    go_wp2
                    go_round
                    case rel => exact ⟨k + 1, by omega, by go_num, hst'⟩
                    case measure => simp [intOf]; omega
                · obtain rfl : k = 27 := by omega
                  have hv := hid_mk (show numC n = n by rw [hl.out]; rfl)
                  have hlt' : ¬ ((27 : Nat) : Int) < 27 := by omega
                  clear hl
                  go_wp2
                  go_ret3
                  rw [HF'.out, hv.out]
                  exact ⟨rfl, hb1.out.1⟩
    · obtain rfl : i = s.size := by omega
      have h1 := hr.out
      rw [List.drop_eq_nil_of_le (by rw [len_sl]; omega)] at h1
      obtain ⟨hr1, hr2⟩ := h1
      have hr3 : R.2 + 0 = s.size := by rw [hr2]; show 0 + s.size = _; omega
      have hr4 : R.1 = n := hr1
      rw [hr4, show R.2 = s.size - 0 by omega, show 0 + (s.size - 0) = s.size by omega] at HF
      have hin' : ¬ (s.size : Int) < (s.size : Int) := by omega
      have hat : ¬ atL (sl s) s.size = 59 := by
        unfold atL
        rw [List.getElem?_eq_none (by rw [len_sl]; omega)]
        decide
      rw [if_neg hat] at HF
      clear hr hr1 hr2 hr3 hr4 hat hi
      by_cases hz : s.size = 0
      · rw [if_pos (by omega)] at HF
        have HF' := hid_mk HF
        have hz' : ((s.size : Int) == 0) = true := by rw [hz]; rfl
        clear HF hz

        go_wp2
        go_ret3
        rw [HF'.out]
        exact ⟨rfl, Below.refl _ _⟩
      · rw [if_neg (by omega)] at HF
        have hz' : ((s.size : Int) == 0) = false := beq_false_of_ne (by omega)
        clear hz
        have HF' := hid_mk HF
        clear HF
        by_cases n0 : n = 0
        · have HL := hid_mk (show numC n = lkp 65533 (twoTab.drop 0) by subst n0; decide +kernel)
          have n0' : ((n : Int) == 0) = true := by rw [n0]; rfl
          clear n0
          go_wp2_with fail
          ((with_reducible refine (replaced_any _).mono ?_); skip)
          rintro e w1 ⟨rfl, rfl⟩
          have hb1 := hid_mk (show Below w.heap.size w (w.alloc (.cells twoCells 108)) ∧ ∀ j, (w.alloc (.cells twoCells 108)).cell? ⟨w.heap.size, j, none⟩ = twoCells[j]? from
            ⟨(Below.refl _ _).alloc (Nat.le_refl _) _, fun j => cell_of_row _ _ j _ _ _ (heap_alloc_new w _)⟩)
          generalize w.alloc (.cells twoCells 108) = w1 at *
          go_wp2_with fail
          go_loop [10] (fun vk => ∃ k : Nat, k ≤ 27 ∧ vk = .int .i64 (k : Int) ∧ Hid (numC n = lkp 65533 (twoTab.drop k))) (fun vk => 27 - (intOf vk).toNat)
          case atStart => exact ⟨0, by omega, rfl, HL⟩
          case round =>
            obtain ⟨k, hk, rfl, hl⟩ := hrel
            clear HL
            by_cases hlt : k < 27
            · have hlt' : (k : Int) < 27 := by omega
              have hk0 : (0 : Int) ≤ (k : Int) := by omega
              have hkl : k < twoTab.length := by rw [lenTwo]; exact hlt
              have hst := lkp_drop 65533 k hkl
              have hkey := two_key k hkl
              have c0 := (hb1.out.2 (k * 2)).trans (two_at k hkl).1
              have c1 := (hb1.out.2 (k * 2 + 1)).trans (two_at k hkl).2
              rw [← hl.out] at hst
              generalize twoTab[k] = p at *
              obtain ⟨pa, pb⟩ := p
              simp only at hst hkey c0 c1
              have hne : ((pa : Int) == 65533) = false := beq_false_of_ne (by omega)
              rw [if_neg (by omega)] at hst
              have hst' := hid_mk hst
              clear hst hl
              go_wp2
              go_round
              case rel => exact ⟨k + 1, by omega, by go_num, hst'⟩
              case measure => simp [intOf]; omega
            · obtain rfl : k = 27 := by omega
              have hv := hid_mk (show numC n = 65533 by rw [hl.out]; rfl)
              have hlt' : ¬ ((27 : Nat) : Int) < 27 := by omega
              clear hl
              go_wp2
              go_ret3
              rw [HF'.out, hv.out]
              exact ⟨rfl, hb1.out.1⟩
        have n0' : ((n : Int) == 0) = false := beq_false_of_ne (by omega)
        by_cases n1 : 1114111 < n
        · have HL := hid_mk (show numC n = lkp 65533 (twoTab.drop 0) by
            rw [List.drop_zero, lkp_out 65533 (by omega)]
            unfold numC
            rw [if_pos (.inr (.inr n1))])
          have n1' : (1114111 : Int) < (n : Int) := by omega
          clear n0
          go_wp2_with fail
          ((with_reducible refine (replaced_any _).mono ?_); skip)
          rintro e w1 ⟨rfl, rfl⟩
          have hb1 := hid_mk (show Below w.heap.size w (w.alloc (.cells twoCells 108)) ∧ ∀ j, (w.alloc (.cells twoCells 108)).cell? ⟨w.heap.size, j, none⟩ = twoCells[j]? from
            ⟨(Below.refl _ _).alloc (Nat.le_refl _) _, fun j => cell_of_row _ _ j _ _ _ (heap_alloc_new w _)⟩)
          generalize w.alloc (.cells twoCells 108) = w1 at *
          go_wp2_with fail
          go_loop [10] (fun vk => ∃ k : Nat, k ≤ 27 ∧ vk = .int .i64 (k : Int) ∧ Hid (numC n = lkp 65533 (twoTab.drop k))) (fun vk => 27 - (intOf vk).toNat)
          case atStart => exact ⟨0, by omega, rfl, HL⟩
          case round =>
            obtain ⟨k, hk, rfl, hl⟩ := hrel
            clear HL
            by_cases hlt : k < 27
            · have hlt' : (k : Int) < 27 := by omega
              have hk0 : (0 : Int) ≤ (k : Int) := by omega
              have hkl : k < twoTab.length := by rw [lenTwo]; exact hlt
              have hst := lkp_drop 65533 k hkl
              have hkey := two_key k hkl
              have c0 := (hb1.out.2 (k * 2)).trans (two_at k hkl).1
              have c1 := (hb1.out.2 (k * 2 + 1)).trans (two_at k hkl).2
              rw [← hl.out] at hst
              generalize twoTab[k] = p at *
              obtain ⟨pa, pb⟩ := p
              simp only at hst hkey c0 c1
              have hne : ((pa : Int) == 65533) = false := beq_false_of_ne (by omega)
              rw [if_neg (by omega)] at hst
              have hst' := hid_mk hst
              clear hst hl
              go_wp2
              go_round
              case rel => exact ⟨k + 1, by omega, by go_num, hst'⟩
              case measure => simp [intOf]; omega
            · obtain rfl : k = 27 := by omega
              have hv := hid_mk (show numC n = 65533 by rw [hl.out]; rfl)
              have hlt' : ¬ ((27 : Nat) : Int) < 27 := by omega
              clear hl
              go_wp2
              go_ret3
              rw [HF'.out, hv.out]
              exact ⟨rfl, hb1.out.1⟩
        have n1' : ¬ (1114111 : Int) < (n : Int) := by omega
        by_cases n2 : 55296 ≤ n ∧ n ≤ 57343
        · have HL := hid_mk (show numC n = lkp 65533 (twoTab.drop 0) by
            rw [List.drop_zero, lkp_out 65533 (by omega)]
            unfold numC
            rw [if_pos (.inr (.inl n2))])
          obtain ⟨n2, n3⟩ := n2
          have n2' : (55296 : Int) ≤ (n : Int) := by omega
          have n3' : (n : Int) ≤ 57343 := by omega
          clear n0 n1
          go_wp2_with fail
          ((with_reducible refine (replaced_any _).mono ?_); skip)
          rintro e w1 ⟨rfl, rfl⟩
          have hb1 := hid_mk (show Below w.heap.size w (w.alloc (.cells twoCells 108)) ∧ ∀ j, (w.alloc (.cells twoCells 108)).cell? ⟨w.heap.size, j, none⟩ = twoCells[j]? from
            ⟨(Below.refl _ _).alloc (Nat.le_refl _) _, fun j => cell_of_row _ _ j _ _ _ (heap_alloc_new w _)⟩)
          generalize w.alloc (.cells twoCells 108) = w1 at *
          go_wp2_with fail
          go_loop [10] (fun vk => ∃ k : Nat, k ≤ 27 ∧ vk = .int .i64 (k : Int) ∧ Hid (numC n = lkp 65533 (twoTab.drop k))) (fun vk => 27 - (intOf vk).toNat)
          case atStart => exact ⟨0, by omega, rfl, HL⟩
          case round =>
            obtain ⟨k, hk, rfl, hl⟩ := hrel
            clear HL
            by_cases hlt : k < 27
            · have hlt' : (k : Int) < 27 := by omega
              have hk0 : (0 : Int) ≤ (k : Int) := by omega
              have hkl : k < twoTab.length := by rw [lenTwo]; exact hlt
              have hst := lkp_drop 65533 k hkl
              have hkey := two_key k hkl
              have c0 := (hb1.out.2 (k * 2)).trans (two_at k hkl).1
              have c1 := (hb1.out.2 (k * 2 + 1)).trans (two_at k hkl).2
              rw [← hl.out] at hst
              generalize twoTab[k] = p at *
              obtain ⟨pa, pb⟩ := p
              simp only at hst hkey c0 c1
              have hne : ((pa : Int) == 65533) = false := beq_false_of_ne (by omega)
              rw [if_neg (by omega)] at hst
              have hst' := hid_mk hst
              clear hst hl
              go_wp2
              go_round
              case rel => exact ⟨k + 1, by omega, by go_num, hst'⟩
              case measure => simp [intOf]; omega
            · obtain rfl : k = 27 := by omega
              have hv := hid_mk (show numC n = 65533 by rw [hl.out]; rfl)
              have hlt' : ¬ ((27 : Nat) : Int) < 27 := by omega
              clear hl
              go_wp2
              go_ret3
              rw [HF'.out, hv.out]
              exact ⟨rfl, hb1.out.1⟩
        have HL := hid_mk (show numC n = lkp n (twoTab.drop 0) by
          rw [List.drop_zero, lkp_num n (by omega)])
        by_cases n4 : 55296 ≤ n
        · have n5 : ¬ n ≤ 57343 := by omega
          have n4' : (55296 : Int) ≤ (n : Int) := by omega
          have n5' : ¬ (n : Int) ≤ 57343 := by omega
          clear n0 n1 n2
          go_wp2_with fail
          ((with_reducible refine (replaced_any _).mono ?_); skip)
          rintro e w1 ⟨rfl, rfl⟩
          have hb1 := hid_mk (show Below w.heap.size w (w.alloc (.cells twoCells 108)) ∧ ∀ j, (w.alloc (.cells twoCells 108)).cell? ⟨w.heap.size, j, none⟩ = twoCells[j]? from
            ⟨(Below.refl _ _).alloc (Nat.le_refl _) _, fun j => cell_of_row _ _ j _ _ _ (heap_alloc_new w _)⟩)
          generalize w.alloc (.cells twoCells 108) = w1 at *
          go_wp2_with fail
          go_loop [10] (fun vk => ∃ k : Nat, k ≤ 27 ∧ vk = .int .i64 (k : Int) ∧ Hid (numC n = lkp n (twoTab.drop k))) (fun vk => 27 - (intOf vk).toNat)
          case atStart => exact ⟨0, by omega, rfl, HL⟩
          case round =>
            obtain ⟨k, hk, rfl, hl⟩ := hrel
            clear HL
            by_cases hlt : k < 27
            · have hlt' : (k : Int) < 27 := by omega
              have hk0 : (0 : Int) ≤ (k : Int) := by omega
              have hkl : k < twoTab.length := by rw [lenTwo]; exact hlt
              have hst := lkp_drop n k hkl
              have hkey := two_key k hkl
              have c0 := (hb1.out.2 (k * 2)).trans (two_at k hkl).1
              have c1 := (hb1.out.2 (k * 2 + 1)).trans (two_at k hkl).2
              rw [← hl.out] at hst
              generalize twoTab[k] = p at *
              obtain ⟨pa, pb⟩ := p
              simp only at hst hkey c0 c1
              by_cases hp : pa = n
              · rw [if_pos hp] at hst
                have hne : ((pa : Int) == (n : Int)) = true := by rw [hp]; simp
                have hst' := hid_mk hst
                clear hst hl hp
                go_wp2
                go_ret3
                rw [HF'.out, hst'.out]
                exact ⟨rfl, hb1.out.1⟩
              · rw [if_neg hp] at hst
                have hne : ((pa : Int) == (n : Int)) = false := beq_false_of_ne (by omega)
                have hst' := hid_mk hst
                clear hst hl hp
                go_wp2
                go_round
                case rel => exact ⟨k + 1, by omega, by go_num, hst'⟩
                case measure => simp [intOf]; omega
            · obtain rfl : k = 27 := by omega
              have hv := hid_mk (show numC n = n by rw [hl.out]; rfl)
              have hlt' : ¬ ((27 : Nat) : Int) < 27 := by omega
              clear hl
              go_wp2
              go_ret3
              rw [HF'.out, hv.out]
              exact ⟨rfl, hb1.out.1⟩
        · have n4' : decide ((55296 : Int) ≤ (n : Int)) = false := by rw [decide_eq_false_iff_not]; omega
          clear n0 n1 n2 n4
          go_wp2_with fail
          ((with_reducible refine (replaced_any _).mono ?_); skip)
          rintro e w1 ⟨rfl, rfl⟩
          have hb1 := hid_mk (show Below w.heap.size w (w.alloc (.cells twoCells 108)) ∧ ∀ j, (w.alloc (.cells twoCells 108)).cell? ⟨w.heap.size, j, none⟩ = twoCells[j]? from
            ⟨(Below.refl _ _).alloc (Nat.le_refl _) _, fun j => cell_of_row _ _ j _ _ _ (heap_alloc_new w _)⟩)
          generalize w.alloc (.cells twoCells 108) = w1 at *
          go_wp2_with fail
          go_loop [10] (fun vk => ∃ k : Nat, k ≤ 27 ∧ vk = .int .i64 (k : Int) ∧ Hid (numC n = lkp n (twoTab.drop k))) (fun vk => 27 - (intOf vk).toNat)
          case atStart => exact ⟨0, by omega, rfl, HL⟩
          case round =>
            obtain ⟨k, hk, rfl, hl⟩ := hrel
            clear HL
            by_cases hlt : k < 27
            · have hlt' : (k : Int) < 27 := by omega
              have hk0 : (0 : Int) ≤ (k : Int) := by omega
              have hkl : k < twoTab.length := by rw [lenTwo]; exact hlt
              have hst := lkp_drop n k hkl
              have hkey := two_key k hkl
              have c0 := (hb1.out.2 (k * 2)).trans (two_at k hkl).1
              have c1 := (hb1.out.2 (k * 2 + 1)).trans (two_at k hkl).2
              rw [← hl.out] at hst
              generalize twoTab[k] = p at *
              obtain ⟨pa, pb⟩ := p
              simp only at hst hkey c0 c1
              by_cases hp : pa = n
              · rw [if_pos hp] at hst
                have hne : ((pa : Int) == (n : Int)) = true := by rw [hp]; simp
                have hst' := hid_mk hst
                clear hst hl hp
                go_wp2
                go_ret3
                rw [HF'.out, hst'.out]
                exact ⟨rfl, hb1.out.1⟩
              · rw [if_neg hp] at hst
                have hne : ((pa : Int) == (n : Int)) = false := beq_false_of_ne (by omega)
                have hst' := hid_mk hst
                clear hst hl hp
                go_wp2
                go_round
                case rel => exact ⟨k + 1, by omega, by go_num, hst'⟩
                case measure => simp [intOf]; omega
            · obtain rfl : k = 27 := by omega
              have hv := hid_mk (show numC n = n by rw [hl.out]; rfl)
              have hlt' : ¬ ((27 : Nat) : Int) < 27 := by omega
              clear hl
              go_wp2
              go_ret3
              rw [HF'.out, hv.out]
              exact ⟨rfl, hb1.out.1⟩
end Go.Proofs.YtakakaenlfilmaaGreatDoor
