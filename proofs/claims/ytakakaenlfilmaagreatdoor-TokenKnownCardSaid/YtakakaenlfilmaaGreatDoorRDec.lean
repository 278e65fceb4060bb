/-
  The reference's Find, where a name is asked for: the reference with which a text begins. Condition: the text's length is bounded.
-/
import Derived.Test.YtakakaenlfilmaaGreatDoorRNumH
import Derived.Test.YtakakaenlfilmaaGreatDoorRNum
import Derived.Test.YtakakaenlfilmaaGreatDoorROne
import Derived.OwnWalk
namespace Go.Proofs.YtakakaenlfilmaaGreatDoor
open Go.RowKit
def refCells : Array Value := (refTab.flatMap cellN).toArray
theorem refNames_any (w : World) :
    Calls Tryz.prog 77 #[] w fun e w' => e = .returned (.slice (some ⟨w.heap.size, 0, none⟩) 59 59) ∧ w' = w.alloc (.cells refCells 96) :=
  calls_exec Tryz.func77 rfl (by kernel_rfl)
theorem lenR : refTab.length = 59 := by decide
theorem ref_at (k : Nat) (hk : k < refTab.length) : refCells[k * 3]? = some (.string (strOf refTab[k].1)) ∧ refCells[k * 3 + 1]? = some (.int .i32 (refTab[k].2.1 : Int)) ∧ refCells[k * 3 + 2]? = some (.bool refTab[k].2.2) := by
  have h0 := flat_get cellN 3 (fun _ => rfl) refTab k 0 hk (by omega)
  have h1 := flat_get cellN 3 (fun _ => rfl) refTab k 1 hk (by omega)
  have h2 := flat_get cellN 3 (fun _ => rfl) refTab k 2 hk (by omega)
  unfold refCells
  exact ⟨by simpa [cellN, strOf] using h0, by simpa [cellN] using h1, by simpa [cellN] using h2⟩
theorem strOf_cons (c : UInt8) (p : List UInt8) : (⟨#[c]⟩ : ByteArray) ++ strOf p = strOf (c :: p) := strOf_app [c] p
theorem strOf_snoc (c : UInt8) (p : List UInt8) : strOf p ++ (⟨#[c]⟩ : ByteArray) = strOf (p ++ [c]) := strOf_app p [c]
theorem pfx_cons (c : UInt8) (p m : List UInt8) : pfx (c :: p) (c :: m) = pfx p m := by
  unfold pfx
  rw [decide_eq_decide, List.length_cons, List.take_succ_cons]
  simp
theorem pfx_snoc (p m : List UInt8) (c : UInt8) (h0 : c.toNat ≠ 0) : pfx (p ++ [c]) m = (pfx p m && decide (atL m p.length = c.toNat)) := by
  unfold pfx
  rw [Bool.eq_iff_iff, Bool.and_eq_true, decide_eq_true_iff, decide_eq_true_iff, decide_eq_true_iff, List.length_append, List.length_singleton]
  constructor
  · intro h
    have hl := congrArg List.length h
    rw [List.length_take, List.length_append, List.length_singleton] at hl
    have hlt : p.length < m.length := by omega
    rw [List.take_succ_eq_append_getElem hlt] at h
    obtain ⟨h1, h2⟩ := List.append_inj' h rfl
    refine ⟨h1, ?_⟩
    unfold atL
    rw [List.getElem?_eq_getElem hlt]
    injection h2 with h2
    rw [Option.getD_some, h2]
  · rintro ⟨h1, h2⟩
    have hlt := atL_pos (l := m) (k := p.length) (by omega)
    rw [List.take_succ_eq_append_getElem hlt, h1]
    congr 2
    unfold atL at h2
    rw [List.getElem?_eq_getElem hlt, Option.getD_some] at h2
    exact UInt8.toNat_inj.1 h2
theorem pfx_taken {p l : List UInt8} (h : pfx p l = true) : strOf p = strOf (l.take p.length) := by rw [pfx_take h]
theorem ref_small (k : Nat) (hk : k < refTab.length) : refTab[k].1.length ≤ 6 := (tab_facts _ (refTab_perm.1 _ (List.getElem_mem hk))).2.1
theorem best_drop (m : List UInt8) (k : Nat) (hk : k < refTab.length) (b : Nat × Nat) : bestF m (refTab.drop k) b = bestF m (refTab.drop (k + 1)) (if b.1 < candM m refTab[k] then (candM m refTab[k], refTab[k].2.1) else b) := by
  rw [List.drop_eq_getElem_cons hk]
  rfl
set_option maxHeartbeats 4000000 in
set_option maxRecDepth 100000 in
theorem refFindName_any (s : ByteArray) (hs : s.size ≤ 9223372036854775000) (attr : Bool) (w : World) (m : List UInt8) (hm : sl s = 38 :: m) (h35 : ¬ atL (sl s) 1 = 35) :
    Calls Tryz.prog 51 #[.string s, .bool attr] w fun e w' => e = .returned (resV (findL (sl s) attr)) ∧ Below w.heap.size w w' := by
  obtain ⟨F, hF⟩ : ∃ F, F = findL (sl s) attr := ⟨_, rfl⟩
  rw [← hF]
  have h38 : atL (sl s) 0 = 38 := by rw [hm]; rfl
  have HF := hid_mk (show F = finL m attr (bestF m refTab (0, 0)) by
    rw [best_nameF, ← hm, hF]
    unfold findL
    rw [if_pos h38, if_neg h35])
  have hp1 := hid_mk (begins_any s [38] w)
  have hp2 := hid_mk (begins_any s [38, 35] w)
  rw [take_one, decide_eq_true h38] at hp1
  rw [take_two, decide_eq_false (fun h => h35 h.2)] at hp2
  have HM := hid_mk hm
  have hsz : m.length + 1 = s.size := by rw [← len_sl, hm]; rfl
  clear hF hm h35 h38
  go_enter Tryz.func51, Tryz.ntmps51
  go_wp2_with fail
  refine hp1.out.mono ?_
  rintro e w' ⟨rfl, rfl⟩
  go_wp2_with fail
  refine hp2.out.mono ?_
  rintro e w' ⟨rfl, rfl⟩
  go_wp2_with fail
  refine (refNames_any w).mono ?_
  rintro e w1 ⟨rfl, rfl⟩
  have hb1 := hid_mk (show Below w.heap.size w (w.alloc (.cells refCells 96)) ∧ ∀ j, (w.alloc (.cells refCells 96)).cell? ⟨w.heap.size, j, none⟩ = refCells[j]? from
    ⟨(Below.refl _ _).alloc (Nat.le_refl _) _, fun j => cell_of_row _ _ j _ _ _ (heap_alloc_new w _)⟩)
  generalize w.alloc (.cells refCells 96) = w1 at *
  clear hp1 hp2
  go_wp2_with fail
  go_loop [11, 12, 13] (fun vl vr vi => ∃ i n r : Nat, i ≤ 59 ∧ n ≤ s.size ∧ vi = .int .i64 (i : Int) ∧ vr = .int .i32 (r : Int) ∧ vl = .string (strOf ((sl s).take n)) ∧ Hid (F = finL m attr (bestF m (refTab.drop i) (n, r)))) (fun _ _ vi => 59 - (intOf vi).toNat)
  case atStart => exact ⟨0, 0, 0, by omega, by omega, rfl, rfl, rfl, HF⟩
  case round =>
    obtain ⟨i, n, r, hi, hn, rfl, rfl, rfl, hf⟩ := hrel
    clear HF
    have hLn : (strOf ((sl s).take n)).size = n := by rw [size_strOf, List.length_take, len_sl]; omega
    by_cases hin : i < 59
    · have hin' : (i : Int) < 59 := by omega
      have hi0 : (0 : Int) ≤ (i : Int) := by omega
      have hil : i < refTab.length := by rw [lenR]; exact hin
      have hbd := best_drop m i hil (n, r)
      have hsm := ref_small i hil
      have c0 := (hb1.out.2 (i * 3)).trans (ref_at i hil).1
      have c1 := (hb1.out.2 (i * 3 + 1)).trans (ref_at i hil).2.1
      have c2 := (hb1.out.2 (i * 3 + 2)).trans (ref_at i hil).2.2
      generalize refTab[i] = en at *
      obtain ⟨nm, ch, alone⟩ := en
      simp only at c0 c1 c2 hsm
      have hT1 := hid_mk (strOf_cons 38 nm)
      have hT2 := hid_mk (strOf_snoc 59 (38 :: nm))
      have hz0 : (strOf nm).size ≤ 6 := by rw [size_strOf]; exact hsm
      have hz1 : (strOf (38 :: nm)).size = nm.length + 1 := by rw [size_strOf]; rfl
      have hz2 : (strOf (38 :: nm ++ [59])).size = nm.length + 2 := by rw [size_strOf, List.length_append]; rfl
      have hB1 := hid_mk (fun w => begins_any s (38 :: nm) w)
      have hB2 := hid_mk (fun w => begins_any s (38 :: nm ++ [59]) w)
      have hP : pfx (38 :: nm) (sl s) = pfx nm m := by rw [HM.out, pfx_cons]
      have hQ : pfx (38 :: nm ++ [59]) (sl s) = (pfx nm m && decide (atL m nm.length = 59)) := by
        rw [HM.out]
        show pfx (38 :: (nm ++ [59])) (38 :: m) = _
        rw [pfx_cons, pfx_snoc _ _ _ (by decide)]
        rfl
      rw [hbd] at hf
      have hNM : pfx (38 :: nm) (sl s) = true → nm.length + 1 ≤ s.size := fun h => by
        have := pfx_len h
        rw [len_sl] at this
        simpa using this
      have hNM2 : pfx (38 :: nm ++ [59]) (sl s) = true → nm.length + 2 ≤ s.size := fun h => by
        have := pfx_len h
        rw [len_sl] at this
        simpa using this
      have hTE1 : pfx (38 :: nm) (sl s) = true → strOf (38 :: nm) = strOf ((sl s).take (nm.length + 1)) := fun h => pfx_taken h
      have hTE2 : pfx (38 :: nm ++ [59]) (sl s) = true → strOf (38 :: nm ++ [59]) = strOf ((sl s).take (nm.length + 2)) := fun h => by
        have := pfx_taken h
        rwa [show ((38 :: nm ++ [59] : List UInt8)).length = nm.length + 2 by simp] at this
      rw [hP] at hNM hTE1 hB1
      rw [hQ] at hNM2 hTE2 hB2
      clear hP hQ
      generalize strOf (38 :: nm) = T1 at *
      generalize strOf (38 :: nm ++ [59]) = T2 at *
      cases hp : pfx nm m with
      | false =>
        have hcand : candM m (nm, ch, alone) = 0 := by unfold candM; rw [if_neg (by simp only; rw [hp]; decide)]
        have hf2 := hid_mk (show F = finL m attr (bestF m (refTab.drop (i + 1)) (n, r)) by rw [hf, hcand]; rw [if_neg (by simp)])
        rw [hp] at hB1
        clear hf hcand hp hB2 hNM hNM2 hTE1 hTE2 hbd
        go_wp2_with fail
        rw [hT1.out]
        refine (hB1.out w1).mono ?_
        rintro e w' ⟨rfl, rfl⟩
        go_wp2
        go_round
        case rel => exact ⟨i + 1, n, r, by omega, hn, by go_num, rfl, rfl, hf2⟩
        case measure => simp [intOf]; omega
      | true =>
        rw [hp] at hB1 hB2 hNM hNM2 hTE1 hTE2
        rw [Bool.true_and] at hB2 hNM2 hTE2
        by_cases h59 : atL m nm.length = 59
        · have hcand : candM m (nm, ch, alone) = nm.length + 2 := by
            unfold candM
            rw [if_pos hp]
            simp only
            rw [if_pos h59]
          rw [decide_eq_true h59] at hB2
          have hfit := hNM2 (decide_eq_true h59)
          have hE := hid_mk (hTE2 (decide_eq_true h59))
          clear hNM hNM2 hTE1 hTE2 hp h59 hbd
          go_wp2_with fail
          rw [hT1.out]
          refine (hB1.out w1).mono ?_
          rintro e w' ⟨rfl, rfl⟩
          go_wp2_with fail
          rw [hT2.out]
          refine (hB2.out w1).mono ?_
          rintro e w' ⟨rfl, rfl⟩
          by_cases hgt : n < nm.length + 2
          · have hf2 := hid_mk (show F = finL m attr (bestF m (refTab.drop (i + 1)) (nm.length + 2, ch)) by rw [hf, hcand]; rw [if_pos hgt])
            have hgt' : (n : Int) < (nm.length : Int) + 2 := by omega
            have hlen : nm.length + 2 ≤ s.size := hfit
            clear hf hcand hgt
            go_wp2
            go_round
            case rel => exact ⟨i + 1, nm.length + 2, ch, by omega, hlen, by go_num, rfl, by first | rw [hE.out] | rw [hT2.out, hE.out], hf2⟩
            case measure => simp [intOf]; omega
          · have hf2 := hid_mk (show F = finL m attr (bestF m (refTab.drop (i + 1)) (n, r)) by rw [hf, hcand]; rw [if_neg hgt])
            have hgt' : ¬ (n : Int) < (nm.length : Int) + 2 := by omega
            clear hf hcand hgt
            go_wp2
            go_round
            case rel => exact ⟨i + 1, n, r, by omega, hn, by go_num, rfl, rfl, hf2⟩
            case measure => simp [intOf]; omega
        · rw [decide_eq_false h59] at hB2
          cases alone with
          | false =>
            have hcand : candM m (nm, ch, false) = 0 := by
              unfold candM
              rw [if_pos hp]
              simp only
              rw [if_neg h59]
              rfl
            have hf2 := hid_mk (show F = finL m attr (bestF m (refTab.drop (i + 1)) (n, r)) by rw [hf, hcand]; rw [if_neg (by simp)])
            clear hf hcand hp hNM hNM2 hTE1 hTE2 h59 hbd
            go_wp2_with fail
            rw [hT1.out]
            refine (hB1.out w1).mono ?_
            rintro e w' ⟨rfl, rfl⟩
            go_wp2_with fail
            rw [hT2.out]
            refine (hB2.out w1).mono ?_
            rintro e w' ⟨rfl, rfl⟩
            go_wp2
            go_round
            case rel => exact ⟨i + 1, n, r, by omega, hn, by go_num, rfl, rfl, hf2⟩
            case measure => simp [intOf]; omega
          | true =>
            have hcand : candM m (nm, ch, true) = nm.length + 1 := by
              unfold candM
              rw [if_pos hp]
              simp only
              rw [if_neg h59]
              rfl
            have hfit := hNM rfl
            have hE := hid_mk (hTE1 rfl)
            clear hNM hNM2 hTE1 hTE2 hp h59 hbd
            go_wp2_with fail
            rw [hT1.out]
            refine (hB1.out w1).mono ?_
            rintro e w' ⟨rfl, rfl⟩
            go_wp2_with fail
            rw [hT2.out]
            refine (hB2.out w1).mono ?_
            rintro e w' ⟨rfl, rfl⟩
            by_cases hgt : n < nm.length + 1
            · have hf2 := hid_mk (show F = finL m attr (bestF m (refTab.drop (i + 1)) (nm.length + 1, ch)) by rw [hf, hcand]; rw [if_pos hgt])
              have hgt' : (n : Int) < (nm.length : Int) + 1 := by omega
              have hlen : nm.length + 1 ≤ s.size := hfit
              clear hf hcand hgt
              go_wp2
              go_round
              case rel => exact ⟨i + 1, nm.length + 1, ch, by omega, hlen, by go_num, rfl, by first | rw [hE.out] | rw [hT2.out, hE.out], hf2⟩
              case measure => simp [intOf]; omega
            · have hf2 := hid_mk (show F = finL m attr (bestF m (refTab.drop (i + 1)) (n, r)) by rw [hf, hcand]; rw [if_neg hgt])
              have hgt' : ¬ (n : Int) < (nm.length : Int) + 1 := by omega
              clear hf hcand hgt
              go_wp2
              go_round
              case rel => exact ⟨i + 1, n, r, by omega, hn, by go_num, rfl, rfl, hf2⟩
              case measure => simp [intOf]; omega
    · obtain rfl : i = 59 := by omega
      have hf3 : F = finL m attr (n, r) := by
        rw [hf, List.drop_eq_nil_of_le (by rw [lenR]; omega)]
        rfl
      have hin' : ¬ ((59 : Nat) : Int) < 59 := by omega
      clear hf hi
      unfold finL at hf3
      simp only at hf3
      rw [← HM.out] at hf3
      by_cases hn0 : n = 0
      · rw [if_pos (.inl hn0)] at hf3
        have HF' := hid_mk hf3
        have hn0' : ((n : Int) == 0) = true := by rw [hn0]; rfl
        clear hf3 hn0
        go_wp2
        go_ret3
        rw [HF'.out]
        exact ⟨rfl, hb1.out.1⟩
      · have hn0' : ((n : Int) == 0) = false := beq_false_of_ne (by omega)
        cases attr with
        | false =>
          rw [if_neg (fun h => h.elim hn0 (fun h => by cases h.1))] at hf3
          have HF' := hid_mk hf3
          clear hf3 hn0
          go_wp2
          go_ret3
          rw [HF'.out]
          exact ⟨rfl, hb1.out.1⟩
        | true =>
          have hi1 : n - 1 < (strOf ((sl s).take n)).size := by rw [hLn]; omega
          have hby := byte_atL (strOf ((sl s).take n)) (n - 1) hi1
          rw [sl_strOf] at hby
          have hat : atL ((sl s).take n) (n - 1) = atL (sl s) (n - 1) := by
            unfold atL
            rw [List.getElem?_take, if_pos (by omega)]
          rw [hat] at hby
          have hn1 : (1 : Int) ≤ (n : Int) := by omega
          have hn2 : (0 : Int) ≤ (n : Int) - 1 := by omega
          have hn3 : ((n : Int) - 1).toNat = n - 1 := by omega
          have hn4 : (n : Int) - 1 < (n : Int) := by omega
          clear hat
          by_cases h59 : atL (sl s) (n - 1) = 59
          · rw [if_neg (fun h => h.elim hn0 (fun h => h.2.1 h59))] at hf3
            have HF' := hid_mk hf3
            have hb59 : ((((strOf ((sl s).take n))[n - 1]'hi1).toNat : Int) == 59) = true := by rw [hby, h59]; rfl
            have hbn59 : ((((strOf ((sl s).take n))[n - 1]'hi1).toNat : Int) != 59) = false := by simp only [bne, hb59]; rfl
            clear hby h59
            clear hf3 hn0
            go_wp2
            go_ret3
            rw [HF'.out]
            exact ⟨rfl, hb1.out.1⟩
          · have hb59 : ((((strOf ((sl s).take n))[n - 1]'hi1).toNat : Int) == 59) = false := by rw [hby]; exact beq_false_of_ne (by omega)
            have hbn59 : ((((strOf ((sl s).take n))[n - 1]'hi1).toNat : Int) != 59) = true := by simp only [bne, hb59]; rfl
            by_cases hns : n < s.size
            · have hns' : (n : Int) < (s.size : Int) := by omega
              have hn00 : (0 : Int) ≤ (n : Int) := by omega
              have hby2 := byte_atL s n hns
              have hx := byte_lt (s[n]'hns)
              rw [← hby2] at hf3
              generalize hxx : (s[n]'hns).toNat = x at *
              by_cases h61 : x = 61
              · rw [if_pos (.inr ⟨rfl, h59, by rw [h61]; decide⟩)] at hf3
                have HF' := hid_mk hf3
                have h61' : ((x : Int) == 61) = true := by rw [h61]; rfl
                clear hby h59 hby2 h61
                clear hf3 hn0
                go_wp2
                go_ret3
                rw [HF'.out]
                exact ⟨rfl, hb1.out.1⟩
              · have h61' : ((x : Int) == 61) = false := beq_false_of_ne (by omega)
                have hal := hid_mk (alnum_any x hx w1)
                rw [show (goesB x && decide (x ≠ 61)) = goesB x by rw [decide_eq_true h61, Bool.and_true]] at hal
                cases hg : goesB x with
                | true =>
                  rw [if_pos (.inr ⟨rfl, h59, hg⟩)] at hf3
                  rw [hg] at hal
                  have HF' := hid_mk hf3
                  clear hby h59 hby2 h61 hf3 hn0 hg
                  go_wp2_with fail
                  ((with_reducible refine hal.out.mono ?_); skip)
                  rintro e w' ⟨rfl, rfl⟩
                  go_wp2
                  go_ret3
                  rw [HF'.out]
                  exact ⟨rfl, hb1.out.1⟩
                | false =>
                  rw [if_neg (fun h => h.elim hn0 (fun h => by rw [hg] at h; cases h.2.2))] at hf3
                  rw [hg] at hal
                  have HF' := hid_mk hf3
                  clear hby h59 hby2 h61 hf3 hn0 hg
                  go_wp2_with fail
                  ((with_reducible refine hal.out.mono ?_); skip)
                  rintro e w' ⟨rfl, rfl⟩
                  go_wp2
                  go_ret3
                  rw [HF'.out]
                  exact ⟨rfl, hb1.out.1⟩
            · have hns' : ¬ (n : Int) < (s.size : Int) := by omega
              have h0 : atL (sl s) n = 0 := by
                unfold atL
                rw [List.getElem?_eq_none (by rw [len_sl]; omega)]
                rfl
              rw [h0, if_neg (fun h => h.elim hn0 (fun h => by cases h.2.2))] at hf3
              have HF' := hid_mk hf3
              clear hby h59 h0
              clear hf3 hn0
              go_wp2
              go_ret3
              rw [HF'.out]
              exact ⟨rfl, hb1.out.1⟩
end Go.Proofs.YtakakaenlfilmaaGreatDoor
/-
  The reference's Find: the reference with which a text begins. Condition: the text's length is bounded.
-/
namespace Go.Proofs.YtakakaenlfilmaaGreatDoor
open Go.RowKit
set_option maxHeartbeats 1000000 in
set_option maxRecDepth 100000 in
theorem refFind_any (s : ByteArray) (hs : s.size ≤ 9223372036854775000) (attr : Bool) (w : World) :
    Calls Tryz.prog 51 #[.string s, .bool attr] w fun e w' => e = .returned (resV (findL (sl s) attr)) ∧ Below w.heap.size w w' := by
  have hp1 := hid_mk (begins_any s [38] w)
  rw [take_one] at hp1
  by_cases c0 : atL (sl s) 0 = 38
  · by_cases c1 : atL (sl s) 1 = 35
    · have hp2 := hid_mk (begins_any s [38, 35] w)
      rw [take_two, decide_eq_true ⟨c0, c1⟩] at hp2
      rw [decide_eq_true c0] at hp1
      have hs2 := atL_pos (l := sl s) (k := 1) (by omega)
      rw [len_sl] at hs2
      have hs2' : (2 : Int) ≤ (s.size : Int) := by omega
      have hes : (s.extract 2 s.size).size ≤ 9223372036854775000 := by rw [size_extract]; omega
      have hnu := hid_mk (number_any (s.extract 2 s.size) hes w)
      rw [sl_extract] at hnu
      have hv := hid_mk (show findL (sl s) attr = (numR ((sl s).drop 2)).map fun p => (p.1, p.2 + 2) by unfold findL; rw [if_pos c0, if_pos c1, numR_find])
      clear c0 c1 hes
      cases hq : numR ((sl s).drop 2) with
      | none =>
        rw [hq] at hnu hv
        simp only [resV, Option.map_none] at hnu hv
        clear hq
        go_enter Tryz.func51, Tryz.ntmps51
        go_wp2_with fail
        refine hp1.out.mono ?_
        rintro e w' ⟨rfl, rfl⟩
        go_wp2_with fail
        refine hp2.out.mono ?_
        rintro e w' ⟨rfl, rfl⟩
        go_wp2_with fail
        ((with_reducible refine hnu.out.mono ?_); skip)
        rintro e w1 ⟨rfl, hb⟩
        have HB := hid_mk hb
        clear hb
        go_wp2
        go_ret3
        rw [hv.out]
        exact ⟨rfl, HB.out⟩
      | some p =>
        rw [hq] at hnu hv
        obtain ⟨r, n⟩ := p
        simp only [resV, Option.map_some] at hnu hv
        have hn : n ≤ s.size := by
          have h1 := hv.out
          have := (findL_le h1).2.1
          rw [len_sl] at this
          simp only at this
          omega
        clear hq
        go_enter Tryz.func51, Tryz.ntmps51
        go_wp2_with fail
        refine hp1.out.mono ?_
        rintro e w' ⟨rfl, rfl⟩
        go_wp2_with fail
        refine hp2.out.mono ?_
        rintro e w' ⟨rfl, rfl⟩
        go_wp2_with fail
        ((with_reducible refine hnu.out.mono ?_); skip)
        rintro e w1 ⟨rfl, hb⟩
        have HB := hid_mk hb
        clear hb
        go_wp2
        go_ret3
        rw [hv.out]
        exact ⟨rfl, HB.out⟩
    · cases hm : sl s with
      | nil => rw [hm] at c0; cases c0
      | cons c m =>
        have hc : c = 38 := by
          rw [hm] at c0
          exact UInt8.toNat_inj.1 c0
        rw [hc] at hm
        have := refFindName_any s hs attr w m hm c1
        rw [hm] at this
        rw [hc]
        exact this
  · rw [decide_eq_false c0] at hp1
    have hv := hid_mk (show findL (sl s) attr = none by unfold findL; rw [if_neg c0])
    clear c0
    go_enter Tryz.func51, Tryz.ntmps51
    go_wp2_with fail
    refine hp1.out.mono ?_
    rintro e w' ⟨rfl, rfl⟩
    go_wp2
    go_ret3
    rw [hv.out]
    exact ⟨rfl, Below.refl _ _⟩
end Go.Proofs.YtakakaenlfilmaaGreatDoor
/-
  The reference's Decode: a text without references. Condition: the text's length is bounded.
-/
namespace Go.Proofs.YtakakaenlfilmaaGreatDoor
open Go.RowKit
set_option maxHeartbeats 4000000 in
set_option maxRecDepth 100000 in
theorem refDecode_any (s : ByteArray) (hs : s.size ≤ 1000000000000) (attr : Bool) (w : World) :
    Calls Tryz.prog 32 #[.string s, .bool attr] w fun e w' => e = .returned (.string (strOf (decL (sl s) attr))) ∧ Below w.heap.size w w' := by
  obtain ⟨D, hD⟩ : ∃ D, D = decL (sl s) attr := ⟨_, rfl⟩
  rw [← hD]
  have HD := hid_mk hD
  clear hD
  go_enter Tryz.func32, Tryz.ntmps32
  go_wp2_with fail
  go_loopw [5, 6] (fun vb vi wr => ∃ (i : Nat) (acc : List UInt8), i ≤ s.size ∧ vi = .int .i64 (i : Int) ∧ Hid (acc.length ≤ 4 * i) ∧ Hid (D = acc ++ decL ((sl s).drop i) attr) ∧ Hid (wr.ownsRow w.heap.size 5 1 vb acc.length (Lib.byteCells acc) ∧ Below w.heap.size w wr)) (fun _ vi _ => s.size - (intOf vi).toNat)
  case atStart => exact ⟨0, [], by omega, rfl, hid_mk (by simp), HD, hid_mk ⟨⟨rfl, .inl ⟨rfl, rfl⟩⟩, Below.refl _ _⟩⟩
  case round =>
    obtain ⟨i, acc, hi, rfl, hacc, hd, HW⟩ := hrel
    clear HD
    by_cases hin : i < s.size
    · have hin' : (i : Int) < (s.size : Int) := by omega
      have hi2 : (i : Int) ≤ (s.size : Int) := by omega
      have hi0 : (0 : Int) ≤ (i : Int) := by omega
      have hes : (s.extract i s.size).size ≤ 9223372036854775000 := by rw [size_extract]; omega
      have hfi := hid_mk (refFind_any (s.extract i s.size) hes attr wr)
      rw [sl_extract] at hfi
      clear hes
      cases hq : findL ((sl s).drop i) attr with
      | none =>
        rw [hq] at hfi
        simp only [resV] at hfi
        have hil : i < (sl s).length := by rw [len_sl]; exact hin
        have hby := byte_atL s i hin
        have hdn : decL ((sl s).drop i) attr = (s[i]'hin) :: decL ((sl s).drop (i + 1)) attr := by
          rw [List.drop_eq_getElem_cons hil] at hq ⊢
          rw [decL_none hq]
          rfl
        have hd2 := hid_mk (show D = (acc ++ [s[i]'hin]) ++ decL ((sl s).drop (i + 1)) attr by
          rw [hd.out, hdn, List.append_assoc]
          rfl)
        have ha2 := hid_mk (show (acc ++ [s[i]'hin]).length ≤ 4 * (i + 1) by
          have := hacc.out
          rw [List.length_append, List.length_singleton]
          omega)
        have hbc := hid_mk (show Lib.byteCells acc ++ [Value.int .u8 (((s[i]'hin).toNat : Nat) : Int)] = Lib.byteCells (acc ++ [s[i]'hin]) by
          rw [Lib.byteCells_append]
          rfl)
        clear hd hq hdn hby hil
        generalize acc ++ [s[i]'hin] = acc2 at *
        go_wp2_with fail
        ((with_reducible refine hfi.out.mono ?_); skip)
        rintro e w1 ⟨rfl, hb1⟩
        have HW1 := hid_mk (show w1.ownsRow w.heap.size 5 1 _ acc.length (Lib.byteCells acc) ∧ Below w.heap.size w w1 from ⟨own_below HW.out.1 hb1, HW.out.2.trans (hb1.mono HW.out.2.size)⟩)
        clear hb1 HW hfi
        go_wp2_with (at_builtin; refine Classical.byContradiction fun hno => ?_)
        refine hno ?_
        clear hno
        obtain ⟨i0, hi', hz0, hz1, hz2⟩ := info_parts infoByte
        have hsz := HW1.out.2.size
        have hal := hacc.out
        refine wpList_append_own _ rfl (.tmp 25) (.tmp 29) _ rfl w.heap.size 5 i0 _ 1 1 Tryz.underlying39 hi' hz0 hz1 hz2 rfl (by decide) _ acc.length (Lib.byteCells acc) rfl (HW1.out.1.alloc _) ⟨w1.heap.size, 0, none⟩ 1 1 [.int .u8 (((s[i]'hin).toNat : Nat) : Int)] rfl rfl ?c1 ?c2 ?c3 ?c4 ?c5 ?_
        case c1 =>
          intro j u hu
          rw [addr_add0, cell_of_row _ _ j _ _ _ (heap_alloc_new w1 _)]
          simpa using hu
        case c2 => intro u hu; simp at hu; subst hu; rfl
        case c3 => unfold maxLen; omega
        case c4 => omega
        case c5 => simp; omega
        intro v' w2 hown1 hgrow _
        rw [hbc.out] at hown1
        have hlen : acc.length + 1 = acc2.length := by
          have := congrArg List.length hbc.out
          rw [List.length_append, Lib.byteCells_length, Lib.byteCells_length] at this
          exact this
        rw [hlen] at hown1
        have hfin := hid_mk (show w2.ownsRow w.heap.size 5 1 v' acc2.length (Lib.byteCells acc2) ∧ Below w.heap.size w w2 from
          ⟨hown1, (HW1.out.2.alloc hsz _).grown hgrow (by simp; omega) (fun k hk => own_base HW1.out.1 k hk)⟩)
        clear HW1 hown1 hgrow hi' hz0 hz1 hz2 hbc hlen hal
        clear i0
        go_wp2
        go_roundw
        case rel => exact ⟨i + 1, acc2, by omega, by first | rfl | go_num, ha2, hd2, hfin⟩
        case measure => simp [intOf]; omega
      | some p =>
        rw [hq] at hfi
        obtain ⟨r, n⟩ := p
        simp only [resV] at hfi
        have hp := findL_le hq
        rw [List.length_drop, len_sl] at hp
        simp only at hp
        obtain ⟨hp1, hp2, hp3⟩ := hp
        have hdn := decL_some hq
        rw [List.drop_drop] at hdn
        simp only at hdn
        have hd2 := hid_mk (show D = (acc ++ Lib.encodeRune (r : Int)) ++ decL ((sl s).drop (i + n)) attr by
          rw [hd.out, hdn, List.append_assoc])
        have ha2 := hid_mk (show (acc ++ Lib.encodeRune (r : Int)).length ≤ 4 * (i + n) by
          have := hacc.out
          have := (enc_le (r : Int)).2
          rw [List.length_append]
          omega)
        have hr0 : (0 : Int) ≤ (r : Int) := by omega
        have hr1 : (r : Int) ≤ 1114111 := by omega
        have hn0 : (0 : Int) ≤ (n : Int) := by omega
        have hn1 : (i : Int) + (n : Int) ≤ (s.size : Int) := by omega
        have hne : i + n ≤ s.size := by omega
        clear hd hq hdn hp3
        go_wp2_with fail
        ((with_reducible refine hfi.out.mono ?_); skip)
        rintro e w1 ⟨rfl, hb1⟩
        have HW1 := hid_mk (show w1.ownsRow w.heap.size 5 1 _ acc.length (Lib.byteCells acc) ∧ Below w.heap.size w w1 from ⟨own_below HW.out.1 hb1, HW.out.2.trans (hb1.mono HW.out.2.size)⟩)
        clear hb1 HW hfi
        go_wp2_with fail
        refine (refOne_any (r : Int) (by omega) (by omega) _).mono ?_
        rintro e w2 ⟨rfl, rfl⟩
        have hk := enc_le (r : Int)
        have hkc : (Lib.runeCells (r : Int)).length = (Lib.encodeRune (r : Int)).length := Lib.runeCells_length (r : Int)
        go_wp2_with (at_builtin; refine Classical.byContradiction fun hno => ?_)
        refine hno ?_
        clear hno
        obtain ⟨i0, hi', hz0, hz1, hz2⟩ := info_parts infoByte
        have hsz := HW1.out.2.size
        have hal := hacc.out
        refine wpList_append_own _ rfl (.tmp 33) (.tmp 35) _ rfl w.heap.size 5 i0 _ 1 1 Tryz.underlying39 hi' hz0 hz1 hz2 rfl (by decide) _ acc.length (Lib.byteCells acc) rfl (HW1.out.1.alloc _) ⟨w1.heap.size, 0, none⟩ (Lib.encodeRune (r : Int)).length (Lib.encodeRune (r : Int)).length (Lib.runeCells (r : Int)) rfl (by rw [hkc, Nat.mul_one]) ?d1 ?d2 ?d3 ?d4 ?d5 ?_
        case d1 =>
          intro j u hu
          rw [addr_add0, cell_of_row _ _ j _ _ _ (heap_alloc_new w1 _)]
          simpa using hu
        case d2 => exact runeCells_one (r : Int)
        case d3 => unfold maxLen; omega
        case d4 => omega
        case d5 => simp; omega
        intro v' w2 hown1 hgrow _
        have hfin := hid_mk (show w2.ownsRow w.heap.size 5 1 v' (acc ++ Lib.encodeRune (r : Int)).length (Lib.byteCells (acc ++ Lib.encodeRune (r : Int))) ∧ Below w.heap.size w w2 from by
          rw [List.length_append, Lib.byteCells_append, Lib.byteCells_encodeRune]
          exact ⟨hown1, (HW1.out.2.alloc hsz _).grown hgrow (by simp; omega) (fun k hk => own_base HW1.out.1 k hk)⟩)
        clear HW1 hown1 hgrow hi' hz0 hz1 hz2 hkc hk hal
        clear i0
        generalize acc ++ Lib.encodeRune (r : Int) = acc2 at *
        go_wp2
        go_roundw
        case rel => exact ⟨i + n, acc2, by omega, by first | rfl | go_num, ha2, hd2, hfin⟩
        case measure => simp [intOf]; omega
    · have hv : D = acc := by
        rw [hd.out, List.drop_eq_nil_of_le (by rw [len_sl]; omega), decL_nil, List.append_nil]
      have HV := hid_mk hv
      obtain ⟨a', cap', hv', hhas⟩ := own_bytes HW.out.1
      have hcv := bytes_conv wr a' cap' _ hhas
      have HB := hid_mk HW.out.2
      have hin' : ¬ (i : Int) < (s.size : Int) := by omega
      subst hv'
      clear HW hhas hv hin hd
      go_wp2
      go_ret
      rw [HV.out]
      exact ⟨rfl, HB.out⟩
end Go.Proofs.YtakakaenlfilmaaGreatDoor
