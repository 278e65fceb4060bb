/-
  References by name, of the program: goesOn, findName. Condition: the text's length is bounded.
-/
import Derived.Test.YtlcijlklbabajaaGreatDoorQNmSr
namespace Go.Proofs.YtlcijlklbabajaaGreatDoor
open Go.RowKit
theorem size_zero {s : ByteArray} (h : ¬ 0 < s.size) : s = ⟨#[]⟩ := by
 have h1 : sl s = [] := List.eq_nil_of_length_eq_zero (by rw [len_sl]; omega)
 have h2 := strOf_sl s
 rw [h1] at h2
 exact h2.symm
theorem not_empty {s : ByteArray} (h : 0 < s.size) : s.toList.isEmpty = false := by
 rw [Lib.toList_data]
 cases hl : s.data.toList with
 | nil =>
   have := len_sl s
   unfold sl at this
   rw [hl] at this
   simp at this
   omega
 | cons a l => rfl
theorem ret_bool {a b : Bool} (h : a = b) : Ending.returned (.bool a) = Ending.returned (.bool b) := by rw [h]
set_option maxRecDepth 100000 in
set_option maxHeartbeats 2000000 in
theorem goesOn_any (s : ByteArray) (w : World) :
 Calls Tryz.prog 208 #[.string s] w fun e w' => e = .returned (.bool (goesB (atL (sl s) 0))) ∧ w = w' := by
 by_cases h0 : 0 < s.size
 ·have hby := byte_atL s 0 h0
  rw [← hby]
  have h0' : (0 : Int) < (s.size : Int) := by omega
  have hne := not_empty h0
  have hx := byte_lt (s[0]'h0)
  clear hby
  generalize hc : (s[0]'h0).toNat = c at *
  go_enter Tryz.func208, Tryz.ntmps208
  go_wp2
  all_goals
   go_ret
   refine ⟨ret_bool ?_, rfl⟩
   rw [Bool.eq_iff_iff]
   unfold goesB
   simp
   omega
 ·obtain rfl := size_zero h0
  have hq : (⟨#[]⟩ : ByteArray).toList = [] := by decide +kernel
  go_enter Tryz.func208, Tryz.ntmps208
  go_wp2
  go_ret
  exact ⟨rfl, rfl⟩
theorem nameF_short (l : List UInt8) (attr : Bool) : ∀ (d k : Nat), k = (l.length - 1) + d → nameF l attr k = nameF l attr (l.length - 1)
 | 0, k, h => by rw [h]; rfl
 | d + 1, k, h => by
   obtain ⟨k', rfl⟩ : ∃ k', k = k' + 1 := ⟨k - 1, by omega⟩
   have ih := nameF_short l attr d k' (by omega)
   conv => lhs; unfold nameF
   rw [if_neg (by omega), ih]
theorem nameF_min (l : List UInt8) (attr : Bool) : nameF l attr 6 = nameF l attr (min 7 l.length - 1) := by
 by_cases h : 7 ≤ l.length
 ·rw [Nat.min_eq_left h]
 ·rw [Nat.min_eq_right (by omega), nameF_short l attr (6 - (l.length - 1)) 6 (by omega)]
theorem nameF_at (l : List UInt8) (attr : Bool) (e : Nat) (h : 1 < e) (hl : e ≤ l.length) : nameF l attr (e - 1) = match lookT ((l.drop 1).take (e - 1)) with
 | some n => if atL l e = 59 then some (n.2.1, e + 1) else if n.2.2 && !(attr && goesB (atL l e)) then some (n.2.1, e) else nameF l attr (e - 1 - 1)
 | none => nameF l attr (e - 1 - 1) := by
 obtain ⟨k, rfl⟩ : ∃ k, e = k + 2 := ⟨e - 2, by omega⟩
 show nameF l attr (k + 1) = _
 conv => lhs; unfold nameF
 rw [if_pos hl]
 rfl
theorem infoNames : (Tryz.prog.info? 204).map (·.size) = some nameCells.size := by rw [sizeName]; kernel_rfl
theorem sizeBothN : zeroCellsN.size = nameCells.size := by rw [sizeName, sizeZeroN]
/-- The names lie in block g. -/
def NamesAt (g : Nat) (w : World) : Prop := g < w.heap.size ∧ ∀ j, w.cell? ⟨g, j, none⟩ = nameCells[j]?
theorem NamesAt.below {g : Nat} {w w' : World} (h : NamesAt g w) (hb : Below w.heap.size w w') : NamesAt g w' :=
 ⟨Nat.lt_of_lt_of_le h.1 hb.size, fun j => by rw [hb.cell (p := ⟨g, j, none⟩) h.1]; exact h.2 j⟩
set_option maxHeartbeats 4000000 in
set_option maxRecDepth 100000 in
theorem findName_any (s : ByteArray) (h1 : 1 ≤ s.size) (hs : s.size ≤ 9223372036854775000) (attr : Bool) (w : World) :
 Calls Tryz.prog 188 #[.string s, .bool attr] w fun e w' => e = .returned (resV (nameF (sl s) attr 6)) ∧ Below w.heap.size w w' := by
 have hz : ∀ w, (zeroValue 204).run Tryz.prog w = .ok (.agg zeroCellsN) w := fun _ => by kernel_rfl
 obtain ⟨F, hF⟩ : ∃ F, F = nameF (sl s) attr 6 := ⟨_, rfl⟩
 rw [← hF]
 have HF := hid_mk (hF.trans (nameF_min (sl s) attr))
 rw [len_sl] at HF
 clear hF
 have hz' := hid_mk hz
 by_cases h7 : 7 ≤ s.size
 ·rw [Nat.min_eq_left h7] at HF
  go_enter Tryz.func188, Tryz.ntmps188
  go_wp2_with (first
   | (go_at_call 205; refine (names_any _).mono ?_; rintro e w1 ⟨rfl, hb1⟩)
   | (refine wpList_store_row rfl 204 (.tmp 7) (.tmp 11) rfl w1.heap.size nameCells rfl rfl 204 zeroCellsN (heap_alloc_new w1 _) infoNames sizeBothN oneName ?_))
  have hg := hid_mk (show NamesAt w1.heap.size ((w1.alloc (.cells zeroCellsN 204)).setRow w1.heap.size nameCells) ∧ Below w.heap.size w ((w1.alloc (.cells zeroCellsN 204)).setRow w1.heap.size nameCells) from by
   refine ⟨⟨by rw [size_setRow]; simp, fun j => cell_of_row _ _ j _ _ _ (setRow_heap _ _ _ _ _ _ (heap_alloc_new w1 (.cells zeroCellsN 204)))⟩, ?_⟩
   have := hb1.size
   exact below_setRow (hb1.alloc (by omega) _) (by omega) _)
  generalize (w1.alloc (.cells zeroCellsN 204)).setRow w1.heap.size nameCells = w2 at *
  generalize w1.heap.size = g at *
  clear hb1 hz
  go_loopw [8] (fun ve wr => ∃ e : Nat, 1 ≤ e ∧ e ≤ 7 ∧ e ≤ s.size ∧ ve = .int .i64 (e : Int) ∧ Hid (F = nameF (sl s) attr (e - 1)) ∧ Hid (NamesAt g wr ∧ Below w.heap.size w wr)) (fun ve _ => (intOf ve).toNat)
  case atStart => exact ⟨7, by omega, by omega, by omega, rfl, HF, hg⟩
  case round =>
   obtain ⟨e, he1, he7, hes, rfl, hf, HW⟩ := hrel
   clear HF hg
   by_cases hin : 1 < e
   ·have hin' : (1 : Int) < (e : Int) := by omega
    have hes' : (e : Int) ≤ (s.size : Int) := by omega
    have hst := nameF_at (sl s) attr e hin (by rw [len_sl]; exact hes)
    rw [← hf.out] at hst
    have htx : sl (s.extract 1 e) = ((sl s).drop 1).take (e - 1) := by
     have := sl_cut s 1 (e - 1)
     rwa [show 1 + (e - 1) = e by omega] at this
    obtain ⟨t, ht⟩ : ∃ t, t = ((sl s).drop 1).take (e - 1) := ⟨_, rfl⟩
    rw [← ht] at hst htx
    have hxt : s.extract 1 e = strOf t := by rw [← htx, strOf_sl]
    have HT := hid_mk hxt
    have hc0 := hid_mk (show (wr.alloc (.cells #[.string (strOf t)] 9)).cell? ⟨wr.heap.size, 0, none⟩ = some (.string (strOf t)) ∧ Below w.heap.size w (wr.alloc (.cells #[.string (strOf t)] 9)) ∧ NamesAt g (wr.alloc (.cells #[.string (strOf t)] 9)) from
     ⟨by rw [cell_of_row _ _ 0 _ _ _ (heap_alloc_new wr _)]; rfl, HW.out.2.alloc HW.out.2.size _, HW.out.1.below ((Below.refl _ _).alloc (Nat.le_refl _) _)⟩)
    clear htx ht hf HW hxt
    go_wp2_with (go_at_call 206; refine Classical.byContradiction fun hno => ?_)
    refine hno ?_
    clear hno
    rw [HT.out]
    obtain ⟨c1, c2, c3⟩ := hc0.out
    refine (search_any (strOf t) wr.heap.size g _ c1 c3.2).mono ?_
    rintro e' w3 ⟨rfl, n, rfl⟩
    have HW3 := hid_mk (show ∀ m, Below w.heap.size w (((wr.alloc (.cells #[.string (strOf t)] 9)).drewN n).drewN m) ∧ NamesAt g (((wr.alloc (.cells #[.string (strOf t)] 9)).drewN n).drewN m) from fun m =>
     ⟨below_drewN (below_drewN c2 n) m, c3.below (below_drewN (below_drewN (Below.refl _ _) n) m)⟩)
    have ct : ((wr.alloc (.cells #[.string (strOf t)] 9)).drewN n).cell? ⟨wr.heap.size, 0, none⟩ = some (.string (strOf t)) := (cell_drewN _ n _).trans c1
    have cg := hid_mk (fun j => (cell_drewN (wr.alloc (.cells #[.string (strOf t)] 9)) n ⟨g, j, none⟩).trans (c3.2 j))
    have hlk := look_bs t
    have hile := bsAt_le (strOf t)
    clear c1 c2 c3 hc0 HT
    generalize (wr.alloc (.cells #[.string (strOf t)] 9)).drewN n = w4 at *
    generalize wr.heap.size = tb at *
    generalize bsAt (strOf t) 0 59 = i at *
    have hi0 : (0 : Int) ≤ (i : Int) := by omega
    by_cases hi : i < 59
    ·have hi' : (i : Int) < 59 := by omega
     have hi59 : ((i : Int) == 59) = false := beq_false_of_ne (by omega)
     have hna := name_at i (by rw [lenN]; exact hi)
     have hgd : nameTab.getD i ([], 0, false) = nameTab[i]'(by rw [lenN]; exact hi) := by simp [List.getD, lenN, hi]
     have k0 := (cg.out (i * 3)).trans hna.1
     have k1 := (cg.out (i * 3 + 1)).trans hna.2.1
     have k2 := (cg.out (i * 3 + 2)).trans hna.2.2
     rw [← hgd] at k0 k1 k2
     clear hna hgd cg
     generalize nameTab.getD i ([], 0, false) = en at *
     obtain ⟨nm, ch, bare⟩ := en
     simp only at k0 k1 k2 hlk
     by_cases hnm : nm = t
     ·rw [if_pos ⟨hi, hnm⟩] at hlk
      subst hnm
      rw [hlk] at hst
      simp only at hst
      by_cases hle : e < s.size
      ·have hle' : (e : Int) < (s.size : Int) := by omega
       have he0 : (0 : Int) ≤ (e : Int) := by omega
       have hby := byte_atL s e hle
       by_cases h59 : atL (sl s) e = 59
       ·rw [if_pos h59] at hst
        have HF2 := hid_mk hst
        have hb59 : (((s[e]'hle).toNat : Int) == 59) = true := by rw [hby, h59]; rfl
        clear hst hlk h59 hby
        go_wp2
        go_quiet (fail)
        go_wp2
        go_ret3
        rw [HF2.out]
        exact ⟨rfl, (HW3.out _).1⟩
       ·have hb59 : (((s[e]'hle).toNat : Int) == 59) = false := by rw [hby]; exact beq_false_of_ne (by omega)
        clear hby
        rw [if_neg h59] at hst
        cases bare with
        | false =>
          simp only [Bool.false_and, Bool.false_eq_true, if_false] at hst
          have HF2 := hid_mk hst
          clear hst hlk h59
          go_wp2
          go_quiet (fail)
          go_wp2
          go_roundw
          case rel => exact ⟨e - 1, by omega, by omega, by omega, by congr 1; omega, HF2, hid_mk ⟨(HW3.out _).2, (HW3.out _).1⟩⟩
          case measure => simp [intOf]; omega
        | true =>
          cases attr with
          | false =>
            simp only [Bool.false_and, Bool.not_false, Bool.and_self, if_true] at hst
            have HF2 := hid_mk hst
            clear hst hlk h59
            go_wp2
            go_quiet (fail)
            go_wp2
            go_ret3
            rw [HF2.out]
            exact ⟨rfl, (HW3.out _).1⟩
          | true =>
            have hgo := hid_mk (fun w => goesOn_any (s.extract e s.size) w)
            rw [sl_extract, atL_drop, Nat.add_zero] at hgo
            cases hb : goesB (atL (sl s) e) with
            | true =>
              rw [hb] at hst hgo
              simp only [Bool.and_self, Bool.not_true, Bool.and_false, Bool.false_eq_true, if_false] at hst
              have HF2 := hid_mk hst
              clear hst hlk h59 hb
              go_wp2
              go_quiet (fail)
              go_wp2_with fail
              refine (hgo.out _).mono ?_
              rintro e' w5 ⟨rfl, rfl⟩
              go_wp2
              go_roundw
              case rel => exact ⟨e - 1, by omega, by omega, by omega, by congr 1; omega, HF2, hid_mk ⟨(HW3.out _).2, (HW3.out _).1⟩⟩
              case measure => simp [intOf]; omega
            | false =>
              rw [hb] at hst hgo
              simp only [Bool.and_false, Bool.not_false, Bool.and_self, if_true] at hst
              have HF2 := hid_mk hst
              clear hst hlk h59 hb
              go_wp2
              go_quiet (fail)
              go_wp2_with fail
              refine (hgo.out _).mono ?_
              rintro e' w5 ⟨rfl, rfl⟩
              go_wp2
              go_ret3
              rw [HF2.out]
              exact ⟨rfl, (HW3.out _).1⟩
      ·have hle' : ¬ (e : Int) < (s.size : Int) := by omega
       have h59 : ¬ atL (sl s) e = 59 := by
        unfold atL
        rw [List.getElem?_eq_none (by rw [len_sl]; omega)]
        decide
       rw [if_neg h59] at hst
       cases bare with
       | false =>
         simp only [Bool.false_and, Bool.false_eq_true, if_false] at hst
         have HF2 := hid_mk hst
         clear hst hlk h59
         go_wp2
         go_quiet (fail)
         go_wp2
         go_roundw
         case rel => exact ⟨e - 1, by omega, by omega, by omega, by congr 1; omega, HF2, hid_mk ⟨(HW3.out _).2, (HW3.out _).1⟩⟩
         case measure => simp [intOf]; omega
       | true =>
         cases attr with
         | false =>
           simp only [Bool.false_and, Bool.not_false, Bool.and_self, if_true] at hst
           have HF2 := hid_mk hst
           clear hst hlk h59
           go_wp2
           go_quiet (fail)
           go_wp2
           go_ret3
           rw [HF2.out]
           exact ⟨rfl, (HW3.out _).1⟩
         | true =>
           have hgo := hid_mk (fun w => goesOn_any (s.extract e s.size) w)
           rw [sl_extract, atL_drop, Nat.add_zero] at hgo
           cases hb : goesB (atL (sl s) e) with
           | true =>
             rw [hb] at hst hgo
             simp only [Bool.and_self, Bool.not_true, Bool.and_false, Bool.false_eq_true, if_false] at hst
             have HF2 := hid_mk hst
             clear hst hlk h59 hb
             go_wp2
             go_quiet (fail)
             go_wp2_with fail
             refine (hgo.out _).mono ?_
             rintro e' w5 ⟨rfl, rfl⟩
             go_wp2
             go_roundw
             case rel => exact ⟨e - 1, by omega, by omega, by omega, by congr 1; omega, HF2, hid_mk ⟨(HW3.out _).2, (HW3.out _).1⟩⟩
             case measure => simp [intOf]; omega
           | false =>
             rw [hb] at hst hgo
             simp only [Bool.and_false, Bool.not_false, Bool.and_self, if_true] at hst
             have HF2 := hid_mk hst
             clear hst hlk h59 hb
             go_wp2
             go_quiet (fail)
             go_wp2_with fail
             refine (hgo.out _).mono ?_
             rintro e' w5 ⟨rfl, rfl⟩
             go_wp2
             go_ret3
             rw [HF2.out]
             exact ⟨rfl, (HW3.out _).1⟩
     ·rw [if_neg (fun h => hnm h.2)] at hlk
      rw [hlk] at hst
      have HF2 := hid_mk hst
      have hne : ((strOf nm).toList == (strOf t).toList) = false := by
       rw [Lib.toList_data, Lib.toList_data]
       exact beq_false_of_ne (fun h => hnm (by simpa [strOf] using h))
      clear hst hlk hnm
      go_wp2
      go_quiet (fail)
      go_wp2
      go_roundw
      case rel => exact ⟨e - 1, by omega, by omega, by omega, by congr 1; omega, HF2, hid_mk ⟨(HW3.out _).2, (HW3.out _).1⟩⟩
      case measure => simp [intOf]; omega
    ·rw [if_neg (fun h => hi h.1)] at hlk
     rw [hlk] at hst
     have HF2 := hid_mk hst
     obtain rfl : i = 59 := by omega
     clear hst hlk hi
     go_wp2
     go_quiet (fail)
     go_wp2
     go_roundw
     case rel => exact ⟨e - 1, by omega, by omega, by omega, by congr 1; omega, HF2, hid_mk ⟨(HW3.out _).2, (HW3.out _).1⟩⟩
     case measure => simp [intOf]; omega
   ·obtain rfl : e = 1 := by omega
    have HF2 := hid_mk (show F = none by rw [hf.out]; rfl)
    have hin' : ¬ (1 : Int) < ((1 : Nat) : Int) := by omega
    clear hf
    go_wp2
    go_ret3
    rw [HF2.out]
    exact ⟨rfl, HW.out.2⟩
 ·rw [Nat.min_eq_right (by omega)] at HF
  go_enter Tryz.func188, Tryz.ntmps188
  go_wp2_with (first
   | (go_at_call 205; refine (names_any _).mono ?_; rintro e w1 ⟨rfl, hb1⟩)
   | (refine wpList_store_row rfl 204 (.tmp 7) (.tmp 11) rfl w1.heap.size nameCells rfl rfl 204 zeroCellsN (heap_alloc_new w1 _) infoNames sizeBothN oneName ?_))
  have hg := hid_mk (show NamesAt w1.heap.size ((w1.alloc (.cells zeroCellsN 204)).setRow w1.heap.size nameCells) ∧ Below w.heap.size w ((w1.alloc (.cells zeroCellsN 204)).setRow w1.heap.size nameCells) from by
   refine ⟨⟨by rw [size_setRow]; simp, fun j => cell_of_row _ _ j _ _ _ (setRow_heap _ _ _ _ _ _ (heap_alloc_new w1 (.cells zeroCellsN 204)))⟩, ?_⟩
   have := hb1.size
   exact below_setRow (hb1.alloc (by omega) _) (by omega) _)
  generalize (w1.alloc (.cells zeroCellsN 204)).setRow w1.heap.size nameCells = w2 at *
  generalize w1.heap.size = g at *
  clear hb1 hz
  go_loopw [8] (fun ve wr => ∃ e : Nat, 1 ≤ e ∧ e ≤ 7 ∧ e ≤ s.size ∧ ve = .int .i64 (e : Int) ∧ Hid (F = nameF (sl s) attr (e - 1)) ∧ Hid (NamesAt g wr ∧ Below w.heap.size w wr)) (fun ve _ => (intOf ve).toNat)
  case atStart => exact ⟨s.size, by omega, by omega, by omega, rfl, HF, hg⟩
  case round =>
   obtain ⟨e, he1, he7, hes, rfl, hf, HW⟩ := hrel
   clear HF hg
   by_cases hin : 1 < e
   ·have hin' : (1 : Int) < (e : Int) := by omega
    have hes' : (e : Int) ≤ (s.size : Int) := by omega
    have hst := nameF_at (sl s) attr e hin (by rw [len_sl]; exact hes)
    rw [← hf.out] at hst
    have htx : sl (s.extract 1 e) = ((sl s).drop 1).take (e - 1) := by
     have := sl_cut s 1 (e - 1)
     rwa [show 1 + (e - 1) = e by omega] at this
    obtain ⟨t, ht⟩ : ∃ t, t = ((sl s).drop 1).take (e - 1) := ⟨_, rfl⟩
    rw [← ht] at hst htx
    have hxt : s.extract 1 e = strOf t := by rw [← htx, strOf_sl]
    have HT := hid_mk hxt
    have hc0 := hid_mk (show (wr.alloc (.cells #[.string (strOf t)] 9)).cell? ⟨wr.heap.size, 0, none⟩ = some (.string (strOf t)) ∧ Below w.heap.size w (wr.alloc (.cells #[.string (strOf t)] 9)) ∧ NamesAt g (wr.alloc (.cells #[.string (strOf t)] 9)) from
     ⟨by rw [cell_of_row _ _ 0 _ _ _ (heap_alloc_new wr _)]; rfl, HW.out.2.alloc HW.out.2.size _, HW.out.1.below ((Below.refl _ _).alloc (Nat.le_refl _) _)⟩)
    clear htx ht hf HW hxt
    go_wp2_with (go_at_call 206; refine Classical.byContradiction fun hno => ?_)
    refine hno ?_
    clear hno
    rw [HT.out]
    obtain ⟨c1, c2, c3⟩ := hc0.out
    refine (search_any (strOf t) wr.heap.size g _ c1 c3.2).mono ?_
    rintro e' w3 ⟨rfl, n, rfl⟩
    have HW3 := hid_mk (show ∀ m, Below w.heap.size w (((wr.alloc (.cells #[.string (strOf t)] 9)).drewN n).drewN m) ∧ NamesAt g (((wr.alloc (.cells #[.string (strOf t)] 9)).drewN n).drewN m) from fun m =>
     ⟨below_drewN (below_drewN c2 n) m, c3.below (below_drewN (below_drewN (Below.refl _ _) n) m)⟩)
    have ct : ((wr.alloc (.cells #[.string (strOf t)] 9)).drewN n).cell? ⟨wr.heap.size, 0, none⟩ = some (.string (strOf t)) := (cell_drewN _ n _).trans c1
    have cg := hid_mk (fun j => (cell_drewN (wr.alloc (.cells #[.string (strOf t)] 9)) n ⟨g, j, none⟩).trans (c3.2 j))
    have hlk := look_bs t
    have hile := bsAt_le (strOf t)
    clear c1 c2 c3 hc0 HT
    generalize (wr.alloc (.cells #[.string (strOf t)] 9)).drewN n = w4 at *
    generalize wr.heap.size = tb at *
    generalize bsAt (strOf t) 0 59 = i at *
    have hi0 : (0 : Int) ≤ (i : Int) := by omega
    by_cases hi : i < 59
    ·have hi' : (i : Int) < 59 := by omega
     have hi59 : ((i : Int) == 59) = false := beq_false_of_ne (by omega)
     have hna := name_at i (by rw [lenN]; exact hi)
     have hgd : nameTab.getD i ([], 0, false) = nameTab[i]'(by rw [lenN]; exact hi) := by simp [List.getD, lenN, hi]
     have k0 := (cg.out (i * 3)).trans hna.1
     have k1 := (cg.out (i * 3 + 1)).trans hna.2.1
     have k2 := (cg.out (i * 3 + 2)).trans hna.2.2
     rw [← hgd] at k0 k1 k2
     clear hna hgd cg
     generalize nameTab.getD i ([], 0, false) = en at *
     obtain ⟨nm, ch, bare⟩ := en
     simp only at k0 k1 k2 hlk
     by_cases hnm : nm = t
     ·rw [if_pos ⟨hi, hnm⟩] at hlk
      subst hnm
      rw [hlk] at hst
      simp only at hst
      by_cases hle : e < s.size
      ·have hle' : (e : Int) < (s.size : Int) := by omega
       have he0 : (0 : Int) ≤ (e : Int) := by omega
       have hby := byte_atL s e hle
       by_cases h59 : atL (sl s) e = 59
       ·rw [if_pos h59] at hst
        have HF2 := hid_mk hst
        have hb59 : (((s[e]'hle).toNat : Int) == 59) = true := by rw [hby, h59]; rfl
        clear hst hlk h59 hby
        go_wp2
        go_quiet (fail)
        go_wp2
        go_ret3
        rw [HF2.out]
        exact ⟨rfl, (HW3.out _).1⟩
       ·have hb59 : (((s[e]'hle).toNat : Int) == 59) = false := by rw [hby]; exact beq_false_of_ne (by omega)
        clear hby
        rw [if_neg h59] at hst
        cases bare with
        | false =>
          simp only [Bool.false_and, Bool.false_eq_true, if_false] at hst
          have HF2 := hid_mk hst
          clear hst hlk h59
          go_wp2
          go_quiet (fail)
          go_wp2
          go_roundw
          case rel => exact ⟨e - 1, by omega, by omega, by omega, by congr 1; omega, HF2, hid_mk ⟨(HW3.out _).2, (HW3.out _).1⟩⟩
          case measure => simp [intOf]; omega
        | true =>
          cases attr with
          | false =>
            simp only [Bool.false_and, Bool.not_false, Bool.and_self, if_true] at hst
            have HF2 := hid_mk hst
            clear hst hlk h59
            go_wp2
            go_quiet (fail)
            go_wp2
            go_ret3
            rw [HF2.out]
            exact ⟨rfl, (HW3.out _).1⟩
          | true =>
            have hgo := hid_mk (fun w => goesOn_any (s.extract e s.size) w)
            rw [sl_extract, atL_drop, Nat.add_zero] at hgo
            cases hb : goesB (atL (sl s) e) with
            | true =>
              rw [hb] at hst hgo
              simp only [Bool.and_self, Bool.not_true, Bool.and_false, Bool.false_eq_true, if_false] at hst
              have HF2 := hid_mk hst
              clear hst hlk h59 hb
              go_wp2
              go_quiet (fail)
              go_wp2_with fail
              refine (hgo.out _).mono ?_
              rintro e' w5 ⟨rfl, rfl⟩
              go_wp2
              go_roundw
              case rel => exact ⟨e - 1, by omega, by omega, by omega, by congr 1; omega, HF2, hid_mk ⟨(HW3.out _).2, (HW3.out _).1⟩⟩
              case measure => simp [intOf]; omega
            | false =>
              rw [hb] at hst hgo
              simp only [Bool.and_false, Bool.not_false, Bool.and_self, if_true] at hst
              have HF2 := hid_mk hst
              clear hst hlk h59 hb
              go_wp2
              go_quiet (fail)
              go_wp2_with fail
              refine (hgo.out _).mono ?_
              rintro e' w5 ⟨rfl, rfl⟩
              go_wp2
              go_ret3
              rw [HF2.out]
              exact ⟨rfl, (HW3.out _).1⟩
      ·have hle' : ¬ (e : Int) < (s.size : Int) := by omega
       have h59 : ¬ atL (sl s) e = 59 := by
        unfold atL
        rw [List.getElem?_eq_none (by rw [len_sl]; omega)]
        decide
       rw [if_neg h59] at hst
       cases bare with
       | false =>
         simp only [Bool.false_and, Bool.false_eq_true, if_false] at hst
         have HF2 := hid_mk hst
         clear hst hlk h59
         go_wp2
         go_quiet (fail)
         go_wp2
         go_roundw
         case rel => exact ⟨e - 1, by omega, by omega, by omega, by congr 1; omega, HF2, hid_mk ⟨(HW3.out _).2, (HW3.out _).1⟩⟩
         case measure => simp [intOf]; omega
       | true =>
         cases attr with
         | false =>
           simp only [Bool.false_and, Bool.not_false, Bool.and_self, if_true] at hst
           have HF2 := hid_mk hst
           clear hst hlk h59
           go_wp2
           go_quiet (fail)
           go_wp2
           go_ret3
           rw [HF2.out]
           exact ⟨rfl, (HW3.out _).1⟩
         | true =>
           have hgo := hid_mk (fun w => goesOn_any (s.extract e s.size) w)
           rw [sl_extract, atL_drop, Nat.add_zero] at hgo
           cases hb : goesB (atL (sl s) e) with
           | true =>
             rw [hb] at hst hgo
             simp only [Bool.and_self, Bool.not_true, Bool.and_false, Bool.false_eq_true, if_false] at hst
             have HF2 := hid_mk hst
             clear hst hlk h59 hb
             go_wp2
             go_quiet (fail)
             go_wp2_with fail
             refine (hgo.out _).mono ?_
             rintro e' w5 ⟨rfl, rfl⟩
             go_wp2
             go_roundw
             case rel => exact ⟨e - 1, by omega, by omega, by omega, by congr 1; omega, HF2, hid_mk ⟨(HW3.out _).2, (HW3.out _).1⟩⟩
             case measure => simp [intOf]; omega
           | false =>
             rw [hb] at hst hgo
             simp only [Bool.and_false, Bool.not_false, Bool.and_self, if_true] at hst
             have HF2 := hid_mk hst
             clear hst hlk h59 hb
             go_wp2
             go_quiet (fail)
             go_wp2_with fail
             refine (hgo.out _).mono ?_
             rintro e' w5 ⟨rfl, rfl⟩
             go_wp2
             go_ret3
             rw [HF2.out]
             exact ⟨rfl, (HW3.out _).1⟩
     ·rw [if_neg (fun h => hnm h.2)] at hlk
      rw [hlk] at hst
      have HF2 := hid_mk hst
      have hne : ((strOf nm).toList == (strOf t).toList) = false := by
       rw [Lib.toList_data, Lib.toList_data]
       exact beq_false_of_ne (fun h => hnm (by simpa [strOf] using h))
      clear hst hlk hnm
      go_wp2
      go_quiet (fail)
      go_wp2
      go_roundw
      case rel => exact ⟨e - 1, by omega, by omega, by omega, by congr 1; omega, HF2, hid_mk ⟨(HW3.out _).2, (HW3.out _).1⟩⟩
      case measure => simp [intOf]; omega
    ·rw [if_neg (fun h => hi h.1)] at hlk
     rw [hlk] at hst
     have HF2 := hid_mk hst
     obtain rfl : i = 59 := by omega
     clear hst hlk hi
     go_wp2
     go_quiet (fail)
     go_wp2
     go_roundw
     case rel => exact ⟨e - 1, by omega, by omega, by omega, by congr 1; omega, HF2, hid_mk ⟨(HW3.out _).2, (HW3.out _).1⟩⟩
     case measure => simp [intOf]; omega
   ·obtain rfl : e = 1 := by omega
    have HF2 := hid_mk (show F = none by rw [hf.out]; rfl)
    have hin' : ¬ (1 : Int) < ((1 : Nat) : Int) := by omega
    clear hf
    go_wp2
    go_ret3
    rw [HF2.out]
    exact ⟨rfl, HW.out.2⟩
end Go.Proofs.YtlcijlklbabajaaGreatDoor
