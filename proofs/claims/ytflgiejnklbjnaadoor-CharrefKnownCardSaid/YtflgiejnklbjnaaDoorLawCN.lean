/-
  The law of layer 3 about names with their ;: it returns true for every input. Condition: the table of replaced characters lies in the first package-level variable.
-/
import Derived.Test.YtflgiejnklbjnaaDoorLawCP
import Derived.Test.YtflgiejnklbjnaaDoorLawCF
import Derived.Test.YtflgiejnklbjnaaDoorRStr
namespace Go.Proofs.YtflgiejnklbjnaaDoor
open Go.RowKit
theorem cell_lt {w : World} {p : Addr} {v : Value} (h : w.cell? p = some v) : p.block < w.heap.size := by
  rcases Nat.lt_or_ge p.block w.heap.size with h' | h'
  · exact h'
  · simp [World.cell?, Array.getElem?_eq_none h'] at h
theorem Next.cell {w w' : World} (h : Next w w') {p : Addr} {v : Value} (hc : w.cell? p = some v) : w'.cell? p = some v := (h.1.cell (cell_lt hc)).trans hc
theorem Next.alloc {w w' : World} (h : Next w w') (o : Obj) : Next w (w'.alloc o) := h.trans (Next.of h.2 ((Below.refl _ _).alloc (Nat.le_refl _) o))
theorem Next.drewN {w w' : World} (h : Next w w') (n : Nat) : Next w (w'.drewN n) := h.trans (Next.of h.2 (below_drewN (Below.refl _ _) n))
theorem HasRunes.drew {w : World} {a : Option Addr} {rs : List Int} (h : HasRunes w a rs) : HasRunes w.drew a rs := h
theorem refString_tab (w : World) (r : Int) (hr : -2147483648 ≤ r ∧ r ≤ 2147483647) (a : Option Addr) (cap : Nat) (hT : Tab w) (hh : HasRunes w a [r]) :
    Calls Tryd.prog 16 #[.slice a 1 cap] w fun e w' => e = .returned (.string (strOf (Lib.encodeRune r))) ∧ Next w w' :=
  (refString_one w r hr a cap hh).mono fun _ _ ⟨he, hb⟩ => ⟨he, Next.of hT hb⟩
theorem refString_next (w : World) (r : Int) (hr : -2147483648 ≤ r ∧ r ≤ 2147483647) (hT : Tab (w.alloc (.cells #[.int .i32 r] 21))) :
    Calls Tryd.prog 16 #[.slice (some ⟨w.heap.size, 0, none⟩) 1 1] (w.alloc (.cells #[.int .i32 r] 21)) fun e w' => e = .returned (.string (strOf (Lib.encodeRune r))) ∧ Next (w.alloc (.cells #[.int .i32 r] 21)) w' :=
  (refString_one _ r hr (some ⟨w.heap.size, 0, none⟩) 1 (has_new_runes w [r] _ _ rfl)).mono fun _ _ ⟨he, hb⟩ => ⟨he, Next.of hT hb⟩
set_option maxHeartbeats 4000000 in
set_option maxRecDepth 100000 in
theorem charrefNames_w (wh : Nat) (hwh : wh < 256) (a b : ByteArray) (attr : Bool) (w : World) (hT : Tab w) :
    Calls Tryd.prog 8 #[.int .u8 (wh : Int), .string a, .string b, .bool attr] w fun e w' => e = .returned (.bool true) ∧ Next w w' := by
  have HT := hid_mk hT
  clear hT
  by_cases hs : 2000 < a.size
  · have hs' : decide (2000 < (a.size : Int)) = true := by simp; omega
    have hsn : decide (2000 < a.size) = true := by simp; omega
    go_enter Tryd.func8, Tryd.ntmps8
    go_wp2_with fail
    refine (works_any w HT.out).mono ?_
    rintro e w1 ⟨rfl, hn1⟩
    have H1 := hid_mk hn1
    clear hn1
    go_wp2
    go_ret
    exact ⟨rfl, H1.out⟩
  have hs' : decide (2000 < (a.size : Int)) = false := by simp; omega
  have hsn : decide (2000 < a.size) = false := by simp; omega
  by_cases hr : 2000 < b.size
  · have hr' : decide (2000 < (b.size : Int)) = true := by simp; omega
    have hrn : decide (2000 < b.size) = true := by simp; omega
    go_enter Tryd.func8, Tryd.ntmps8
    go_wp2_with fail
    refine (works_any w HT.out).mono ?_
    rintro e w1 ⟨rfl, hn1⟩
    have H1 := hid_mk hn1
    clear hn1
    go_wp2
    go_ret
    exact ⟨rfl, H1.out⟩
  have hr' : decide (2000 < (b.size : Int)) = false := by simp; omega
  have hrn : decide (2000 < b.size) = false := by simp; omega
  go_enter Tryd.func8, Tryd.ntmps8
  go_wp2_with fail
  go_loop [9] (fun vi => ∃ i : Nat, i ≤ a.size ∧ vi = .int .i64 (i : Int) ∧ Hid (∀ c ∈ (sl a).take i, c.toNat ≠ 38)) (fun vi => a.size - (intOf vi).toNat)
  case atStart => exact ⟨0, by omega, rfl, hid_mk (fun c hc => by cases hc)⟩
  case round =>
    obtain ⟨i, hi, rfl, hall⟩ := hrel
    by_cases hin : i < a.size
    · have hin' : (i : Int) < (a.size : Int) := by omega
      have hi0 : (0 : Int) ≤ (i : Int) := by omega
      by_cases h38 : (a[i]'hin).toNat = 38
      · have h38' : (((a[i]'hin).toNat : Int) == 38) = true := by rw [h38]; rfl
        clear h38
        go_wp2_with fail
        refine (works_any w HT.out).mono ?_
        rintro e w1 ⟨rfl, hn1⟩
        have H1 := hid_mk hn1
        clear hn1
        go_wp2
        go_ret
        exact ⟨rfl, H1.out⟩
      · have h38' : (((a[i]'hin).toNat : Int) == 38) = false := beq_false_of_ne (by omega)
        have hall2 := hid_mk (show ∀ c ∈ (sl a).take (i + 1), c.toNat ≠ 38 from fun c hc => by
          have hil : i < (sl a).length := by rw [len_sl]; exact hin
          rw [List.take_succ_eq_append_getElem hil] at hc
          rcases List.mem_append.1 hc with h | h
          · exact hall.out c h
          · have : c = (sl a)[i] := by simpa using h
            rw [this]
            exact h38)
        clear h38 hall
        go_wp2
        go_round
        case rel => exact ⟨i + 1, by omega, by go_num, hall2⟩
        case measure => simp [intOf]; omega
    · have hall2 : ∀ c ∈ sl a, c.toNat ≠ 38 := fun c hc => hall.out c (by rw [List.take_of_length_le (by rw [len_sl]; omega)]; exact hc)
      have hin' : ¬ (i : Int) < (a.size : Int) := by omega
      have HA := hid_mk hall2
      clear hall hall2
      have hk0 : (0 : Int) ≤ (wh : Int) := by omega
      have hk1 : (0 : Int) ≤ (wh : Int) % 59 := by omega
      have hk2 : (wh : Int) % 59 < 59 := by omega
      have hk3 : ((wh : Int) % 59).toNat = wh % 59 := by omega
      have hk4 : wh % 59 < 59 := by omega
      go_wp2_with fail
      refine (refNames_any w).mono ?_
      rintro e w1 ⟨rfl, rfl⟩
      have hil : wh % 59 < refTab.length := by rw [lenR]; exact hk4
      have hat := ref_at (wh % 59) hil
      have c0 := (cell_of_row _ _ (wh % 59 * 3) _ _ _ (heap_alloc_new w (.cells refCells 26))).trans hat.1
      have c1 := (cell_of_row _ _ (wh % 59 * 3 + 1) _ _ _ (heap_alloc_new w (.cells refCells 26))).trans hat.2.1
      have c2 := (cell_of_row _ _ (wh % 59 * 3 + 2) _ _ _ (heap_alloc_new w (.cells refCells 26))).trans hat.2.2
      have hmem := refTab_perm.1 _ (List.getElem_mem hil)
      clear hat
      generalize refTab[wh % 59] = en at *
      obtain ⟨nm, ch, alone⟩ := en
      simp only at c0 c1 c2
      have hn1 := hid_mk (Next.of HT.out ((Below.refl w.heap.size w).alloc (Nat.le_refl _) (.cells refCells 26)))
      have HM := hid_mk hmem
      generalize w.alloc (.cells refCells 26) = w1 at *
      clear hmem hil
      go_wp2_with fail
      have hz0 : (strOf nm).size ≤ 6 := by rw [size_strOf]; exact (tab_facts _ HM.out).2.1
      have hch : ch < 55296 := (tab_facts _ HM.out).2.2.1
      obtain ⟨X, hX⟩ : ∃ X, X = a ++ ⟨#[38]⟩ ++ strOf nm ++ ⟨#[59]⟩ ++ b := ⟨_, rfl⟩
      have hXs : X.size ≤ 5000 := by
        rw [hX, ByteArray.size_append, ByteArray.size_append, ByteArray.size_append, ByteArray.size_append]
        show a.size + 1 + (strOf nm).size + 1 + b.size ≤ 5000
        omega
      have hXl : sl X = sl a ++ 38 :: (nm ++ 59 :: sl b) := by
        rw [hX, sl_append, sl_append, sl_append, sl_append, sl_strOf]
        show sl a ++ [38] ++ nm ++ [59] ++ sl b = _
        simp
      have hd1 := hid_mk (fun w hT => decode_any X (by omega) attr w hT)
      rw [hXl, decL_name _ HM.out (sl a) (sl b) attr HA.out, ← strOf_app, ← strOf_app, strOf_sl] at hd1
      simp only at hd1
      have hd2 := hid_mk (fun w hT => decode_any b (by omega) attr w hT)
      have hds := dec_size (sl b) attr (by rw [len_sl]; omega)
      have hse : (strOf (Lib.encodeRune (ch : Int))).size ≤ 4 := by rw [size_strOf]; exact (enc_le _).2
      have hst := hid_mk (fun w (a : Option Addr) cap hT hh => refString_tab w (ch : Int) (by omega) a cap hT hh)
      have HX := hid_mk hX.symm
      have HN2 := hid_mk (hn1.out.alloc (.cells #[.string (strOf nm), .int .i32 (ch : Int), .bool alone] 26))
      have e0 : (w1.alloc (.cells #[.string (strOf nm), .int .i32 (ch : Int), .bool alone] 26)).cell? ⟨w1.heap.size, 0, none⟩ = some (.string (strOf nm)) := by rw [cell_of_row _ _ 0 _ _ _ (heap_alloc_new w1 _)]; rfl
      have e1 : (w1.alloc (.cells #[.string (strOf nm), .int .i32 (ch : Int), .bool alone] 26)).cell? ⟨w1.heap.size, 1, none⟩ = some (.int .i32 (ch : Int)) := by rw [cell_of_row _ _ 1 _ _ _ (heap_alloc_new w1 _)]; rfl
      clear hXl hXs hX hn1 c0 c1 c2 HA HM
      generalize w1.alloc (.cells #[.string (strOf nm), .int .i32 (ch : Int), .bool alone] 26) = w2 at *
      generalize w1.heap.size = tb at *
      generalize strOf nm = NM at *
      generalize strOf (Lib.encodeRune (ch : Int)) = EC at *
      generalize strOf (decL (sl b) attr) = DB at *
      have hT2 := hid_mk HN2.out.2
      have q1 : ¬ 9223372036854775807 < a.size + 1 := by omega
      have q2 : ¬ 9223372036854775807 < a.size + 1 + NM.size := by omega
      have q3 : ¬ 9223372036854775807 < a.size + 1 + NM.size + 1 := by omega
      have q4 : ¬ 9223372036854775807 < a.size + 1 + NM.size + 1 + b.size := by omega
      have q5 : ¬ 9223372036854775807 < a.size + EC.size := by omega
      have q6 : ¬ 9223372036854775807 < a.size + EC.size + DB.size := by omega
      go_region_held3 (fun w' => w'.cell? ⟨tb, 0, none⟩ = some (.string NM) ∧ w'.cell? ⟨tb, 1, none⟩ = some (.int .i32 (ch : Int)) ∧ Next w2 w')
        (first
          | exact ⟨e0, e1, (Next.refl hT2.out).drewN 1⟩
          | exact ⟨(((Next.refl hT2.out).alloc _).drewN 1).cell e0, (((Next.refl hT2.out).alloc _).drewN 1).cell e1, ((Next.refl hT2.out).alloc _).drewN 1⟩
          | (go_split_ands; exact ⟨((‹Next w2 _›).trans nA).cell e0, ((‹Next w2 _›).trans nA).cell e1, (‹Next w2 _›).trans nA⟩)
          | (go_split_ands; exact ⟨((‹Next w2 _›).trans nB).cell e0, ((‹Next w2 _›).trans nB).cell e1, (‹Next w2 _›).trans nB⟩)
          | (go_split_ands; exact ⟨((‹Next w2 _›).trans nC).cell e0, ((‹Next w2 _›).trans nC).cell e1, (‹Next w2 _›).trans nC⟩)
          | (go_split_ands; exact ⟨((‹Next w2 _›).trans nD).cell e0, ((‹Next w2 _›).trans nD).cell e1, (‹Next w2 _›).trans nD⟩)
          | (go_split_ands; exact ⟨((‹Next w2 _›).alloc _).cell e0, ((‹Next w2 _›).alloc _).cell e1, (‹Next w2 _›).alloc _⟩))
        (first
          | (go_at_call 14; go_split_ands; rw [HX.out]; refine (hd1.out _ (by exact (‹Next w2 _›).2)).mono ?_; rintro e w3 ⟨rfl, nA⟩)
          | (go_at_call 14; go_split_ands; refine (hd2.out _ (by exact (‹Next w2 _›).2)).mono ?_; rintro e w3 ⟨rfl, nB⟩)
          | (go_at_call 16; go_split_ands; refine (hst.out _ _ 1 (by exact (‹Next w2 _›).2) (by first
              | exact has_new_runes _ [(ch : Int)] _ _ rfl
              | exact HasRunes.drew (has_new_runes _ [(ch : Int)] _ _ rfl)
              | exact (has_new_runes _ [(ch : Int)] _ _ rfl).below nA.1
              | exact (has_new_runes _ [(ch : Int)] _ _ rfl).below nB.1
              | exact (HasRunes.drew (has_new_runes _ [(ch : Int)] _ _ rfl)).below nA.1
              | exact (HasRunes.drew (has_new_runes _ [(ch : Int)] _ _ rfl)).below nB.1
              | exact ((has_new_runes _ [(ch : Int)] _ _ rfl).below nA.1).below nB.1
              | exact ((has_new_runes _ [(ch : Int)] _ _ rfl).below nB.1).below nA.1
              | exact ((HasRunes.drew (has_new_runes _ [(ch : Int)] _ _ rfl)).below nA.1).below nB.1
              | exact ((HasRunes.drew (has_new_runes _ [(ch : Int)] _ _ rfl)).below nB.1).below nA.1)).mono ?_; rintro e w3 ⟨rfl, nC⟩)
          | (go_at_call 10; go_split_ands; refine (works_any _ (by exact (‹Next w2 _›).2)).mono ?_; rintro e w3 ⟨rfl, nD⟩))
      all_goals
        go_split_ands
        go_wp2
        go_ret
        exact ⟨rfl, HN2.out.trans (by assumption)⟩
theorem charrefNames_c (wh : Int) (a b : ByteArray) (attr : Bool) (w : World) {c d : Prop} (hk : (Lit.int .u8 wh).wf = true) (_ : c) (_ : d) (hT : Tab w) :
    Calls Tryd.prog 8 #[.int .u8 wh, .string a, .string b, .bool attr] w fun e w' => e = .returned (.bool true) ∧ Next w w' := by
  have hb := bounds_u8 hk
  obtain ⟨k, rfl⟩ : ∃ k : Nat, wh = (k : Int) := ⟨wh.toNat, by omega⟩
  exact charrefNames_w k (by omega) a b attr w hT
end Go.Proofs.YtflgiejnklbjnaaDoor
