/-
  The reference's Decode: a text without references. Condition: the text's length is bounded.
-/
import Derived.Test.YtflgiejnklbjnaaDoorRFind
import Derived.Test.YtflgiejnklbjnaaDoorROne
import Derived.OwnWalk
namespace Go.Proofs.YtflgiejnklbjnaaDoor
open Go.RowKit
set_option maxHeartbeats 4000000 in
set_option maxRecDepth 100000 in
theorem refDecode_any (s : ByteArray) (hs : s.size ≤ 1000000000000) (attr : Bool) (w : World) :
    Calls Tryd.prog 15 #[.string s, .bool attr] w fun e w' => e = .returned (.string (strOf (decL (sl s) attr))) ∧ Below w.heap.size w w' := by
  obtain ⟨D, hD⟩ : ∃ D, D = decL (sl s) attr := ⟨_, rfl⟩
  rw [← hD]
  have HD := hid_mk hD
  clear hD
  go_enter Tryd.func15, Tryd.ntmps15
  go_wp2_with fail
  go_loopw [5, 6] (fun vb vi wr => ∃ (i : Nat) (acc : List UInt8), i ≤ s.size ∧ vi = .int .i64 (i : Int) ∧ Hid (acc.length ≤ 4 * i) ∧ Hid (D = acc ++ decL ((sl s).drop i) attr) ∧ Hid (wr.ownsRow w.heap.size 5 1 vb acc.length (Lib.byteCells acc) ∧ Below w.heap.size w wr)) (fun _ vi _ => s.size - (intOf vi).toNat)
  case atStart => exact ⟨0, [], by omega, rfl, hid_mk (by simp), HD, hid_mk ⟨⟨rfl, .inl ⟨rfl, rfl⟩⟩, Below.refl _ _⟩⟩
  case round =>
    obtain ⟨i, acc, hi, rfl, hacc, hd, HW⟩ := hrel
    clear HD
    by_cases hin : i < s.size
    · have hin' : (i : Int) < (s.size : Int) := by omega
      have hi2 : (i : Int) ≤ (s.size : Int) := by omega
      have hi0 : (0 : Int) ≤ (i : Int) := by omega
      have hes : (s.extract i s.size).size ≤ 9223372036854775000 := by rw [size_extract]; omega
      have hfi := hid_mk (refFind_any (s.extract i s.size) hes attr wr)
      rw [sl_extract] at hfi
      clear hes
      cases hq : findL ((sl s).drop i) attr with
      | none =>
        rw [hq] at hfi
        simp only [resV] at hfi
        have hil : i < (sl s).length := by rw [len_sl]; exact hin
        have hby := byte_atL s i hin
        have hdn : decL ((sl s).drop i) attr = (s[i]'hin) :: decL ((sl s).drop (i + 1)) attr := by
          rw [List.drop_eq_getElem_cons hil] at hq ⊢
          rw [decL_none hq]
          rfl
        have hd2 := hid_mk (show D = (acc ++ [s[i]'hin]) ++ decL ((sl s).drop (i + 1)) attr by
          rw [hd.out, hdn, List.append_assoc]
          rfl)
        have ha2 := hid_mk (show (acc ++ [s[i]'hin]).length ≤ 4 * (i + 1) by
          have := hacc.out
          rw [List.length_append, List.length_singleton]
          omega)
        have hbc := hid_mk (show Lib.byteCells acc ++ [Value.int .u8 (((s[i]'hin).toNat : Nat) : Int)] = Lib.byteCells (acc ++ [s[i]'hin]) by
          rw [Lib.byteCells_append]
          rfl)
        clear hd hq hdn hby hil
        generalize acc ++ [s[i]'hin] = acc2 at *
        go_wp2_with fail
        ((with_reducible refine hfi.out.mono ?_); skip)
        rintro e w1 ⟨rfl, hb1⟩
        have HW1 := hid_mk (show w1.ownsRow w.heap.size 5 1 _ acc.length (Lib.byteCells acc) ∧ Below w.heap.size w w1 from ⟨own_below HW.out.1 hb1, HW.out.2.trans (hb1.mono HW.out.2.size)⟩)
        clear hb1 HW hfi
        go_wp2_with (at_builtin; refine Classical.byContradiction fun hno => ?_)
        refine hno ?_
        clear hno
        obtain ⟨i0, hi', hz0, hz1, hz2⟩ := info_parts infoByte
        have hsz := HW1.out.2.size
        have hal := hacc.out
        refine wpList_append_own _ rfl (.tmp 25) (.tmp 29) _ rfl w.heap.size 5 i0 _ 1 1 Tryd.underlying33 hi' hz0 hz1 hz2 rfl (by decide) _ acc.length (Lib.byteCells acc) rfl (HW1.out.1.alloc _) ⟨w1.heap.size, 0, none⟩ 1 1 [.int .u8 (((s[i]'hin).toNat : Nat) : Int)] rfl rfl ?c1 ?c2 ?c3 ?c4 ?c5 ?_
        case c1 =>
          intro j u hu
          rw [addr_add0, cell_of_row _ _ j _ _ _ (heap_alloc_new w1 _)]
          simpa using hu
        case c2 => intro u hu; simp at hu; subst hu; rfl
        case c3 => unfold maxLen; omega
        case c4 => omega
        case c5 => simp; omega
        intro v' w2 hown1 hgrow _
        rw [hbc.out] at hown1
        have hlen : acc.length + 1 = acc2.length := by
          have := congrArg List.length hbc.out
          rw [List.length_append, Lib.byteCells_length, Lib.byteCells_length] at this
          exact this
        rw [hlen] at hown1
        have hfin := hid_mk (show w2.ownsRow w.heap.size 5 1 v' acc2.length (Lib.byteCells acc2) ∧ Below w.heap.size w w2 from
          ⟨hown1, (HW1.out.2.alloc hsz _).grown hgrow (by simp; omega) (fun k hk => own_base HW1.out.1 k hk)⟩)
        clear HW1 hown1 hgrow hi' hz0 hz1 hz2 hbc hlen hal
        clear i0
        go_wp2
        go_roundw
        case rel => exact ⟨i + 1, acc2, by omega, by first | rfl | go_num, ha2, hd2, hfin⟩
        case measure => simp [intOf]; omega
      | some p =>
        rw [hq] at hfi
        obtain ⟨r, n⟩ := p
        simp only [resV] at hfi
        have hp := findL_le hq
        rw [List.length_drop, len_sl] at hp
        simp only at hp
        obtain ⟨hp1, hp2, hp3⟩ := hp
        have hdn := decL_some hq
        rw [List.drop_drop] at hdn
        simp only at hdn
        have hd2 := hid_mk (show D = (acc ++ Lib.encodeRune (r : Int)) ++ decL ((sl s).drop (i + n)) attr by
          rw [hd.out, hdn, List.append_assoc])
        have ha2 := hid_mk (show (acc ++ Lib.encodeRune (r : Int)).length ≤ 4 * (i + n) by
          have := hacc.out
          have := (enc_le (r : Int)).2
          rw [List.length_append]
          omega)
        have hr0 : (0 : Int) ≤ (r : Int) := by omega
        have hr1 : (r : Int) ≤ 1114111 := by omega
        have hn0 : (0 : Int) ≤ (n : Int) := by omega
        have hn1 : (i : Int) + (n : Int) ≤ (s.size : Int) := by omega
        have hne : i + n ≤ s.size := by omega
        clear hd hq hdn hp3
        go_wp2_with fail
        ((with_reducible refine hfi.out.mono ?_); skip)
        rintro e w1 ⟨rfl, hb1⟩
        have HW1 := hid_mk (show w1.ownsRow w.heap.size 5 1 _ acc.length (Lib.byteCells acc) ∧ Below w.heap.size w w1 from ⟨own_below HW.out.1 hb1, HW.out.2.trans (hb1.mono HW.out.2.size)⟩)
        clear hb1 HW hfi
        go_wp2_with fail
        refine (refOne_any (r : Int) (by omega) (by omega) _).mono ?_
        rintro e w2 ⟨rfl, rfl⟩
        have hk := enc_le (r : Int)
        have hkc : (Lib.runeCells (r : Int)).length = (Lib.encodeRune (r : Int)).length := Lib.runeCells_length (r : Int)
        go_wp2_with (at_builtin; refine Classical.byContradiction fun hno => ?_)
        refine hno ?_
        clear hno
        obtain ⟨i0, hi', hz0, hz1, hz2⟩ := info_parts infoByte
        have hsz := HW1.out.2.size
        have hal := hacc.out
        refine wpList_append_own _ rfl (.tmp 33) (.tmp 35) _ rfl w.heap.size 5 i0 _ 1 1 Tryd.underlying33 hi' hz0 hz1 hz2 rfl (by decide) _ acc.length (Lib.byteCells acc) rfl (HW1.out.1.alloc _) ⟨w1.heap.size, 0, none⟩ (Lib.encodeRune (r : Int)).length (Lib.encodeRune (r : Int)).length (Lib.runeCells (r : Int)) rfl (by rw [hkc, Nat.mul_one]) ?d1 ?d2 ?d3 ?d4 ?d5 ?_
        case d1 =>
          intro j u hu
          rw [addr_add0, cell_of_row _ _ j _ _ _ (heap_alloc_new w1 _)]
          simpa using hu
        case d2 => exact runeCells_one (r : Int)
        case d3 => unfold maxLen; omega
        case d4 => omega
        case d5 => simp; omega
        intro v' w2 hown1 hgrow _
        have hfin := hid_mk (show w2.ownsRow w.heap.size 5 1 v' (acc ++ Lib.encodeRune (r : Int)).length (Lib.byteCells (acc ++ Lib.encodeRune (r : Int))) ∧ Below w.heap.size w w2 from by
          rw [List.length_append, Lib.byteCells_append, Lib.byteCells_encodeRune]
          exact ⟨hown1, (HW1.out.2.alloc hsz _).grown hgrow (by simp; omega) (fun k hk => own_base HW1.out.1 k hk)⟩)
        clear HW1 hown1 hgrow hi' hz0 hz1 hz2 hkc hk hal
        clear i0
        generalize acc ++ Lib.encodeRune (r : Int) = acc2 at *
        go_wp2
        go_roundw
        case rel => exact ⟨i + n, acc2, by omega, by first | rfl | go_num, ha2, hd2, hfin⟩
        case measure => simp [intOf]; omega
    · have hv : D = acc := by
        rw [hd.out, List.drop_eq_nil_of_le (by rw [len_sl]; omega), decL_nil, List.append_nil]
      have HV := hid_mk hv
      obtain ⟨a', cap', hv', hhas⟩ := own_bytes HW.out.1
      have hcv := bytes_conv wr a' cap' _ hhas
      have HB := hid_mk HW.out.2
      have hin' : ¬ (i : Int) < (s.size : Int) := by omega
      subst hv'
      clear HW hhas hv hin hd
      go_wp2
      go_ret
      rw [HV.out]
      exact ⟨rfl, HB.out⟩
end Go.Proofs.YtflgiejnklbjnaaDoor
