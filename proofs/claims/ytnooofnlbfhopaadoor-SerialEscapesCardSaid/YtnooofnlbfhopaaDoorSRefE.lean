/-
  The document's Escape: it gives escL. Condition: the text's length is bounded.
-/
import Derived.Test.YtnooofnlbfhopaaDoorSByte
import Derived.Test.YtnooofnlbfhopaaDoorTwoRows
namespace Go.Proofs.YtnooofnlbfhopaaDoor
open Go.RowKit
theorem drop_one (l : List UInt8) (i : Nat) (h : i < l.length) : l.drop i = l[i] :: l.drop (i + 1) := List.drop_eq_getElem_cons h
theorem escB_at_low {v : Bool} (s : ByteArray) (i : Nat) (h : i < s.size) (hc : (s[i]'h).toNat < 128) (p : List UInt8) (hp : refL v (s[i]'h).toNat = p) (h0 : p ≠ []) : escB v ((sl s).drop i) = p ++ escB v ((sl s).drop (i + 1)) := by
  rw [drop_one (sl s) i (by rw [len_sl]; exact h), show (sl s)[i]'(by rw [len_sl]; exact h) = s[i]'h from rfl, escB_low _ hc, hp, if_neg h0]
theorem escB_at_nb {v : Bool} (s : ByteArray) (i : Nat) (h : i + 1 < s.size) (hc : (s[i]'(by omega)).toNat = 194) (hd : (s[i + 1]'h).toNat = 160) : escB v ((sl s).drop i) = [38, 110, 98, 115, 112, 59] ++ escB v ((sl s).drop (i + 2)) := by
  rw [drop_one (sl s) i (by rw [len_sl]; omega), drop_one (sl s) (i + 1) (by rw [len_sl]; omega), show (sl s)[i]'(by rw [len_sl]; omega) = s[i]'(by omega) from rfl, show (sl s)[i + 1]'(by rw [len_sl]; omega) = s[i + 1]'h from rfl, escB_nb _ hc hd]
  cases v <;> rfl
theorem escB_at_one {v : Bool} (s : ByteArray) (i : Nat) (h : i < s.size) (hc : refL v (s[i]'h).toNat = [] ∨ 128 ≤ (s[i]'h).toNat) (hd : (s[i]'h).toNat = 194 → ∀ h1 : i + 1 < s.size, (s[i + 1]'h1).toNat ≠ 160) : escB v ((sl s).drop i) = [s[i]'h] ++ escB v ((sl s).drop (i + 1)) := by
  rw [drop_one (sl s) i (by rw [len_sl]; exact h), show (sl s)[i]'(by rw [len_sl]; exact h) = s[i]'h from rfl]
  by_cases hl : (s[i]'h).toNat < 128
  · rw [escB_low _ hl]
    rcases hc with hc | hc
    · rw [if_pos hc]
    · omega
  · rw [escB_high _ (by omega)]
    · rfl
    · rintro ⟨h1, h2⟩
      by_cases hi : i + 1 < s.size
      · refine hd h1 hi ?_
        unfold U.atL at h2
        rw [List.getElem?_drop, Nat.add_zero, List.getElem?_eq_getElem (by rw [len_sl]; exact hi)] at h2
        exact h2
      · unfold U.atL at h2
        rw [List.getElem?_drop, List.getElem?_eq_none (by rw [len_sl]; omega)] at h2
        exact absurd h2 (by decide)

set_option maxHeartbeats 8000000 in
set_option maxRecDepth 100000 in
theorem rEscape_false (s : ByteArray) (hs : s.size ≤ 100000000) (w : World) :
    Calls Tryd.prog 8 #[.string s, .bool false] w fun e w' => e = .returned (.string (strOf (escB false (sl s)))) ∧ Below w.heap.size w w' := by
  obtain ⟨Y, hY⟩ : ∃ Y, Y = escB false (sl s) := ⟨_, rfl⟩
  rw [← hY]
  have HY := hid_mk hY
  clear hY
  go_enter Tryd.func8, Tryd.ntmps8
  go_wp2_with fail
  go_loopw [5, 6] (fun vb vi wr => ∃ (i : Nat) (x : List UInt8), i ≤ s.size ∧ vi = .int .i64 (i : Int) ∧ x.length ≤ 6 * i ∧ Hid (x ++ escB false ((sl s).drop i) = Y) ∧ Hid (wr.ownsRow w.heap.size 5 1 vb x.length (Lib.byteCells x) ∧ Below w.heap.size w wr)) (fun _ vi _ => s.size - (intOf vi).toNat)
  case atStart => exact ⟨0, [], by omega, rfl, by simp, hid_mk (by rw [HY.out]; rfl), hid_mk ⟨⟨rfl, .inl ⟨rfl, rfl⟩⟩, Below.refl _ _⟩⟩
  case round =>
    obtain ⟨i, x, hi, rfl, hxl, hxy, HW⟩ := hrel
    by_cases hin : i < s.size
    · have hin' : (i : Int) < (s.size : Int) := by omega
      have hi0 : (0 : Int) ≤ (i : Int) := by omega
      by_cases h38 : (s[i]'hin).toNat = 38
      · have b38 : (((s[i]'hin).toNat : Int) == 38) = true := by rw [h38]; rfl
        have b194 : (((s[i]'hin).toNat : Int) == 194) = false := beq_false_of_ne (by omega)
        have b13 : (((s[i]'hin).toNat : Int) == 13) = false := beq_false_of_ne (by omega)
        have b60 : (((s[i]'hin).toNat : Int) == 60) = false := beq_false_of_ne (by omega)
        have b62 : (((s[i]'hin).toNat : Int) == 62) = false := beq_false_of_ne (by omega)
        have b34 : (((s[i]'hin).toNat : Int) == 34) = false := beq_false_of_ne (by omega)
        have hE := hid_mk (escB_at_low (v := false) s i hin (by omega) [38, 97, 109, 112, 59] (by rw [h38]; rfl) (by decide))
        have hxy2 := hid_mk (show (x ++ [38, 97, 109, 112, 59]) ++ escB false ((sl s).drop (i + 1)) = Y by
          rw [List.append_assoc, ← hE.out]
          exact hxy.out)
        have hxl2 : (x ++ [38, 97, 109, 112, 59]).length ≤ 6 * (i + 1) := by rw [List.length_append]; simp only [List.length_cons, List.length_nil]; omega
        clear hxy
        go_wp2_with (at_builtin; refine Classical.byContradiction fun hno => ?_)
        refine hno ?_
        clear hno
        obtain ⟨i0, hi', hz0, hz1, hz2⟩ := info_parts infoByte
        have hsz := HW.out.2.size
        refine wpList_append_str_at rfl _ _ _ _ rfl w.heap.size 5 i0 Tryd.underlying29 Tryd.underlying9 hi' hz0 hz1 hz2 _ x.length (Lib.byteCells x) rfl HW.out.1 (strOf [38, 97, 109, 112, 59]) rfl (by rw [size_strOf]; unfold maxLen; simp; omega) (by rw [size_strOf]; simp; omega) (by omega) ?_
        intro v' w2 hown1 hgrow hat
        have hfin := hid_mk (show w2.ownsRow w.heap.size 5 1 v' (x ++ [38, 97, 109, 112, 59]).length (Lib.byteCells (x ++ [38, 97, 109, 112, 59])) ∧ Below w.heap.size w w2 from by
          refine ⟨?_, HW.out.2.grown hgrow (by omega) (fun k hk => own_base HW.out.1 k hk)⟩
          rw [List.length_append, Lib.byteCells_append]
          exact hown1)
        clear HW hown1 hgrow hat hi' hz0 hz1 hz2
        clear i0
        generalize x ++ [38, 97, 109, 112, 59] = x2 at *
        go_wp2
        go_roundw
        case rel => exact ⟨i + 1, x2, by omega, by first | rfl | go_num, hxl2, hxy2, hfin⟩
        case measure => simp [intOf]; omega
      have b38 : (((s[i]'hin).toNat : Int) == 38) = false := beq_false_of_ne (by omega)
      by_cases h13 : (s[i]'hin).toNat = 13
      · have b13 : (((s[i]'hin).toNat : Int) == 13) = true := by rw [h13]; rfl
        have b194 : (((s[i]'hin).toNat : Int) == 194) = false := beq_false_of_ne (by omega)
        have b60 : (((s[i]'hin).toNat : Int) == 60) = false := beq_false_of_ne (by omega)
        have b62 : (((s[i]'hin).toNat : Int) == 62) = false := beq_false_of_ne (by omega)
        have b34 : (((s[i]'hin).toNat : Int) == 34) = false := beq_false_of_ne (by omega)
        have hE := hid_mk (escB_at_low (v := false) s i hin (by omega) [38, 35, 49, 51, 59] (by rw [h13]; rfl) (by decide))
        have hxy2 := hid_mk (show (x ++ [38, 35, 49, 51, 59]) ++ escB false ((sl s).drop (i + 1)) = Y by
          rw [List.append_assoc, ← hE.out]
          exact hxy.out)
        have hxl2 : (x ++ [38, 35, 49, 51, 59]).length ≤ 6 * (i + 1) := by rw [List.length_append]; simp only [List.length_cons, List.length_nil]; omega
        clear hxy
        go_wp2_with (at_builtin; refine Classical.byContradiction fun hno => ?_)
        refine hno ?_
        clear hno
        obtain ⟨i0, hi', hz0, hz1, hz2⟩ := info_parts infoByte
        have hsz := HW.out.2.size
        refine wpList_append_str_at rfl _ _ _ _ rfl w.heap.size 5 i0 Tryd.underlying29 Tryd.underlying9 hi' hz0 hz1 hz2 _ x.length (Lib.byteCells x) rfl HW.out.1 (strOf [38, 35, 49, 51, 59]) rfl (by rw [size_strOf]; unfold maxLen; simp; omega) (by rw [size_strOf]; simp; omega) (by omega) ?_
        intro v' w2 hown1 hgrow hat
        have hfin := hid_mk (show w2.ownsRow w.heap.size 5 1 v' (x ++ [38, 35, 49, 51, 59]).length (Lib.byteCells (x ++ [38, 35, 49, 51, 59])) ∧ Below w.heap.size w w2 from by
          refine ⟨?_, HW.out.2.grown hgrow (by omega) (fun k hk => own_base HW.out.1 k hk)⟩
          rw [List.length_append, Lib.byteCells_append]
          exact hown1)
        clear HW hown1 hgrow hat hi' hz0 hz1 hz2
        clear i0
        generalize x ++ [38, 35, 49, 51, 59] = x2 at *
        go_wp2
        go_roundw
        case rel => exact ⟨i + 1, x2, by omega, by first | rfl | go_num, hxl2, hxy2, hfin⟩
        case measure => simp [intOf]; omega
      have b13 : (((s[i]'hin).toNat : Int) == 13) = false := beq_false_of_ne (by omega)
      by_cases h60 : (s[i]'hin).toNat = 60
      · have b60 : (((s[i]'hin).toNat : Int) == 60) = true := by rw [h60]; rfl
        have b194 : (((s[i]'hin).toNat : Int) == 194) = false := beq_false_of_ne (by omega)
        have b62 : (((s[i]'hin).toNat : Int) == 62) = false := beq_false_of_ne (by omega)
        have b34 : (((s[i]'hin).toNat : Int) == 34) = false := beq_false_of_ne (by omega)
        have hE := hid_mk (escB_at_low (v := false) s i hin (by omega) [38, 108, 116, 59] (by rw [h60]; rfl) (by decide))
        have hxy2 := hid_mk (show (x ++ [38, 108, 116, 59]) ++ escB false ((sl s).drop (i + 1)) = Y by
          rw [List.append_assoc, ← hE.out]
          exact hxy.out)
        have hxl2 : (x ++ [38, 108, 116, 59]).length ≤ 6 * (i + 1) := by rw [List.length_append]; simp only [List.length_cons, List.length_nil]; omega
        clear hxy
        go_wp2_with (at_builtin; refine Classical.byContradiction fun hno => ?_)
        refine hno ?_
        clear hno
        obtain ⟨i0, hi', hz0, hz1, hz2⟩ := info_parts infoByte
        have hsz := HW.out.2.size
        refine wpList_append_str_at rfl _ _ _ _ rfl w.heap.size 5 i0 Tryd.underlying29 Tryd.underlying9 hi' hz0 hz1 hz2 _ x.length (Lib.byteCells x) rfl HW.out.1 (strOf [38, 108, 116, 59]) rfl (by rw [size_strOf]; unfold maxLen; simp; omega) (by rw [size_strOf]; simp; omega) (by omega) ?_
        intro v' w2 hown1 hgrow hat
        have hfin := hid_mk (show w2.ownsRow w.heap.size 5 1 v' (x ++ [38, 108, 116, 59]).length (Lib.byteCells (x ++ [38, 108, 116, 59])) ∧ Below w.heap.size w w2 from by
          refine ⟨?_, HW.out.2.grown hgrow (by omega) (fun k hk => own_base HW.out.1 k hk)⟩
          rw [List.length_append, Lib.byteCells_append]
          exact hown1)
        clear HW hown1 hgrow hat hi' hz0 hz1 hz2
        clear i0
        generalize x ++ [38, 108, 116, 59] = x2 at *
        go_wp2
        go_roundw
        case rel => exact ⟨i + 1, x2, by omega, by first | rfl | go_num, hxl2, hxy2, hfin⟩
        case measure => simp [intOf]; omega
      have b60 : (((s[i]'hin).toNat : Int) == 60) = false := beq_false_of_ne (by omega)
      by_cases h62 : (s[i]'hin).toNat = 62
      · have b62 : (((s[i]'hin).toNat : Int) == 62) = true := by rw [h62]; rfl
        have b194 : (((s[i]'hin).toNat : Int) == 194) = false := beq_false_of_ne (by omega)
        have b34 : (((s[i]'hin).toNat : Int) == 34) = false := beq_false_of_ne (by omega)
        have hE := hid_mk (escB_at_low (v := false) s i hin (by omega) [38, 103, 116, 59] (by rw [h62]; rfl) (by decide))
        have hxy2 := hid_mk (show (x ++ [38, 103, 116, 59]) ++ escB false ((sl s).drop (i + 1)) = Y by
          rw [List.append_assoc, ← hE.out]
          exact hxy.out)
        have hxl2 : (x ++ [38, 103, 116, 59]).length ≤ 6 * (i + 1) := by rw [List.length_append]; simp only [List.length_cons, List.length_nil]; omega
        clear hxy
        go_wp2_with (at_builtin; refine Classical.byContradiction fun hno => ?_)
        refine hno ?_
        clear hno
        obtain ⟨i0, hi', hz0, hz1, hz2⟩ := info_parts infoByte
        have hsz := HW.out.2.size
        refine wpList_append_str_at rfl _ _ _ _ rfl w.heap.size 5 i0 Tryd.underlying29 Tryd.underlying9 hi' hz0 hz1 hz2 _ x.length (Lib.byteCells x) rfl HW.out.1 (strOf [38, 103, 116, 59]) rfl (by rw [size_strOf]; unfold maxLen; simp; omega) (by rw [size_strOf]; simp; omega) (by omega) ?_
        intro v' w2 hown1 hgrow hat
        have hfin := hid_mk (show w2.ownsRow w.heap.size 5 1 v' (x ++ [38, 103, 116, 59]).length (Lib.byteCells (x ++ [38, 103, 116, 59])) ∧ Below w.heap.size w w2 from by
          refine ⟨?_, HW.out.2.grown hgrow (by omega) (fun k hk => own_base HW.out.1 k hk)⟩
          rw [List.length_append, Lib.byteCells_append]
          exact hown1)
        clear HW hown1 hgrow hat hi' hz0 hz1 hz2
        clear i0
        generalize x ++ [38, 103, 116, 59] = x2 at *
        go_wp2
        go_roundw
        case rel => exact ⟨i + 1, x2, by omega, by first | rfl | go_num, hxl2, hxy2, hfin⟩
        case measure => simp [intOf]; omega
      have b62 : (((s[i]'hin).toNat : Int) == 62) = false := beq_false_of_ne (by omega)
      by_cases h34 : (s[i]'hin).toNat = 34
      · have b34 : (((s[i]'hin).toNat : Int) == 34) = true := by rw [h34]; rfl
        have b194 : (((s[i]'hin).toNat : Int) == 194) = false := beq_false_of_ne (by omega)
        have hE := hid_mk (escB_at_one (v := false) s i hin (.inl (by rw [h34]; rfl)) (fun h => by omega))
        have hxy2 := hid_mk (show (x ++ [s[i]'hin]) ++ escB false ((sl s).drop (i + 1)) = Y by
          rw [List.append_assoc, ← hE.out]
          exact hxy.out)
        have hxl2 : (x ++ [s[i]'hin]).length ≤ 6 * (i + 1) := by rw [List.length_append]; simp only [List.length_cons, List.length_nil]; omega
        have hbx := hid_mk (show Lib.byteCells x ++ [Value.int .u8 (((s[i]'hin).toNat : Nat) : Int)] = Lib.byteCells (x ++ [s[i]'hin]) by rw [Lib.byteCells_append]; rfl)
        have hlx := hid_mk (show x.length + 1 = (x ++ [s[i]'hin]).length by rw [List.length_append]; rfl)
        generalize x ++ [s[i]'hin] = x2 at *
        clear hxy hE h34
        go_wp2_with (at_builtin; refine Classical.byContradiction fun hno => ?_)
        refine hno ?_
        clear hno
        obtain ⟨i0, hi', hz0, hz1, hz2⟩ := info_parts infoByte
        have hsz := HW.out.2.size
        refine wpList_append_own_at _ rfl _ _ _ rfl w.heap.size 5 i0 _ 1 1 Tryd.underlying29 hi' hz0 hz1 hz2 rfl (by decide) _ x.length (Lib.byteCells x) rfl (HW.out.1.alloc _) ⟨wr.heap.size, 0, none⟩ 1 1 [.int .u8 (((s[i]'hin).toNat : Nat) : Int)] rfl rfl ?c1 ?c2 ?c3 ?c4 ?c5 ?_
        case c1 =>
          intro j u hu
          rw [addr_add0, cell_of_row _ _ j _ _ _ (heap_alloc_new wr _)]
          simpa using hu
        case c2 => intro u hu; simp at hu; subst hu; rfl
        case c3 => unfold maxLen; omega
        case c4 => omega
        case c5 => simp; omega
        intro v' w2 hown1 hgrow _ hat
        rw [hbx.out, hlx.out] at hown1
        have hfin := hid_mk (show w2.ownsRow w.heap.size 5 1 v' x2.length (Lib.byteCells x2) ∧ Below w.heap.size w w2 from
          ⟨hown1, (HW.out.2.alloc hsz _).grown hgrow (by simp; omega) (fun k hk => own_base HW.out.1 k hk)⟩)
        clear HW hown1 hgrow hat hi' hz0 hz1 hz2 hbx hlx
        clear i0
        go_wp2
        go_roundw
        case rel => exact ⟨i + 1, x2, by omega, by first | rfl | go_num, hxl2, hxy2, hfin⟩
        case measure => simp [intOf]; omega
      have b34 : (((s[i]'hin).toNat : Int) == 34) = false := beq_false_of_ne (by omega)
      by_cases h194 : (s[i]'hin).toNat = 194
      · have b194 : (((s[i]'hin).toNat : Int) == 194) = true := by rw [h194]; rfl
        by_cases hn : i + 1 < s.size
        · have hn' : (i : Int) + 1 < (s.size : Int) := by omega
          have hq : ((i : Int) + 1).toNat = i + 1 := by omega
          have hq0 : (0 : Int) ≤ (i : Int) + 1 := by omega
          by_cases h160 : (s[i + 1]'hn).toNat = 160
          · have b160 : (((s[i + 1]'hn).toNat : Int) == 160) = true := by rw [h160]; rfl
            have hE := hid_mk (escB_at_nb (v := false) s i hn h194 h160)
            have hxy2 := hid_mk (show (x ++ [38, 110, 98, 115, 112, 59]) ++ escB false ((sl s).drop (i + 2)) = Y by
              rw [List.append_assoc, ← hE.out]
              exact hxy.out)
            have hxl2 : (x ++ [38, 110, 98, 115, 112, 59]).length ≤ 6 * (i + 2) := by rw [List.length_append]; simp only [List.length_cons, List.length_nil]; omega
            clear hxy
            go_wp2_with (at_builtin; refine Classical.byContradiction fun hno => ?_)
            refine hno ?_
            clear hno
            obtain ⟨i0, hi', hz0, hz1, hz2⟩ := info_parts infoByte
            have hsz := HW.out.2.size
            refine wpList_append_str_at rfl _ _ _ _ rfl w.heap.size 5 i0 Tryd.underlying29 Tryd.underlying9 hi' hz0 hz1 hz2 _ x.length (Lib.byteCells x) rfl HW.out.1 (strOf [38, 110, 98, 115, 112, 59]) rfl (by rw [size_strOf]; unfold maxLen; simp; omega) (by rw [size_strOf]; simp; omega) (by omega) ?_
            intro v' w2 hown1 hgrow hat
            have hfin := hid_mk (show w2.ownsRow w.heap.size 5 1 v' (x ++ [38, 110, 98, 115, 112, 59]).length (Lib.byteCells (x ++ [38, 110, 98, 115, 112, 59])) ∧ Below w.heap.size w w2 from by
              refine ⟨?_, HW.out.2.grown hgrow (by omega) (fun k hk => own_base HW.out.1 k hk)⟩
              rw [List.length_append, Lib.byteCells_append]
              exact hown1)
            clear HW hown1 hgrow hat hi' hz0 hz1 hz2
            clear i0
            generalize x ++ [38, 110, 98, 115, 112, 59] = x2 at *
            go_wp2
            go_roundw
            case rel => exact ⟨i + 2, x2, by omega, by first | rfl | go_num, hxl2, hxy2, hfin⟩
            case measure => simp [intOf]; omega
          · have b160 : (((s[i + 1]'hn).toNat : Int) == 160) = false := beq_false_of_ne (by omega)
            have hE := hid_mk (escB_at_one (v := false) s i hin (.inr (by omega)) (fun _ _ => h160))
            have hxy2 := hid_mk (show (x ++ [s[i]'hin]) ++ escB false ((sl s).drop (i + 1)) = Y by
              rw [List.append_assoc, ← hE.out]
              exact hxy.out)
            have hxl2 : (x ++ [s[i]'hin]).length ≤ 6 * (i + 1) := by rw [List.length_append]; simp only [List.length_cons, List.length_nil]; omega
            have hbx := hid_mk (show Lib.byteCells x ++ [Value.int .u8 (((s[i]'hin).toNat : Nat) : Int)] = Lib.byteCells (x ++ [s[i]'hin]) by rw [Lib.byteCells_append]; rfl)
            have hlx := hid_mk (show x.length + 1 = (x ++ [s[i]'hin]).length by rw [List.length_append]; rfl)
            generalize x ++ [s[i]'hin] = x2 at *
            clear hxy hE h194
            go_wp2_with (at_builtin; refine Classical.byContradiction fun hno => ?_)
            refine hno ?_
            clear hno
            obtain ⟨i0, hi', hz0, hz1, hz2⟩ := info_parts infoByte
            have hsz := HW.out.2.size
            refine wpList_append_own_at _ rfl _ _ _ rfl w.heap.size 5 i0 _ 1 1 Tryd.underlying29 hi' hz0 hz1 hz2 rfl (by decide) _ x.length (Lib.byteCells x) rfl (HW.out.1.alloc _) ⟨wr.heap.size, 0, none⟩ 1 1 [.int .u8 (((s[i]'hin).toNat : Nat) : Int)] rfl rfl ?c1 ?c2 ?c3 ?c4 ?c5 ?_
            case c1 =>
              intro j u hu
              rw [addr_add0, cell_of_row _ _ j _ _ _ (heap_alloc_new wr _)]
              simpa using hu
            case c2 => intro u hu; simp at hu; subst hu; rfl
            case c3 => unfold maxLen; omega
            case c4 => omega
            case c5 => simp; omega
            intro v' w2 hown1 hgrow _ hat
            rw [hbx.out, hlx.out] at hown1
            have hfin := hid_mk (show w2.ownsRow w.heap.size 5 1 v' x2.length (Lib.byteCells x2) ∧ Below w.heap.size w w2 from
              ⟨hown1, (HW.out.2.alloc hsz _).grown hgrow (by simp; omega) (fun k hk => own_base HW.out.1 k hk)⟩)
            clear HW hown1 hgrow hat hi' hz0 hz1 hz2 hbx hlx
            clear i0
            go_wp2
            go_roundw
            case rel => exact ⟨i + 1, x2, by omega, by first | rfl | go_num, hxl2, hxy2, hfin⟩
            case measure => simp [intOf]; omega
        · have hn' : ¬ (i : Int) + 1 < (s.size : Int) := by omega
          have hE := hid_mk (escB_at_one (v := false) s i hin (.inr (by omega)) (fun _ h => absurd h hn))
          have hxy2 := hid_mk (show (x ++ [s[i]'hin]) ++ escB false ((sl s).drop (i + 1)) = Y by
            rw [List.append_assoc, ← hE.out]
            exact hxy.out)
          have hxl2 : (x ++ [s[i]'hin]).length ≤ 6 * (i + 1) := by rw [List.length_append]; simp only [List.length_cons, List.length_nil]; omega
          have hbx := hid_mk (show Lib.byteCells x ++ [Value.int .u8 (((s[i]'hin).toNat : Nat) : Int)] = Lib.byteCells (x ++ [s[i]'hin]) by rw [Lib.byteCells_append]; rfl)
          have hlx := hid_mk (show x.length + 1 = (x ++ [s[i]'hin]).length by rw [List.length_append]; rfl)
          generalize x ++ [s[i]'hin] = x2 at *
          clear hxy hE h194
          go_wp2_with (at_builtin; refine Classical.byContradiction fun hno => ?_)
          refine hno ?_
          clear hno
          obtain ⟨i0, hi', hz0, hz1, hz2⟩ := info_parts infoByte
          have hsz := HW.out.2.size
          refine wpList_append_own_at _ rfl _ _ _ rfl w.heap.size 5 i0 _ 1 1 Tryd.underlying29 hi' hz0 hz1 hz2 rfl (by decide) _ x.length (Lib.byteCells x) rfl (HW.out.1.alloc _) ⟨wr.heap.size, 0, none⟩ 1 1 [.int .u8 (((s[i]'hin).toNat : Nat) : Int)] rfl rfl ?c1 ?c2 ?c3 ?c4 ?c5 ?_
          case c1 =>
            intro j u hu
            rw [addr_add0, cell_of_row _ _ j _ _ _ (heap_alloc_new wr _)]
            simpa using hu
          case c2 => intro u hu; simp at hu; subst hu; rfl
          case c3 => unfold maxLen; omega
          case c4 => omega
          case c5 => simp; omega
          intro v' w2 hown1 hgrow _ hat
          rw [hbx.out, hlx.out] at hown1
          have hfin := hid_mk (show w2.ownsRow w.heap.size 5 1 v' x2.length (Lib.byteCells x2) ∧ Below w.heap.size w w2 from
            ⟨hown1, (HW.out.2.alloc hsz _).grown hgrow (by simp; omega) (fun k hk => own_base HW.out.1 k hk)⟩)
          clear HW hown1 hgrow hat hi' hz0 hz1 hz2 hbx hlx
          clear i0
          go_wp2
          go_roundw
          case rel => exact ⟨i + 1, x2, by omega, by first | rfl | go_num, hxl2, hxy2, hfin⟩
          case measure => simp [intOf]; omega
      have b194 : (((s[i]'hin).toNat : Int) == 194) = false := beq_false_of_ne (by omega)
      have hE := hid_mk (escB_at_one (v := false) s i hin (by
        by_cases h128 : 128 ≤ (s[i]'hin).toNat
        · exact .inr h128
        · refine .inl (Classical.byContradiction fun hne => ?_)
          revert hne
          unfold refL everyL
          simp [h38, h13, h60, h62, show (s[i]'hin).toNat ≠ 160 by omega]) (fun h => absurd h h194))
      have hxy2 := hid_mk (show (x ++ [s[i]'hin]) ++ escB false ((sl s).drop (i + 1)) = Y by
        rw [List.append_assoc, ← hE.out]
        exact hxy.out)
      have hxl2 : (x ++ [s[i]'hin]).length ≤ 6 * (i + 1) := by rw [List.length_append]; simp only [List.length_cons, List.length_nil]; omega
      have hbx := hid_mk (show Lib.byteCells x ++ [Value.int .u8 (((s[i]'hin).toNat : Nat) : Int)] = Lib.byteCells (x ++ [s[i]'hin]) by rw [Lib.byteCells_append]; rfl)
      have hlx := hid_mk (show x.length + 1 = (x ++ [s[i]'hin]).length by rw [List.length_append]; rfl)
      generalize x ++ [s[i]'hin] = x2 at *
      clear hxy hE
      go_wp2_with (at_builtin; refine Classical.byContradiction fun hno => ?_)
      refine hno ?_
      clear hno
      obtain ⟨i0, hi', hz0, hz1, hz2⟩ := info_parts infoByte
      have hsz := HW.out.2.size
      refine wpList_append_own_at _ rfl _ _ _ rfl w.heap.size 5 i0 _ 1 1 Tryd.underlying29 hi' hz0 hz1 hz2 rfl (by decide) _ x.length (Lib.byteCells x) rfl (HW.out.1.alloc _) ⟨wr.heap.size, 0, none⟩ 1 1 [.int .u8 (((s[i]'hin).toNat : Nat) : Int)] rfl rfl ?c1 ?c2 ?c3 ?c4 ?c5 ?_
      case c1 =>
        intro j u hu
        rw [addr_add0, cell_of_row _ _ j _ _ _ (heap_alloc_new wr _)]
        simpa using hu
      case c2 => intro u hu; simp at hu; subst hu; rfl
      case c3 => unfold maxLen; omega
      case c4 => omega
      case c5 => simp; omega
      intro v' w2 hown1 hgrow _ hat
      rw [hbx.out, hlx.out] at hown1
      have hfin := hid_mk (show w2.ownsRow w.heap.size 5 1 v' x2.length (Lib.byteCells x2) ∧ Below w.heap.size w w2 from
        ⟨hown1, (HW.out.2.alloc hsz _).grown hgrow (by simp; omega) (fun k hk => own_base HW.out.1 k hk)⟩)
      clear HW hown1 hgrow hat hi' hz0 hz1 hz2 hbx hlx
      clear i0
      go_wp2
      go_roundw
      case rel => exact ⟨i + 1, x2, by omega, by first | rfl | go_num, hxl2, hxy2, hfin⟩
      case measure => simp [intOf]; omega
    · have hin' : ¬ (i : Int) < (s.size : Int) := by omega
      obtain rfl : i = s.size := by omega
      have hv : x = Y := by
        have := hxy.out
        rwa [List.drop_eq_nil_of_le (by rw [len_sl]; omega), show escB false [] = [] from rfl, List.append_nil] at this
      subst hv
      obtain ⟨a', cap', hv', hhas⟩ := own_bytes HW.out.1
      have hcv := bytes_conv wr a' cap' _ hhas
      have HB := hid_mk HW.out.2
      subst hv'
      clear HW hhas hxy HY
      go_wp2
      go_ret
      exact ⟨rfl, HB.out⟩
set_option maxHeartbeats 8000000 in
set_option maxRecDepth 100000 in
theorem rEscape_true (s : ByteArray) (hs : s.size ≤ 100000000) (w : World) :
    Calls Tryd.prog 8 #[.string s, .bool true] w fun e w' => e = .returned (.string (strOf (escB true (sl s)))) ∧ Below w.heap.size w w' := by
  obtain ⟨Y, hY⟩ : ∃ Y, Y = escB true (sl s) := ⟨_, rfl⟩
  rw [← hY]
  have HY := hid_mk hY
  clear hY
  go_enter Tryd.func8, Tryd.ntmps8
  go_wp2_with fail
  go_loopw [5, 6] (fun vb vi wr => ∃ (i : Nat) (x : List UInt8), i ≤ s.size ∧ vi = .int .i64 (i : Int) ∧ x.length ≤ 6 * i ∧ Hid (x ++ escB true ((sl s).drop i) = Y) ∧ Hid (wr.ownsRow w.heap.size 5 1 vb x.length (Lib.byteCells x) ∧ Below w.heap.size w wr)) (fun _ vi _ => s.size - (intOf vi).toNat)
  case atStart => exact ⟨0, [], by omega, rfl, by simp, hid_mk (by rw [HY.out]; rfl), hid_mk ⟨⟨rfl, .inl ⟨rfl, rfl⟩⟩, Below.refl _ _⟩⟩
  case round =>
    obtain ⟨i, x, hi, rfl, hxl, hxy, HW⟩ := hrel
    by_cases hin : i < s.size
    · have hin' : (i : Int) < (s.size : Int) := by omega
      have hi0 : (0 : Int) ≤ (i : Int) := by omega
      by_cases h38 : (s[i]'hin).toNat = 38
      · have b38 : (((s[i]'hin).toNat : Int) == 38) = true := by rw [h38]; rfl
        have b194 : (((s[i]'hin).toNat : Int) == 194) = false := beq_false_of_ne (by omega)
        have b13 : (((s[i]'hin).toNat : Int) == 13) = false := beq_false_of_ne (by omega)
        have b60 : (((s[i]'hin).toNat : Int) == 60) = false := beq_false_of_ne (by omega)
        have b62 : (((s[i]'hin).toNat : Int) == 62) = false := beq_false_of_ne (by omega)
        have b34 : (((s[i]'hin).toNat : Int) == 34) = false := beq_false_of_ne (by omega)
        have hE := hid_mk (escB_at_low (v := true) s i hin (by omega) [38, 97, 109, 112, 59] (by rw [h38]; rfl) (by decide))
        have hxy2 := hid_mk (show (x ++ [38, 97, 109, 112, 59]) ++ escB true ((sl s).drop (i + 1)) = Y by
          rw [List.append_assoc, ← hE.out]
          exact hxy.out)
        have hxl2 : (x ++ [38, 97, 109, 112, 59]).length ≤ 6 * (i + 1) := by rw [List.length_append]; simp only [List.length_cons, List.length_nil]; omega
        clear hxy
        go_wp2_with (at_builtin; refine Classical.byContradiction fun hno => ?_)
        refine hno ?_
        clear hno
        obtain ⟨i0, hi', hz0, hz1, hz2⟩ := info_parts infoByte
        have hsz := HW.out.2.size
        refine wpList_append_str_at rfl _ _ _ _ rfl w.heap.size 5 i0 Tryd.underlying29 Tryd.underlying9 hi' hz0 hz1 hz2 _ x.length (Lib.byteCells x) rfl HW.out.1 (strOf [38, 97, 109, 112, 59]) rfl (by rw [size_strOf]; unfold maxLen; simp; omega) (by rw [size_strOf]; simp; omega) (by omega) ?_
        intro v' w2 hown1 hgrow hat
        have hfin := hid_mk (show w2.ownsRow w.heap.size 5 1 v' (x ++ [38, 97, 109, 112, 59]).length (Lib.byteCells (x ++ [38, 97, 109, 112, 59])) ∧ Below w.heap.size w w2 from by
          refine ⟨?_, HW.out.2.grown hgrow (by omega) (fun k hk => own_base HW.out.1 k hk)⟩
          rw [List.length_append, Lib.byteCells_append]
          exact hown1)
        clear HW hown1 hgrow hat hi' hz0 hz1 hz2
        clear i0
        generalize x ++ [38, 97, 109, 112, 59] = x2 at *
        go_wp2
        go_roundw
        case rel => exact ⟨i + 1, x2, by omega, by first | rfl | go_num, hxl2, hxy2, hfin⟩
        case measure => simp [intOf]; omega
      have b38 : (((s[i]'hin).toNat : Int) == 38) = false := beq_false_of_ne (by omega)
      by_cases h13 : (s[i]'hin).toNat = 13
      · have b13 : (((s[i]'hin).toNat : Int) == 13) = true := by rw [h13]; rfl
        have b194 : (((s[i]'hin).toNat : Int) == 194) = false := beq_false_of_ne (by omega)
        have b60 : (((s[i]'hin).toNat : Int) == 60) = false := beq_false_of_ne (by omega)
        have b62 : (((s[i]'hin).toNat : Int) == 62) = false := beq_false_of_ne (by omega)
        have b34 : (((s[i]'hin).toNat : Int) == 34) = false := beq_false_of_ne (by omega)
        have hE := hid_mk (escB_at_low (v := true) s i hin (by omega) [38, 35, 49, 51, 59] (by rw [h13]; rfl) (by decide))
        have hxy2 := hid_mk (show (x ++ [38, 35, 49, 51, 59]) ++ escB true ((sl s).drop (i + 1)) = Y by
          rw [List.append_assoc, ← hE.out]
          exact hxy.out)
        have hxl2 : (x ++ [38, 35, 49, 51, 59]).length ≤ 6 * (i + 1) := by rw [List.length_append]; simp only [List.length_cons, List.length_nil]; omega
        clear hxy
        go_wp2_with (at_builtin; refine Classical.byContradiction fun hno => ?_)
        refine hno ?_
        clear hno
        obtain ⟨i0, hi', hz0, hz1, hz2⟩ := info_parts infoByte
        have hsz := HW.out.2.size
        refine wpList_append_str_at rfl _ _ _ _ rfl w.heap.size 5 i0 Tryd.underlying29 Tryd.underlying9 hi' hz0 hz1 hz2 _ x.length (Lib.byteCells x) rfl HW.out.1 (strOf [38, 35, 49, 51, 59]) rfl (by rw [size_strOf]; unfold maxLen; simp; omega) (by rw [size_strOf]; simp; omega) (by omega) ?_
        intro v' w2 hown1 hgrow hat
        have hfin := hid_mk (show w2.ownsRow w.heap.size 5 1 v' (x ++ [38, 35, 49, 51, 59]).length (Lib.byteCells (x ++ [38, 35, 49, 51, 59])) ∧ Below w.heap.size w w2 from by
          refine ⟨?_, HW.out.2.grown hgrow (by omega) (fun k hk => own_base HW.out.1 k hk)⟩
          rw [List.length_append, Lib.byteCells_append]
          exact hown1)
        clear HW hown1 hgrow hat hi' hz0 hz1 hz2
        clear i0
        generalize x ++ [38, 35, 49, 51, 59] = x2 at *
        go_wp2
        go_roundw
        case rel => exact ⟨i + 1, x2, by omega, by first | rfl | go_num, hxl2, hxy2, hfin⟩
        case measure => simp [intOf]; omega
      have b13 : (((s[i]'hin).toNat : Int) == 13) = false := beq_false_of_ne (by omega)
      by_cases h34 : (s[i]'hin).toNat = 34
      · have b34 : (((s[i]'hin).toNat : Int) == 34) = true := by rw [h34]; rfl
        have b194 : (((s[i]'hin).toNat : Int) == 194) = false := beq_false_of_ne (by omega)
        have b60 : (((s[i]'hin).toNat : Int) == 60) = false := beq_false_of_ne (by omega)
        have b62 : (((s[i]'hin).toNat : Int) == 62) = false := beq_false_of_ne (by omega)
        have hE := hid_mk (escB_at_low (v := true) s i hin (by omega) [38, 113, 117, 111, 116, 59] (by rw [h34]; rfl) (by decide))
        have hxy2 := hid_mk (show (x ++ [38, 113, 117, 111, 116, 59]) ++ escB true ((sl s).drop (i + 1)) = Y by
          rw [List.append_assoc, ← hE.out]
          exact hxy.out)
        have hxl2 : (x ++ [38, 113, 117, 111, 116, 59]).length ≤ 6 * (i + 1) := by rw [List.length_append]; simp only [List.length_cons, List.length_nil]; omega
        clear hxy
        go_wp2_with (at_builtin; refine Classical.byContradiction fun hno => ?_)
        refine hno ?_
        clear hno
        obtain ⟨i0, hi', hz0, hz1, hz2⟩ := info_parts infoByte
        have hsz := HW.out.2.size
        refine wpList_append_str_at rfl _ _ _ _ rfl w.heap.size 5 i0 Tryd.underlying29 Tryd.underlying9 hi' hz0 hz1 hz2 _ x.length (Lib.byteCells x) rfl HW.out.1 (strOf [38, 113, 117, 111, 116, 59]) rfl (by rw [size_strOf]; unfold maxLen; simp; omega) (by rw [size_strOf]; simp; omega) (by omega) ?_
        intro v' w2 hown1 hgrow hat
        have hfin := hid_mk (show w2.ownsRow w.heap.size 5 1 v' (x ++ [38, 113, 117, 111, 116, 59]).length (Lib.byteCells (x ++ [38, 113, 117, 111, 116, 59])) ∧ Below w.heap.size w w2 from by
          refine ⟨?_, HW.out.2.grown hgrow (by omega) (fun k hk => own_base HW.out.1 k hk)⟩
          rw [List.length_append, Lib.byteCells_append]
          exact hown1)
        clear HW hown1 hgrow hat hi' hz0 hz1 hz2
        clear i0
        generalize x ++ [38, 113, 117, 111, 116, 59] = x2 at *
        go_wp2
        go_roundw
        case rel => exact ⟨i + 1, x2, by omega, by first | rfl | go_num, hxl2, hxy2, hfin⟩
        case measure => simp [intOf]; omega
      have b34 : (((s[i]'hin).toNat : Int) == 34) = false := beq_false_of_ne (by omega)
      by_cases h60 : (s[i]'hin).toNat = 60
      · have b60 : (((s[i]'hin).toNat : Int) == 60) = true := by rw [h60]; rfl
        have b194 : (((s[i]'hin).toNat : Int) == 194) = false := beq_false_of_ne (by omega)
        have b62 : (((s[i]'hin).toNat : Int) == 62) = false := beq_false_of_ne (by omega)
        have hE := hid_mk (escB_at_one (v := true) s i hin (.inl (by rw [h60]; rfl)) (fun h => by omega))
        have hxy2 := hid_mk (show (x ++ [s[i]'hin]) ++ escB true ((sl s).drop (i + 1)) = Y by
          rw [List.append_assoc, ← hE.out]
          exact hxy.out)
        have hxl2 : (x ++ [s[i]'hin]).length ≤ 6 * (i + 1) := by rw [List.length_append]; simp only [List.length_cons, List.length_nil]; omega
        have hbx := hid_mk (show Lib.byteCells x ++ [Value.int .u8 (((s[i]'hin).toNat : Nat) : Int)] = Lib.byteCells (x ++ [s[i]'hin]) by rw [Lib.byteCells_append]; rfl)
        have hlx := hid_mk (show x.length + 1 = (x ++ [s[i]'hin]).length by rw [List.length_append]; rfl)
        generalize x ++ [s[i]'hin] = x2 at *
        clear hxy hE h60
        go_wp2_with (at_builtin; refine Classical.byContradiction fun hno => ?_)
        refine hno ?_
        clear hno
        obtain ⟨i0, hi', hz0, hz1, hz2⟩ := info_parts infoByte
        have hsz := HW.out.2.size
        refine wpList_append_own_at _ rfl _ _ _ rfl w.heap.size 5 i0 _ 1 1 Tryd.underlying29 hi' hz0 hz1 hz2 rfl (by decide) _ x.length (Lib.byteCells x) rfl (HW.out.1.alloc _) ⟨wr.heap.size, 0, none⟩ 1 1 [.int .u8 (((s[i]'hin).toNat : Nat) : Int)] rfl rfl ?c1 ?c2 ?c3 ?c4 ?c5 ?_
        case c1 =>
          intro j u hu
          rw [addr_add0, cell_of_row _ _ j _ _ _ (heap_alloc_new wr _)]
          simpa using hu
        case c2 => intro u hu; simp at hu; subst hu; rfl
        case c3 => unfold maxLen; omega
        case c4 => omega
        case c5 => simp; omega
        intro v' w2 hown1 hgrow _ hat
        rw [hbx.out, hlx.out] at hown1
        have hfin := hid_mk (show w2.ownsRow w.heap.size 5 1 v' x2.length (Lib.byteCells x2) ∧ Below w.heap.size w w2 from
          ⟨hown1, (HW.out.2.alloc hsz _).grown hgrow (by simp; omega) (fun k hk => own_base HW.out.1 k hk)⟩)
        clear HW hown1 hgrow hat hi' hz0 hz1 hz2 hbx hlx
        clear i0
        go_wp2
        go_roundw
        case rel => exact ⟨i + 1, x2, by omega, by first | rfl | go_num, hxl2, hxy2, hfin⟩
        case measure => simp [intOf]; omega
      have b60 : (((s[i]'hin).toNat : Int) == 60) = false := beq_false_of_ne (by omega)
      by_cases h62 : (s[i]'hin).toNat = 62
      · have b62 : (((s[i]'hin).toNat : Int) == 62) = true := by rw [h62]; rfl
        have b194 : (((s[i]'hin).toNat : Int) == 194) = false := beq_false_of_ne (by omega)
        have hE := hid_mk (escB_at_one (v := true) s i hin (.inl (by rw [h62]; rfl)) (fun h => by omega))
        have hxy2 := hid_mk (show (x ++ [s[i]'hin]) ++ escB true ((sl s).drop (i + 1)) = Y by
          rw [List.append_assoc, ← hE.out]
          exact hxy.out)
        have hxl2 : (x ++ [s[i]'hin]).length ≤ 6 * (i + 1) := by rw [List.length_append]; simp only [List.length_cons, List.length_nil]; omega
        have hbx := hid_mk (show Lib.byteCells x ++ [Value.int .u8 (((s[i]'hin).toNat : Nat) : Int)] = Lib.byteCells (x ++ [s[i]'hin]) by rw [Lib.byteCells_append]; rfl)
        have hlx := hid_mk (show x.length + 1 = (x ++ [s[i]'hin]).length by rw [List.length_append]; rfl)
        generalize x ++ [s[i]'hin] = x2 at *
        clear hxy hE h62
        go_wp2_with (at_builtin; refine Classical.byContradiction fun hno => ?_)
        refine hno ?_
        clear hno
        obtain ⟨i0, hi', hz0, hz1, hz2⟩ := info_parts infoByte
        have hsz := HW.out.2.size
        refine wpList_append_own_at _ rfl _ _ _ rfl w.heap.size 5 i0 _ 1 1 Tryd.underlying29 hi' hz0 hz1 hz2 rfl (by decide) _ x.length (Lib.byteCells x) rfl (HW.out.1.alloc _) ⟨wr.heap.size, 0, none⟩ 1 1 [.int .u8 (((s[i]'hin).toNat : Nat) : Int)] rfl rfl ?c1 ?c2 ?c3 ?c4 ?c5 ?_
        case c1 =>
          intro j u hu
          rw [addr_add0, cell_of_row _ _ j _ _ _ (heap_alloc_new wr _)]
          simpa using hu
        case c2 => intro u hu; simp at hu; subst hu; rfl
        case c3 => unfold maxLen; omega
        case c4 => omega
        case c5 => simp; omega
        intro v' w2 hown1 hgrow _ hat
        rw [hbx.out, hlx.out] at hown1
        have hfin := hid_mk (show w2.ownsRow w.heap.size 5 1 v' x2.length (Lib.byteCells x2) ∧ Below w.heap.size w w2 from
          ⟨hown1, (HW.out.2.alloc hsz _).grown hgrow (by simp; omega) (fun k hk => own_base HW.out.1 k hk)⟩)
        clear HW hown1 hgrow hat hi' hz0 hz1 hz2 hbx hlx
        clear i0
        go_wp2
        go_roundw
        case rel => exact ⟨i + 1, x2, by omega, by first | rfl | go_num, hxl2, hxy2, hfin⟩
        case measure => simp [intOf]; omega
      have b62 : (((s[i]'hin).toNat : Int) == 62) = false := beq_false_of_ne (by omega)
      by_cases h194 : (s[i]'hin).toNat = 194
      · have b194 : (((s[i]'hin).toNat : Int) == 194) = true := by rw [h194]; rfl
        by_cases hn : i + 1 < s.size
        · have hn' : (i : Int) + 1 < (s.size : Int) := by omega
          have hq : ((i : Int) + 1).toNat = i + 1 := by omega
          have hq0 : (0 : Int) ≤ (i : Int) + 1 := by omega
          by_cases h160 : (s[i + 1]'hn).toNat = 160
          · have b160 : (((s[i + 1]'hn).toNat : Int) == 160) = true := by rw [h160]; rfl
            have hE := hid_mk (escB_at_nb (v := true) s i hn h194 h160)
            have hxy2 := hid_mk (show (x ++ [38, 110, 98, 115, 112, 59]) ++ escB true ((sl s).drop (i + 2)) = Y by
              rw [List.append_assoc, ← hE.out]
              exact hxy.out)
            have hxl2 : (x ++ [38, 110, 98, 115, 112, 59]).length ≤ 6 * (i + 2) := by rw [List.length_append]; simp only [List.length_cons, List.length_nil]; omega
            clear hxy
            go_wp2_with (at_builtin; refine Classical.byContradiction fun hno => ?_)
            refine hno ?_
            clear hno
            obtain ⟨i0, hi', hz0, hz1, hz2⟩ := info_parts infoByte
            have hsz := HW.out.2.size
            refine wpList_append_str_at rfl _ _ _ _ rfl w.heap.size 5 i0 Tryd.underlying29 Tryd.underlying9 hi' hz0 hz1 hz2 _ x.length (Lib.byteCells x) rfl HW.out.1 (strOf [38, 110, 98, 115, 112, 59]) rfl (by rw [size_strOf]; unfold maxLen; simp; omega) (by rw [size_strOf]; simp; omega) (by omega) ?_
            intro v' w2 hown1 hgrow hat
            have hfin := hid_mk (show w2.ownsRow w.heap.size 5 1 v' (x ++ [38, 110, 98, 115, 112, 59]).length (Lib.byteCells (x ++ [38, 110, 98, 115, 112, 59])) ∧ Below w.heap.size w w2 from by
              refine ⟨?_, HW.out.2.grown hgrow (by omega) (fun k hk => own_base HW.out.1 k hk)⟩
              rw [List.length_append, Lib.byteCells_append]
              exact hown1)
            clear HW hown1 hgrow hat hi' hz0 hz1 hz2
            clear i0
            generalize x ++ [38, 110, 98, 115, 112, 59] = x2 at *
            go_wp2
            go_roundw
            case rel => exact ⟨i + 2, x2, by omega, by first | rfl | go_num, hxl2, hxy2, hfin⟩
            case measure => simp [intOf]; omega
          · have b160 : (((s[i + 1]'hn).toNat : Int) == 160) = false := beq_false_of_ne (by omega)
            have hE := hid_mk (escB_at_one (v := true) s i hin (.inr (by omega)) (fun _ _ => h160))
            have hxy2 := hid_mk (show (x ++ [s[i]'hin]) ++ escB true ((sl s).drop (i + 1)) = Y by
              rw [List.append_assoc, ← hE.out]
              exact hxy.out)
            have hxl2 : (x ++ [s[i]'hin]).length ≤ 6 * (i + 1) := by rw [List.length_append]; simp only [List.length_cons, List.length_nil]; omega
            have hbx := hid_mk (show Lib.byteCells x ++ [Value.int .u8 (((s[i]'hin).toNat : Nat) : Int)] = Lib.byteCells (x ++ [s[i]'hin]) by rw [Lib.byteCells_append]; rfl)
            have hlx := hid_mk (show x.length + 1 = (x ++ [s[i]'hin]).length by rw [List.length_append]; rfl)
            generalize x ++ [s[i]'hin] = x2 at *
            clear hxy hE h194
            go_wp2_with (at_builtin; refine Classical.byContradiction fun hno => ?_)
            refine hno ?_
            clear hno
            obtain ⟨i0, hi', hz0, hz1, hz2⟩ := info_parts infoByte
            have hsz := HW.out.2.size
            refine wpList_append_own_at _ rfl _ _ _ rfl w.heap.size 5 i0 _ 1 1 Tryd.underlying29 hi' hz0 hz1 hz2 rfl (by decide) _ x.length (Lib.byteCells x) rfl (HW.out.1.alloc _) ⟨wr.heap.size, 0, none⟩ 1 1 [.int .u8 (((s[i]'hin).toNat : Nat) : Int)] rfl rfl ?c1 ?c2 ?c3 ?c4 ?c5 ?_
            case c1 =>
              intro j u hu
              rw [addr_add0, cell_of_row _ _ j _ _ _ (heap_alloc_new wr _)]
              simpa using hu
            case c2 => intro u hu; simp at hu; subst hu; rfl
            case c3 => unfold maxLen; omega
            case c4 => omega
            case c5 => simp; omega
            intro v' w2 hown1 hgrow _ hat
            rw [hbx.out, hlx.out] at hown1
            have hfin := hid_mk (show w2.ownsRow w.heap.size 5 1 v' x2.length (Lib.byteCells x2) ∧ Below w.heap.size w w2 from
              ⟨hown1, (HW.out.2.alloc hsz _).grown hgrow (by simp; omega) (fun k hk => own_base HW.out.1 k hk)⟩)
            clear HW hown1 hgrow hat hi' hz0 hz1 hz2 hbx hlx
            clear i0
            go_wp2
            go_roundw
            case rel => exact ⟨i + 1, x2, by omega, by first | rfl | go_num, hxl2, hxy2, hfin⟩
            case measure => simp [intOf]; omega
        · have hn' : ¬ (i : Int) + 1 < (s.size : Int) := by omega
          have hE := hid_mk (escB_at_one (v := true) s i hin (.inr (by omega)) (fun _ h => absurd h hn))
          have hxy2 := hid_mk (show (x ++ [s[i]'hin]) ++ escB true ((sl s).drop (i + 1)) = Y by
            rw [List.append_assoc, ← hE.out]
            exact hxy.out)
          have hxl2 : (x ++ [s[i]'hin]).length ≤ 6 * (i + 1) := by rw [List.length_append]; simp only [List.length_cons, List.length_nil]; omega
          have hbx := hid_mk (show Lib.byteCells x ++ [Value.int .u8 (((s[i]'hin).toNat : Nat) : Int)] = Lib.byteCells (x ++ [s[i]'hin]) by rw [Lib.byteCells_append]; rfl)
          have hlx := hid_mk (show x.length + 1 = (x ++ [s[i]'hin]).length by rw [List.length_append]; rfl)
          generalize x ++ [s[i]'hin] = x2 at *
          clear hxy hE h194
          go_wp2_with (at_builtin; refine Classical.byContradiction fun hno => ?_)
          refine hno ?_
          clear hno
          obtain ⟨i0, hi', hz0, hz1, hz2⟩ := info_parts infoByte
          have hsz := HW.out.2.size
          refine wpList_append_own_at _ rfl _ _ _ rfl w.heap.size 5 i0 _ 1 1 Tryd.underlying29 hi' hz0 hz1 hz2 rfl (by decide) _ x.length (Lib.byteCells x) rfl (HW.out.1.alloc _) ⟨wr.heap.size, 0, none⟩ 1 1 [.int .u8 (((s[i]'hin).toNat : Nat) : Int)] rfl rfl ?c1 ?c2 ?c3 ?c4 ?c5 ?_
          case c1 =>
            intro j u hu
            rw [addr_add0, cell_of_row _ _ j _ _ _ (heap_alloc_new wr _)]
            simpa using hu
          case c2 => intro u hu; simp at hu; subst hu; rfl
          case c3 => unfold maxLen; omega
          case c4 => omega
          case c5 => simp; omega
          intro v' w2 hown1 hgrow _ hat
          rw [hbx.out, hlx.out] at hown1
          have hfin := hid_mk (show w2.ownsRow w.heap.size 5 1 v' x2.length (Lib.byteCells x2) ∧ Below w.heap.size w w2 from
            ⟨hown1, (HW.out.2.alloc hsz _).grown hgrow (by simp; omega) (fun k hk => own_base HW.out.1 k hk)⟩)
          clear HW hown1 hgrow hat hi' hz0 hz1 hz2 hbx hlx
          clear i0
          go_wp2
          go_roundw
          case rel => exact ⟨i + 1, x2, by omega, by first | rfl | go_num, hxl2, hxy2, hfin⟩
          case measure => simp [intOf]; omega
      have b194 : (((s[i]'hin).toNat : Int) == 194) = false := beq_false_of_ne (by omega)
      have hE := hid_mk (escB_at_one (v := true) s i hin (by
        by_cases h128 : 128 ≤ (s[i]'hin).toNat
        · exact .inr h128
        · refine .inl (Classical.byContradiction fun hne => ?_)
          revert hne
          unfold refL everyL
          simp [h38, h13, h34, show (s[i]'hin).toNat ≠ 160 by omega]) (fun h => absurd h h194))
      have hxy2 := hid_mk (show (x ++ [s[i]'hin]) ++ escB true ((sl s).drop (i + 1)) = Y by
        rw [List.append_assoc, ← hE.out]
        exact hxy.out)
      have hxl2 : (x ++ [s[i]'hin]).length ≤ 6 * (i + 1) := by rw [List.length_append]; simp only [List.length_cons, List.length_nil]; omega
      have hbx := hid_mk (show Lib.byteCells x ++ [Value.int .u8 (((s[i]'hin).toNat : Nat) : Int)] = Lib.byteCells (x ++ [s[i]'hin]) by rw [Lib.byteCells_append]; rfl)
      have hlx := hid_mk (show x.length + 1 = (x ++ [s[i]'hin]).length by rw [List.length_append]; rfl)
      generalize x ++ [s[i]'hin] = x2 at *
      clear hxy hE
      go_wp2_with (at_builtin; refine Classical.byContradiction fun hno => ?_)
      refine hno ?_
      clear hno
      obtain ⟨i0, hi', hz0, hz1, hz2⟩ := info_parts infoByte
      have hsz := HW.out.2.size
      refine wpList_append_own_at _ rfl _ _ _ rfl w.heap.size 5 i0 _ 1 1 Tryd.underlying29 hi' hz0 hz1 hz2 rfl (by decide) _ x.length (Lib.byteCells x) rfl (HW.out.1.alloc _) ⟨wr.heap.size, 0, none⟩ 1 1 [.int .u8 (((s[i]'hin).toNat : Nat) : Int)] rfl rfl ?c1 ?c2 ?c3 ?c4 ?c5 ?_
      case c1 =>
        intro j u hu
        rw [addr_add0, cell_of_row _ _ j _ _ _ (heap_alloc_new wr _)]
        simpa using hu
      case c2 => intro u hu; simp at hu; subst hu; rfl
      case c3 => unfold maxLen; omega
      case c4 => omega
      case c5 => simp; omega
      intro v' w2 hown1 hgrow _ hat
      rw [hbx.out, hlx.out] at hown1
      have hfin := hid_mk (show w2.ownsRow w.heap.size 5 1 v' x2.length (Lib.byteCells x2) ∧ Below w.heap.size w w2 from
        ⟨hown1, (HW.out.2.alloc hsz _).grown hgrow (by simp; omega) (fun k hk => own_base HW.out.1 k hk)⟩)
      clear HW hown1 hgrow hat hi' hz0 hz1 hz2 hbx hlx
      clear i0
      go_wp2
      go_roundw
      case rel => exact ⟨i + 1, x2, by omega, by first | rfl | go_num, hxl2, hxy2, hfin⟩
      case measure => simp [intOf]; omega
    · have hin' : ¬ (i : Int) < (s.size : Int) := by omega
      obtain rfl : i = s.size := by omega
      have hv : x = Y := by
        have := hxy.out
        rwa [List.drop_eq_nil_of_le (by rw [len_sl]; omega), show escB true [] = [] from rfl, List.append_nil] at this
      subst hv
      obtain ⟨a', cap', hv', hhas⟩ := own_bytes HW.out.1
      have hcv := bytes_conv wr a' cap' _ hhas
      have HB := hid_mk HW.out.2
      subst hv'
      clear HW hhas hxy HY
      go_wp2
      go_ret
      exact ⟨rfl, HB.out⟩
theorem rEscape_any (s : ByteArray) (v : Bool) (hs : s.size ≤ 100000000) (w : World) :
    Calls Tryd.prog 8 #[.string s, .bool v] w fun e w' => e = .returned (.string (strOf (escL v (sl s)))) ∧ Below w.heap.size w w' := by
  rw [esc_eq v _ _ (Nat.le_refl _)]
  cases v
  · exact rEscape_false s hs w
  · exact rEscape_true s hs w
end Go.Proofs.YtnooofnlbfhopaaDoor
