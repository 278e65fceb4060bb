/-
  The document's Escape: it gives escL. Condition: the text's length is bounded.
-/
import Derived.Test.YtlcijlklbabajaaGreatDoorQSPbp
import Derived.Test.YtlcijlklbabajaaGreatDoorQTTaM
import Derived.Test.YtlcijlklbabajaaGreatDoorQLpAll
import Derived.Test.YtlcijlklbabajaaGreatDoorQLpRef
import Derived.Test.YtlcijlklbabajaaGreatDoorQKSO
import Derived.Test.YtlcijlklbabajaaGreatDoorQKRefA
import Derived.Deep.RegionHeld3
import Derived.Deep.QuietTactic
import Derived.BigQuiet
namespace Go.Proofs.YtlcijlklbabajaaGreatDoor
open Go.RowKit
theorem drop_one (l : List UInt8) (i : Nat) (h : i < l.length) : l.drop i = l[i] :: l.drop (i + 1) := List.drop_eq_getElem_cons h
theorem escB_at_low {v : Bool} (s : ByteArray) (i : Nat) (h : i < s.size) (hc : (s[i]'h).toNat < 128) (p : List UInt8) (hp : refL v (s[i]'h).toNat = p) (h0 : p ≠ []) : escB v ((sl s).drop i) = p ++ escB v ((sl s).drop (i + 1)) := by
 rw [drop_one (sl s) i (by rw [len_sl]; exact h), show (sl s)[i]'(by rw [len_sl]; exact h) = s[i]'h from rfl, escB_low _ hc, hp, if_neg h0]
theorem escB_at_nb {v : Bool} (s : ByteArray) (i : Nat) (h : i + 1 < s.size) (hc : (s[i]'(by omega)).toNat = 194) (hd : (s[i + 1]'h).toNat = 160) : escB v ((sl s).drop i) = [38, 110, 98, 115, 112, 59] ++ escB v ((sl s).drop (i + 2)) := by
 rw [drop_one (sl s) i (by rw [len_sl]; omega), drop_one (sl s) (i + 1) (by rw [len_sl]; omega), show (sl s)[i]'(by rw [len_sl]; omega) = s[i]'(by omega) from rfl, show (sl s)[i + 1]'(by rw [len_sl]; omega) = s[i + 1]'h from rfl, escB_nb _ hc hd]
 cases v <;> rfl
theorem escB_at_one {v : Bool} (s : ByteArray) (i : Nat) (h : i < s.size) (hc : refL v (s[i]'h).toNat = [] ∨ 128 ≤ (s[i]'h).toNat) (hd : (s[i]'h).toNat = 194 → ∀ h1 : i + 1 < s.size, (s[i + 1]'h1).toNat ≠ 160) : escB v ((sl s).drop i) = [s[i]'h] ++ escB v ((sl s).drop (i + 1)) := by
 rw [drop_one (sl s) i (by rw [len_sl]; exact h), show (sl s)[i]'(by rw [len_sl]; exact h) = s[i]'h from rfl]
 by_cases hl : (s[i]'h).toNat < 128
 ·rw [escB_low _ hl]
  rcases hc with hc | hc
  ·rw [if_pos hc]
  ·omega
 ·rw [escB_high _ (by omega)]
  ·rfl
  ·rintro ⟨h1, h2⟩
   by_cases hi : i + 1 < s.size
   ·refine hd h1 hi ?_
    unfold U.atL at h2
    rw [List.getElem?_drop, Nat.add_zero, List.getElem?_eq_getElem (by rw [len_sl]; exact hi)] at h2
    exact h2
   ·unfold U.atL at h2
    rw [List.getElem?_drop, List.getElem?_eq_none (by rw [len_sl]; omega)] at h2
    exact absurd h2 (by decide)
set_option maxHeartbeats 8000000 in
set_option maxRecDepth 100000 in
theorem rEscape_false (s : ByteArray) (hs : s.size ≤ 100000000) (w : World) :
 Calls Tryz.prog 61 #[.string s, .bool false] w fun e w' => e = .returned (.string (strOf (escB false (sl s)))) ∧ Below w.heap.size w w' := by
 obtain ⟨Y, hY⟩ : ∃ Y, Y = escB false (sl s) := ⟨_, rfl⟩
 rw [← hY]
 have HY := hid_mk hY
 clear hY
 go_enter Tryz.func61, Tryz.ntmps61
 go_wp2_with fail
 go_loopw [5, 6] (fun vb vi wr => ∃ (i : Nat) (x : List UInt8), i ≤ s.size ∧ vi = .int .i64 (i : Int) ∧ x.length ≤ 6 * i ∧ Hid (x ++ escB false ((sl s).drop i) = Y) ∧ Hid (wr.ownsRow w.heap.size 5 1 vb x.length (Lib.byteCells x) ∧ Below w.heap.size w wr)) (fun _ vi _ => s.size - (intOf vi).toNat)
 case atStart => exact ⟨0, [], by omega, rfl, by simp, hid_mk (by rw [HY.out]; rfl), hid_mk ⟨⟨rfl, .inl ⟨rfl, rfl⟩⟩, Below.refl _ _⟩⟩
 case round =>
  obtain ⟨i, x, hi, rfl, hxl, hxy, HW⟩ := hrel
  by_cases hin : i < s.size
  ·have hin' : (i : Int) < (s.size : Int) := by omega
   have hi0 : (0 : Int) ≤ (i : Int) := by omega
   by_cases h38 : (s[i]'hin).toNat = 38
   ·have b38 : (((s[i]'hin).toNat : Int) == 38) = true := by rw [h38]; rfl
    have b194 : (((s[i]'hin).toNat : Int) == 194) = false := beq_false_of_ne (by omega)
    have b13 : (((s[i]'hin).toNat : Int) == 13) = false := beq_false_of_ne (by omega)
    have b60 : (((s[i]'hin).toNat : Int) == 60) = false := beq_false_of_ne (by omega)
    have b62 : (((s[i]'hin).toNat : Int) == 62) = false := beq_false_of_ne (by omega)
    have b34 : (((s[i]'hin).toNat : Int) == 34) = false := beq_false_of_ne (by omega)
    have hE := hid_mk (escB_at_low (v := false) s i hin (by omega) [38, 97, 109, 112, 59] (by rw [h38]; rfl) (by decide))
    have hxy2 := hid_mk (show (x ++ [38, 97, 109, 112, 59]) ++ escB false ((sl s).drop (i + 1)) = Y by
     rw [List.append_assoc, ← hE.out]
     exact hxy.out)
    have hxl2 : (x ++ [38, 97, 109, 112, 59]).length ≤ 6 * (i + 1) := by rw [List.length_append]; simp only [List.length_cons, List.length_nil]; omega
    clear hxy
    go_wp2_with (at_builtin; refine Classical.byContradiction fun hno => ?_)
    refine hno ?_
    clear hno
    obtain ⟨i0, hi', hz0, hz1, hz2⟩ := info_parts infoByte
    have hsz := HW.out.2.size
    refine wpList_append_str_at rfl _ _ _ _ rfl w.heap.size 5 i0 Tryz.underlying42 Tryz.underlying9 hi' hz0 hz1 hz2 _ x.length (Lib.byteCells x) rfl HW.out.1 (strOf [38, 97, 109, 112, 59]) rfl (by rw [size_strOf]; unfold maxLen; simp; omega) (by rw [size_strOf]; simp; omega) (by omega) ?_
    intro v' w2 hown1 hgrow hat
    have hfin := hid_mk (show w2.ownsRow w.heap.size 5 1 v' (x ++ [38, 97, 109, 112, 59]).length (Lib.byteCells (x ++ [38, 97, 109, 112, 59])) ∧ Below w.heap.size w w2 from by
     refine ⟨?_, HW.out.2.grown hgrow (by omega) (fun k hk => own_base HW.out.1 k hk)⟩
     rw [List.length_append, Lib.byteCells_append]
     exact hown1)
    clear HW hown1 hgrow hat hi' hz0 hz1 hz2
    clear i0
    generalize x ++ [38, 97, 109, 112, 59] = x2 at *
    go_wp2
    go_roundw
    case rel => exact ⟨i + 1, x2, by omega, by first | rfl | go_num, hxl2, hxy2, hfin⟩
    case measure => simp [intOf]; omega
   have b38 : (((s[i]'hin).toNat : Int) == 38) = false := beq_false_of_ne (by omega)
   by_cases h13 : (s[i]'hin).toNat = 13
   ·have b13 : (((s[i]'hin).toNat : Int) == 13) = true := by rw [h13]; rfl
    have b194 : (((s[i]'hin).toNat : Int) == 194) = false := beq_false_of_ne (by omega)
    have b60 : (((s[i]'hin).toNat : Int) == 60) = false := beq_false_of_ne (by omega)
    have b62 : (((s[i]'hin).toNat : Int) == 62) = false := beq_false_of_ne (by omega)
    have b34 : (((s[i]'hin).toNat : Int) == 34) = false := beq_false_of_ne (by omega)
    have hE := hid_mk (escB_at_low (v := false) s i hin (by omega) [38, 35, 49, 51, 59] (by rw [h13]; rfl) (by decide))
    have hxy2 := hid_mk (show (x ++ [38, 35, 49, 51, 59]) ++ escB false ((sl s).drop (i + 1)) = Y by
     rw [List.append_assoc, ← hE.out]
     exact hxy.out)
    have hxl2 : (x ++ [38, 35, 49, 51, 59]).length ≤ 6 * (i + 1) := by rw [List.length_append]; simp only [List.length_cons, List.length_nil]; omega
    clear hxy
    go_wp2_with (at_builtin; refine Classical.byContradiction fun hno => ?_)
    refine hno ?_
    clear hno
    obtain ⟨i0, hi', hz0, hz1, hz2⟩ := info_parts infoByte
    have hsz := HW.out.2.size
    refine wpList_append_str_at rfl _ _ _ _ rfl w.heap.size 5 i0 Tryz.underlying42 Tryz.underlying9 hi' hz0 hz1 hz2 _ x.length (Lib.byteCells x) rfl HW.out.1 (strOf [38, 35, 49, 51, 59]) rfl (by rw [size_strOf]; unfold maxLen; simp; omega) (by rw [size_strOf]; simp; omega) (by omega) ?_
    intro v' w2 hown1 hgrow hat
    have hfin := hid_mk (show w2.ownsRow w.heap.size 5 1 v' (x ++ [38, 35, 49, 51, 59]).length (Lib.byteCells (x ++ [38, 35, 49, 51, 59])) ∧ Below w.heap.size w w2 from by
     refine ⟨?_, HW.out.2.grown hgrow (by omega) (fun k hk => own_base HW.out.1 k hk)⟩
     rw [List.length_append, Lib.byteCells_append]
     exact hown1)
    clear HW hown1 hgrow hat hi' hz0 hz1 hz2
    clear i0
    generalize x ++ [38, 35, 49, 51, 59] = x2 at *
    go_wp2
    go_roundw
    case rel => exact ⟨i + 1, x2, by omega, by first | rfl | go_num, hxl2, hxy2, hfin⟩
    case measure => simp [intOf]; omega
   have b13 : (((s[i]'hin).toNat : Int) == 13) = false := beq_false_of_ne (by omega)
   by_cases h60 : (s[i]'hin).toNat = 60
   ·have b60 : (((s[i]'hin).toNat : Int) == 60) = true := by rw [h60]; rfl
    have b194 : (((s[i]'hin).toNat : Int) == 194) = false := beq_false_of_ne (by omega)
    have b62 : (((s[i]'hin).toNat : Int) == 62) = false := beq_false_of_ne (by omega)
    have b34 : (((s[i]'hin).toNat : Int) == 34) = false := beq_false_of_ne (by omega)
    have hE := hid_mk (escB_at_low (v := false) s i hin (by omega) [38, 108, 116, 59] (by rw [h60]; rfl) (by decide))
    have hxy2 := hid_mk (show (x ++ [38, 108, 116, 59]) ++ escB false ((sl s).drop (i + 1)) = Y by
     rw [List.append_assoc, ← hE.out]
     exact hxy.out)
    have hxl2 : (x ++ [38, 108, 116, 59]).length ≤ 6 * (i + 1) := by rw [List.length_append]; simp only [List.length_cons, List.length_nil]; omega
    clear hxy
    go_wp2_with (at_builtin; refine Classical.byContradiction fun hno => ?_)
    refine hno ?_
    clear hno
    obtain ⟨i0, hi', hz0, hz1, hz2⟩ := info_parts infoByte
    have hsz := HW.out.2.size
    refine wpList_append_str_at rfl _ _ _ _ rfl w.heap.size 5 i0 Tryz.underlying42 Tryz.underlying9 hi' hz0 hz1 hz2 _ x.length (Lib.byteCells x) rfl HW.out.1 (strOf [38, 108, 116, 59]) rfl (by rw [size_strOf]; unfold maxLen; simp; omega) (by rw [size_strOf]; simp; omega) (by omega) ?_
    intro v' w2 hown1 hgrow hat
    have hfin := hid_mk (show w2.ownsRow w.heap.size 5 1 v' (x ++ [38, 108, 116, 59]).length (Lib.byteCells (x ++ [38, 108, 116, 59])) ∧ Below w.heap.size w w2 from by
     refine ⟨?_, HW.out.2.grown hgrow (by omega) (fun k hk => own_base HW.out.1 k hk)⟩
     rw [List.length_append, Lib.byteCells_append]
     exact hown1)
    clear HW hown1 hgrow hat hi' hz0 hz1 hz2
    clear i0
    generalize x ++ [38, 108, 116, 59] = x2 at *
    go_wp2
    go_roundw
    case rel => exact ⟨i + 1, x2, by omega, by first | rfl | go_num, hxl2, hxy2, hfin⟩
    case measure => simp [intOf]; omega
   have b60 : (((s[i]'hin).toNat : Int) == 60) = false := beq_false_of_ne (by omega)
   by_cases h62 : (s[i]'hin).toNat = 62
   ·have b62 : (((s[i]'hin).toNat : Int) == 62) = true := by rw [h62]; rfl
    have b194 : (((s[i]'hin).toNat : Int) == 194) = false := beq_false_of_ne (by omega)
    have b34 : (((s[i]'hin).toNat : Int) == 34) = false := beq_false_of_ne (by omega)
    have hE := hid_mk (escB_at_low (v := false) s i hin (by omega) [38, 103, 116, 59] (by rw [h62]; rfl) (by decide))
    have hxy2 := hid_mk (show (x ++ [38, 103, 116, 59]) ++ escB false ((sl s).drop (i + 1)) = Y by
     rw [List.append_assoc, ← hE.out]
     exact hxy.out)
    have hxl2 : (x ++ [38, 103, 116, 59]).length ≤ 6 * (i + 1) := by rw [List.length_append]; simp only [List.length_cons, List.length_nil]; omega
    clear hxy
    go_wp2_with (at_builtin; refine Classical.byContradiction fun hno => ?_)
    refine hno ?_
    clear hno
    obtain ⟨i0, hi', hz0, hz1, hz2⟩ := info_parts infoByte
    have hsz := HW.out.2.size
    refine wpList_append_str_at rfl _ _ _ _ rfl w.heap.size 5 i0 Tryz.underlying42 Tryz.underlying9 hi' hz0 hz1 hz2 _ x.length (Lib.byteCells x) rfl HW.out.1 (strOf [38, 103, 116, 59]) rfl (by rw [size_strOf]; unfold maxLen; simp; omega) (by rw [size_strOf]; simp; omega) (by omega) ?_
    intro v' w2 hown1 hgrow hat
    have hfin := hid_mk (show w2.ownsRow w.heap.size 5 1 v' (x ++ [38, 103, 116, 59]).length (Lib.byteCells (x ++ [38, 103, 116, 59])) ∧ Below w.heap.size w w2 from by
     refine ⟨?_, HW.out.2.grown hgrow (by omega) (fun k hk => own_base HW.out.1 k hk)⟩
     rw [List.length_append, Lib.byteCells_append]
     exact hown1)
    clear HW hown1 hgrow hat hi' hz0 hz1 hz2
    clear i0
    generalize x ++ [38, 103, 116, 59] = x2 at *
    go_wp2
    go_roundw
    case rel => exact ⟨i + 1, x2, by omega, by first | rfl | go_num, hxl2, hxy2, hfin⟩
    case measure => simp [intOf]; omega
   have b62 : (((s[i]'hin).toNat : Int) == 62) = false := beq_false_of_ne (by omega)
   by_cases h34 : (s[i]'hin).toNat = 34
   ·have b34 : (((s[i]'hin).toNat : Int) == 34) = true := by rw [h34]; rfl
    have b194 : (((s[i]'hin).toNat : Int) == 194) = false := beq_false_of_ne (by omega)
    have hE := hid_mk (escB_at_one (v := false) s i hin (.inl (by rw [h34]; rfl)) (fun h => by omega))
    have hxy2 := hid_mk (show (x ++ [s[i]'hin]) ++ escB false ((sl s).drop (i + 1)) = Y by
     rw [List.append_assoc, ← hE.out]
     exact hxy.out)
    have hxl2 : (x ++ [s[i]'hin]).length ≤ 6 * (i + 1) := by rw [List.length_append]; simp only [List.length_cons, List.length_nil]; omega
    have hbx := hid_mk (show Lib.byteCells x ++ [Value.int .u8 (((s[i]'hin).toNat : Nat) : Int)] = Lib.byteCells (x ++ [s[i]'hin]) by rw [Lib.byteCells_append]; rfl)
    have hlx := hid_mk (show x.length + 1 = (x ++ [s[i]'hin]).length by rw [List.length_append]; rfl)
    generalize x ++ [s[i]'hin] = x2 at *
    clear hxy hE h34
    go_wp2_with (at_builtin; refine Classical.byContradiction fun hno => ?_)
    refine hno ?_
    clear hno
    obtain ⟨i0, hi', hz0, hz1, hz2⟩ := info_parts infoByte
    have hsz := HW.out.2.size
    refine wpList_append_own_at _ rfl _ _ _ rfl w.heap.size 5 i0 _ 1 1 Tryz.underlying42 hi' hz0 hz1 hz2 rfl (by decide) _ x.length (Lib.byteCells x) rfl (HW.out.1.alloc _) ⟨wr.heap.size, 0, none⟩ 1 1 [.int .u8 (((s[i]'hin).toNat : Nat) : Int)] rfl rfl ?c1 ?c2 ?c3 ?c4 ?c5 ?_
    case c1 =>
     intro j u hu
     rw [addr_add0, cell_of_row _ _ j _ _ _ (heap_alloc_new wr _)]
     simpa using hu
    case c2 => intro u hu; simp at hu; subst hu; rfl
    case c3 => unfold maxLen; omega
    case c4 => omega
    case c5 => simp; omega
    intro v' w2 hown1 hgrow _ hat
    rw [hbx.out, hlx.out] at hown1
    have hfin := hid_mk (show w2.ownsRow w.heap.size 5 1 v' x2.length (Lib.byteCells x2) ∧ Below w.heap.size w w2 from
     ⟨hown1, (HW.out.2.alloc hsz _).grown hgrow (by simp; omega) (fun k hk => own_base HW.out.1 k hk)⟩)
    clear HW hown1 hgrow hat hi' hz0 hz1 hz2 hbx hlx
    clear i0
    go_wp2
    go_roundw
    case rel => exact ⟨i + 1, x2, by omega, by first | rfl | go_num, hxl2, hxy2, hfin⟩
    case measure => simp [intOf]; omega
   have b34 : (((s[i]'hin).toNat : Int) == 34) = false := beq_false_of_ne (by omega)
   by_cases h194 : (s[i]'hin).toNat = 194
   ·have b194 : (((s[i]'hin).toNat : Int) == 194) = true := by rw [h194]; rfl
    by_cases hn : i + 1 < s.size
    ·have hn' : (i : Int) + 1 < (s.size : Int) := by omega
     have hq : ((i : Int) + 1).toNat = i + 1 := by omega
     have hq0 : (0 : Int) ≤ (i : Int) + 1 := by omega
     by_cases h160 : (s[i + 1]'hn).toNat = 160
     ·have b160 : (((s[i + 1]'hn).toNat : Int) == 160) = true := by rw [h160]; rfl
      have hE := hid_mk (escB_at_nb (v := false) s i hn h194 h160)
      have hxy2 := hid_mk (show (x ++ [38, 110, 98, 115, 112, 59]) ++ escB false ((sl s).drop (i + 2)) = Y by
       rw [List.append_assoc, ← hE.out]
       exact hxy.out)
      have hxl2 : (x ++ [38, 110, 98, 115, 112, 59]).length ≤ 6 * (i + 2) := by rw [List.length_append]; simp only [List.length_cons, List.length_nil]; omega
      clear hxy
      go_wp2_with (at_builtin; refine Classical.byContradiction fun hno => ?_)
      refine hno ?_
      clear hno
      obtain ⟨i0, hi', hz0, hz1, hz2⟩ := info_parts infoByte
      have hsz := HW.out.2.size
      refine wpList_append_str_at rfl _ _ _ _ rfl w.heap.size 5 i0 Tryz.underlying42 Tryz.underlying9 hi' hz0 hz1 hz2 _ x.length (Lib.byteCells x) rfl HW.out.1 (strOf [38, 110, 98, 115, 112, 59]) rfl (by rw [size_strOf]; unfold maxLen; simp; omega) (by rw [size_strOf]; simp; omega) (by omega) ?_
      intro v' w2 hown1 hgrow hat
      have hfin := hid_mk (show w2.ownsRow w.heap.size 5 1 v' (x ++ [38, 110, 98, 115, 112, 59]).length (Lib.byteCells (x ++ [38, 110, 98, 115, 112, 59])) ∧ Below w.heap.size w w2 from by
       refine ⟨?_, HW.out.2.grown hgrow (by omega) (fun k hk => own_base HW.out.1 k hk)⟩
       rw [List.length_append, Lib.byteCells_append]
       exact hown1)
      clear HW hown1 hgrow hat hi' hz0 hz1 hz2
      clear i0
      generalize x ++ [38, 110, 98, 115, 112, 59] = x2 at *
      go_wp2
      go_roundw
      case rel => exact ⟨i + 2, x2, by omega, by first | rfl | go_num, hxl2, hxy2, hfin⟩
      case measure => simp [intOf]; omega
     ·have b160 : (((s[i + 1]'hn).toNat : Int) == 160) = false := beq_false_of_ne (by omega)
      have hE := hid_mk (escB_at_one (v := false) s i hin (.inr (by omega)) (fun _ _ => h160))
      have hxy2 := hid_mk (show (x ++ [s[i]'hin]) ++ escB false ((sl s).drop (i + 1)) = Y by
       rw [List.append_assoc, ← hE.out]
       exact hxy.out)
      have hxl2 : (x ++ [s[i]'hin]).length ≤ 6 * (i + 1) := by rw [List.length_append]; simp only [List.length_cons, List.length_nil]; omega
      have hbx := hid_mk (show Lib.byteCells x ++ [Value.int .u8 (((s[i]'hin).toNat : Nat) : Int)] = Lib.byteCells (x ++ [s[i]'hin]) by rw [Lib.byteCells_append]; rfl)
      have hlx := hid_mk (show x.length + 1 = (x ++ [s[i]'hin]).length by rw [List.length_append]; rfl)
      generalize x ++ [s[i]'hin] = x2 at *
      clear hxy hE h194
      go_wp2_with (at_builtin; refine Classical.byContradiction fun hno => ?_)
      refine hno ?_
      clear hno
      obtain ⟨i0, hi', hz0, hz1, hz2⟩ := info_parts infoByte
      have hsz := HW.out.2.size
      refine wpList_append_own_at _ rfl _ _ _ rfl w.heap.size 5 i0 _ 1 1 Tryz.underlying42 hi' hz0 hz1 hz2 rfl (by decide) _ x.length (Lib.byteCells x) rfl (HW.out.1.alloc _) ⟨wr.heap.size, 0, none⟩ 1 1 [.int .u8 (((s[i]'hin).toNat : Nat) : Int)] rfl rfl ?c1 ?c2 ?c3 ?c4 ?c5 ?_
      case c1 =>
       intro j u hu
       rw [addr_add0, cell_of_row _ _ j _ _ _ (heap_alloc_new wr _)]
       simpa using hu
      case c2 => intro u hu; simp at hu; subst hu; rfl
      case c3 => unfold maxLen; omega
      case c4 => omega
      case c5 => simp; omega
      intro v' w2 hown1 hgrow _ hat
      rw [hbx.out, hlx.out] at hown1
      have hfin := hid_mk (show w2.ownsRow w.heap.size 5 1 v' x2.length (Lib.byteCells x2) ∧ Below w.heap.size w w2 from
       ⟨hown1, (HW.out.2.alloc hsz _).grown hgrow (by simp; omega) (fun k hk => own_base HW.out.1 k hk)⟩)
      clear HW hown1 hgrow hat hi' hz0 hz1 hz2 hbx hlx
      clear i0
      go_wp2
      go_roundw
      case rel => exact ⟨i + 1, x2, by omega, by first | rfl | go_num, hxl2, hxy2, hfin⟩
      case measure => simp [intOf]; omega
    ·have hn' : ¬ (i : Int) + 1 < (s.size : Int) := by omega
     have hE := hid_mk (escB_at_one (v := false) s i hin (.inr (by omega)) (fun _ h => absurd h hn))
     have hxy2 := hid_mk (show (x ++ [s[i]'hin]) ++ escB false ((sl s).drop (i + 1)) = Y by
      rw [List.append_assoc, ← hE.out]
      exact hxy.out)
     have hxl2 : (x ++ [s[i]'hin]).length ≤ 6 * (i + 1) := by rw [List.length_append]; simp only [List.length_cons, List.length_nil]; omega
     have hbx := hid_mk (show Lib.byteCells x ++ [Value.int .u8 (((s[i]'hin).toNat : Nat) : Int)] = Lib.byteCells (x ++ [s[i]'hin]) by rw [Lib.byteCells_append]; rfl)
     have hlx := hid_mk (show x.length + 1 = (x ++ [s[i]'hin]).length by rw [List.length_append]; rfl)
     generalize x ++ [s[i]'hin] = x2 at *
     clear hxy hE h194
     go_wp2_with (at_builtin; refine Classical.byContradiction fun hno => ?_)
     refine hno ?_
     clear hno
     obtain ⟨i0, hi', hz0, hz1, hz2⟩ := info_parts infoByte
     have hsz := HW.out.2.size
     refine wpList_append_own_at _ rfl _ _ _ rfl w.heap.size 5 i0 _ 1 1 Tryz.underlying42 hi' hz0 hz1 hz2 rfl (by decide) _ x.length (Lib.byteCells x) rfl (HW.out.1.alloc _) ⟨wr.heap.size, 0, none⟩ 1 1 [.int .u8 (((s[i]'hin).toNat : Nat) : Int)] rfl rfl ?c1 ?c2 ?c3 ?c4 ?c5 ?_
     case c1 =>
      intro j u hu
      rw [addr_add0, cell_of_row _ _ j _ _ _ (heap_alloc_new wr _)]
      simpa using hu
     case c2 => intro u hu; simp at hu; subst hu; rfl
     case c3 => unfold maxLen; omega
     case c4 => omega
     case c5 => simp; omega
     intro v' w2 hown1 hgrow _ hat
     rw [hbx.out, hlx.out] at hown1
     have hfin := hid_mk (show w2.ownsRow w.heap.size 5 1 v' x2.length (Lib.byteCells x2) ∧ Below w.heap.size w w2 from
      ⟨hown1, (HW.out.2.alloc hsz _).grown hgrow (by simp; omega) (fun k hk => own_base HW.out.1 k hk)⟩)
     clear HW hown1 hgrow hat hi' hz0 hz1 hz2 hbx hlx
     clear i0
     go_wp2
     go_roundw
     case rel => exact ⟨i + 1, x2, by omega, by first | rfl | go_num, hxl2, hxy2, hfin⟩
     case measure => simp [intOf]; omega
   have b194 : (((s[i]'hin).toNat : Int) == 194) = false := beq_false_of_ne (by omega)
   have hE := hid_mk (escB_at_one (v := false) s i hin (by
    by_cases h128 : 128 ≤ (s[i]'hin).toNat
    ·exact .inr h128
    ·refine .inl (Classical.byContradiction fun hne => ?_)
     revert hne
     unfold refL everyL
     simp [h38, h13, h60, h62, show (s[i]'hin).toNat ≠ 160 by omega]) (fun h => absurd h h194))
   have hxy2 := hid_mk (show (x ++ [s[i]'hin]) ++ escB false ((sl s).drop (i + 1)) = Y by
    rw [List.append_assoc, ← hE.out]
    exact hxy.out)
   have hxl2 : (x ++ [s[i]'hin]).length ≤ 6 * (i + 1) := by rw [List.length_append]; simp only [List.length_cons, List.length_nil]; omega
   have hbx := hid_mk (show Lib.byteCells x ++ [Value.int .u8 (((s[i]'hin).toNat : Nat) : Int)] = Lib.byteCells (x ++ [s[i]'hin]) by rw [Lib.byteCells_append]; rfl)
   have hlx := hid_mk (show x.length + 1 = (x ++ [s[i]'hin]).length by rw [List.length_append]; rfl)
   generalize x ++ [s[i]'hin] = x2 at *
   clear hxy hE
   go_wp2_with (at_builtin; refine Classical.byContradiction fun hno => ?_)
   refine hno ?_
   clear hno
   obtain ⟨i0, hi', hz0, hz1, hz2⟩ := info_parts infoByte
   have hsz := HW.out.2.size
   refine wpList_append_own_at _ rfl _ _ _ rfl w.heap.size 5 i0 _ 1 1 Tryz.underlying42 hi' hz0 hz1 hz2 rfl (by decide) _ x.length (Lib.byteCells x) rfl (HW.out.1.alloc _) ⟨wr.heap.size, 0, none⟩ 1 1 [.int .u8 (((s[i]'hin).toNat : Nat) : Int)] rfl rfl ?c1 ?c2 ?c3 ?c4 ?c5 ?_
   case c1 =>
    intro j u hu
    rw [addr_add0, cell_of_row _ _ j _ _ _ (heap_alloc_new wr _)]
    simpa using hu
   case c2 => intro u hu; simp at hu; subst hu; rfl
   case c3 => unfold maxLen; omega
   case c4 => omega
   case c5 => simp; omega
   intro v' w2 hown1 hgrow _ hat
   rw [hbx.out, hlx.out] at hown1
   have hfin := hid_mk (show w2.ownsRow w.heap.size 5 1 v' x2.length (Lib.byteCells x2) ∧ Below w.heap.size w w2 from
    ⟨hown1, (HW.out.2.alloc hsz _).grown hgrow (by simp; omega) (fun k hk => own_base HW.out.1 k hk)⟩)
   clear HW hown1 hgrow hat hi' hz0 hz1 hz2 hbx hlx
   clear i0
   go_wp2
   go_roundw
   case rel => exact ⟨i + 1, x2, by omega, by first | rfl | go_num, hxl2, hxy2, hfin⟩
   case measure => simp [intOf]; omega
  ·have hin' : ¬ (i : Int) < (s.size : Int) := by omega
   obtain rfl : i = s.size := by omega
   have hv : x = Y := by
    have := hxy.out
    rwa [List.drop_eq_nil_of_le (by rw [len_sl]; omega), show escB false [] = [] from rfl, List.append_nil] at this
   subst hv
   obtain ⟨a', cap', hv', hhas⟩ := own_bytes HW.out.1
   have hcv := bytes_conv wr a' cap' _ hhas
   have HB := hid_mk HW.out.2
   subst hv'
   clear HW hhas hxy HY
   go_wp2
   go_ret
   exact ⟨rfl, HB.out⟩
set_option maxHeartbeats 8000000 in
set_option maxRecDepth 100000 in
theorem rEscape_true (s : ByteArray) (hs : s.size ≤ 100000000) (w : World) :
 Calls Tryz.prog 61 #[.string s, .bool true] w fun e w' => e = .returned (.string (strOf (escB true (sl s)))) ∧ Below w.heap.size w w' := by
 obtain ⟨Y, hY⟩ : ∃ Y, Y = escB true (sl s) := ⟨_, rfl⟩
 rw [← hY]
 have HY := hid_mk hY
 clear hY
 go_enter Tryz.func61, Tryz.ntmps61
 go_wp2_with fail
 go_loopw [5, 6] (fun vb vi wr => ∃ (i : Nat) (x : List UInt8), i ≤ s.size ∧ vi = .int .i64 (i : Int) ∧ x.length ≤ 6 * i ∧ Hid (x ++ escB true ((sl s).drop i) = Y) ∧ Hid (wr.ownsRow w.heap.size 5 1 vb x.length (Lib.byteCells x) ∧ Below w.heap.size w wr)) (fun _ vi _ => s.size - (intOf vi).toNat)
 case atStart => exact ⟨0, [], by omega, rfl, by simp, hid_mk (by rw [HY.out]; rfl), hid_mk ⟨⟨rfl, .inl ⟨rfl, rfl⟩⟩, Below.refl _ _⟩⟩
 case round =>
  obtain ⟨i, x, hi, rfl, hxl, hxy, HW⟩ := hrel
  by_cases hin : i < s.size
  ·have hin' : (i : Int) < (s.size : Int) := by omega
   have hi0 : (0 : Int) ≤ (i : Int) := by omega
   by_cases h38 : (s[i]'hin).toNat = 38
   ·have b38 : (((s[i]'hin).toNat : Int) == 38) = true := by rw [h38]; rfl
    have b194 : (((s[i]'hin).toNat : Int) == 194) = false := beq_false_of_ne (by omega)
    have b13 : (((s[i]'hin).toNat : Int) == 13) = false := beq_false_of_ne (by omega)
    have b60 : (((s[i]'hin).toNat : Int) == 60) = false := beq_false_of_ne (by omega)
    have b62 : (((s[i]'hin).toNat : Int) == 62) = false := beq_false_of_ne (by omega)
    have b34 : (((s[i]'hin).toNat : Int) == 34) = false := beq_false_of_ne (by omega)
    have hE := hid_mk (escB_at_low (v := true) s i hin (by omega) [38, 97, 109, 112, 59] (by rw [h38]; rfl) (by decide))
    have hxy2 := hid_mk (show (x ++ [38, 97, 109, 112, 59]) ++ escB true ((sl s).drop (i + 1)) = Y by
     rw [List.append_assoc, ← hE.out]
     exact hxy.out)
    have hxl2 : (x ++ [38, 97, 109, 112, 59]).length ≤ 6 * (i + 1) := by rw [List.length_append]; simp only [List.length_cons, List.length_nil]; omega
    clear hxy
    go_wp2_with (at_builtin; refine Classical.byContradiction fun hno => ?_)
    refine hno ?_
    clear hno
    obtain ⟨i0, hi', hz0, hz1, hz2⟩ := info_parts infoByte
    have hsz := HW.out.2.size
    refine wpList_append_str_at rfl _ _ _ _ rfl w.heap.size 5 i0 Tryz.underlying42 Tryz.underlying9 hi' hz0 hz1 hz2 _ x.length (Lib.byteCells x) rfl HW.out.1 (strOf [38, 97, 109, 112, 59]) rfl (by rw [size_strOf]; unfold maxLen; simp; omega) (by rw [size_strOf]; simp; omega) (by omega) ?_
    intro v' w2 hown1 hgrow hat
    have hfin := hid_mk (show w2.ownsRow w.heap.size 5 1 v' (x ++ [38, 97, 109, 112, 59]).length (Lib.byteCells (x ++ [38, 97, 109, 112, 59])) ∧ Below w.heap.size w w2 from by
     refine ⟨?_, HW.out.2.grown hgrow (by omega) (fun k hk => own_base HW.out.1 k hk)⟩
     rw [List.length_append, Lib.byteCells_append]
     exact hown1)
    clear HW hown1 hgrow hat hi' hz0 hz1 hz2
    clear i0
    generalize x ++ [38, 97, 109, 112, 59] = x2 at *
    go_wp2
    go_roundw
    case rel => exact ⟨i + 1, x2, by omega, by first | rfl | go_num, hxl2, hxy2, hfin⟩
    case measure => simp [intOf]; omega
   have b38 : (((s[i]'hin).toNat : Int) == 38) = false := beq_false_of_ne (by omega)
   by_cases h13 : (s[i]'hin).toNat = 13
   ·have b13 : (((s[i]'hin).toNat : Int) == 13) = true := by rw [h13]; rfl
    have b194 : (((s[i]'hin).toNat : Int) == 194) = false := beq_false_of_ne (by omega)
    have b60 : (((s[i]'hin).toNat : Int) == 60) = false := beq_false_of_ne (by omega)
    have b62 : (((s[i]'hin).toNat : Int) == 62) = false := beq_false_of_ne (by omega)
    have b34 : (((s[i]'hin).toNat : Int) == 34) = false := beq_false_of_ne (by omega)
    have hE := hid_mk (escB_at_low (v := true) s i hin (by omega) [38, 35, 49, 51, 59] (by rw [h13]; rfl) (by decide))
    have hxy2 := hid_mk (show (x ++ [38, 35, 49, 51, 59]) ++ escB true ((sl s).drop (i + 1)) = Y by
     rw [List.append_assoc, ← hE.out]
     exact hxy.out)
    have hxl2 : (x ++ [38, 35, 49, 51, 59]).length ≤ 6 * (i + 1) := by rw [List.length_append]; simp only [List.length_cons, List.length_nil]; omega
    clear hxy
    go_wp2_with (at_builtin; refine Classical.byContradiction fun hno => ?_)
    refine hno ?_
    clear hno
    obtain ⟨i0, hi', hz0, hz1, hz2⟩ := info_parts infoByte
    have hsz := HW.out.2.size
    refine wpList_append_str_at rfl _ _ _ _ rfl w.heap.size 5 i0 Tryz.underlying42 Tryz.underlying9 hi' hz0 hz1 hz2 _ x.length (Lib.byteCells x) rfl HW.out.1 (strOf [38, 35, 49, 51, 59]) rfl (by rw [size_strOf]; unfold maxLen; simp; omega) (by rw [size_strOf]; simp; omega) (by omega) ?_
    intro v' w2 hown1 hgrow hat
    have hfin := hid_mk (show w2.ownsRow w.heap.size 5 1 v' (x ++ [38, 35, 49, 51, 59]).length (Lib.byteCells (x ++ [38, 35, 49, 51, 59])) ∧ Below w.heap.size w w2 from by
     refine ⟨?_, HW.out.2.grown hgrow (by omega) (fun k hk => own_base HW.out.1 k hk)⟩
     rw [List.length_append, Lib.byteCells_append]
     exact hown1)
    clear HW hown1 hgrow hat hi' hz0 hz1 hz2
    clear i0
    generalize x ++ [38, 35, 49, 51, 59] = x2 at *
    go_wp2
    go_roundw
    case rel => exact ⟨i + 1, x2, by omega, by first | rfl | go_num, hxl2, hxy2, hfin⟩
    case measure => simp [intOf]; omega
   have b13 : (((s[i]'hin).toNat : Int) == 13) = false := beq_false_of_ne (by omega)
   by_cases h34 : (s[i]'hin).toNat = 34
   ·have b34 : (((s[i]'hin).toNat : Int) == 34) = true := by rw [h34]; rfl
    have b194 : (((s[i]'hin).toNat : Int) == 194) = false := beq_false_of_ne (by omega)
    have b60 : (((s[i]'hin).toNat : Int) == 60) = false := beq_false_of_ne (by omega)
    have b62 : (((s[i]'hin).toNat : Int) == 62) = false := beq_false_of_ne (by omega)
    have hE := hid_mk (escB_at_low (v := true) s i hin (by omega) [38, 113, 117, 111, 116, 59] (by rw [h34]; rfl) (by decide))
    have hxy2 := hid_mk (show (x ++ [38, 113, 117, 111, 116, 59]) ++ escB true ((sl s).drop (i + 1)) = Y by
     rw [List.append_assoc, ← hE.out]
     exact hxy.out)
    have hxl2 : (x ++ [38, 113, 117, 111, 116, 59]).length ≤ 6 * (i + 1) := by rw [List.length_append]; simp only [List.length_cons, List.length_nil]; omega
    clear hxy
    go_wp2_with (at_builtin; refine Classical.byContradiction fun hno => ?_)
    refine hno ?_
    clear hno
    obtain ⟨i0, hi', hz0, hz1, hz2⟩ := info_parts infoByte
    have hsz := HW.out.2.size
    refine wpList_append_str_at rfl _ _ _ _ rfl w.heap.size 5 i0 Tryz.underlying42 Tryz.underlying9 hi' hz0 hz1 hz2 _ x.length (Lib.byteCells x) rfl HW.out.1 (strOf [38, 113, 117, 111, 116, 59]) rfl (by rw [size_strOf]; unfold maxLen; simp; omega) (by rw [size_strOf]; simp; omega) (by omega) ?_
    intro v' w2 hown1 hgrow hat
    have hfin := hid_mk (show w2.ownsRow w.heap.size 5 1 v' (x ++ [38, 113, 117, 111, 116, 59]).length (Lib.byteCells (x ++ [38, 113, 117, 111, 116, 59])) ∧ Below w.heap.size w w2 from by
     refine ⟨?_, HW.out.2.grown hgrow (by omega) (fun k hk => own_base HW.out.1 k hk)⟩
     rw [List.length_append, Lib.byteCells_append]
     exact hown1)
    clear HW hown1 hgrow hat hi' hz0 hz1 hz2
    clear i0
    generalize x ++ [38, 113, 117, 111, 116, 59] = x2 at *
    go_wp2
    go_roundw
    case rel => exact ⟨i + 1, x2, by omega, by first | rfl | go_num, hxl2, hxy2, hfin⟩
    case measure => simp [intOf]; omega
   have b34 : (((s[i]'hin).toNat : Int) == 34) = false := beq_false_of_ne (by omega)
   by_cases h60 : (s[i]'hin).toNat = 60
   ·have b60 : (((s[i]'hin).toNat : Int) == 60) = true := by rw [h60]; rfl
    have b194 : (((s[i]'hin).toNat : Int) == 194) = false := beq_false_of_ne (by omega)
    have b62 : (((s[i]'hin).toNat : Int) == 62) = false := beq_false_of_ne (by omega)
    have hE := hid_mk (escB_at_one (v := true) s i hin (.inl (by rw [h60]; rfl)) (fun h => by omega))
    have hxy2 := hid_mk (show (x ++ [s[i]'hin]) ++ escB true ((sl s).drop (i + 1)) = Y by
     rw [List.append_assoc, ← hE.out]
     exact hxy.out)
    have hxl2 : (x ++ [s[i]'hin]).length ≤ 6 * (i + 1) := by rw [List.length_append]; simp only [List.length_cons, List.length_nil]; omega
    have hbx := hid_mk (show Lib.byteCells x ++ [Value.int .u8 (((s[i]'hin).toNat : Nat) : Int)] = Lib.byteCells (x ++ [s[i]'hin]) by rw [Lib.byteCells_append]; rfl)
    have hlx := hid_mk (show x.length + 1 = (x ++ [s[i]'hin]).length by rw [List.length_append]; rfl)
    generalize x ++ [s[i]'hin] = x2 at *
    clear hxy hE h60
    go_wp2_with (at_builtin; refine Classical.byContradiction fun hno => ?_)
    refine hno ?_
    clear hno
    obtain ⟨i0, hi', hz0, hz1, hz2⟩ := info_parts infoByte
    have hsz := HW.out.2.size
    refine wpList_append_own_at _ rfl _ _ _ rfl w.heap.size 5 i0 _ 1 1 Tryz.underlying42 hi' hz0 hz1 hz2 rfl (by decide) _ x.length (Lib.byteCells x) rfl (HW.out.1.alloc _) ⟨wr.heap.size, 0, none⟩ 1 1 [.int .u8 (((s[i]'hin).toNat : Nat) : Int)] rfl rfl ?c1 ?c2 ?c3 ?c4 ?c5 ?_
    case c1 =>
     intro j u hu
     rw [addr_add0, cell_of_row _ _ j _ _ _ (heap_alloc_new wr _)]
     simpa using hu
    case c2 => intro u hu; simp at hu; subst hu; rfl
    case c3 => unfold maxLen; omega
    case c4 => omega
    case c5 => simp; omega
    intro v' w2 hown1 hgrow _ hat
    rw [hbx.out, hlx.out] at hown1
    have hfin := hid_mk (show w2.ownsRow w.heap.size 5 1 v' x2.length (Lib.byteCells x2) ∧ Below w.heap.size w w2 from
     ⟨hown1, (HW.out.2.alloc hsz _).grown hgrow (by simp; omega) (fun k hk => own_base HW.out.1 k hk)⟩)
    clear HW hown1 hgrow hat hi' hz0 hz1 hz2 hbx hlx
    clear i0
    go_wp2
    go_roundw
    case rel => exact ⟨i + 1, x2, by omega, by first | rfl | go_num, hxl2, hxy2, hfin⟩
    case measure => simp [intOf]; omega
   have b60 : (((s[i]'hin).toNat : Int) == 60) = false := beq_false_of_ne (by omega)
   by_cases h62 : (s[i]'hin).toNat = 62
   ·have b62 : (((s[i]'hin).toNat : Int) == 62) = true := by rw [h62]; rfl
    have b194 : (((s[i]'hin).toNat : Int) == 194) = false := beq_false_of_ne (by omega)
    have hE := hid_mk (escB_at_one (v := true) s i hin (.inl (by rw [h62]; rfl)) (fun h => by omega))
    have hxy2 := hid_mk (show (x ++ [s[i]'hin]) ++ escB true ((sl s).drop (i + 1)) = Y by
     rw [List.append_assoc, ← hE.out]
     exact hxy.out)
    have hxl2 : (x ++ [s[i]'hin]).length ≤ 6 * (i + 1) := by rw [List.length_append]; simp only [List.length_cons, List.length_nil]; omega
    have hbx := hid_mk (show Lib.byteCells x ++ [Value.int .u8 (((s[i]'hin).toNat : Nat) : Int)] = Lib.byteCells (x ++ [s[i]'hin]) by rw [Lib.byteCells_append]; rfl)
    have hlx := hid_mk (show x.length + 1 = (x ++ [s[i]'hin]).length by rw [List.length_append]; rfl)
    generalize x ++ [s[i]'hin] = x2 at *
    clear hxy hE h62
    go_wp2_with (at_builtin; refine Classical.byContradiction fun hno => ?_)
    refine hno ?_
    clear hno
    obtain ⟨i0, hi', hz0, hz1, hz2⟩ := info_parts infoByte
    have hsz := HW.out.2.size
    refine wpList_append_own_at _ rfl _ _ _ rfl w.heap.size 5 i0 _ 1 1 Tryz.underlying42 hi' hz0 hz1 hz2 rfl (by decide) _ x.length (Lib.byteCells x) rfl (HW.out.1.alloc _) ⟨wr.heap.size, 0, none⟩ 1 1 [.int .u8 (((s[i]'hin).toNat : Nat) : Int)] rfl rfl ?c1 ?c2 ?c3 ?c4 ?c5 ?_
    case c1 =>
     intro j u hu
     rw [addr_add0, cell_of_row _ _ j _ _ _ (heap_alloc_new wr _)]
     simpa using hu
    case c2 => intro u hu; simp at hu; subst hu; rfl
    case c3 => unfold maxLen; omega
    case c4 => omega
    case c5 => simp; omega
    intro v' w2 hown1 hgrow _ hat
    rw [hbx.out, hlx.out] at hown1
    have hfin := hid_mk (show w2.ownsRow w.heap.size 5 1 v' x2.length (Lib.byteCells x2) ∧ Below w.heap.size w w2 from
     ⟨hown1, (HW.out.2.alloc hsz _).grown hgrow (by simp; omega) (fun k hk => own_base HW.out.1 k hk)⟩)
    clear HW hown1 hgrow hat hi' hz0 hz1 hz2 hbx hlx
    clear i0
    go_wp2
    go_roundw
    case rel => exact ⟨i + 1, x2, by omega, by first | rfl | go_num, hxl2, hxy2, hfin⟩
    case measure => simp [intOf]; omega
   have b62 : (((s[i]'hin).toNat : Int) == 62) = false := beq_false_of_ne (by omega)
   by_cases h194 : (s[i]'hin).toNat = 194
   ·have b194 : (((s[i]'hin).toNat : Int) == 194) = true := by rw [h194]; rfl
    by_cases hn : i + 1 < s.size
    ·have hn' : (i : Int) + 1 < (s.size : Int) := by omega
     have hq : ((i : Int) + 1).toNat = i + 1 := by omega
     have hq0 : (0 : Int) ≤ (i : Int) + 1 := by omega
     by_cases h160 : (s[i + 1]'hn).toNat = 160
     ·have b160 : (((s[i + 1]'hn).toNat : Int) == 160) = true := by rw [h160]; rfl
      have hE := hid_mk (escB_at_nb (v := true) s i hn h194 h160)
      have hxy2 := hid_mk (show (x ++ [38, 110, 98, 115, 112, 59]) ++ escB true ((sl s).drop (i + 2)) = Y by
       rw [List.append_assoc, ← hE.out]
       exact hxy.out)
      have hxl2 : (x ++ [38, 110, 98, 115, 112, 59]).length ≤ 6 * (i + 2) := by rw [List.length_append]; simp only [List.length_cons, List.length_nil]; omega
      clear hxy
      go_wp2_with (at_builtin; refine Classical.byContradiction fun hno => ?_)
      refine hno ?_
      clear hno
      obtain ⟨i0, hi', hz0, hz1, hz2⟩ := info_parts infoByte
      have hsz := HW.out.2.size
      refine wpList_append_str_at rfl _ _ _ _ rfl w.heap.size 5 i0 Tryz.underlying42 Tryz.underlying9 hi' hz0 hz1 hz2 _ x.length (Lib.byteCells x) rfl HW.out.1 (strOf [38, 110, 98, 115, 112, 59]) rfl (by rw [size_strOf]; unfold maxLen; simp; omega) (by rw [size_strOf]; simp; omega) (by omega) ?_
      intro v' w2 hown1 hgrow hat
      have hfin := hid_mk (show w2.ownsRow w.heap.size 5 1 v' (x ++ [38, 110, 98, 115, 112, 59]).length (Lib.byteCells (x ++ [38, 110, 98, 115, 112, 59])) ∧ Below w.heap.size w w2 from by
       refine ⟨?_, HW.out.2.grown hgrow (by omega) (fun k hk => own_base HW.out.1 k hk)⟩
       rw [List.length_append, Lib.byteCells_append]
       exact hown1)
      clear HW hown1 hgrow hat hi' hz0 hz1 hz2
      clear i0
      generalize x ++ [38, 110, 98, 115, 112, 59] = x2 at *
      go_wp2
      go_roundw
      case rel => exact ⟨i + 2, x2, by omega, by first | rfl | go_num, hxl2, hxy2, hfin⟩
      case measure => simp [intOf]; omega
     ·have b160 : (((s[i + 1]'hn).toNat : Int) == 160) = false := beq_false_of_ne (by omega)
      have hE := hid_mk (escB_at_one (v := true) s i hin (.inr (by omega)) (fun _ _ => h160))
      have hxy2 := hid_mk (show (x ++ [s[i]'hin]) ++ escB true ((sl s).drop (i + 1)) = Y by
       rw [List.append_assoc, ← hE.out]
       exact hxy.out)
      have hxl2 : (x ++ [s[i]'hin]).length ≤ 6 * (i + 1) := by rw [List.length_append]; simp only [List.length_cons, List.length_nil]; omega
      have hbx := hid_mk (show Lib.byteCells x ++ [Value.int .u8 (((s[i]'hin).toNat : Nat) : Int)] = Lib.byteCells (x ++ [s[i]'hin]) by rw [Lib.byteCells_append]; rfl)
      have hlx := hid_mk (show x.length + 1 = (x ++ [s[i]'hin]).length by rw [List.length_append]; rfl)
      generalize x ++ [s[i]'hin] = x2 at *
      clear hxy hE h194
      go_wp2_with (at_builtin; refine Classical.byContradiction fun hno => ?_)
      refine hno ?_
      clear hno
      obtain ⟨i0, hi', hz0, hz1, hz2⟩ := info_parts infoByte
      have hsz := HW.out.2.size
      refine wpList_append_own_at _ rfl _ _ _ rfl w.heap.size 5 i0 _ 1 1 Tryz.underlying42 hi' hz0 hz1 hz2 rfl (by decide) _ x.length (Lib.byteCells x) rfl (HW.out.1.alloc _) ⟨wr.heap.size, 0, none⟩ 1 1 [.int .u8 (((s[i]'hin).toNat : Nat) : Int)] rfl rfl ?c1 ?c2 ?c3 ?c4 ?c5 ?_
      case c1 =>
       intro j u hu
       rw [addr_add0, cell_of_row _ _ j _ _ _ (heap_alloc_new wr _)]
       simpa using hu
      case c2 => intro u hu; simp at hu; subst hu; rfl
      case c3 => unfold maxLen; omega
      case c4 => omega
      case c5 => simp; omega
      intro v' w2 hown1 hgrow _ hat
      rw [hbx.out, hlx.out] at hown1
      have hfin := hid_mk (show w2.ownsRow w.heap.size 5 1 v' x2.length (Lib.byteCells x2) ∧ Below w.heap.size w w2 from
       ⟨hown1, (HW.out.2.alloc hsz _).grown hgrow (by simp; omega) (fun k hk => own_base HW.out.1 k hk)⟩)
      clear HW hown1 hgrow hat hi' hz0 hz1 hz2 hbx hlx
      clear i0
      go_wp2
      go_roundw
      case rel => exact ⟨i + 1, x2, by omega, by first | rfl | go_num, hxl2, hxy2, hfin⟩
      case measure => simp [intOf]; omega
    ·have hn' : ¬ (i : Int) + 1 < (s.size : Int) := by omega
     have hE := hid_mk (escB_at_one (v := true) s i hin (.inr (by omega)) (fun _ h => absurd h hn))
     have hxy2 := hid_mk (show (x ++ [s[i]'hin]) ++ escB true ((sl s).drop (i + 1)) = Y by
      rw [List.append_assoc, ← hE.out]
      exact hxy.out)
     have hxl2 : (x ++ [s[i]'hin]).length ≤ 6 * (i + 1) := by rw [List.length_append]; simp only [List.length_cons, List.length_nil]; omega
     have hbx := hid_mk (show Lib.byteCells x ++ [Value.int .u8 (((s[i]'hin).toNat : Nat) : Int)] = Lib.byteCells (x ++ [s[i]'hin]) by rw [Lib.byteCells_append]; rfl)
     have hlx := hid_mk (show x.length + 1 = (x ++ [s[i]'hin]).length by rw [List.length_append]; rfl)
     generalize x ++ [s[i]'hin] = x2 at *
     clear hxy hE h194
     go_wp2_with (at_builtin; refine Classical.byContradiction fun hno => ?_)
     refine hno ?_
     clear hno
     obtain ⟨i0, hi', hz0, hz1, hz2⟩ := info_parts infoByte
     have hsz := HW.out.2.size
     refine wpList_append_own_at _ rfl _ _ _ rfl w.heap.size 5 i0 _ 1 1 Tryz.underlying42 hi' hz0 hz1 hz2 rfl (by decide) _ x.length (Lib.byteCells x) rfl (HW.out.1.alloc _) ⟨wr.heap.size, 0, none⟩ 1 1 [.int .u8 (((s[i]'hin).toNat : Nat) : Int)] rfl rfl ?c1 ?c2 ?c3 ?c4 ?c5 ?_
     case c1 =>
      intro j u hu
      rw [addr_add0, cell_of_row _ _ j _ _ _ (heap_alloc_new wr _)]
      simpa using hu
     case c2 => intro u hu; simp at hu; subst hu; rfl
     case c3 => unfold maxLen; omega
     case c4 => omega
     case c5 => simp; omega
     intro v' w2 hown1 hgrow _ hat
     rw [hbx.out, hlx.out] at hown1
     have hfin := hid_mk (show w2.ownsRow w.heap.size 5 1 v' x2.length (Lib.byteCells x2) ∧ Below w.heap.size w w2 from
      ⟨hown1, (HW.out.2.alloc hsz _).grown hgrow (by simp; omega) (fun k hk => own_base HW.out.1 k hk)⟩)
     clear HW hown1 hgrow hat hi' hz0 hz1 hz2 hbx hlx
     clear i0
     go_wp2
     go_roundw
     case rel => exact ⟨i + 1, x2, by omega, by first | rfl | go_num, hxl2, hxy2, hfin⟩
     case measure => simp [intOf]; omega
   have b194 : (((s[i]'hin).toNat : Int) == 194) = false := beq_false_of_ne (by omega)
   have hE := hid_mk (escB_at_one (v := true) s i hin (by
    by_cases h128 : 128 ≤ (s[i]'hin).toNat
    ·exact .inr h128
    ·refine .inl (Classical.byContradiction fun hne => ?_)
     revert hne
     unfold refL everyL
     simp [h38, h13, h34, show (s[i]'hin).toNat ≠ 160 by omega]) (fun h => absurd h h194))
   have hxy2 := hid_mk (show (x ++ [s[i]'hin]) ++ escB true ((sl s).drop (i + 1)) = Y by
    rw [List.append_assoc, ← hE.out]
    exact hxy.out)
   have hxl2 : (x ++ [s[i]'hin]).length ≤ 6 * (i + 1) := by rw [List.length_append]; simp only [List.length_cons, List.length_nil]; omega
   have hbx := hid_mk (show Lib.byteCells x ++ [Value.int .u8 (((s[i]'hin).toNat : Nat) : Int)] = Lib.byteCells (x ++ [s[i]'hin]) by rw [Lib.byteCells_append]; rfl)
   have hlx := hid_mk (show x.length + 1 = (x ++ [s[i]'hin]).length by rw [List.length_append]; rfl)
   generalize x ++ [s[i]'hin] = x2 at *
   clear hxy hE
   go_wp2_with (at_builtin; refine Classical.byContradiction fun hno => ?_)
   refine hno ?_
   clear hno
   obtain ⟨i0, hi', hz0, hz1, hz2⟩ := info_parts infoByte
   have hsz := HW.out.2.size
   refine wpList_append_own_at _ rfl _ _ _ rfl w.heap.size 5 i0 _ 1 1 Tryz.underlying42 hi' hz0 hz1 hz2 rfl (by decide) _ x.length (Lib.byteCells x) rfl (HW.out.1.alloc _) ⟨wr.heap.size, 0, none⟩ 1 1 [.int .u8 (((s[i]'hin).toNat : Nat) : Int)] rfl rfl ?c1 ?c2 ?c3 ?c4 ?c5 ?_
   case c1 =>
    intro j u hu
    rw [addr_add0, cell_of_row _ _ j _ _ _ (heap_alloc_new wr _)]
    simpa using hu
   case c2 => intro u hu; simp at hu; subst hu; rfl
   case c3 => unfold maxLen; omega
   case c4 => omega
   case c5 => simp; omega
   intro v' w2 hown1 hgrow _ hat
   rw [hbx.out, hlx.out] at hown1
   have hfin := hid_mk (show w2.ownsRow w.heap.size 5 1 v' x2.length (Lib.byteCells x2) ∧ Below w.heap.size w w2 from
    ⟨hown1, (HW.out.2.alloc hsz _).grown hgrow (by simp; omega) (fun k hk => own_base HW.out.1 k hk)⟩)
   clear HW hown1 hgrow hat hi' hz0 hz1 hz2 hbx hlx
   clear i0
   go_wp2
   go_roundw
   case rel => exact ⟨i + 1, x2, by omega, by first | rfl | go_num, hxl2, hxy2, hfin⟩
   case measure => simp [intOf]; omega
  ·have hin' : ¬ (i : Int) < (s.size : Int) := by omega
   obtain rfl : i = s.size := by omega
   have hv : x = Y := by
    have := hxy.out
    rwa [List.drop_eq_nil_of_le (by rw [len_sl]; omega), show escB true [] = [] from rfl, List.append_nil] at this
   subst hv
   obtain ⟨a', cap', hv', hhas⟩ := own_bytes HW.out.1
   have hcv := bytes_conv wr a' cap' _ hhas
   have HB := hid_mk HW.out.2
   subst hv'
   clear HW hhas hxy HY
   go_wp2
   go_ret
   exact ⟨rfl, HB.out⟩
end Go.Proofs.YtlcijlklbabajaaGreatDoor
/-
  The document of a right tree, plain: a page is full just where it is too long; how long it may be. No Go in sight; no condition.
-/
namespace Go.Proofs.YtlcijlklbabajaaGreatDoor
open R R.Pg
theorem refL_le6 (v : Bool) (r : Nat) : (refL v r).length ≤ 6 := by
 unfold refL everyL
 (repeat' split) <;> simp
theorem ref160_len (v : Bool) : 2 ≤ (refL v 160).length := by cases v <;> decide
theorem bref_len (v : Bool) (r : Nat) : (bref v r).length ≤ 6 := by
 unfold bref
 split
 ·exact Nat.zero_le _
 ·exact refL_le6 v r
theorem oneB_len {v : Bool} {c : UInt8} : 1 ≤ (if bref v c.toNat = [] then [c] else bref v c.toNat).length ∧ (if bref v c.toNat = [] then [c] else bref v c.toNat).length ≤ 6 := by
 have h6 := bref_len v c.toNat
 split
 ·exact ⟨Nat.le_refl _, by simp⟩
 ·rename_i h
  exact ⟨List.length_pos_iff.2 h, h6⟩
theorem escB_len (v : Bool) : ∀ (n : Nat) (l : List UInt8), l.length ≤ n → l.length ≤ (escB v l).length ∧ (escB v l).length ≤ 6 * l.length
 | _, [], _ => by simp [escB]
 | n + 1, [c], _ => by
   have := oneB_len (v := v) (c := c)
   rw [escB]
   simp only [List.length_cons, List.length_nil]
   omega
 | n + 1, c :: d :: t, h => by
   simp only [List.length_cons] at h
   rw [escB]
   split
   ·have h1 := escB_len v n t (by omega)
    have h2 := ref160_len v
    have h3 := refL_le6 v 160
    rw [List.length_append]
    simp only [List.length_cons]
    omega
   ·have h1 := escB_len v n (d :: t) (by simp only [List.length_cons]; omega)
    have h2 := oneB_len (v := v) (c := c)
    rw [List.length_append]
    simp only [List.length_cons] at h1 ⊢
    omega
 | 0, c :: t, h => by simp at h
theorem escL_ge (v : Bool) (l : List UInt8) : l.length ≤ (escL v l).length ∧ (escL v l).length ≤ 6 * l.length := by
 rw [esc_eq v _ l (Nat.le_refl _)]
 exact escB_len v _ l (Nat.le_refl _)
/-- What fits is written. -/
def Fit (st st' : R.Pg.Pst) (s : List UInt8) : Prop := st.2 = false → st.1.length + s.length ≤ 65536 → st'.2 = false ∧ st'.1 = st.1 ++ s
theorem Fit.refl (st : R.Pg.Pst) : Fit st st [] := fun h _ => ⟨h, (List.append_nil _).symm⟩
theorem Fit.trans {a b c : R.Pg.Pst} {s t : List UInt8} (h : Fit a b s) (k : Fit b c t) : Fit a c (s ++ t) := fun ha hl => by
 rw [List.length_append] at hl
 obtain ⟨h1, h2⟩ := h ha (by omega)
 obtain ⟨k1, k2⟩ := k h1 (by rw [h2, List.length_append]; omega)
 exact ⟨k1, by rw [k2, h2, List.append_assoc]⟩
theorem tk_fit {st : R.Pg.Pst} {s : List UInt8} (h : st.2 = false) (hl : st.1.length + s.length ≤ 65536) : tk st s = (st.1, false) := by
 unfold tk
 rw [h, decide_eq_false (by omega)]
 rfl
theorem fit_wr1 (st : R.Pg.Pst) (s : List UInt8) : Fit st (wr1 st s) s := fun h hl => by
 unfold wr1
 rw [tk_fit h hl, if_neg Bool.false_ne_true]
 exact ⟨rfl, rfl⟩
theorem fit_wrL : ∀ (l : List (List UInt8)) (st : R.Pg.Pst), Fit st (wrL st l) l.flatten
 | [], st => Fit.refl st
 | s :: l, st => by
   rw [List.flatten_cons]
   exact (fit_wr1 st s).trans (fit_wrL l (wr1 st s))
theorem fit_wrE (v : Bool) (st : R.Pg.Pst) (s : List UInt8) : Fit st (wrE v st s) (escL v s) := fun h hl => by
 have hle := (escL_ge v s).1
 unfold wrE
 rw [tk_fit h (by omega), if_neg Bool.false_ne_true]
 exact fit_wr1 (st.1, false) (escL v s) rfl hl
theorem fit_attr (st : R.Pg.Pst) (a : List UInt8 × List UInt8) : Fit st (attrP st a) (attrS a) := by
 have h1 := fit_wrL [[32], a.1, [61, 34]] st
 have h2 := fit_wrE true (wrL st [[32], a.1, [61, 34]]) a.2
 have h3 := fit_wrL [[34]] (wrE true (wrL st [[32], a.1, [61, 34]]) a.2)
 have := (h1.trans h2).trans h3
 have e : ([[32], a.1, [61, 34]] : List (List UInt8)).flatten ++ escL true a.2 ++ ([[34]] : List (List UInt8)).flatten = attrS a := by
  unfold attrS
  simp
 rw [e] at this
 exact this
theorem fit_attrs : ∀ (l : List (List UInt8 × List UInt8)) (st : R.Pg.Pst), Fit st (l.foldl attrP st) (l.flatMap attrS)
 | [], st => Fit.refl st
 | a :: l, st => by
   rw [List.flatMap_cons]
   exact (fit_attr st a).trans (fit_attrs l (attrP st a))
theorem fit_start (st : R.Pg.Pst) (n : Nx) : Fit st (startP st n.name n.attrs) (startS n) := by
 have h1 := fit_wrL [[60], n.name] st
 have h2 := fit_attrs n.attrs (wrL st [[60], n.name])
 have h3 := fit_wrL [[62]] (n.attrs.foldl attrP (wrL st [[60], n.name]))
 have := (h1.trans h2).trans h3
 have e : ([[60], n.name] : List (List UInt8)).flatten ++ n.attrs.flatMap attrS ++ ([[62]] : List (List UInt8)).flatten = startS n := by
  unfold startS
  simp
 rw [e] at this
 exact this
theorem fit_end (st : R.Pg.Pst) (name : List UInt8) : Fit st (endP st name) (if voidK (kindL name) then [] else enS name) := by
 unfold endP voidK
 by_cases hv : (kindL name == 7 || kindL name == 8) = true
 ·rw [if_pos hv, if_pos hv]
  exact Fit.refl st
 ·rw [if_neg hv, if_neg hv]
  have := fit_wrL [[60, 47], name, [62]] st
  have e : ([[60, 47], name, [62]] : List (List UInt8)).flatten = enS name := by
   unfold enS
   simp
  rw [e] at this
  exact this
theorem fit_kids {g : R.Pg.Pst → Int → R.Pg.Pst} {d : Int → List UInt8} (h : ∀ st k, Fit st (g st k) (d k)) : ∀ (l : List Int) (st : R.Pg.Pst), Fit st (l.foldl g st) (l.flatMap d)
 | [], st => Fit.refl st
 | k :: l, st => by
   rw [List.flatMap_cons]
   exact (h st k).trans (fit_kids h l (g st k))
theorem fit_node (ts : List Nx) : ∀ (f : Nat) (st : R.Pg.Pst) (i : Nat), Fit st (nodeF ts f st i) (docS ts f i)
 | 0, st, _ => Fit.refl st
 | f + 1, st, i => by
   cases hn : ts[i]? with
   | none =>
     unfold nodeF docS
     rw [hn]
     exact Fit.refl st
   | some n =>
     rw [nodeF_at hn]
     unfold docS
     rw [hn]
     simp only
     have hk : ∀ st, Fit st (n.kids.foldl (fun s k => nodeF ts f s k.toNat) st) (n.kids.flatMap fun k => docS ts f k.toNat) := fun st => fit_kids (fun st k => fit_node ts f st k.toNat) n.kids st
     by_cases h1 : n.kind = 1
     ·rw [if_pos h1, if_pos h1, if_pos h1]
      exact ((fit_start st n).trans (hk _)).trans (fit_end _ _)
     ·rw [if_neg h1, if_neg h1, if_neg h1, List.append_nil]
      by_cases h2 : n.kind = 2
      ·rw [if_pos h2, if_pos h2]
       exact (fit_wrE false st n.data).trans (hk _)
      ·rw [if_neg h2, if_neg h2, List.nil_append]
       exact hk _
/-- What is serialized, in the document's own words. -/
theorem serial_ref (ts : List Nx) : serialX ts = if rightX ts then (if 65536 < (docS ts ts.length 0).length then ([], 3) else (docS ts ts.length 0, 0)) else ([], 53) := by
 unfold serialX
 by_cases hr : rightX ts = true
 ·rw [if_pos hr, if_pos hr]
  by_cases hl : 65536 < (docS ts ts.length 0).length
  ·rw [if_pos hl]
   cases hp : (pageX ts).2 with
   | true => rfl
   | false =>
     obtain ⟨_, h2, h3⟩ := acc_node ts ts.length ([], false) 0 hp
     have h4 := h3 (Nat.zero_le _)
     rw [h2, List.nil_append] at h4
     omega
  ·rw [if_neg hl]
   obtain ⟨h1, h2⟩ := fit_node ts ts.length ([], false) 0 rfl (by show 0 + _ ≤ _; omega)
   have h1 : (pageX ts).2 = false := h1
   have h2 : (pageX ts).1 = docS ts ts.length 0 := h2
   rw [h1, if_neg Bool.false_ne_true, h2]
 ·rw [if_neg hr, if_neg hr]
/-- How long a node's piece may be. -/
theorem flat_le {α : Type} (f : α → List UInt8) (b : Nat) : ∀ (l : List α), (∀ x ∈ l, (f x).length ≤ b) → (l.flatMap f).length ≤ l.length * b
 | [], _ => by simp
 | a :: l, h => by
   have h1 := h a (List.mem_cons_self ..)
   have h2 := flat_le f b l (fun x hx => h x (List.mem_cons_of_mem _ hx))
   rw [List.flatMap_cons, List.length_append, List.length_cons, Nat.add_mul]
   omega
theorem node_len {n : Nx} (h : SmallN 20000 n) : (nodeS n).length + (n.name.length + 3) ≤ 3000000000 := by
 obtain ⟨s1, s2, s3, s4, s5⟩ := h
 unfold nodeS
 split
 ·have := (escL_ge false n.data).2
  omega
 ·unfold startS
  have h2 := flat_le attrS 140004 n.attrs (fun a ha => by
   obtain ⟨a1, a2⟩ := s5 a ha
   have := (escL_ge true a.2).2
   unfold attrS
   simp only [List.length_append, List.length_cons, List.length_nil]
   omega)
  have h3 : n.attrs.length * 140004 ≤ 20000 * 140004 := Nat.mul_le_mul_right _ s4
  simp only [List.length_append, List.length_cons, List.length_nil]
  omega
def ewS (st : List Opn) : Nat := (st.flatMap fun o => enS o.name).length
theorem ew_app (a b : List Opn) : ewS (a ++ b) = ewS a + ewS b := by
 unfold ewS
 rw [List.flatMap_append, List.length_append]
theorem seq_len : ∀ (r : List Nx) (i : Nat) (st : List Opn), (∀ n ∈ r, SmallN 20000 n) → (seqS r i st).length ≤ ewS st + r.length * 3000000000
 | [], _, st, _ => by
   unfold seqS ewS
   omega
 | n :: r, i, st, h => by
   unfold seqS
   cases hc : closeToX n.up st with
   | none => exact Nat.zero_le _
   | some s1 =>
     have hn := node_len (h n (List.mem_cons_self ..))
     have hr := seq_len r (i + 1) (pushL n i s1) (fun x hx => h x (List.mem_cons_of_mem _ hx))
     have hp := (pop_close hc).1
     have he : ewS st = ewS (popL n.up st) + ewS s1 := by
      conv => lhs; rw [hp]
      exact ew_app _ _
     have hpu : ewS (pushL n i s1) ≤ ewS s1 + (n.name.length + 3) := by
      unfold pushL
      split
      ·rw [show (⟨i, n.name, kindL n.name⟩ :: s1 : List Opn) = [⟨i, n.name, kindL n.name⟩] ++ s1 from rfl, ew_app]
       have : ewS [(⟨i, n.name, kindL n.name⟩ : Opn)] = n.name.length + 3 := by
        unfold ewS enS
        simp
       omega
      ·omega
     simp only [List.length_append, List.length_cons]
     have e2 : ((popL n.up st).flatMap fun o => enS o.name).length = ewS (popL n.up st) := rfl
     rw [Nat.add_mul]
     omega
theorem doc_len {ts : List Nx} (h : rightX ts = true) (hs : ∀ n ∈ ts, SmallN 20000 n) (hl : ts.length ≤ 400) : (docS ts ts.length 0).length ≤ 2000000000000 := by
 cases ts with
 | nil => cases h
 | cons d r =>
   rw [(doc_seq h).1]
   have h1 := seq_len r 1 [] (fun n hn => hs n (List.mem_cons_of_mem _ hn))
   have h2 : ewS [] = 0 := rfl
   rw [List.length_cons] at hl
   omega
/-- A text has no children; a child lies behind its parent. -/
theorem right_text {ts : List Nx} (h : rightX ts = true) {u : Nat} (hu : u < ts.length) (h2 : kdOf ts u = 2) : R.kidsAt ts u = [] := by
 obtain ⟨_, _, _, _, hs, hk, _⟩ := (ref_right ts).1 h
 rw [(R.kidsX_iff ts).1 hk u hu]
 refine List.eq_nil_iff_forall_not_mem.2 fun x hx => ?_
 obtain ⟨i, _, hil, hi1, hup⟩ := mem_ofUp.1 hx
 obtain ⟨v, hv, _, hg, _⟩ := hs i hi1 hil
 have : v = u := by omega
 rw [this] at hg
 exact hg.1 h2
theorem right_kid {ts : List Nx} (h : rightX ts = true) {u : Nat} (hu : u < ts.length) {z : Int} (hz : z ∈ R.kidsAt ts u) : ∃ k : Nat, z = (k : Int) ∧ u < k ∧ k < ts.length := by
 obtain ⟨_, _, _, _, hs, hk, _⟩ := (ref_right ts).1 h
 rw [(R.kidsX_iff ts).1 hk u hu] at hz
 obtain ⟨i, hi, hil, hi1, hup⟩ := mem_ofUp.1 hz
 obtain ⟨v, hv, hvl, _⟩ := hs i hi1 hil
 exact ⟨i, hi, by omega, hil⟩
end Go.Proofs.YtlcijlklbabajaaGreatDoor
/-
  The document's node: the document of a node and of its children. Conditions: the tree is right; sizes are bounded.
-/
namespace Go.Proofs.YtlcijlklbabajaaGreatDoor
open Go.RowKit R
structure NodeOk (ns : List NxM) : Prop where
 size : ∀ p ∈ ns, SmallN 20000 p.1
 text : ∀ i (hi : i < ns.length), ns[i].1.kind = 2 → ns[i].1.kids = []
 kid : ∀ i (hi : i < ns.length), ∀ z ∈ ns[i].1.kids, ∃ k : Nat, z = (k : Int) ∧ i < k ∧ k < ns.length
theorem take_flat {α : Type} (f : α → List UInt8) (l : List α) (j : Nat) (hj : j < l.length) : (l.take (j + 1)).flatMap f = (l.take j).flatMap f ++ f l[j] := by
 rw [List.take_add_one, List.getElem?_eq_getElem hj, List.flatMap_append]
 simp
theorem take_flat_le {α : Type} (f : α → List UInt8) (l : List α) (j : Nat) : ((l.take j).flatMap f).length ≤ (l.flatMap f).length := by
 conv => rhs; rw [← List.take_append_drop j l]
 rw [List.flatMap_append, List.length_append]
 omega
set_option maxHeartbeats 8000000 in
set_option maxRecDepth 100000 in
theorem rNode_any {x : Addr} {c : Nat} {ns : List NxM} (hok : NodeOk ns) (h400 : ns.length ≤ 400) : ∀ f i, i < ns.length → ns.length - i ≤ f → (docS (ns.map (·.1)) f i).length ≤ 4000000000000 → ∀ w, HasTree w (some x) ns →
 Calls Tryz.prog 56 #[.slice (some x) ns.length c, .int .i64 (i : Int)] w fun e w' => e = .returned (.string (strOf (docS (ns.map (·.1)) f i))) ∧ Below w.heap.size w w'
 | 0, i, h1, h2 => by omega
 | f + 1, i, hi, hf => by
   intro hT w h
   have IH := hid_mk (fun (k : Nat) (hk : i < k) (hkn : k < ns.length) => rNode_any (x := x) (c := c) hok h400 f k hkn (by omega))
   obtain ⟨D, hD⟩ : ∃ D : Nat → List UInt8, D = docS (ns.map (·.1)) f := ⟨_, rfl⟩
   rw [← hD] at IH
   obtain ⟨t, ht⟩ : ∃ t, t = ns[i].1 := ⟨_, rfl⟩
   have hdoc : docS (ns.map (·.1)) (f + 1) i = (if t.kind = 1 then startS t else if t.kind = 2 then escL false t.data else []) ++ (t.kids.flatMap fun k => D k.toNat) ++ (if t.kind = 1 then (if voidK (kindL t.name) then [] else enS t.name) else []) := by
    conv => lhs; unfold docS
    rw [List.getElem?_map, List.getElem?_eq_getElem hi, Option.map_some, ← ht, ← hD]
   rw [hdoc] at hT ⊢
   have htext := hok.text i hi
   have hkid := hok.kid i hi
   have hsz := hok.size _ (List.getElem_mem hi)
   rw [← ht] at htext hkid hsz
   obtain ⟨n0, n1, n2, n3, n4, n5⟩ := h.six hi
   have hat0 := h.attrs _ (List.getElem_mem hi)
   have hki0 := h.kids _ (List.getElem_mem hi)
   rw [← ht] at n0 n1 n3 n4 hat0 hki0
   obtain ⟨aa, ac, hav, hac, harow⟩ := hat0
   obtain ⟨ka, kc, hkv, hkrow⟩ := hki0
   rw [hav] at n2
   rw [hkv] at n5
   obtain ⟨wl, hwl⟩ : ∃ wl, wl = w.alloc (.cells #[.int .u8 (t.kind : Int), .string (strOf t.name), .slice aa t.attrs.length ac, .string (strOf t.data), .int .i64 t.up, .slice ka t.kids.length kc] 38 (0, 0)) := ⟨_, rfl⟩
   have hol : Below w.heap.size w wl := by rw [hwl]; exact (Below.refl _ _).alloc (Nat.le_refl _) _
   have hNA : NodeAt w.heap.size t (.slice aa t.attrs.length ac) (.slice ka t.kids.length kc) wl := by unfold NodeAt; rw [hwl]; exact heap_alloc_new w _
   have HWL := hid_mk hwl.symm
   have HOL := hid_mk hol
   have HNA := hid_mk hNA
   have HTR := hid_mk (show ∀ w', Below wl.heap.size wl w' → HasTree w' (some x) ns from fun w' hb => h.below (hol.trans (hb.mono hol.size)))
   have HAR := hid_mk (show ∀ w', Below wl.heap.size wl w' → HasRow w' aa (t.attrs.flatMap atF) from fun w' hb => harow.below (hol.trans (hb.mono hol.size)))
   have HKR := hid_mk (show ∀ w', Below wl.heap.size wl w' → HasRow w' ka (t.kids.map (Value.int .i64)) from fun w' hb => hkrow.below (hol.trans (hb.mono hol.size)))
   obtain ⟨m, hm⟩ : ∃ m, m = ns.length := ⟨_, rfl⟩
   rw [← hm] at IH ⊢
   have HM := hid_mk hm
   have hil : (i : Int) < (m : Int) := by omega
   have hi0 : (0 : Int) ≤ (i : Int) := by omega
   obtain ⟨q0, q1, q2, q3, q4, q5⟩ := hNA.cells
   have hkk := hid_mk (refKind_any (strOf t.name))
   simp only [sl_strOf] at hkk
   obtain ⟨s1, s2, s3, s4, s5⟩ := hsz
   have hes := hid_mk (rEscape_false (strOf t.data) (by rw [size_strOf]; omega))
   simp only [sl_strOf, ← esc_eq false _ _ (Nat.le_refl _)] at hes
   clear hwl hol hNA hav hkv harow hkrow h hD ht hdoc hm hok h400 hf
   by_cases k2 : t.kind = 2
   ·have e2 : ((t.kind : Int) == 2) = true := by rw [k2]; rfl
    have HR := hid_mk (show (if t.kind = 1 then startS t else if t.kind = 2 then escL false t.data else []) ++ (t.kids.flatMap fun k => D k.toNat) ++ (if t.kind = 1 then (if voidK (kindL t.name) then [] else enS t.name) else []) = escL false t.data from by
     rw [if_neg (by omega), if_pos k2, if_neg (by omega), htext k2]; simp)
    rw [HR.out]
    clear k2 hT htext
    go_enter Tryz.func56, Tryz.ntmps56
    go_wp2_with fail
    rw [HWL.out]
    (with_reducible refine (hes.out _).mono ?_)
    rintro e w1 ⟨rfl, hb1⟩
    go_wp2_with fail
    go_ret
    exact ⟨rfl, HOL.out.trans (hb1.mono HOL.out.size)⟩
   have e2 : ((t.kind : Int) == 2) = false := beq_false_of_ne (by omega)
   by_cases k1 : t.kind = 1
   ·have e1 : ((t.kind : Int) == 1) = true := by rw [k1]; rfl
    rw [if_pos k1, if_pos k1] at hT ⊢
    clear k1 k2 htext
    obtain ⟨Z, hZ⟩ : ∃ Z, Z = startS t ++ (t.kids.flatMap fun k => D k.toNat) ++ (if voidK (kindL t.name) then [] else enS t.name) := ⟨_, rfl⟩
    rw [← hZ]
    have HR := hid_mk hZ
    clear hZ
    have HK8 := hid_mk (kindL_le t.name)
    have HTL := hid_mk (show (startS t ++ t.kids.flatMap fun k => D k.toNat).length ≤ 4000000000000 from by
     rw [List.length_append] at hT; omega)
    have HKID := hid_mk hkid
    have HS5 := hid_mk s5
    obtain ⟨LA, hLA⟩ : ∃ LA, t.attrs.length = LA := ⟨_, rfl⟩
    have HLA := hid_mk hLA
    obtain ⟨L, hLK⟩ : ∃ L, t.kids.length = L := ⟨_, rfl⟩
    have HLK := hid_mk hLK
    rw [hLA, hLK] at HWL
    rw [hLA] at n2 s4
    rw [hLK] at n5 s3
    clear hT hkid s5 q0 q1 q2 q3 q4 q5 hLA hLK
    have hnm0 : (strOf t.name).size = t.name.length := size_strOf _
    have HP0 := hid_mk (show (⟨#[60]⟩ : ByteArray) ++ strOf t.name = strOf (60 :: t.name) from strOf_app [60] t.name)
    have hSL : (startS t).length ≤ 4000000000000 := by have := HTL.out; rw [List.length_append] at this; omega
    have hse : startS t = 60 :: t.name ++ (t.attrs.flatMap attrS ++ [62]) := rfl
    have HPR := hid_mk (show ∀ j, (60 :: t.name ++ (t.attrs.take j).flatMap attrS).length + 1 ≤ 4000000000000 from fun j => by
     have h1 := take_flat_le attrS t.attrs j
     rw [hse] at hSL
     simp only [List.length_append, List.length_cons, List.length_nil] at hSL ⊢
     omega)
    have HSE := hid_mk hse
    have f0 : ¬ 9223372036854775807 < 1 + (strOf t.name).size := by omega
    have fS0 : (⟨#[60]⟩ ++ strOf t.name : ByteArray).size ≤ 4000000000000 := by rw [ByteArray.size_append, hnm0]; show 1 + _ ≤ _; omega
    clear hnm0 hSL hse
    generalize hnme : strOf t.name = nm at n1 HWL HP0 f0 fS0 hkk ⊢
    have HNME := hid_mk hnme
    clear hnme
    go_enter Tryz.func56, Tryz.ntmps56
    go_wp2_with fail
    rw [HWL.out]
    clear f0
    go_loopw [6, 7] (fun vs vj wr => ∃ (S : ByteArray) (j : Nat), j ≤ LA ∧ vs = .string S ∧ vj = .int .i64 (j : Int) ∧ S.size ≤ 4000000000000 ∧ Hid (S = strOf (60 :: t.name ++ (t.attrs.take j).flatMap attrS) ∧ Below wl.heap.size wl wr)) (fun _ vj _ => LA - (intOf vj).toNat)
    case atStart => exact ⟨_, 0, Nat.zero_le _, rfl, rfl, fS0, hid_mk ⟨by rw [HP0.out]; simp, Below.refl _ _⟩⟩
    case round =>
     obtain ⟨S, j, hj, rfl, rfl, hSs, hI⟩ := hrel
     generalize wr = wo at *
     clear fS0
     have r0 := ((HNA.out.below hI.out.2).cells).1
     have r2 := ((HNA.out.below hI.out.2).cells).2.2.1
     rw [HLA.out] at r2
     by_cases hjl : j < LA
     ·have hji : (j : Int) < (LA : Int) := by omega
      have hj0 : (0 : Int) ≤ (j : Int) := by omega
      have hja : j < t.attrs.length := by rw [HLA.out]; exact hjl
      obtain ⟨y, hy, _, _, _⟩ := (HAR.out _ hI.out.2).at2 hja
      have HKE := hid_mk (show ∀ w', Below wl.heap.size wl w' → w'.cell? ⟨w.heap.size, 2, none⟩ = some (.slice (some y) LA ac) ∧ w'.cell? (y.add (j * 2)) = some (.string (strOf t.attrs[j].1)) ∧ w'.cell? ⟨(y.add (j * 2)).block, (y.add (j * 2)).off + 1, none⟩ = some (.string (strOf t.attrs[j].2)) from fun w' hb => by
       have c2 := ((HNA.out.below hb).cells).2.2.1
       rw [HLA.out, hy] at c2
       obtain ⟨y', hy', _, c0, c1⟩ := (HAR.out _ hb).at2 hja
       rw [hy] at hy'
       injection hy' with hy'
       subst hy'
       refine ⟨c2, c0, ?_⟩
       rw [← c1, ← Addr.add_add y (j * 2) 1]
       conv => rhs; unfold Addr.add
       rw [if_neg (by omega)]
       rfl)
      rw [hy] at r2
      obtain ⟨z1, z2⟩ := HS5.out _ (List.getElem_mem hja)
      have hA : ((t.attrs.take (j + 1)).flatMap attrS) = ((t.attrs.take j).flatMap attrS) ++ attrS t.attrs[j] := take_flat _ _ _ hja
      have hE := (escL_ge true t.attrs[j].2).2
      have HS := hid_mk (show S ++ ⟨#[32]⟩ ++ strOf t.attrs[j].1 ++ ⟨#[61, 34]⟩ ++ strOf (escL true t.attrs[j].2) ++ ⟨#[34]⟩ = strOf (60 :: t.name ++ (t.attrs.take (j + 1)).flatMap attrS) from by
       rw [hA, hI.out.1, show (⟨#[32]⟩ : ByteArray) = strOf [32] from rfl, show (⟨#[61, 34]⟩ : ByteArray) = strOf [61, 34] from rfl, show (⟨#[34]⟩ : ByteArray) = strOf [34] from rfl, strOf_app, strOf_app, strOf_app, strOf_app, strOf_app]
       unfold attrS
       simp [List.append_assoc])
      have hS2 := congrArg ByteArray.size HS.out
      rw [size_strOf] at hS2
      have hpj := HPR.out (j + 1)
      have hesc := hid_mk (rEscape_true (strOf t.attrs[j].2) (by rw [size_strOf]; omega))
      simp only [sl_strOf, ← esc_eq true _ _ (Nat.le_refl _)] at hesc
      have HW := hid_mk hI.out.2
      have ha1 : (strOf t.attrs[j].1).size = t.attrs[j].1.length := size_strOf _
      have ha3 : (strOf (escL true t.attrs[j].2)).size = (escL true t.attrs[j].2).length := size_strOf _
      clear hI hA
      have hX : (S ++ ⟨#[32]⟩ ++ strOf t.attrs[j].1 ++ ⟨#[61, 34]⟩ ++ strOf (escL true t.attrs[j].2) ++ ⟨#[34]⟩).size ≤ 4000000000000 := by rw [hS2]; omega
      generalize strOf t.attrs[j].1 = A1 at *
      generalize strOf t.attrs[j].2 = A2 at *
      generalize strOf (escL true t.attrs[j].2) = E at *
      have f1 : ¬ 9223372036854775807 < S.size + 1 := by omega
      have f2 : ¬ 9223372036854775807 < S.size + 1 + A1.size := by omega
      have f3 : ¬ 9223372036854775807 < S.size + 1 + A1.size + 2 := by omega
      have f4 : ¬ 9223372036854775807 < S.size + 1 + A1.size + 2 + E.size := by omega
      have f5 : ¬ 9223372036854775807 < S.size + 1 + A1.size + 2 + E.size + 1 := by omega
      clear hS2 hpj ha1 ha3 hE
      have HX := hid_mk hX
      clear hX hy
      go_wp2_with fail
      go_region_held3 (fun w' => w'.cell? ⟨w.heap.size, 2, none⟩ = some (.slice (some y) LA ac) ∧ w'.cell? (y.add (j * 2)) = some (.string A1) ∧ w'.cell? ⟨(y.add (j * 2)).block, (y.add (j * 2)).off + 1, none⟩ = some (.string A2) ∧ Below wl.heap.size wl w')
       (first
        | exact ⟨(HKE.out _ (below_drewN HW.out 1)).1, (HKE.out _ (below_drewN HW.out 1)).2.1, (HKE.out _ (below_drewN HW.out 1)).2.2, below_drewN HW.out 1⟩
        | (go_split_ands; have hbx := (‹Below wl.heap.size wl _›).trans (nA.mono (‹Below wl.heap.size wl _›).size); exact ⟨(HKE.out _ hbx).1, (HKE.out _ hbx).2.1, (HKE.out _ hbx).2.2, hbx⟩))
       (first
        | (go_at_call 61; go_split_ands; (with_reducible refine (hesc.out _).mono ?_); rintro e w5 ⟨rfl, nA⟩))
      all_goals
       go_split_ands
       go_wp2_with fail
       go_roundw
       case rel => exact ⟨_, j + 1, by omega, rfl, by go_num, HX.out, hid_mk ⟨HS.out, by assumption⟩⟩
       case measure => simp [intOf]; omega
     ·have hji : ¬ (j : Int) < (LA : Int) := by omega
      have HS1 := hid_mk (show S ++ ⟨#[62]⟩ = strOf (startS t) from by
       have h1 := hI.out.1
       rw [List.take_of_length_le (by rw [HLA.out]; omega)] at h1
       rw [h1, HSE.out, show (⟨#[62]⟩ : ByteArray) = strOf [62] from rfl, strOf_app, List.append_assoc])
      have f6 : ¬ 9223372036854775807 < S.size + 1 := by omega
      have HW0 := hid_mk hI.out.2
      have hST : (S ++ ⟨#[62]⟩).size ≤ 4000000000000 := by
       have h1 := HTL.out
       rw [List.length_append] at h1
       rw [HS1.out, size_strOf]
       omega
      clear hI
      go_wp2_with fail
      clear r0 r2
      go_loopw [6, 8] (fun vs vj wr => ∃ (S2 : ByteArray) (j : Nat), j ≤ L ∧ vs = .string S2 ∧ vj = .int .i64 (j : Int) ∧ S2.size ≤ 4000000000000 ∧ Hid (S2 = strOf (startS t ++ (t.kids.take j).flatMap fun k => D k.toNat) ∧ Below wl.heap.size wl wr)) (fun _ vj _ => L - (intOf vj).toNat)
      case atStart => exact ⟨_, 0, Nat.zero_le _, rfl, rfl, hST, hid_mk ⟨by rw [HS1.out]; simp, HW0.out⟩⟩
      case round =>
       clear hST
       obtain ⟨S2, j, hj, rfl, rfl, hSs, hI⟩ := hrel
       generalize wr = wo at *
       have r0 := ((HNA.out.below hI.out.2).cells).1
       have r1 := ((HNA.out.below hI.out.2).cells).2.1
       rw [HNME.out] at r1
       have r5 := ((HNA.out.below hI.out.2).cells).2.2.2.2.2
       rw [HLK.out] at r5
       by_cases hjl : j < L
       ·have hji : (j : Int) < (L : Int) := by omega
        have hj0 : (0 : Int) ≤ (j : Int) := by omega
        have hjk : j < t.kids.length := by rw [HLK.out]; exact hjl
        obtain ⟨y, hy, _, y1⟩ := (HKR.out _ hI.out.2).ints hjk
        rw [hy] at r5
        obtain ⟨k, hk, hik, hkn⟩ := HKID.out _ (List.getElem_mem hjk)
        rw [hk] at y1
        have hDk : ((t.kids.take (j + 1)).flatMap fun k => D k.toNat) = ((t.kids.take j).flatMap fun k => D k.toNat) ++ D k := by
         rw [take_flat _ _ _ hjk, hk, Int.toNat_natCast]
        have hle := take_flat_le (fun k : Int => D k.toNat) t.kids (j + 1)
        have hsz2 : S2.size + (D k).length ≤ 4000000000000 := by
         have h1 := HTL.out
         rw [List.length_append] at h1
         rw [hI.out.1, size_strOf, List.length_append]
         rw [hDk, List.length_append] at hle
         omega
        have HS := hid_mk (show S2 ++ strOf (D k) = strOf (startS t ++ (t.kids.take (j + 1)).flatMap fun k => D k.toNat) from by
         rw [hDk, hI.out.1, strOf_app, List.append_assoc])
        have hcall := hid_mk (IH.out k hik (by have := HM.out; omega) (by omega) wo (HTR.out _ hI.out.2))
        have hds : (strOf (D k)).size = (D k).length := size_strOf _
        have HW := hid_mk hI.out.2
        generalize strOf (D k) = X at *
        have hf : ¬ 9223372036854775807 < S2.size + X.size := by omega
        have hX : (S2 ++ X).size ≤ 4000000000000 := by rw [ByteArray.size_append]; omega
        clear hI hy hk hDk hle hsz2 hds
        go_wp2_with fail
        (with_reducible refine (hcall.out).mono ?_)
        rintro e w2 ⟨rfl, hb2⟩
        have HW2 := hid_mk (HW.out.trans (hb2.mono HW.out.size))
        clear hb2
        go_wp2_with fail
        go_roundw
        case rel => exact ⟨_, j + 1, by omega, rfl, by go_num, hX, hid_mk ⟨HS.out, HW2.out⟩⟩
        case measure => simp [intOf]; omega
       ·have hji : ¬ (j : Int) < (L : Int) := by omega
        have HS := hid_mk (show S2 = strOf (startS t ++ t.kids.flatMap fun k => D k.toNat) from by
         have := hI.out.1
         rwa [List.take_of_length_le (by rw [HLK.out]; omega)] at this)
        have HW := hid_mk hI.out.2
        clear hI
        have hsS : S2.size = (startS t ++ t.kids.flatMap fun k => D k.toNat).length := by rw [HS.out, size_strOf]
        have hnm : nm.size = t.name.length := by rw [← HNME.out]; exact size_strOf _
        obtain ⟨K, hK⟩ : ∃ K, K = kindL t.name := ⟨_, rfl⟩
        rw [← hK] at hkk HR
        by_cases h7 : K < 7
        ·have hv : voidK K = false := by
          unfold voidK
          rw [Bool.or_eq_false_iff]
          exact ⟨beq_false_of_ne (by omega), beq_false_of_ne (by omega)⟩
         have HR2 := hid_mk (show S2 ++ ⟨#[60, 47]⟩ ++ nm ++ ⟨#[62]⟩ = strOf Z from by
          rw [← HNME.out]
          rw [HR.out, hv, if_neg Bool.false_ne_true, HS.out]
          rw [show (⟨#[60, 47]⟩ : ByteArray) = strOf [60, 47] from rfl, show (⟨#[62]⟩ : ByteArray) = strOf [62] from rfl, strOf_app, strOf_app, strOf_app]
          unfold enS
          simp [List.append_assoc])
         have h7i : (K : Int) < 7 := by omega
         clear hK hv
         have f1 : ¬ 9223372036854775807 < S2.size + 2 := by omega
         have f2 : ¬ 9223372036854775807 < S2.size + 2 + nm.size := by omega
         have f3 : ¬ 9223372036854775807 < S2.size + 2 + nm.size + 1 := by omega
         clear hsS hnm
         go_wp2_with fail
         (with_reducible refine (hkk.out _).mono ?_)
         rintro e w2 ⟨rfl, rfl⟩
         go_wp2_with fail
         go_ret
         exact ⟨congrArg (fun b => Ending.returned (Value.string b)) HR2.out, HOL.out.trans (HW.out.mono HOL.out.size)⟩
        ·have hv : voidK K = true := by
          have := HK8.out
          rw [← hK] at this
          have : K = 7 ∨ K = 8 := by omega
          rcases this with e | e <;> (rw [e]; rfl)
         have HR2 := hid_mk (show S2 = strOf Z from by
          rw [HR.out, hv, if_pos rfl, List.append_nil, HS.out])
         have h7i : ¬ (K : Int) < 7 := by omega
         clear hK hv hsS hnm
         go_wp2_with fail
         (with_reducible refine (hkk.out _).mono ?_)
         rintro e w2 ⟨rfl, rfl⟩
         go_wp2_with fail
         go_ret
         exact ⟨congrArg (fun b => Ending.returned (Value.string b)) HR2.out, HOL.out.trans (HW.out.mono HOL.out.size)⟩
   ·have e1 : ((t.kind : Int) == 1) = false := beq_false_of_ne (by omega)
    rw [if_neg k1, if_neg k2, if_neg k1] at hT ⊢
    clear k1 k2 htext
    obtain ⟨Z, hZ⟩ : ∃ Z, Z = ([] : List UInt8) ++ (t.kids.flatMap fun k => D k.toNat) ++ [] := ⟨_, rfl⟩
    rw [← hZ]
    have HR := hid_mk hZ
    clear hZ
    have HK8 := hid_mk (kindL_le t.name)
    have HTL := hid_mk (show (([] : List UInt8) ++ t.kids.flatMap fun k => D k.toNat).length ≤ 4000000000000 from by
     simpa using hT)
    have HKID := hid_mk hkid
    have HS5 := hid_mk s5
    obtain ⟨LA, hLA⟩ : ∃ LA, t.attrs.length = LA := ⟨_, rfl⟩
    have HLA := hid_mk hLA
    obtain ⟨L, hLK⟩ : ∃ L, t.kids.length = L := ⟨_, rfl⟩
    have HLK := hid_mk hLK
    rw [hLA, hLK] at HWL
    rw [hLA] at n2 s4
    rw [hLK] at n5 s3
    clear hT hkid s5 q0 q1 q2 q3 q4 q5 hLA hLK
    go_enter Tryz.func56, Tryz.ntmps56
    go_wp2_with fail
    rw [HWL.out]
    go_loopw [6, 8] (fun vs vj wr => ∃ (S : ByteArray) (j : Nat), j ≤ L ∧ vs = .string S ∧ vj = .int .i64 (j : Int) ∧ S.size ≤ 4000000000000 ∧ Hid (S = strOf (([] : List UInt8) ++ (t.kids.take j).flatMap fun k => D k.toNat) ∧ Below wl.heap.size wl wr)) (fun _ vj _ => L - (intOf vj).toNat)
    case atStart => exact ⟨_, 0, Nat.zero_le _, rfl, rfl, by decide, hid_mk ⟨rfl, Below.refl _ _⟩⟩
    case round =>
     obtain ⟨S, j, hj, rfl, rfl, hSs, hI⟩ := hrel
     generalize wr = wo at *
     have r0 := ((HNA.out.below hI.out.2).cells).1
     have r1 := ((HNA.out.below hI.out.2).cells).2.1
     have r5 := ((HNA.out.below hI.out.2).cells).2.2.2.2.2
     rw [HLK.out] at r5
     by_cases hjl : j < L
     ·have hji : (j : Int) < (L : Int) := by omega
      have hj0 : (0 : Int) ≤ (j : Int) := by omega
      have hjk : j < t.kids.length := by rw [HLK.out]; exact hjl
      obtain ⟨y, hy, _, y1⟩ := (HKR.out _ hI.out.2).ints hjk
      rw [hy] at r5
      obtain ⟨k, hk, hik, hkn⟩ := HKID.out _ (List.getElem_mem hjk)
      rw [hk] at y1
      have hDk : ((t.kids.take (j + 1)).flatMap fun k => D k.toNat) = ((t.kids.take j).flatMap fun k => D k.toNat) ++ D k := by
       rw [take_flat _ _ _ hjk, hk, Int.toNat_natCast]
      have hle := take_flat_le (fun k : Int => D k.toNat) t.kids (j + 1)
      have hsz2 : S.size + (D k).length ≤ 4000000000000 := by
       have h1 := HTL.out
       rw [List.length_append] at h1
       rw [hI.out.1, size_strOf, List.length_append]
       rw [hDk, List.length_append] at hle
       omega
      have HS := hid_mk (show S ++ strOf (D k) = strOf (([] : List UInt8) ++ (t.kids.take (j + 1)).flatMap fun k => D k.toNat) from by
       rw [hDk, hI.out.1, strOf_app, List.append_assoc])
      have hcall := hid_mk (IH.out k hik (by have := HM.out; omega) (by omega) wo (HTR.out _ hI.out.2))
      have hds : (strOf (D k)).size = (D k).length := size_strOf _
      have HW := hid_mk hI.out.2
      generalize strOf (D k) = X at *
      have hf : ¬ 9223372036854775807 < S.size + X.size := by omega
      have hX : (S ++ X).size ≤ 4000000000000 := by rw [ByteArray.size_append]; omega
      clear hI hy hk hDk hle hsz2 hds
      go_wp2_with fail
      (with_reducible refine (hcall.out).mono ?_)
      rintro e w2 ⟨rfl, hb2⟩
      have HW2 := hid_mk (HW.out.trans (hb2.mono HW.out.size))
      clear hb2
      go_wp2_with fail
      go_roundw
      case rel => exact ⟨_, j + 1, by omega, rfl, by go_num, hX, hid_mk ⟨HS.out, HW2.out⟩⟩
      case measure => simp [intOf]; omega
     ·have hji : ¬ (j : Int) < (L : Int) := by omega
      have HS := hid_mk (show S = strOf (([] : List UInt8) ++ t.kids.flatMap fun k => D k.toNat) from by
       have := hI.out.1
       rwa [List.take_of_length_le (by rw [HLK.out]; omega)] at this)
      have HW := hid_mk hI.out.2
      clear hI
      have HR2 := hid_mk (show S = strOf Z from by rw [HR.out, HS.out, List.append_nil])
      go_wp2_with fail
      go_ret
      exact ⟨congrArg (fun b => Ending.returned (Value.string b)) HR2.out, HOL.out.trans (HW.out.mono HOL.out.size)⟩
end Go.Proofs.YtlcijlklbabajaaGreatDoor
