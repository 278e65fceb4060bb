/-
  The law of layer 3 about texts with each & escaped, and without any: it returns true for every text. Condition: the table of replaced characters lies in the first package-level variable.
-/
import Derived.Test.YtflgiejnklbjnaaDoorLawCN
import Derived.Test.YtflgiejnklbjnaaDoorTwoRows
namespace Go.Proofs.YtflgiejnklbjnaaDoor
open Go.RowKit
theorem escL_app : ∀ (a b : List UInt8), escL (a ++ b) = escL a ++ escL b
  | [], _ => rfl
  | c :: a, b => by
    show (if c = 38 then [38, 97, 109, 112, 59] else [c]) ++ escL (a ++ b) = _
    rw [escL_app a b, ← List.append_assoc]
    rfl
theorem escL_len : ∀ l : List UInt8, (escL l).length ≤ 5 * l.length
  | [] => Nat.le_refl _
  | c :: l => by
    have h := escL_len l
    unfold escL
    rw [List.length_append, List.length_cons]
    split <;> simp <;> omega
/-- A text without any &. -/
def outL (l : List UInt8) : List UInt8 := l.filter (fun c => c ≠ 38)
theorem outL_app (a b : List UInt8) : outL (a ++ b) = outL a ++ outL b := by unfold outL; rw [List.filter_append]
theorem outL_len (l : List UInt8) : (outL l).length ≤ l.length := List.length_filter_le _ _
theorem outL_no (l : List UInt8) : ∀ c ∈ outL l, c.toNat ≠ 38 := fun c hc h => by
  unfold outL at hc
  rw [List.mem_filter] at hc
  have h1 : c = 38 := UInt8.toNat_inj.1 h
  rw [h1] at hc
  exact absurd hc.2 (by decide)
theorem take_snoc (l : List UInt8) (i : Nat) (h : i < l.length) : l.take (i + 1) = l.take i ++ [l[i]] := by rw [List.take_succ_eq_append_getElem h]
set_option maxHeartbeats 4000000 in
set_option maxRecDepth 100000 in
theorem charrefBack_w (s : ByteArray) (attr : Bool) (w : World) (hT : Tab w) :
    Calls Tryd.prog 5 #[.string s, .bool attr] w fun e w' => e = .returned (.bool true) ∧ Next w w' := by
  have HT := hid_mk hT
  clear hT
  by_cases hs : 5000 < s.size
  · have hs' : decide (5000 < (s.size : Int)) = true := by simp; omega
    have hsn : decide (5000 < s.size) = true := by simp; omega
    go_enter Tryd.func5, Tryd.ntmps5
    go_wp2_with fail
    refine (works_any w HT.out).mono ?_
    rintro e w1 ⟨rfl, hn1⟩
    have H1 := hid_mk hn1
    clear hn1
    go_wp2
    go_ret
    exact ⟨rfl, H1.out⟩
  have hs' : decide (5000 < (s.size : Int)) = false := by simp; omega
  have hsn : decide (5000 < s.size) = false := by simp; omega
  go_enter Tryd.func5, Tryd.ntmps5
  go_wp2_with fail
  go_loopw [5, 6, 7] (fun v1 v2 vi wr => ∃ (i : Nat) (x y : List UInt8), i ≤ s.size ∧ vi = .int .i64 (i : Int) ∧ Hid (x = escL ((sl s).take i) ∧ y = outL ((sl s).take i)) ∧ Hid (wr.ownsRow w.heap.size 5 1 v1 x.length (Lib.byteCells x) ∧ wr.ownsRow w.heap.size 5 1 v2 y.length (Lib.byteCells y) ∧ Apart v1 v2 ∧ Below w.heap.size w wr)) (fun _ _ vi _ => s.size - (intOf vi).toNat)
  case atStart => exact ⟨0, [], [], by omega, rfl, hid_mk ⟨rfl, rfl⟩, hid_mk ⟨⟨rfl, .inl ⟨rfl, rfl⟩⟩, ⟨rfl, .inl ⟨rfl, rfl⟩⟩, fun g h => (by cases h), Below.refl _ _⟩⟩
  case round =>
    obtain ⟨i, x, y, hi, rfl, hxy, HW⟩ := hrel
    by_cases hin : i < s.size
    · have hin' : (i : Int) < (s.size : Int) := by omega
      have hi0 : (0 : Int) ≤ (i : Int) := by omega
      have hil : i < (sl s).length := by rw [len_sl]; exact hin
      have hts := take_snoc (sl s) i hil
      have hx1 : x.length ≤ 25000 := by
        have := escL_len ((sl s).take i)
        rw [hxy.out.1]
        rw [List.length_take, len_sl] at this
        omega
      have hy1 : y.length ≤ 5000 := by
        have := outL_len ((sl s).take i)
        rw [hxy.out.2]
        rw [List.length_take, len_sl] at this
        omega
      have hsi : (sl s)[i] = s[i]'hin := rfl
      by_cases h38 : (s[i]'hin).toNat = 38
      · have h38' : (((s[i]'hin).toNat : Int) == 38) = true := by rw [h38]; rfl
        have hc : s[i]'hin = 38 := UInt8.toNat_inj.1 h38
        have hxy2 := hid_mk (show x ++ [38, 97, 109, 112, 59] = escL ((sl s).take (i + 1)) ∧ y = outL ((sl s).take (i + 1)) by
          rw [hts, escL_app, outL_app, ← hxy.out.1, ← hxy.out.2, hsi, hc]
          exact ⟨rfl, by show y = y ++ []; rw [List.append_nil]⟩)
        clear h38 hc hts hil hsi
        go_wp2_with (at_builtin; refine Classical.byContradiction fun hno => ?_)
        refine hno ?_
        clear hno
        obtain ⟨i0, hi', hz0, hz1, hz2⟩ := info_parts infoByte
        have hsz := HW.out.2.2.2.size
        refine wpList_append_str_at rfl (.tmp 22) _ _ _ rfl w.heap.size 5 i0 Tryd.underlying33 Tryd.underlying9 hi' hz0 hz1 hz2 _ x.length (Lib.byteCells x) rfl HW.out.1 (strOf [38, 97, 109, 112, 59]) rfl (by rw [size_strOf]; unfold maxLen; simp; omega) (by rw [size_strOf]; simp; omega) (by omega) ?_
        intro v' w2 hown1 hgrow hat
        have hfin := hid_mk (show w2.ownsRow w.heap.size 5 1 v' (x ++ [38, 97, 109, 112, 59]).length (Lib.byteCells (x ++ [38, 97, 109, 112, 59])) ∧ w2.ownsRow w.heap.size 5 1 _ y.length (Lib.byteCells y) ∧ Apart v' _ ∧ Below w.heap.size w w2 from by
          have ha := apart_grown HW.out.2.2.1 HW.out.2.1 hgrow hat
          refine ⟨?_, ha.1, ha.2, HW.out.2.2.2.grown hgrow (by omega) (fun k hk => own_base HW.out.1 k hk)⟩
          rw [List.length_append, Lib.byteCells_append]
          exact hown1)
        clear HW hown1 hgrow hat hi' hz0 hz1 hz2 hxy
        clear i0
        generalize x ++ [38, 97, 109, 112, 59] = x2 at *
        go_wp2
        go_roundw
        case rel => exact ⟨i + 1, x2, y, by omega, by first | rfl | go_num, hxy2, hfin⟩
        case measure => simp [intOf]; omega
      · have h38' : (((s[i]'hin).toNat : Int) == 38) = false := beq_false_of_ne (by omega)
        have hc : ¬ s[i]'hin = 38 := fun h => h38 (by rw [h]; rfl)
        have hxy2 := hid_mk (show x ++ [s[i]'hin] = escL ((sl s).take (i + 1)) ∧ y ++ [s[i]'hin] = outL ((sl s).take (i + 1)) by
          rw [hts, escL_app, outL_app, ← hxy.out.1, ← hxy.out.2, hsi]
          refine ⟨?_, ?_⟩
          · show _ = x ++ ((if s[i]'hin = 38 then _ else [s[i]'hin]) ++ escL [])
            rw [if_neg hc]
            rfl
          · congr 1
            unfold outL
            rw [List.filter_cons, List.filter_nil]
            simp [hc])
        have hbx := hid_mk (show Lib.byteCells x ++ [Value.int .u8 (((s[i]'hin).toNat : Nat) : Int)] = Lib.byteCells (x ++ [s[i]'hin]) by rw [Lib.byteCells_append]; rfl)
        have hby := hid_mk (show Lib.byteCells y ++ [Value.int .u8 (((s[i]'hin).toNat : Nat) : Int)] = Lib.byteCells (y ++ [s[i]'hin]) by rw [Lib.byteCells_append]; rfl)
        have hlx := hid_mk (show x.length + 1 = (x ++ [s[i]'hin]).length by rw [List.length_append]; rfl)
        have hly := hid_mk (show y.length + 1 = (y ++ [s[i]'hin]).length by rw [List.length_append]; rfl)
        generalize x ++ [s[i]'hin] = x2 at *
        generalize y ++ [s[i]'hin] = y2 at *
        clear h38 hc hts hil hsi hxy
        go_wp2_with (at_builtin; refine Classical.byContradiction fun hno => ?_)
        refine hno ?_
        clear hno
        obtain ⟨i0, hi', hz0, hz1, hz2⟩ := info_parts infoByte
        have hsz := HW.out.2.2.2.size
        refine wpList_append_own_at _ rfl (.tmp 24) (.tmp 28) _ rfl w.heap.size 5 i0 _ 1 1 Tryd.underlying33 hi' hz0 hz1 hz2 rfl (by decide) _ x.length (Lib.byteCells x) rfl (HW.out.1.alloc _) ⟨wr.heap.size, 0, none⟩ 1 1 [.int .u8 (((s[i]'hin).toNat : Nat) : Int)] rfl rfl ?c1 ?c2 ?c3 ?c4 ?c5 ?_
        case c1 =>
          intro j u hu
          rw [addr_add0, cell_of_row _ _ j _ _ _ (heap_alloc_new wr _)]
          simpa using hu
        case c2 => intro u hu; simp at hu; subst hu; rfl
        case c3 => unfold maxLen; omega
        case c4 => omega
        case c5 => simp; omega
        intro v' w2 hown1 hgrow _ hat
        rw [hbx.out, hlx.out] at hown1
        have hmid := hid_mk (show w2.ownsRow w.heap.size 5 1 v' x2.length (Lib.byteCells x2) ∧ w2.ownsRow w.heap.size 5 1 _ y.length (Lib.byteCells y) ∧ Apart v' _ ∧ Below w.heap.size w w2 from by
          have ha := apart_grown HW.out.2.2.1 (HW.out.2.1.alloc _) hgrow (hat.elim .inl (fun h => .inr fun g hg => by
            rw [h] at hg
            injection hg with hg
            omega))
          exact ⟨hown1, ha.1, ha.2, (HW.out.2.2.2.alloc hsz _).grown hgrow (by simp; omega) (fun k hk => own_base HW.out.1 k hk)⟩)
        clear HW hown1 hgrow hat hsz
        go_wp2_with (at_builtin; refine Classical.byContradiction fun hno => ?_)
        refine hno ?_
        clear hno
        have hsz := hmid.out.2.2.2.size
        refine wpList_append_own_at _ rfl (.tmp 30) (.tmp 34) _ rfl w.heap.size 5 i0 _ 1 1 Tryd.underlying33 hi' hz0 hz1 hz2 rfl (by decide) _ y.length (Lib.byteCells y) rfl (hmid.out.2.1.alloc _) ⟨w2.heap.size, 0, none⟩ 1 1 [.int .u8 (((s[i]'hin).toNat : Nat) : Int)] rfl rfl ?e1 ?e2 ?e3 ?e4 ?e5 ?_
        case e1 =>
          intro j u hu
          rw [addr_add0, cell_of_row _ _ j _ _ _ (heap_alloc_new w2 _)]
          simpa using hu
        case e2 => intro u hu; simp at hu; subst hu; rfl
        case e3 => unfold maxLen; omega
        case e4 => omega
        case e5 => simp; omega
        intro v'' w3 hown2 hgrow2 _ hat2
        rw [hby.out, hly.out] at hown2
        have hfin := hid_mk (show w3.ownsRow w.heap.size 5 1 v' x2.length (Lib.byteCells x2) ∧ w3.ownsRow w.heap.size 5 1 v'' y2.length (Lib.byteCells y2) ∧ Apart v' v'' ∧ Below w.heap.size w w3 from by
          have ha := apart_grown hmid.out.2.2.1.symm (hmid.out.1.alloc _) hgrow2 (hat2.elim .inl (fun h => .inr fun g hg => by
            rw [h] at hg
            injection hg with hg
            omega))
          exact ⟨ha.1, hown2, ha.2.symm, (hmid.out.2.2.2.alloc hsz _).grown hgrow2 (by simp; omega) (fun k hk => own_base hmid.out.2.1 k hk)⟩)
        clear hmid hown2 hgrow2 hat2 hi' hz0 hz1 hz2 hsz hbx hby hlx hly
        clear i0
        go_wp2
        go_roundw
        case rel => exact ⟨i + 1, x2, y2, by omega, by first | rfl | go_num, hxy2, hfin⟩
        case measure => simp [intOf]; omega
    · have hin' : ¬ (i : Int) < (s.size : Int) := by omega
      have htk : (sl s).take i = sl s := List.take_of_length_le (by rw [len_sl]; omega)
      rw [htk] at hxy
      obtain ⟨a1, k1, hv1, hh1⟩ := own_bytes HW.out.1
      obtain ⟨a2, k2, hv2, hh2⟩ := own_bytes HW.out.2.1
      have hx1 : x.length ≤ 25000 := by
        have := escL_len (sl s)
        rw [hxy.out.1]
        rw [len_sl] at this
        omega
      have hy1 : y.length ≤ 5000 := by
        have := outL_len (sl s)
        rw [hxy.out.2]
        rw [len_sl] at this
        omega
      subst hv1
      subst hv2
      have hN := hid_mk (Next.of HT.out HW.out.2.2.2)
      have hd1 := hid_mk (fun w hT => decode_any (strOf x) (by rw [size_strOf]; omega) attr w hT)
      rw [sl_strOf, hxy.out.1, decL_esc, strOf_sl, ← hxy.out.1] at hd1
      have hd2 := hid_mk (fun w hT => decode_any (strOf y) (by rw [size_strOf]; omega) attr w hT)
      rw [sl_strOf, decL_same attr y (by rw [hxy.out.2]; exact outL_no _)] at hd2
      have hC1 := hid_mk (fun w' (n : Next wr w') => bytes_conv w' a1 k1 x (hh1.below n.1))
      have hC2 := hid_mk (fun w' (n : Next wr w') => bytes_conv w' a2 k2 y (hh2.below n.1))
      have hT2 := hid_mk hN.out.2
      have hln1 : x.length = x.length := rfl
      clear hh1 hh2 HW hxy htk hx1 hy1 hln1
      generalize x.length = n1 at *
      generalize y.length = n2 at *
      generalize strOf x = X at *
      generalize strOf y = Y at *
      go_wp2_with fail
      go_region_held3 (fun w' => (convert 33 9 (.slice a1 n1 k1)).run Tryd.prog w' = .ok (.string X) w' ∧ (convert 33 9 (.slice a2 n2 k2)).run Tryd.prog w' = .ok (.string Y) w' ∧ Next wr w')
        (first
          | exact ⟨hC1.out _ ((Next.refl hT2.out).drewN 1), hC2.out _ ((Next.refl hT2.out).drewN 1), (Next.refl hT2.out).drewN 1⟩
          | (go_split_ands; exact ⟨hC1.out _ ((‹Next wr _›).trans nA), hC2.out _ ((‹Next wr _›).trans nA), (‹Next wr _›).trans nA⟩)
          | (go_split_ands; exact ⟨hC1.out _ ((‹Next wr _›).trans nB), hC2.out _ ((‹Next wr _›).trans nB), (‹Next wr _›).trans nB⟩)
          | (go_split_ands; exact ⟨hC1.out _ ((‹Next wr _›).trans nD), hC2.out _ ((‹Next wr _›).trans nD), (‹Next wr _›).trans nD⟩))
        (first
          | (go_at_call 14; go_split_ands; have hTn := (‹Next wr _›).2; ((with_reducible refine (hd1.out _ hTn).mono ?_); rintro e w3 ⟨rfl, nA⟩))
          | (go_at_call 14; go_split_ands; have hTn := (‹Next wr _›).2; ((with_reducible refine (hd2.out _ hTn).mono ?_); rintro e w3 ⟨rfl, nB⟩))
          | (go_at_call 10; go_split_ands; refine (works_any _ (by exact (‹Next wr _›).2)).mono ?_; rintro e w3 ⟨rfl, nD⟩))
      all_goals
        go_split_ands
        go_wp2
        go_ret
        exact ⟨rfl, hN.out.trans (by assumption)⟩
theorem charrefBack_c (s : ByteArray) (attr : Bool) (w : World) {c : Prop} (_ : c) (hT : Tab w) :
    Calls Tryd.prog 5 #[.string s, .bool attr] w fun e w' => e = .returned (.bool true) ∧ Next w w' := charrefBack_w s attr w hT
end Go.Proofs.YtflgiejnklbjnaaDoor
