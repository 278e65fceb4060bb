/-
  The reference's Decode. Condition: the length is bounded.
-/
import Derived.Test.YtflgiejnklbjnaaEnc
import Derived.Test.YtflgiejnklbjnaaLawR
import Derived.Lib.AppendStr
namespace Go.Proofs.Ytflgiejnklbjnaa
open Go.RowKit
theorem sl_cut (s : ByteArray) (i n : Nat) : sl (s.extract i (i + n)) = ((sl s).drop i).take n := by
  unfold sl
  rw [ByteArray.data_extract, Array.toList_extract]
  simp [List.extract]
set_option maxHeartbeats 4000000 in
set_option maxRecDepth 100000 in
theorem refDecode_any (a : Option Addr) (cap : Nat) (bs : List UInt8) (w : World) (hl : bs.length ≤ 100000000) (h : HasBytes w a bs) :
    Calls Try.prog 21 #[.slice a bs.length cap] w fun e w' => e = .returned (.tuple #[.string (strOf (decOut bs).1), .int .i64 (decOut bs).2]) ∧ Below w.heap.size w w' := by
  by_cases hbig : 65536 < bs.length
  · have ho : decOut bs = ([], 3) := by unfold decOut; rw [if_pos hbig]
    rw [ho]
    clear ho
    go_enter Try.func21, Try.ntmps21
    go_wp2
    go_ret2
    exact ⟨rfl, Below.refl _ _⟩
  · have ho : decOut bs = ((decSt (runesL bs)).2, 0) := by unfold decOut; rw [if_neg hbig]
    have HO := hid_mk ho
    clear ho
    have hcv := bytes_conv w a cap bs h
    go_enter Try.func21, Try.ntmps21
    have hz : (strOf bs).size = bs.length := by show bs.toArray.size = _; rw [List.size_toArray]
    generalize hs : strOf bs = s at hcv hz
    have hss : sl s = bs := by rw [← hs, sl_strOf]
    have HSS := hid_mk hss
    clear hss hs
    go_wp2_with fail
    go_loopw [5, 6] (fun vb va wr => ∃ (pos : Nat) (rs : List Nat), va = .int .i64 (pos : Int) ∧ pos ≤ bs.length ∧ Hid (rs ++ runesL (bs.drop pos) = runesL bs) ∧ Hid ((decSt rs).1 = 13 → atL (bs.drop pos) 0 ≠ 10) ∧ Hid (wr.ownsRow w.heap.size 5 1 vb (decSt rs).2.length (Lib.byteCells (decSt rs).2) ∧ Below w.heap.size w wr)) (fun _ va _ => bs.length - (intOf va).toNat)
    case atStart => exact ⟨0, [], rfl, by omega, hid_mk rfl, hid_mk (fun h0 => by cases h0), hid_mk ⟨⟨rfl, .inl ⟨rfl, rfl⟩⟩, Below.refl _ _⟩⟩
    case round =>
      obtain ⟨pos, rs, rfl, hps, hrs, hbf, HS⟩ := hrel
      by_cases hp : pos < bs.length
      · have hp' : (pos : Int) < (bs.length : Int) := by omega
        have hp2 : (pos : Int) ≤ (bs.length : Int) := by omega
        have hL : 0 < (bs.drop pos).length := by rw [List.length_drop]; omega
        have hcf := cut_facts _ hL
        rw [List.length_drop] at hcf
        obtain ⟨n1, n2, n4, r1, hbad⟩ := hcf
        have hcons := hid_mk (show rs ++ (cutL (bs.drop pos)).r :: runesL (bs.drop (pos + (cutL (bs.drop pos)).n)) = runesL bs from by
          have := hrs.out
          rw [runesL_cons _ hL, List.drop_drop] at this
          exact this)
        have hlen : (decSt rs).2.length ≤ 300000 := by
          have h1 := decSt_len rs (0, [])
          have h2 := congrArg List.length hrs.out
          have h3 := runesL_len bs
          rw [List.length_append] at h2
          have h1' : (decSt rs).2.length ≤ 4 * rs.length := by simpa [decSt] using h1
          omega
        have HBAD := hid_mk hbad
        clear hbad
        go_wp2_with fail
        refine (refCut_any (s.extract pos bs.length) (by rw [← hz, size_extract]; omega) (by rw [← hz, size_extract]; omega) _).mono ?_
        rintro e w1 ⟨rfl, hb1⟩
        have hxs : sl (s.extract pos bs.length) = bs.drop pos := by rw [← hz, sl_extract, HSS.out]
        rw [hxs]
        clear hxs
        have HS1 := hid_mk (And.intro (own_below HS.out.1 hb1) (And.intro (HS.out.2.trans (hb1.mono HS.out.2.size)) (Nat.le_trans HS.out.2.size hb1.size)))
        have hsz := HS1.out.2.2
        clear HS hb1
        have hsn := hid_mk (fun (r : Nat) => decSt_snoc rs r)
        obtain ⟨bf, hbfe⟩ : ∃ bf, bf = (decSt rs).1 := ⟨_, rfl⟩
        obtain ⟨acc, hacc⟩ : ∃ acc, acc = (decSt rs).2 := ⟨_, rfl⟩
        rw [← hacc] at HS1 hlen
        rw [← hbfe] at hbf
        have HST := hid_mk (And.intro hbfe hacc)
        clear hbfe hacc
        by_cases hok : (cutL (bs.drop pos)).ok = true
        · by_cases h13 : (cutL (bs.drop pos)).r = 13
          · have hn1 := (cut_cr _ h13).1
            rw [hok, h13, hn1]
            rw [h13, hn1] at hcons
            clear hok h13 hn1 n1 n2 n4 r1
            go_wp2_with (at_builtin; refine Classical.byContradiction fun hno => ?_)
            refine hno ?_
            clear hno
            obtain ⟨i0, hi, hz0, hz1, hz2⟩ := info_parts infoByte
            refine wpList_append_own _ rfl (.tmp 41) (.tmp 42) _ rfl w.heap.size 5 i0 _ 1 1 Try.underlying22 hi hz0 hz1 hz2 rfl (by decide) _ acc.length (Lib.byteCells acc) rfl ((HS1.out.1.alloc _).alloc _) ⟨w1.heap.size + 1, 0, none⟩ 1 1 [.int .u8 10] rfl rfl ?c1 ?c2 ?c3 ?c4 ?c5 ?_
            case c1 =>
              intro j u hu
              have hcr := cell_of_row _ _ j _ _ _ (heap_alloc_new (w1.alloc (.cells #[.int .i32 13, .int .i64 1, .bool true] 48)) (.cells #[.int .u8 10] 5))
              rw [show (w1.alloc (.cells #[.int .i32 13, .int .i64 1, .bool true] 48)).heap.size = w1.heap.size + 1 by simp] at hcr
              rw [addr_add0]
              refine hcr.trans ?_
              simpa using hu
            case c2 =>
              intro u hu
              have hall : ∀ u ∈ ([.int .u8 10] : List Value), u.oneCell' = true := by decide
              exact hall u hu
            case c3 => unfold maxLen; omega
            case c4 => omega
            case c5 => simp; omega
            intro v' w2 hown1 hgrow _
            clear hi hz0 hz1 hz2
            clear i0
            have hbB : ((w1.alloc (.cells #[.int .i32 13, .int .i64 1, .bool true] 48)).alloc (.cells #[.int .u8 10] 5)).heap[w1.heap.size]? = some (.cells #[.int .i32 13, .int .i64 1, .bool true] 48 (0, 0)) := by
              rw [Below.heap_alloc _ _ _ (by simp)]
              exact heap_alloc_new w1 _
            have hne := own_ne ((HS1.out.1.alloc _).alloc _) hbB (by decide)
            have hp1 : w2.heap[w1.heap.size]? = some (.cells #[.int .i32 13, .int .i64 1, .bool true] 48 (0, 0)) := by
              rw [hgrow.block w1.heap.size (by simp; omega) (fun e => hne e.symm)]
              exact hbB
            have c1 : w2.cell? ⟨w1.heap.size, 1, none⟩ = some (.int .i64 1) := cell_of_row _ _ 1 _ _ _ hp1
            have hb2 : Below w.heap.size w w2 := ((HS1.out.2.1.alloc hsz _).alloc (by simp; omega) _).grown hgrow (by simp; omega) (fun k hk => own_base HS1.out.1 k hk)
            have hfin := hid_mk (And.intro hown1 hb2)
            clear HS1 hown1 hgrow hbB hne hp1 hb2 hcv
            have hp13 : piece bf 13 = [10] := by unfold piece; rw [if_pos rfl]
            have hst : decSt (rs ++ [13]) = (13, acc ++ [10]) := by
              rw [hsn.out]
              unfold decStep
              rw [← HST.out.1, ← HST.out.2, hp13]
            have hown2 := hid_mk (show w2.ownsRow w.heap.size 5 1 v' (acc ++ [10]).length (Lib.byteCells (acc ++ [10])) from by
              rw [Lib.byteCells_append, List.length_append]
              exact hfin.out.1)
            have hw1 : IntKind.i64.wrap ((pos : Int) + 1) = (pos : Int) + 1 := IntWalk.i64_in _ (by omega)
            have hpos0 : (0 : Int) ≤ (pos : Int) + 1 := by omega
            have HST1 := hid_mk hst
            clear hst hp13
            by_cases hnl : pos + 1 < bs.length
            · have hnl' : (pos : Int) + 1 < (bs.length : Int) := by omega
              have hsz2 : pos + 1 < s.size := by rw [hz]; exact hnl
              have hby := byte_atL s (pos + 1) hsz2
              rw [HSS.out] at hby
              have hat : atL bs (pos + 1) = atL (bs.drop (pos + 1)) 0 := by rw [atL_drop]
              by_cases hnx : atL (bs.drop (pos + 1)) 0 = 10
              · rw [hat, hnx] at hby
                have hcl := cut_lf _ hnx
                have hrest := hid_mk (show runesL (bs.drop (pos + 1)) = 10 :: runesL (bs.drop (pos + 2)) from by
                  rw [runesL_cons _ (by rw [List.length_drop]; omega), hcl, List.drop_drop]
                  rfl)
                have hst2 := hid_mk (show decSt (rs ++ [13, 10]) = (10, acc ++ [10]) from by
                  rw [show rs ++ [13, 10] = (rs ++ [13]) ++ [10] by simp, decSt_snoc, HST1.out]
                  show (10, (acc ++ [10]) ++ piece 13 10) = _
                  rw [show piece 13 10 = [] from rfl, List.append_nil])
                clear hat hcl
                go_wp2_with fail
                refine ⟨⟨pos + 2, rs ++ [13, 10], by first | rfl | go_num, by omega, hid_mk (by have h := hcons.out; rw [hrest.out] at h; rw [List.append_assoc]; exact h), hid_mk (fun h0 => by rw [hst2.out] at h0; cases h0), hid_mk ⟨by rw [hst2.out]; exact hown2.out, hfin.out.2⟩⟩, ?_⟩
                simp [intOf]
                omega
              · have hnx2 := hid_mk hnx
                rw [hat] at hby
                generalize atL (bs.drop (pos + 1)) 0 = y at hby hnx
                have hy1 : ((y : Int) == 10) = false := by simp; omega
                have hy2 : (y == 10) = false := by simp; omega
                have hy3 : decide (y = 10) = false := by simp; omega
                clear hat hnx
                go_wp2_with fail
                refine ⟨⟨pos + 1, rs ++ [13], by first | rfl | go_num, by omega, hid_mk (by rw [List.append_assoc]; exact hcons.out), hid_mk (fun _ => hnx2.out), hid_mk ⟨by rw [HST1.out]; exact hown2.out, hfin.out.2⟩⟩, ?_⟩
                simp [intOf]
                omega
            · have hnx2 := hid_mk (show atL (bs.drop (pos + 1)) 0 ≠ 10 from by
                rw [List.drop_eq_nil_of_le (by omega)]
                decide)
              have hy1 : decide ((pos : Int) + 1 < (bs.length : Int)) = false := by simp; omega
              have hy2 : decide (pos + 1 < bs.length) = false := by simp; omega
              clear hnl
              go_wp2_with fail
              refine ⟨⟨pos + 1, rs ++ [13], by first | rfl | go_num, by omega, hid_mk (by rw [List.append_assoc]; exact hcons.out), hid_mk (fun _ => hnx2.out), hid_mk ⟨by rw [HST1.out]; exact hown2.out, hfin.out.2⟩⟩, ?_⟩
              simp [intOf]
              omega
          · have henc := hid_mk (cut_enc _ hL hok)
            have hno := hid_mk (fun (h10 : (cutL (bs.drop pos)).r = 10) (hb : bf = 13) => hbf.out hb (cut_ten _ h10))
            have h13' : (((cutL (bs.drop pos)).r : Int) == 13) = false := by simp; omega
            rw [hok]
            generalize (cutL (bs.drop pos)).r = r at *
            generalize (cutL (bs.drop pos)).n = n at *
            clear hok hbf HBAD
            have hpn : (pos : Int) ≤ (pos : Int) + (n : Int) := by omega
            have hpn2 : (pos : Int) + (n : Int) ≤ (bs.length : Int) := by omega
            go_wp2_with (at_builtin; refine Classical.byContradiction fun hno => ?_)
            refine hno ?_
            clear hno
            obtain ⟨i0, hi, hz0, hz1, hz2⟩ := info_parts infoByte
            have hxs : (s.extract pos (pos + n)).size = n := by rw [ByteArray.size_extract, hz]; omega
            refine Lib.wpList_append_own_string _ rfl (.tmp 21) (.tmp 28) _ _ rfl w.heap.size 5 i0 Try.underlying22 Try.underlying9 hi hz0 hz1 hz2 _ acc.length (Lib.byteCells acc) rfl (HS1.out.1.alloc _) (s.extract pos (pos + n)) rfl (by unfold maxLen; omega) (by omega) (by simp; omega) ?_
            intro v' w2 hown1 hgrow _
            clear hi hz0 hz1 hz2
            clear i0
            have hbB : (w1.alloc (.cells #[.int .i32 r, .int .i64 n, .bool true] 48)).heap[w1.heap.size]? = some (.cells #[.int .i32 r, .int .i64 n, .bool true] 48 (0, 0)) := heap_alloc_new w1 _
            have hne := own_ne (HS1.out.1.alloc _) hbB (by decide)
            have hp1 : w2.heap[w1.heap.size]? = some (.cells #[.int .i32 r, .int .i64 n, .bool true] 48 (0, 0)) := by
              rw [hgrow.block w1.heap.size (by simp) (fun e => hne e.symm)]
              exact hbB
            have c1 : w2.cell? ⟨w1.heap.size, 1, none⟩ = some (.int .i64 n) := cell_of_row _ _ 1 _ _ _ hp1
            have hb2 : Below w.heap.size w w2 := (HS1.out.2.1.alloc hsz _).grown hgrow (by simp; omega) (fun k hk => own_base HS1.out.1 k hk)
            have hfin := hid_mk (And.intro hown1 hb2)
            clear HS1 hown1 hgrow hbB hne hp1 hb2 hcv
            have hpc : piece bf r = Lib.encodeRune (r : Nat) := by
              unfold piece
              rw [if_neg h13, if_neg (fun h => hno.out h.1 h.2)]
            have hst : decSt (rs ++ [r]) = (r, acc ++ Lib.encodeRune (r : Nat)) := by
              rw [hsn.out]
              unfold decStep
              rw [← HST.out.1, ← HST.out.2, hpc]
            have hsc : Lib.strCells (s.extract pos (pos + n)) = Lib.byteCells (Lib.encodeRune (r : Nat)) := by
              show Lib.byteCells (sl (s.extract pos (pos + n))) = _
              rw [← henc.out, sl_cut, HSS.out]
            have hlen2 : (Lib.encodeRune (r : Nat)).length = n := by
              rw [← henc.out, List.length_take, List.length_drop]
              omega
            go_wp2
            go_roundw
            case rel => exact ⟨pos + n, rs ++ [r], by first | rfl | go_num, by omega, hid_mk (by rw [List.append_assoc]; exact hcons.out), hid_mk (fun h0 => by rw [hst] at h0; exact absurd h0 h13), hid_mk (by rw [hst]; refine ⟨?_, hfin.out.2⟩; show w2.ownsRow _ _ _ _ (acc ++ Lib.encodeRune (r : Nat)).length (Lib.byteCells (acc ++ Lib.encodeRune (r : Nat))); have hh := hfin.out.1; rw [hsc, hxs] at hh; rw [Lib.byteCells_append, List.length_append, hlen2]; exact hh)⟩
            case measure => simp [intOf]; omega
        · have hok' : (cutL (bs.drop pos)).ok = false := by simpa using hok
          have hr5 := (HBAD.out hok').1
          rw [hok', hr5]
          rw [hr5] at hcons
          generalize (cutL (bs.drop pos)).n = n at *
          clear hok hok' hr5 HBAD hbf
          go_wp2_with (at_builtin; refine Classical.byContradiction fun hno => ?_)
          refine hno ?_
          clear hno
          obtain ⟨i0, hi, hz0, hz1, hz2⟩ := info_parts infoByte
          refine wpList_append_own _ rfl (.tmp 34) (.tmp 35) _ rfl w.heap.size 5 i0 _ 1 1 Try.underlying22 hi hz0 hz1 hz2 rfl (by decide) _ acc.length (Lib.byteCells acc) rfl ((HS1.out.1.alloc _).alloc _) ⟨w1.heap.size + 1, 0, none⟩ 3 3 [.int .u8 239, .int .u8 191, .int .u8 189] rfl rfl ?c1 ?c2 ?c3 ?c4 ?c5 ?_
          case c1 =>
            intro j u hu
            have hcr := cell_of_row _ _ j _ _ _ (heap_alloc_new (w1.alloc (.cells #[.int .i32 65533, .int .i64 n, .bool false] 48)) (.cells #[.int .u8 239, .int .u8 191, .int .u8 189] 5))
            rw [show (w1.alloc (.cells #[.int .i32 65533, .int .i64 n, .bool false] 48)).heap.size = w1.heap.size + 1 by simp] at hcr
            rw [addr_add0]
            refine hcr.trans ?_
            simpa using hu
          case c2 =>
            intro u hu
            have hall : ∀ u ∈ ([.int .u8 239, .int .u8 191, .int .u8 189] : List Value), u.oneCell' = true := by decide
            exact hall u hu
          case c3 => unfold maxLen; omega
          case c4 => omega
          case c5 => simp; omega
          intro v' w2 hown1 hgrow _
          clear hi hz0 hz1 hz2
          clear i0
          have hbB : ((w1.alloc (.cells #[.int .i32 65533, .int .i64 n, .bool false] 48)).alloc (.cells #[.int .u8 239, .int .u8 191, .int .u8 189] 5)).heap[w1.heap.size]? = some (.cells #[.int .i32 65533, .int .i64 n, .bool false] 48 (0, 0)) := by
            rw [Below.heap_alloc _ _ _ (by simp)]
            exact heap_alloc_new w1 _
          have hne := own_ne ((HS1.out.1.alloc _).alloc _) hbB (by decide)
          have hp1 : w2.heap[w1.heap.size]? = some (.cells #[.int .i32 65533, .int .i64 n, .bool false] 48 (0, 0)) := by
            rw [hgrow.block w1.heap.size (by simp; omega) (fun e => hne e.symm)]
            exact hbB
          have c1 : w2.cell? ⟨w1.heap.size, 1, none⟩ = some (.int .i64 n) := cell_of_row _ _ 1 _ _ _ hp1
          have hb2 : Below w.heap.size w w2 := ((HS1.out.2.1.alloc hsz _).alloc (by simp; omega) _).grown hgrow (by simp; omega) (fun k hk => own_base HS1.out.1 k hk)
          have hfin := hid_mk (And.intro hown1 hb2)
          clear HS1 hown1 hgrow hbB hne hp1 hb2 hcv
          have hpc : piece bf 65533 = [239, 191, 189] := by
            unfold piece
            rw [if_neg (by decide), if_neg (fun h => absurd h.1 (by decide))]
            decide
          have hst : decSt (rs ++ [65533]) = (65533, acc ++ [239, 191, 189]) := by
            rw [hsn.out]
            unfold decStep
            rw [← HST.out.1, ← HST.out.2, hpc]
          go_wp2
          go_roundw
          case rel => exact ⟨pos + n, rs ++ [65533], by first | rfl | go_num, by omega, hid_mk (by rw [List.append_assoc]; exact hcons.out), hid_mk (fun h0 => by rw [hst] at h0; cases h0), hid_mk (by rw [hst]; refine ⟨?_, hfin.out.2⟩; show w2.ownsRow _ _ _ _ (acc ++ [239, 191, 189]).length (Lib.byteCells (acc ++ [239, 191, 189])); rw [Lib.byteCells_append, List.length_append]; exact hfin.out.1)⟩
          case measure => simp [intOf]; omega
        
      · obtain rfl : pos = bs.length := by omega
        have hv : rs = runesL bs := by
          have := hrs.out
          rw [List.drop_eq_nil_of_le (Nat.le_refl _), runesL_nil, List.append_nil] at this
          exact this
        rw [hv] at HS
        obtain ⟨a', cap', hv', hhas⟩ := own_bytes HS.out.1
        have hcv2 := bytes_conv wr a' cap' _ hhas
        have HB := hid_mk HS.out.2
        have hp' : ¬ ((bs.length : Nat) : Int) < (bs.length : Int) := by omega
        subst hv'
        clear HS hhas hv hp hrs hbf hcv
        go_wp2
        go_ret2
        rw [HO.out]
        exact ⟨rfl, HB.out⟩
end Go.Proofs.Ytflgiejnklbjnaa
