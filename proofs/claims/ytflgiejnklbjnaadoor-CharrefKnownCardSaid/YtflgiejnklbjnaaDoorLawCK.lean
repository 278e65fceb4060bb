/-
  The law of layer 3 about the examples and all names: it returns true. Condition: the table of replaced characters lies in the first package-level variable.
-/
import Derived.Test.YtflgiejnklbjnaaDoorLawCM
import Derived.Test.YtflgiejnklbjnaaDoorLawCD
import Derived.Deep.RegionHeld
namespace Go.Proofs.YtflgiejnklbjnaaDoor
open Go.RowKit
def litC : List (List UInt8 × List UInt8) := [([38, 97, 109, 112, 59, 108, 116, 59, 32, 38, 108, 116, 32, 38, 110, 111, 116, 105, 110, 59, 32, 38, 110, 111, 116, 105, 110, 32, 38, 110, 111, 116, 105], [38, 108, 116, 59, 32, 60, 32, 226, 136, 137, 32, 194, 172, 105, 110, 32, 194, 172, 105]), ([38, 99, 111, 112, 121, 61, 49, 32, 38, 99, 111, 112, 121, 59, 61, 49, 32, 38, 99, 111, 112, 121, 120], [194, 169, 61, 49, 32, 194, 169, 61, 49, 32, 194, 169, 120]), ([38, 35, 54, 53, 59, 32, 38, 35, 120, 52, 49, 59, 32, 38, 35, 88, 52, 49, 32, 38, 35, 54, 53, 120, 32, 38, 35, 59, 32, 38, 35, 120, 59, 32, 38, 35], [65, 32, 65, 32, 65, 32, 65, 120, 32, 38, 35, 59, 32, 38, 35, 120, 59, 32, 38, 35]), ([38, 35, 48, 59, 32, 38, 35, 120, 68, 56, 48, 48, 59, 32, 38, 35, 49, 49, 49, 52, 49, 49, 50, 59, 32, 38, 35, 49, 50, 56, 59, 32, 38, 35, 49, 50, 57, 59], [239, 191, 189, 32, 239, 191, 189, 32, 239, 191, 189, 32, 226, 130, 172, 32, 194, 129]), ([38, 117, 110, 107, 110, 111, 119, 110, 59, 32, 38, 32, 38, 59, 32, 38, 65, 77, 80, 32, 38, 65, 109, 112, 59], [38, 117, 110, 107, 110, 111, 119, 110, 59, 32, 38, 32, 38, 59, 32, 38, 32, 38, 65, 109, 112, 59]), ([38, 35, 57, 57, 57, 57, 57, 57, 57, 57, 57, 57, 57, 57, 57, 57, 57, 57, 57, 57, 57, 57, 57, 57, 57, 59, 38, 35, 120, 48, 48, 48, 48, 48, 48, 48, 48, 48, 48, 48, 48, 48, 48, 52, 49, 59, 38, 35, 49, 51, 59], [239, 191, 189, 65, 13]), ([38, 38, 97, 109, 112, 59, 38], [38, 38, 38]), ([], [])]
def pairCellsOf (l : List (List UInt8 × List UInt8)) : List Value := l.flatMap fun p => [.string (strOf p.1), .string (strOf p.2)]
theorem litC_dec : ∀ j, j < 8 → decL (litC.getD j ([], [])).1 false = (litC.getD j ([], [])).2 := by decide +kernel
theorem litC_len : ∀ j, j < 8 → (litC.getD j ([], [])).1.length ≤ 100 ∧ (litC.getD j ([], [])).2.length ≤ 100 := by decide +kernel
theorem pairCells_at : ∀ (l : List (List UInt8 × List UInt8)) (j : Nat), j < l.length → (pairCellsOf l)[2 * j]? = some (.string (strOf (l.getD j ([], [])).1)) ∧ (pairCellsOf l)[2 * j + 1]? = some (.string (strOf (l.getD j ([], [])).2))
  | [], j, h => by simp at h
  | p :: l, 0, _ => ⟨rfl, rfl⟩
  | p :: l, j + 1, h => by
    have ih := pairCells_at l j (by simpa using h)
    rw [show 2 * (j + 1) + 1 = (2 * j + 1) + 2 from by omega, show 2 * (j + 1) = 2 * j + 2 from by omega]
    exact ih
def restC : List (List UInt8) := [[], [59], [61], [120], [32], [59, 59], [38]]
theorem restC_len : ∀ k, k < 7 → (restC.getD k []).length ≤ 2 := by decide
/-- Decoded without its ;, a name is its character just if it stands alone. -/
theorem alone_dec : ∀ k, k < 59 → (decide (decL (38 :: (refTab.getD k ([], 0, false)).1) false = Lib.encodeRune (((refTab.getD k ([], 0, false)).2.1 : Nat) : Int))) = (refTab.getD k ([], 0, false)).2.2 := by decide +kernel
theorem lit_notin : decL (sl ⟨#[38, 110, 111, 116, 105, 110, 32, 38, 110, 111, 116, 105]⟩) true = [38, 110, 111, 116, 105, 110, 32, 38, 110, 111, 116, 105] := by decide +kernel
theorem dec_notin (w : World) (hT : Tab w) :
    Calls Tryd.prog 14 #[.string ⟨#[38, 110, 111, 116, 105, 110, 32, 38, 110, 111, 116, 105]⟩, .bool true] w fun e w' => e = .returned (.string ⟨#[38, 110, 111, 116, 105, 110, 32, 38, 110, 111, 116, 105]⟩) ∧ Next w w' := by
  have h := decode_any ⟨#[38, 110, 111, 116, 105, 110, 32, 38, 110, 111, 116, 105]⟩ (by decide) true w hT
  rw [lit_notin] at h
  exact h
set_option maxHeartbeats 8000000 in
set_option maxRecDepth 100000 in
theorem charrefKnown_w (w : World) (hT : Tab w) :
    Calls Tryd.prog 9 #[] w fun e w' => e = .returned (.bool true) ∧ Next w w' := by
  have HT := hid_mk hT
  clear hT
  go_enter Tryd.func9, Tryd.ntmps9
  go_wp2_with fail
  have hrow := hid_mk (show (w.alloc (.cells (pairCellsOf litC).toArray 9)).heap[w.heap.size]? = some (.cells (pairCellsOf litC).toArray 9 (0, 0)) ∧ Next w (w.alloc (.cells (pairCellsOf litC).toArray 9)) from ⟨heap_alloc_new w _, (Next.refl HT.out).alloc _⟩)
  go_loopw [2] (fun vi wr => ∃ i j : Nat, i ≤ 16 ∧ vi = .int .i64 (i : Int) ∧ Hid (i = 2 * j) ∧ Hid (wr.heap[w.heap.size]? = some (.cells (pairCellsOf litC).toArray 9 (0, 0)) ∧ Next w wr)) (fun vi _ => 16 - (intOf vi).toNat)
  case atStart => exact ⟨0, 0, by omega, rfl, hid_mk rfl, hrow⟩
  case round =>
    obtain ⟨i, j, hi, rfl, hij, HW⟩ := hrel
    generalize wr = wo at *
    clear hrow
    by_cases hin : i < 16
    · have hin' : (i : Int) < 16 := by omega
      have hi0 : (0 : Int) ≤ (i : Int) := by omega
      have hj : j < 8 := by have := hij.out; omega
      have hi14 : i ≤ 14 := by have := hij.out; omega
      have hi15 : (i : Int) + 1 < 16 := by omega
      have hce := pairCells_at litC j hj
      have e0 : wo.cell? ⟨w.heap.size, i, none⟩ = some (.string (strOf (litC.getD j ([], [])).1)) := by
        rw [cell_of_row _ _ i _ _ _ HW.out.1, hij.out, List.getElem?_toArray]
        exact hce.1
      have e1 : wo.cell? ⟨w.heap.size, i + 1, none⟩ = some (.string (strOf (litC.getD j ([], [])).2)) := by
        rw [cell_of_row _ _ (i + 1) _ _ _ HW.out.1, hij.out, List.getElem?_toArray]
        exact hce.2
      have hd := hid_mk (fun w hT => decode_any (strOf (litC.getD j ([], [])).1) (by have := (litC_len j hj).1; rw [size_strOf]; omega) false w hT)
      rw [sl_strOf, litC_dec j hj] at hd
      have hij2 := hid_mk (show i + 2 = 2 * (j + 1) by have := hij.out; omega)
      have hlt : w.heap.size < wo.heap.size := (Array.getElem?_eq_some_iff.1 HW.out.1).1
      have hkeep := hid_mk (show ∀ w', Next wo w' → w'.heap[w.heap.size]? = some (.cells (pairCellsOf litC).toArray 9 (0, 0)) ∧ Next w w' from fun w' n => ⟨(n.1.block _ hlt).trans HW.out.1, HW.out.2.trans n⟩)
      have hTo := hid_mk HW.out.2.2
      clear hce hij HW
      generalize strOf (litC.getD j ([], [])).1 = X at *
      generalize strOf (litC.getD j ([], [])).2 = Y at *
      have s1 : IntKind.i64.wrap ((i : Int) + 1) = (i : Int) + 1 := IntWalk.i64_in _ (by omega)
      have s2 : (0 : Int) ≤ (i : Int) + 1 := by omega
      have s3 : ((i : Int) + 1).toNat = i + 1 := by omega
      go_wp2_with fail
      go_region_held3 (fun w' => w'.cell? ⟨w.heap.size, i, none⟩ = some (.string X) ∧ w'.cell? ⟨w.heap.size, i + 1, none⟩ = some (.string Y) ∧ Next wo w')
        (first
          | exact ⟨e0, e1, (Next.refl hTo.out).drewN 1⟩
          | (go_split_ands; exact ⟨((‹Next wo _›).trans nA).cell e0, ((‹Next wo _›).trans nA).cell e1, (‹Next wo _›).trans nA⟩))
        (first
          | (go_at_call 14; go_split_ands; have hTn := (‹Next wo _›).2; ((with_reducible refine (hd.out _ hTn).mono ?_); rintro e w3 ⟨rfl, nA⟩)))
      go_split_ands
      clear s1 s2 s3
      have hfin := hid_mk (hkeep.out _ (by assumption))
      go_wp2
      go_roundw
      case rel => exact ⟨i + 2, j + 1, by omega, by first | rfl | go_num, hij2, hfin⟩
      case measure => simp [intOf]; omega
    · have hin' : ¬ (i : Int) < 16 := by omega
      have HB := hid_mk HW.out.2
      clear HW hij
      go_wp2_with fail
      refine (refNames_any wo).mono ?_
      rintro e w1 ⟨rfl, rfl⟩
      have hnm := hid_mk (show (wo.alloc (.cells refCells 26)).heap[wo.heap.size]? = some (.cells refCells 26 (0, 0)) ∧ Next w (wo.alloc (.cells refCells 26)) from ⟨heap_alloc_new wo _, HB.out.alloc _⟩)
      generalize wo.heap.size = g at *
      generalize wo.alloc (.cells refCells 26) = w1 at *
      go_wp2_with fail
      go_loopw [4] (fun vi wr => ∃ i : Nat, i ≤ 59 ∧ vi = .int .i64 (i : Int) ∧ Hid (wr.heap[g]? = some (.cells refCells 26 (0, 0)) ∧ Next w wr)) (fun vi _ => 59 - (intOf vi).toNat)
      case atStart => exact ⟨0, by omega, rfl, hnm⟩
      case round =>
        obtain ⟨i, hi, rfl, HW⟩ := hrel
        generalize wr = wo at *
        clear hnm HB
        by_cases hin : i < 59
        · have hin' : (i : Int) < 59 := by omega
          have hi0 : (0 : Int) ≤ (i : Int) := by omega
          have hil : i < refTab.length := by rw [lenR]; exact hin
          have hat := ref_at i hil
          have hmem := refTab_perm.1 _ (List.getElem_mem hil)
          have hal := alone_dec i hin
          have hgt : refTab.getD i ([], 0, false) = refTab[i] := by simp [List.getD, hil]
          rw [hgt] at hal
          have hgl : g < wo.heap.size := (Array.getElem?_eq_some_iff.1 HW.out.1).1
          have hkeep := hid_mk (show ∀ w', Next wo w' → w'.heap[g]? = some (.cells refCells 26 (0, 0)) ∧ Next w w' from fun w' n => ⟨(n.1.block _ hgl).trans HW.out.1, HW.out.2.trans n⟩)
          have hcell := hid_mk (show ∀ w', Next wo w' → w'.cell? ⟨g, i * 3, none⟩ = some (.string (strOf refTab[i].1)) ∧ w'.cell? ⟨g, i * 3 + 1, none⟩ = some (.int .i32 (refTab[i].2.1 : Int)) ∧ w'.cell? ⟨g, i * 3 + 2, none⟩ = some (.bool refTab[i].2.2) from fun w' n => by
            have hr := (hkeep.out w' n).1
            exact ⟨(cell_of_row _ _ _ _ _ _ hr).trans hat.1, (cell_of_row _ _ _ _ _ _ hr).trans hat.2.1, (cell_of_row _ _ _ _ _ _ hr).trans hat.2.2⟩)
          have hTo := hid_mk HW.out.2.2
          obtain ⟨c0, _⟩ := hcell.out wo (Next.refl hTo.out)
          have HM := hid_mk hmem
          have HAL := hid_mk hal
          clear hat hgt HW hmem hal
          generalize refTab[i] = en at *
          obtain ⟨nm, ch, alone⟩ := en
          simp only at c0
          have hz0 : (strOf nm).size ≤ 6 := by rw [size_strOf]; exact (tab_facts _ HM.out).2.1
          have hch : ch < 55296 := (tab_facts _ HM.out).2.2.1
          go_wp2_with fail
          have hr0 := hid_mk (show (∀ k, k < 7 → (wo.alloc (.cells (restC.map fun l => Value.string (strOf l)).toArray 9)).cell? ⟨wo.heap.size, k, none⟩ = some (.string (strOf (restC.getD k [])))) ∧ Next wo (wo.alloc (.cells (restC.map fun l => Value.string (strOf l)).toArray 9)) from by
            refine ⟨fun k hk => ?_, (Next.refl hTo.out).alloc _⟩
            rw [cell_of_row _ _ k _ _ _ (heap_alloc_new wo _)]
            have hl : restC.length = 7 := by decide
            simp [List.getD, hl, hk])
          go_loopw [43] (fun vk wr => ∃ k : Nat, k ≤ 7 ∧ vk = .int .i64 (k : Int) ∧ Hid ((∀ k, k < 7 → wr.cell? ⟨wo.heap.size, k, none⟩ = some (.string (strOf (restC.getD k [])))) ∧ Next wo wr)) (fun vk _ => (7 - intOf vk).toNat)
          case atStart => exact ⟨0, by omega, rfl, hr0⟩
          case round =>
            obtain ⟨k, hk, rfl, HR⟩ := hrel
            generalize wr = wk at *
            clear hr0
            by_cases hkn : k < 7
            · have hkn' : (k : Int) < 7 := by omega
              have hk0 : (0 : Int) ≤ (k : Int) := by omega
              have ck := HR.out.1 k hkn
              have hrs : (strOf (restC.getD k [])).size ≤ 2 := by rw [size_strOf]; exact restC_len k hkn
              generalize strOf (restC.getD k []) = RS at *
              have hwi : IntKind.u8.wrap (i : Int) = (i : Int) := wraps_u8 _ hi0 (by omega)
              go_wp2_with fail
              refine (charrefFinds_w _ i (by omega) RS true wk HR.out.2.2).mono ?_
              rintro e w3 ⟨rfl, hn3⟩
              have H3 := hid_mk (show (∀ k, k < 7 → w3.cell? ⟨wo.heap.size, k, none⟩ = some (.string (strOf (restC.getD k [])))) ∧ Next wo w3 from ⟨fun k hk => hn3.cell (HR.out.1 k hk), HR.out.2.trans hn3⟩)
              clear hn3 HR ck
              go_wp2_with fail
              refine (charrefFinds_w _ i (by omega) RS false w3 H3.out.2.2).mono ?_
              rintro e w4 ⟨rfl, hn4⟩
              have H4 := hid_mk (show (∀ k, k < 7 → w4.cell? ⟨wo.heap.size, k, none⟩ = some (.string (strOf (restC.getD k [])))) ∧ Next wo w4 from ⟨fun k hk => hn4.cell (H3.out.1 k hk), H3.out.2.trans hn4⟩)
              clear hn4 H3
              go_wp2
              go_roundw
              case rel => exact ⟨k + 1, by omega, by go_num, H4⟩
              case measure => simp [intOf]; omega
            · have hkn' : ¬ (k : Int) < 7 := by omega
              obtain ⟨_, c1, c2⟩ := hcell.out wk HR.out.2
              have hst := hid_mk (refString_next wk (ch : Int) (by omega) (HR.out.2.alloc _).2)
              have HN2 := hid_mk (HR.out.2.alloc (.cells #[.int .i32 (ch : Int)] 21))
              clear HR
              go_wp2_with fail
              refine hst.out.mono ?_
              rintro e w3 ⟨rfl, hn3⟩
              have H3 := hid_mk (HN2.out.trans hn3)
              clear hn3 hst HN2 c1 c2
              go_wp2_with fail
              obtain ⟨_, _, c2⟩ := hcell.out w3 H3.out
              have hX1 : sl ((⟨#[38]⟩ : ByteArray) ++ strOf nm) = 38 :: nm := by rw [sl_append, sl_strOf]; rfl
              have hX2 : sl ((⟨#[38]⟩ : ByteArray) ++ strOf nm ++ ⟨#[59]⟩) = 38 :: (nm ++ 59 :: []) := by rw [sl_append, hX1]; rfl
              have hXs : ((⟨#[38]⟩ : ByteArray) ++ strOf nm).size ≤ 7 := by
                rw [ByteArray.size_append]
                show 1 + (strOf nm).size ≤ 7
                omega
              have hXt : ((⟨#[38]⟩ : ByteArray) ++ strOf nm ++ ⟨#[59]⟩).size ≤ 8 := by
                rw [ByteArray.size_append]
                show ((⟨#[38]⟩ : ByteArray) ++ strOf nm).size + 1 ≤ 8
                omega
              have hdA := hid_mk (fun w hT => decode_any ((⟨#[38]⟩ : ByteArray) ++ strOf nm ++ ⟨#[59]⟩) (by omega) true w hT)
              rw [hX2, show 38 :: (nm ++ 59 :: []) = [] ++ 38 :: (nm ++ 59 :: []) from rfl, decL_name _ HM.out [] [] true (fun c hc => by cases hc), decL_nil, List.nil_append, List.append_nil] at hdA
              simp only at hdA
              have hdB := hid_mk (fun w hT => decode_any ((⟨#[38]⟩ : ByteArray) ++ strOf nm) (by omega) false w hT)
              rw [hX1] at hdB
              have hq : ((strOf (decL (38 :: nm) false)).toList == (strOf (Lib.encodeRune (ch : Int))).toList) = alone := by
                rw [Lib.toList_data, Lib.toList_data, ← HAL.out, Bool.eq_iff_iff]
                simp [strOf]
              have HX := hid_mk (rfl : ((⟨#[38]⟩ : ByteArray) ++ strOf nm ++ ⟨#[59]⟩) = ((⟨#[38]⟩ : ByteArray) ++ strOf nm ++ ⟨#[59]⟩))
              generalize strOf (decL (38 :: nm) false) = Q at *
              generalize strOf (Lib.encodeRune (ch : Int)) = EC at *
              clear hX1 hX2 hXt hz0 c0 HX
              generalize (⟨#[38]⟩ : ByteArray) ++ strOf nm = X at *
              have q1 : ¬ 9223372036854775807 < X.size + 1 := by omega
              have hT3 := hid_mk H3.out.2
              cases alone with
              | true =>
                refine wp_region_held_drew (S := (fun w' => w'.cell? ⟨g, i * 3 + 2, none⟩ = some (.bool true) ∧ Next wo w')) (by kernel_rfl) ⟨c2, H3.out.drewN 1⟩ (fun hHeld => ?_)
                refine wpAnyH_take (i := 0) (oi := { dst := some 73, op := Op.move (Operand.tmp 5), type := 9, pos := "law.go:124", after := #[], guard := none }) (v := ?valp0) rfl (by kernel_rfl) (by kernel_rfl) (by kernel_rfl) (fun _ _ _ h => h) (Or.inl ⟨by rfl, ?hyp0⟩) (by assumption) ?_
                case hyp0 => (intro w hSw; (try dsimp only at hSw); go_split_ands; go_simp; try with_reducible rfl)
                try simp only [Act.put, List.setIfInBounds_toArray, List.set_cons_zero, List.set_cons_succ]
                refine wpAnyH_take (i := 1) (oi := { dst := some 74, op := Op.binOp BinOp.add 9 (Operand.tmp 73) (Operand.const (Value.string { data := #[59] })) 9, type := 9, pos := "law.go:124", after := #[{ on := 0, ground := Ground.data }], guard := none }) (v := ?valp1) rfl (by kernel_rfl) (by kernel_rfl) (by kernel_rfl) (fun _ _ _ h => h) (Or.inl ⟨by rfl, ?hyp1⟩) (by assumption) ?_
                case hyp1 => (intro w hSw; (try dsimp only at hSw); go_split_ands; go_simp; try with_reducible rfl)
                try simp only [Act.put, List.setIfInBounds_toArray, List.set_cons_zero, List.set_cons_succ]
                refine wpAnyH_take (i := 3) (oi := { dst := some 76, op := Op.move (Operand.tmp 8), type := 9, pos := "law.go:124", after := #[], guard := none }) (v := ?valp3) rfl (by kernel_rfl) (by kernel_rfl) (by kernel_rfl) (fun _ _ _ h => h) (Or.inl ⟨by rfl, ?hyp3⟩) (by assumption) ?_
                case hyp3 => (intro w hSw; (try dsimp only at hSw); go_split_ands; go_simp; try with_reducible rfl)
                try simp only [Act.put, List.setIfInBounds_toArray, List.set_cons_zero, List.set_cons_succ]
                refine wpAnyH_ready (rs := [2]) (by kernel_rfl) (by simp) ?_
                refine AllReadyH.cons (o := { dst := some 75, op := Op.call { callee := Callee.value (Operand.func 14), args := #[Operand.tmp 74, Operand.const (Value.bool true)], argTypes := #[9, 4] }, type := 9, pos := "law.go:124", after := #[{ on := 1, ground := Ground.data }], guard := none }) rfl (fun K hK => ?_) AllReadyH.nil
                go_simp
                (have hTn := hHeld.2.2; first | ((with_reducible refine (hdA.out _ hTn).mono ?_); rintro e w5 ⟨rfl, nA⟩) | ((with_reducible refine (hdB.out _ hTn).mono ?_); rintro e w5 ⟨rfl, nB⟩))
                try go_wp2_with fail
                refine hK.out _ _ ?_ (fun hHeld2 => ?_)
                · first | exact ⟨nA.cell hHeld.1, hHeld.2.trans nA⟩ | exact ⟨nB.cell hHeld.1, hHeld.2.trans nB⟩
                clear hK K hHeld
                have hHeld := hHeld2
                clear hHeld2
                try simp only [Act.put, List.setIfInBounds_toArray, List.set_cons_zero, List.set_cons_succ]
                refine wpAnyH_take (i := 4) (oi := { dst := some 77, op := Op.binOp BinOp.neq 9 (Operand.tmp 75) (Operand.tmp 76) 9, type := 4, pos := "law.go:124", after := #[{ on := 2, ground := Ground.data }, { on := 3, ground := Ground.data }], guard := none }) (v := ?valp4) rfl (by kernel_rfl) (by kernel_rfl) (by kernel_rfl) (fun _ _ _ h => h) (Or.inl ⟨by rfl, ?hyp4⟩) (by assumption) ?_
                case hyp4 => (intro w hSw; (try dsimp only at hSw); go_split_ands; go_simp; try with_reducible rfl)
                try simp only [Act.put, List.setIfInBounds_toArray, List.set_cons_zero, List.set_cons_succ]
                refine wpAnyH_take (i := 5) (oi := { dst := some 78, op := Op.move (Operand.tmp 77), type := 4, pos := "law.go:124", after := #[{ on := 4, ground := Ground.data }, { on := 2, ground := Ground.chain }], guard := none }) (v := ?valp5) rfl (by kernel_rfl) (by kernel_rfl) (by kernel_rfl) (fun _ _ _ h => h) (Or.inl ⟨by rfl, ?hyp5⟩) (by assumption) ?_
                case hyp5 => (intro w hSw; (try dsimp only at hSw); go_split_ands; go_simp; try with_reducible rfl)
                try simp only [Act.put, List.setIfInBounds_toArray, List.set_cons_zero, List.set_cons_succ]
                refine wpAnyH_take (i := 6) (oi := { dst := some 79, op := Op.move (Operand.tmp 5), type := 9, pos := "law.go:124", after := #[{ on := 5, ground := Ground.guard }], guard := some (5, false) }) (v := ?valp6) rfl (by kernel_rfl) (by kernel_rfl) (by kernel_rfl) (fun _ _ _ h => h) (Or.inl ⟨by rfl, ?hyp6⟩) (by assumption) ?_
                case hyp6 => (intro w hSw; (try dsimp only at hSw); go_split_ands; go_simp; try with_reducible rfl)
                try simp only [Act.put, List.setIfInBounds_toArray, List.set_cons_zero, List.set_cons_succ]
                refine wpAnyH_take (i := 8) (oi := { dst := some 81, op := Op.move (Operand.tmp 8), type := 9, pos := "law.go:124", after := #[{ on := 5, ground := Ground.guard }], guard := some (5, false) }) (v := ?valp8) rfl (by kernel_rfl) (by kernel_rfl) (by kernel_rfl) (fun _ _ _ h => h) (Or.inl ⟨by rfl, ?hyp8⟩) (by assumption) ?_
                case hyp8 => (intro w hSw; (try dsimp only at hSw); go_split_ands; go_simp; try with_reducible rfl)
                try simp only [Act.put, List.setIfInBounds_toArray, List.set_cons_zero, List.set_cons_succ]
                refine wpAnyH_take (i := 10) (oi := { dst := some 83, op := Op.move (Operand.tmp 3), type := 23, pos := "law.go:124", after := #[{ on := 5, ground := Ground.guard }], guard := some (5, false) }) (v := ?valp10) rfl (by kernel_rfl) (by kernel_rfl) (by kernel_rfl) (fun _ _ _ h => h) (Or.inl ⟨by rfl, ?hyp10⟩) (by assumption) ?_
                case hyp10 => (intro w hSw; (try dsimp only at hSw); go_split_ands; go_simp; try with_reducible rfl)
                try simp only [Act.put, List.setIfInBounds_toArray, List.set_cons_zero, List.set_cons_succ]
                refine wpAnyH_take (i := 11) (oi := { dst := some 84, op := Op.move (Operand.tmp 4), type := 3, pos := "law.go:124", after := #[{ on := 5, ground := Ground.guard }], guard := some (5, false) }) (v := ?valp11) rfl (by kernel_rfl) (by kernel_rfl) (by kernel_rfl) (fun _ _ _ h => h) (Or.inl ⟨by rfl, ?hyp11⟩) (by assumption) ?_
                case hyp11 => (intro w hSw; (try dsimp only at hSw); go_split_ands; go_simp; try with_reducible rfl)
                try simp only [Act.put, List.setIfInBounds_toArray, List.set_cons_zero, List.set_cons_succ]
                refine wpAnyH_take (i := 12) (oi := { dst := some 85, op := Op.indexAddr 23 (Operand.tmp 83) (Operand.tmp 84), type := 0, pos := "law.go:124", after := #[{ on := 10, ground := Ground.data }, { on := 11, ground := Ground.data }, { on := 5, ground := Ground.guard }], guard := some (5, false) }) (v := ?valp12) rfl (by kernel_rfl) (by kernel_rfl) (by kernel_rfl) (fun _ _ _ h => h) (Or.inl ⟨by rfl, ?hyp12⟩) (by assumption) ?_
                case hyp12 => (intro w hSw; (try dsimp only at hSw); go_split_ands; go_simp; try with_reducible rfl)
                try simp only [Act.put, List.setIfInBounds_toArray, List.set_cons_zero, List.set_cons_succ]
                refine wpAnyH_take (i := 13) (oi := { dst := some 86, op := Op.fieldAddr 26 (Operand.tmp 85) 2, type := 0, pos := "law.go:124", after := #[{ on := 12, ground := Ground.data }, { on := 5, ground := Ground.guard }], guard := some (5, false) }) (v := ?valp13) rfl (by kernel_rfl) (by kernel_rfl) (by kernel_rfl) (fun _ _ _ h => h) (Or.inl ⟨by rfl, ?hyp13⟩) (by assumption) ?_
                case hyp13 => (intro w hSw; (try dsimp only at hSw); go_split_ands; go_simp; try with_reducible rfl)
                try simp only [Act.put, List.setIfInBounds_toArray, List.set_cons_zero, List.set_cons_succ]
                refine wpAnyH_take (i := 14) (oi := { dst := some 87, op := Op.load 4 (Operand.tmp 86), type := 4, pos := "law.go:124", after := #[{ on := 13, ground := Ground.data }, { on := 5, ground := Ground.guard }], guard := some (5, false) }) (v := ?valp14) rfl (by kernel_rfl) (by kernel_rfl) (by kernel_rfl) (fun _ _ _ h => h) (Or.inl ⟨by rfl, ?hyp14⟩) (by assumption) ?_
                case hyp14 => (intro w hSw; (try dsimp only at hSw); go_split_ands; go_simp; try with_reducible rfl)
                try simp only [Act.put, List.setIfInBounds_toArray, List.set_cons_zero, List.set_cons_succ]
                refine wpAnyH_ready (rs := [7]) (by kernel_rfl) (by simp) ?_
                refine AllReadyH.cons (o := { dst := some 80, op := Op.call { callee := Callee.value (Operand.func 14), args := #[Operand.tmp 79, Operand.const (Value.bool false)], argTypes := #[9, 4] }, type := 9, pos := "law.go:124", after := #[{ on := 6, ground := Ground.data }, { on := 5, ground := Ground.chain }, { on := 5, ground := Ground.guard }], guard := some (5, false) }) rfl (fun K hK => ?_) AllReadyH.nil
                go_simp
                (have hTn := hHeld.2.2; first | ((with_reducible refine (hdA.out _ hTn).mono ?_); rintro e w5 ⟨rfl, nA⟩) | ((with_reducible refine (hdB.out _ hTn).mono ?_); rintro e w5 ⟨rfl, nB⟩))
                try go_wp2_with fail
                refine hK.out _ _ ?_ (fun hHeld2 => ?_)
                · first | exact ⟨nA.cell hHeld.1, hHeld.2.trans nA⟩ | exact ⟨nB.cell hHeld.1, hHeld.2.trans nB⟩
                clear hK K hHeld
                have hHeld := hHeld2
                clear hHeld2
                try simp only [Act.put, List.setIfInBounds_toArray, List.set_cons_zero, List.set_cons_succ]
                refine wpAnyH_take (i := 9) (oi := { dst := some 82, op := Op.binOp BinOp.eql 9 (Operand.tmp 80) (Operand.tmp 81) 9, type := 4, pos := "law.go:124", after := #[{ on := 7, ground := Ground.data }, { on := 8, ground := Ground.data }, { on := 5, ground := Ground.guard }], guard := some (5, false) }) (v := ?valp9) rfl (by kernel_rfl) (by kernel_rfl) (by kernel_rfl) (fun _ _ _ h => h) (Or.inl ⟨by rfl, ?hyp9⟩) (by assumption) ?_
                case hyp9 => (intro w hSw; (try dsimp only at hSw); go_split_ands; go_simp; try with_reducible rfl)
                try simp only [Act.put, List.setIfInBounds_toArray, List.set_cons_zero, List.set_cons_succ]
                refine wpAnyH_take (i := 15) (oi := { dst := some 88, op := Op.binOp BinOp.neq 4 (Operand.tmp 82) (Operand.tmp 87) 4, type := 4, pos := "law.go:124", after := #[{ on := 9, ground := Ground.data }, { on := 14, ground := Ground.data }, { on := 5, ground := Ground.guard }], guard := some (5, false) }) (v := ?valp15) rfl (by kernel_rfl) (by kernel_rfl) (by kernel_rfl) (fun _ _ _ h => h) (Or.inl ⟨by rfl, ?hyp15⟩) (by assumption) ?_
                case hyp15 => (intro w hSw; (try dsimp only at hSw); go_split_ands; go_simp; try with_reducible rfl)
                try simp only [Act.put, List.setIfInBounds_toArray, List.set_cons_zero, List.set_cons_succ]
                refine wpAnyH_take (i := 16) (oi := { dst := some 89, op := Op.move (Operand.tmp 88), type := 4, pos := "law.go:124", after := #[{ on := 15, ground := Ground.data }, { on := 7, ground := Ground.chain }, { on := 5, ground := Ground.guard }], guard := some (5, false) }) (v := ?valp16) rfl (by kernel_rfl) (by kernel_rfl) (by kernel_rfl) (fun _ _ _ h => h) (Or.inl ⟨by rfl, ?hyp16⟩) (by assumption) ?_
                case hyp16 => (intro w hSw; (try dsimp only at hSw); go_split_ands; go_simp; try with_reducible rfl)
                try simp only [Act.put, List.setIfInBounds_toArray, List.set_cons_zero, List.set_cons_succ]
                refine wpAnyH_take (i := 17) (oi := { dst := some 90, op := Op.move (Operand.tmp 3), type := 23, pos := "law.go:124", after := #[{ on := 16, ground := Ground.guard }], guard := some (16, true) }) (v := undef) rfl (by kernel_rfl) (by kernel_rfl) (by kernel_rfl) (fun _ _ _ h => h) (Or.inr ⟨by rfl, rfl⟩) (by assumption) ?_
                try simp only [Act.put, List.setIfInBounds_toArray, List.set_cons_zero, List.set_cons_succ]
                refine wpAnyH_take (i := 18) (oi := { dst := some 91, op := Op.move (Operand.tmp 4), type := 3, pos := "law.go:124", after := #[{ on := 16, ground := Ground.guard }], guard := some (16, true) }) (v := undef) rfl (by kernel_rfl) (by kernel_rfl) (by kernel_rfl) (fun _ _ _ h => h) (Or.inr ⟨by rfl, rfl⟩) (by assumption) ?_
                try simp only [Act.put, List.setIfInBounds_toArray, List.set_cons_zero, List.set_cons_succ]
                refine wpAnyH_take (i := 19) (oi := { dst := some 92, op := Op.indexAddr 23 (Operand.tmp 90) (Operand.tmp 91), type := 0, pos := "law.go:124", after := #[{ on := 17, ground := Ground.data }, { on := 18, ground := Ground.data }, { on := 16, ground := Ground.guard }], guard := some (16, true) }) (v := undef) rfl (by kernel_rfl) (by kernel_rfl) (by kernel_rfl) (fun _ _ _ h => h) (Or.inr ⟨by rfl, rfl⟩) (by assumption) ?_
                try simp only [Act.put, List.setIfInBounds_toArray, List.set_cons_zero, List.set_cons_succ]
                refine wpAnyH_take (i := 20) (oi := { dst := some 93, op := Op.fieldAddr 26 (Operand.tmp 92) 0, type := 0, pos := "law.go:124", after := #[{ on := 19, ground := Ground.data }, { on := 16, ground := Ground.guard }], guard := some (16, true) }) (v := undef) rfl (by kernel_rfl) (by kernel_rfl) (by kernel_rfl) (fun _ _ _ h => h) (Or.inr ⟨by rfl, rfl⟩) (by assumption) ?_
                try simp only [Act.put, List.setIfInBounds_toArray, List.set_cons_zero, List.set_cons_succ]
                refine wpAnyH_take (i := 21) (oi := { dst := some 94, op := Op.load 9 (Operand.tmp 93), type := 9, pos := "law.go:124", after := #[{ on := 20, ground := Ground.data }, { on := 16, ground := Ground.guard }], guard := some (16, true) }) (v := undef) rfl (by kernel_rfl) (by kernel_rfl) (by kernel_rfl) (fun _ _ _ h => h) (Or.inr ⟨by rfl, rfl⟩) (by assumption) ?_
                try simp only [Act.put, List.setIfInBounds_toArray, List.set_cons_zero, List.set_cons_succ]
                refine wpAnyH_take (i := 22) (oi := { dst := some 95, op := Op.binOp BinOp.neq 9 (Operand.tmp 94) (Operand.const (Value.string { data := #[110, 111, 116, 105, 110] })) 9, type := 4, pos := "law.go:124", after := #[{ on := 21, ground := Ground.data }, { on := 16, ground := Ground.guard }], guard := some (16, true) }) (v := undef) rfl (by kernel_rfl) (by kernel_rfl) (by kernel_rfl) (fun _ _ _ h => h) (Or.inr ⟨by rfl, rfl⟩) (by assumption) ?_
                try simp only [Act.put, List.setIfInBounds_toArray, List.set_cons_zero, List.set_cons_succ]
                refine wpAnyH_take (i := 23) (oi := { dst := some 96, op := Op.pick (Operand.tmp 89) (Operand.tmp 95) (Operand.const (Value.bool false)), type := 4, pos := "law.go:124", after := #[{ on := 16, ground := Ground.data }, { on := 22, ground := Ground.data }, { on := 5, ground := Ground.guard }], guard := some (5, false) }) (v := ?valp23) rfl (by kernel_rfl) (by kernel_rfl) (by kernel_rfl) (fun _ _ _ h => h) (Or.inl ⟨by rfl, ?hyp23⟩) (by assumption) ?_
                case hyp23 => (intro w hSw; (try dsimp only at hSw); go_split_ands; go_simp; try with_reducible rfl)
                try simp only [Act.put, List.setIfInBounds_toArray, List.set_cons_zero, List.set_cons_succ]
                refine wpAnyH_take (i := 24) (oi := { dst := some 97, op := Op.move (Operand.tmp 96), type := 4, pos := "law.go:124", after := #[{ on := 23, ground := Ground.data }, { on := 16, ground := Ground.chain }, { on := 5, ground := Ground.guard }], guard := some (5, false) }) (v := ?valp24) rfl (by kernel_rfl) (by kernel_rfl) (by kernel_rfl) (fun _ _ _ h => h) (Or.inl ⟨by rfl, ?hyp24⟩) (by assumption) ?_
                case hyp24 => (intro w hSw; (try dsimp only at hSw); go_split_ands; go_simp; try with_reducible rfl)
                try simp only [Act.put, List.setIfInBounds_toArray, List.set_cons_zero, List.set_cons_succ]
                refine wpAnyH_take (i := 25) (oi := { dst := some 98, op := Op.move (Operand.tmp 3), type := 23, pos := "law.go:124", after := #[{ on := 24, ground := Ground.guard }], guard := some (24, true) }) (v := undef) rfl (by kernel_rfl) (by kernel_rfl) (by kernel_rfl) (fun _ _ _ h => h) (Or.inr ⟨by rfl, rfl⟩) (by assumption) ?_
                try simp only [Act.put, List.setIfInBounds_toArray, List.set_cons_zero, List.set_cons_succ]
                refine wpAnyH_take (i := 26) (oi := { dst := some 99, op := Op.move (Operand.tmp 4), type := 3, pos := "law.go:124", after := #[{ on := 24, ground := Ground.guard }], guard := some (24, true) }) (v := undef) rfl (by kernel_rfl) (by kernel_rfl) (by kernel_rfl) (fun _ _ _ h => h) (Or.inr ⟨by rfl, rfl⟩) (by assumption) ?_
                try simp only [Act.put, List.setIfInBounds_toArray, List.set_cons_zero, List.set_cons_succ]
                refine wpAnyH_take (i := 27) (oi := { dst := some 100, op := Op.indexAddr 23 (Operand.tmp 98) (Operand.tmp 99), type := 0, pos := "law.go:124", after := #[{ on := 25, ground := Ground.data }, { on := 26, ground := Ground.data }, { on := 24, ground := Ground.guard }], guard := some (24, true) }) (v := undef) rfl (by kernel_rfl) (by kernel_rfl) (by kernel_rfl) (fun _ _ _ h => h) (Or.inr ⟨by rfl, rfl⟩) (by assumption) ?_
                try simp only [Act.put, List.setIfInBounds_toArray, List.set_cons_zero, List.set_cons_succ]
                refine wpAnyH_take (i := 28) (oi := { dst := some 101, op := Op.fieldAddr 26 (Operand.tmp 100) 0, type := 0, pos := "law.go:124", after := #[{ on := 27, ground := Ground.data }, { on := 24, ground := Ground.guard }], guard := some (24, true) }) (v := undef) rfl (by kernel_rfl) (by kernel_rfl) (by kernel_rfl) (fun _ _ _ h => h) (Or.inr ⟨by rfl, rfl⟩) (by assumption) ?_
                try simp only [Act.put, List.setIfInBounds_toArray, List.set_cons_zero, List.set_cons_succ]
                refine wpAnyH_take (i := 29) (oi := { dst := some 102, op := Op.load 9 (Operand.tmp 101), type := 9, pos := "law.go:124", after := #[{ on := 28, ground := Ground.data }, { on := 24, ground := Ground.guard }], guard := some (24, true) }) (v := undef) rfl (by kernel_rfl) (by kernel_rfl) (by kernel_rfl) (fun _ _ _ h => h) (Or.inr ⟨by rfl, rfl⟩) (by assumption) ?_
                try simp only [Act.put, List.setIfInBounds_toArray, List.set_cons_zero, List.set_cons_succ]
                refine wpAnyH_take (i := 30) (oi := { dst := some 103, op := Op.binOp BinOp.neq 9 (Operand.tmp 102) (Operand.const (Value.string { data := #[105, 110] })) 9, type := 4, pos := "law.go:124", after := #[{ on := 29, ground := Ground.data }, { on := 24, ground := Ground.guard }], guard := some (24, true) }) (v := undef) rfl (by kernel_rfl) (by kernel_rfl) (by kernel_rfl) (fun _ _ _ h => h) (Or.inr ⟨by rfl, rfl⟩) (by assumption) ?_
                try simp only [Act.put, List.setIfInBounds_toArray, List.set_cons_zero, List.set_cons_succ]
                refine wpAnyH_take (i := 31) (oi := { dst := some 104, op := Op.pick (Operand.tmp 97) (Operand.tmp 103) (Operand.const (Value.bool false)), type := 4, pos := "law.go:124", after := #[{ on := 24, ground := Ground.data }, { on := 30, ground := Ground.data }, { on := 5, ground := Ground.guard }], guard := some (5, false) }) (v := ?valp31) rfl (by kernel_rfl) (by kernel_rfl) (by kernel_rfl) (fun _ _ _ h => h) (Or.inl ⟨by rfl, ?hyp31⟩) (by assumption) ?_
                case hyp31 => (intro w hSw; (try dsimp only at hSw); go_split_ands; go_simp; try with_reducible rfl)
                try simp only [Act.put, List.setIfInBounds_toArray, List.set_cons_zero, List.set_cons_succ]
                refine wpAnyH_take (i := 32) (oi := { dst := some 105, op := Op.pick (Operand.tmp 78) (Operand.const (Value.bool true)) (Operand.tmp 104), type := 4, pos := "law.go:124", after := #[{ on := 5, ground := Ground.data }, { on := 31, ground := Ground.data }], guard := none }) (v := ?valp32) rfl (by kernel_rfl) (by kernel_rfl) (by kernel_rfl) (fun _ _ _ h => h) (Or.inl ⟨by rfl, ?hyp32⟩) (by assumption) ?_
                case hyp32 => (intro w hSw; (try dsimp only at hSw); go_split_ands; go_simp; try with_reducible rfl)
                try simp only [Act.put, List.setIfInBounds_toArray, List.set_cons_zero, List.set_cons_succ]
                refine wpAnyH_done (by kernel_rfl) ?_ _
                go_wp2
                go_roundw
                case rel => exact ⟨i + 1, by omega, by go_num, hid_mk (hkeep.out _ hHeld.2)⟩
                case measure => simp [intOf]; omega
              | false =>
                refine wp_region_held_drew (S := (fun w' => w'.cell? ⟨g, i * 3 + 2, none⟩ = some (.bool false) ∧ Next wo w')) (by kernel_rfl) ⟨c2, H3.out.drewN 1⟩ (fun hHeld => ?_)
                refine wpAnyH_take (i := 0) (oi := { dst := some 73, op := Op.move (Operand.tmp 5), type := 9, pos := "law.go:124", after := #[], guard := none }) (v := ?valn0) rfl (by kernel_rfl) (by kernel_rfl) (by kernel_rfl) (fun _ _ _ h => h) (Or.inl ⟨by rfl, ?hyn0⟩) (by assumption) ?_
                case hyn0 => (intro w hSw; (try dsimp only at hSw); go_split_ands; go_simp; try with_reducible rfl)
                try simp only [Act.put, List.setIfInBounds_toArray, List.set_cons_zero, List.set_cons_succ]
                refine wpAnyH_take (i := 1) (oi := { dst := some 74, op := Op.binOp BinOp.add 9 (Operand.tmp 73) (Operand.const (Value.string { data := #[59] })) 9, type := 9, pos := "law.go:124", after := #[{ on := 0, ground := Ground.data }], guard := none }) (v := ?valn1) rfl (by kernel_rfl) (by kernel_rfl) (by kernel_rfl) (fun _ _ _ h => h) (Or.inl ⟨by rfl, ?hyn1⟩) (by assumption) ?_
                case hyn1 => (intro w hSw; (try dsimp only at hSw); go_split_ands; go_simp; try with_reducible rfl)
                try simp only [Act.put, List.setIfInBounds_toArray, List.set_cons_zero, List.set_cons_succ]
                refine wpAnyH_take (i := 3) (oi := { dst := some 76, op := Op.move (Operand.tmp 8), type := 9, pos := "law.go:124", after := #[], guard := none }) (v := ?valn3) rfl (by kernel_rfl) (by kernel_rfl) (by kernel_rfl) (fun _ _ _ h => h) (Or.inl ⟨by rfl, ?hyn3⟩) (by assumption) ?_
                case hyn3 => (intro w hSw; (try dsimp only at hSw); go_split_ands; go_simp; try with_reducible rfl)
                try simp only [Act.put, List.setIfInBounds_toArray, List.set_cons_zero, List.set_cons_succ]
                refine wpAnyH_ready (rs := [2]) (by kernel_rfl) (by simp) ?_
                refine AllReadyH.cons (o := { dst := some 75, op := Op.call { callee := Callee.value (Operand.func 14), args := #[Operand.tmp 74, Operand.const (Value.bool true)], argTypes := #[9, 4] }, type := 9, pos := "law.go:124", after := #[{ on := 1, ground := Ground.data }], guard := none }) rfl (fun K hK => ?_) AllReadyH.nil
                go_simp
                (have hTn := hHeld.2.2; first | ((with_reducible refine (hdA.out _ hTn).mono ?_); rintro e w5 ⟨rfl, nA⟩) | ((with_reducible refine (hdB.out _ hTn).mono ?_); rintro e w5 ⟨rfl, nB⟩))
                try go_wp2_with fail
                refine hK.out _ _ ?_ (fun hHeld2 => ?_)
                · first | exact ⟨nA.cell hHeld.1, hHeld.2.trans nA⟩ | exact ⟨nB.cell hHeld.1, hHeld.2.trans nB⟩
                clear hK K hHeld
                have hHeld := hHeld2
                clear hHeld2
                try simp only [Act.put, List.setIfInBounds_toArray, List.set_cons_zero, List.set_cons_succ]
                refine wpAnyH_take (i := 4) (oi := { dst := some 77, op := Op.binOp BinOp.neq 9 (Operand.tmp 75) (Operand.tmp 76) 9, type := 4, pos := "law.go:124", after := #[{ on := 2, ground := Ground.data }, { on := 3, ground := Ground.data }], guard := none }) (v := ?valn4) rfl (by kernel_rfl) (by kernel_rfl) (by kernel_rfl) (fun _ _ _ h => h) (Or.inl ⟨by rfl, ?hyn4⟩) (by assumption) ?_
                case hyn4 => (intro w hSw; (try dsimp only at hSw); go_split_ands; go_simp; try with_reducible rfl)
                try simp only [Act.put, List.setIfInBounds_toArray, List.set_cons_zero, List.set_cons_succ]
                refine wpAnyH_take (i := 5) (oi := { dst := some 78, op := Op.move (Operand.tmp 77), type := 4, pos := "law.go:124", after := #[{ on := 4, ground := Ground.data }, { on := 2, ground := Ground.chain }], guard := none }) (v := ?valn5) rfl (by kernel_rfl) (by kernel_rfl) (by kernel_rfl) (fun _ _ _ h => h) (Or.inl ⟨by rfl, ?hyn5⟩) (by assumption) ?_
                case hyn5 => (intro w hSw; (try dsimp only at hSw); go_split_ands; go_simp; try with_reducible rfl)
                try simp only [Act.put, List.setIfInBounds_toArray, List.set_cons_zero, List.set_cons_succ]
                refine wpAnyH_take (i := 6) (oi := { dst := some 79, op := Op.move (Operand.tmp 5), type := 9, pos := "law.go:124", after := #[{ on := 5, ground := Ground.guard }], guard := some (5, false) }) (v := ?valn6) rfl (by kernel_rfl) (by kernel_rfl) (by kernel_rfl) (fun _ _ _ h => h) (Or.inl ⟨by rfl, ?hyn6⟩) (by assumption) ?_
                case hyn6 => (intro w hSw; (try dsimp only at hSw); go_split_ands; go_simp; try with_reducible rfl)
                try simp only [Act.put, List.setIfInBounds_toArray, List.set_cons_zero, List.set_cons_succ]
                refine wpAnyH_take (i := 8) (oi := { dst := some 81, op := Op.move (Operand.tmp 8), type := 9, pos := "law.go:124", after := #[{ on := 5, ground := Ground.guard }], guard := some (5, false) }) (v := ?valn8) rfl (by kernel_rfl) (by kernel_rfl) (by kernel_rfl) (fun _ _ _ h => h) (Or.inl ⟨by rfl, ?hyn8⟩) (by assumption) ?_
                case hyn8 => (intro w hSw; (try dsimp only at hSw); go_split_ands; go_simp; try with_reducible rfl)
                try simp only [Act.put, List.setIfInBounds_toArray, List.set_cons_zero, List.set_cons_succ]
                refine wpAnyH_take (i := 10) (oi := { dst := some 83, op := Op.move (Operand.tmp 3), type := 23, pos := "law.go:124", after := #[{ on := 5, ground := Ground.guard }], guard := some (5, false) }) (v := ?valn10) rfl (by kernel_rfl) (by kernel_rfl) (by kernel_rfl) (fun _ _ _ h => h) (Or.inl ⟨by rfl, ?hyn10⟩) (by assumption) ?_
                case hyn10 => (intro w hSw; (try dsimp only at hSw); go_split_ands; go_simp; try with_reducible rfl)
                try simp only [Act.put, List.setIfInBounds_toArray, List.set_cons_zero, List.set_cons_succ]
                refine wpAnyH_take (i := 11) (oi := { dst := some 84, op := Op.move (Operand.tmp 4), type := 3, pos := "law.go:124", after := #[{ on := 5, ground := Ground.guard }], guard := some (5, false) }) (v := ?valn11) rfl (by kernel_rfl) (by kernel_rfl) (by kernel_rfl) (fun _ _ _ h => h) (Or.inl ⟨by rfl, ?hyn11⟩) (by assumption) ?_
                case hyn11 => (intro w hSw; (try dsimp only at hSw); go_split_ands; go_simp; try with_reducible rfl)
                try simp only [Act.put, List.setIfInBounds_toArray, List.set_cons_zero, List.set_cons_succ]
                refine wpAnyH_take (i := 12) (oi := { dst := some 85, op := Op.indexAddr 23 (Operand.tmp 83) (Operand.tmp 84), type := 0, pos := "law.go:124", after := #[{ on := 10, ground := Ground.data }, { on := 11, ground := Ground.data }, { on := 5, ground := Ground.guard }], guard := some (5, false) }) (v := ?valn12) rfl (by kernel_rfl) (by kernel_rfl) (by kernel_rfl) (fun _ _ _ h => h) (Or.inl ⟨by rfl, ?hyn12⟩) (by assumption) ?_
                case hyn12 => (intro w hSw; (try dsimp only at hSw); go_split_ands; go_simp; try with_reducible rfl)
                try simp only [Act.put, List.setIfInBounds_toArray, List.set_cons_zero, List.set_cons_succ]
                refine wpAnyH_take (i := 13) (oi := { dst := some 86, op := Op.fieldAddr 26 (Operand.tmp 85) 2, type := 0, pos := "law.go:124", after := #[{ on := 12, ground := Ground.data }, { on := 5, ground := Ground.guard }], guard := some (5, false) }) (v := ?valn13) rfl (by kernel_rfl) (by kernel_rfl) (by kernel_rfl) (fun _ _ _ h => h) (Or.inl ⟨by rfl, ?hyn13⟩) (by assumption) ?_
                case hyn13 => (intro w hSw; (try dsimp only at hSw); go_split_ands; go_simp; try with_reducible rfl)
                try simp only [Act.put, List.setIfInBounds_toArray, List.set_cons_zero, List.set_cons_succ]
                refine wpAnyH_take (i := 14) (oi := { dst := some 87, op := Op.load 4 (Operand.tmp 86), type := 4, pos := "law.go:124", after := #[{ on := 13, ground := Ground.data }, { on := 5, ground := Ground.guard }], guard := some (5, false) }) (v := ?valn14) rfl (by kernel_rfl) (by kernel_rfl) (by kernel_rfl) (fun _ _ _ h => h) (Or.inl ⟨by rfl, ?hyn14⟩) (by assumption) ?_
                case hyn14 => (intro w hSw; (try dsimp only at hSw); go_split_ands; go_simp; try with_reducible rfl)
                try simp only [Act.put, List.setIfInBounds_toArray, List.set_cons_zero, List.set_cons_succ]
                refine wpAnyH_ready (rs := [7]) (by kernel_rfl) (by simp) ?_
                refine AllReadyH.cons (o := { dst := some 80, op := Op.call { callee := Callee.value (Operand.func 14), args := #[Operand.tmp 79, Operand.const (Value.bool false)], argTypes := #[9, 4] }, type := 9, pos := "law.go:124", after := #[{ on := 6, ground := Ground.data }, { on := 5, ground := Ground.chain }, { on := 5, ground := Ground.guard }], guard := some (5, false) }) rfl (fun K hK => ?_) AllReadyH.nil
                go_simp
                (have hTn := hHeld.2.2; first | ((with_reducible refine (hdA.out _ hTn).mono ?_); rintro e w5 ⟨rfl, nA⟩) | ((with_reducible refine (hdB.out _ hTn).mono ?_); rintro e w5 ⟨rfl, nB⟩))
                try go_wp2_with fail
                refine hK.out _ _ ?_ (fun hHeld2 => ?_)
                · first | exact ⟨nA.cell hHeld.1, hHeld.2.trans nA⟩ | exact ⟨nB.cell hHeld.1, hHeld.2.trans nB⟩
                clear hK K hHeld
                have hHeld := hHeld2
                clear hHeld2
                try simp only [Act.put, List.setIfInBounds_toArray, List.set_cons_zero, List.set_cons_succ]
                refine wpAnyH_take (i := 9) (oi := { dst := some 82, op := Op.binOp BinOp.eql 9 (Operand.tmp 80) (Operand.tmp 81) 9, type := 4, pos := "law.go:124", after := #[{ on := 7, ground := Ground.data }, { on := 8, ground := Ground.data }, { on := 5, ground := Ground.guard }], guard := some (5, false) }) (v := ?valn9) rfl (by kernel_rfl) (by kernel_rfl) (by kernel_rfl) (fun _ _ _ h => h) (Or.inl ⟨by rfl, ?hyn9⟩) (by assumption) ?_
                case hyn9 => (intro w hSw; (try dsimp only at hSw); go_split_ands; go_simp; try with_reducible rfl)
                try simp only [Act.put, List.setIfInBounds_toArray, List.set_cons_zero, List.set_cons_succ]
                refine wpAnyH_take (i := 15) (oi := { dst := some 88, op := Op.binOp BinOp.neq 4 (Operand.tmp 82) (Operand.tmp 87) 4, type := 4, pos := "law.go:124", after := #[{ on := 9, ground := Ground.data }, { on := 14, ground := Ground.data }, { on := 5, ground := Ground.guard }], guard := some (5, false) }) (v := ?valn15) rfl (by kernel_rfl) (by kernel_rfl) (by kernel_rfl) (fun _ _ _ h => h) (Or.inl ⟨by rfl, ?hyn15⟩) (by assumption) ?_
                case hyn15 => (intro w hSw; (try dsimp only at hSw); go_split_ands; go_simp; try with_reducible rfl)
                try simp only [Act.put, List.setIfInBounds_toArray, List.set_cons_zero, List.set_cons_succ]
                refine wpAnyH_take (i := 16) (oi := { dst := some 89, op := Op.move (Operand.tmp 88), type := 4, pos := "law.go:124", after := #[{ on := 15, ground := Ground.data }, { on := 7, ground := Ground.chain }, { on := 5, ground := Ground.guard }], guard := some (5, false) }) (v := ?valn16) rfl (by kernel_rfl) (by kernel_rfl) (by kernel_rfl) (fun _ _ _ h => h) (Or.inl ⟨by rfl, ?hyn16⟩) (by assumption) ?_
                case hyn16 => (intro w hSw; (try dsimp only at hSw); go_split_ands; go_simp; try with_reducible rfl)
                try simp only [Act.put, List.setIfInBounds_toArray, List.set_cons_zero, List.set_cons_succ]
                refine wpAnyH_take (i := 17) (oi := { dst := some 90, op := Op.move (Operand.tmp 3), type := 23, pos := "law.go:124", after := #[{ on := 16, ground := Ground.guard }], guard := some (16, true) }) (v := undef) rfl (by kernel_rfl) (by kernel_rfl) (by kernel_rfl) (fun _ _ _ h => h) (Or.inr ⟨by rfl, rfl⟩) (by assumption) ?_
                try simp only [Act.put, List.setIfInBounds_toArray, List.set_cons_zero, List.set_cons_succ]
                refine wpAnyH_take (i := 18) (oi := { dst := some 91, op := Op.move (Operand.tmp 4), type := 3, pos := "law.go:124", after := #[{ on := 16, ground := Ground.guard }], guard := some (16, true) }) (v := undef) rfl (by kernel_rfl) (by kernel_rfl) (by kernel_rfl) (fun _ _ _ h => h) (Or.inr ⟨by rfl, rfl⟩) (by assumption) ?_
                try simp only [Act.put, List.setIfInBounds_toArray, List.set_cons_zero, List.set_cons_succ]
                refine wpAnyH_take (i := 19) (oi := { dst := some 92, op := Op.indexAddr 23 (Operand.tmp 90) (Operand.tmp 91), type := 0, pos := "law.go:124", after := #[{ on := 17, ground := Ground.data }, { on := 18, ground := Ground.data }, { on := 16, ground := Ground.guard }], guard := some (16, true) }) (v := undef) rfl (by kernel_rfl) (by kernel_rfl) (by kernel_rfl) (fun _ _ _ h => h) (Or.inr ⟨by rfl, rfl⟩) (by assumption) ?_
                try simp only [Act.put, List.setIfInBounds_toArray, List.set_cons_zero, List.set_cons_succ]
                refine wpAnyH_take (i := 20) (oi := { dst := some 93, op := Op.fieldAddr 26 (Operand.tmp 92) 0, type := 0, pos := "law.go:124", after := #[{ on := 19, ground := Ground.data }, { on := 16, ground := Ground.guard }], guard := some (16, true) }) (v := undef) rfl (by kernel_rfl) (by kernel_rfl) (by kernel_rfl) (fun _ _ _ h => h) (Or.inr ⟨by rfl, rfl⟩) (by assumption) ?_
                try simp only [Act.put, List.setIfInBounds_toArray, List.set_cons_zero, List.set_cons_succ]
                refine wpAnyH_take (i := 21) (oi := { dst := some 94, op := Op.load 9 (Operand.tmp 93), type := 9, pos := "law.go:124", after := #[{ on := 20, ground := Ground.data }, { on := 16, ground := Ground.guard }], guard := some (16, true) }) (v := undef) rfl (by kernel_rfl) (by kernel_rfl) (by kernel_rfl) (fun _ _ _ h => h) (Or.inr ⟨by rfl, rfl⟩) (by assumption) ?_
                try simp only [Act.put, List.setIfInBounds_toArray, List.set_cons_zero, List.set_cons_succ]
                refine wpAnyH_take (i := 22) (oi := { dst := some 95, op := Op.binOp BinOp.neq 9 (Operand.tmp 94) (Operand.const (Value.string { data := #[110, 111, 116, 105, 110] })) 9, type := 4, pos := "law.go:124", after := #[{ on := 21, ground := Ground.data }, { on := 16, ground := Ground.guard }], guard := some (16, true) }) (v := undef) rfl (by kernel_rfl) (by kernel_rfl) (by kernel_rfl) (fun _ _ _ h => h) (Or.inr ⟨by rfl, rfl⟩) (by assumption) ?_
                try simp only [Act.put, List.setIfInBounds_toArray, List.set_cons_zero, List.set_cons_succ]
                refine wpAnyH_take (i := 23) (oi := { dst := some 96, op := Op.pick (Operand.tmp 89) (Operand.tmp 95) (Operand.const (Value.bool false)), type := 4, pos := "law.go:124", after := #[{ on := 16, ground := Ground.data }, { on := 22, ground := Ground.data }, { on := 5, ground := Ground.guard }], guard := some (5, false) }) (v := ?valn23) rfl (by kernel_rfl) (by kernel_rfl) (by kernel_rfl) (fun _ _ _ h => h) (Or.inl ⟨by rfl, ?hyn23⟩) (by assumption) ?_
                case hyn23 => (intro w hSw; (try dsimp only at hSw); go_split_ands; go_simp; try with_reducible rfl)
                try simp only [Act.put, List.setIfInBounds_toArray, List.set_cons_zero, List.set_cons_succ]
                refine wpAnyH_take (i := 24) (oi := { dst := some 97, op := Op.move (Operand.tmp 96), type := 4, pos := "law.go:124", after := #[{ on := 23, ground := Ground.data }, { on := 16, ground := Ground.chain }, { on := 5, ground := Ground.guard }], guard := some (5, false) }) (v := ?valn24) rfl (by kernel_rfl) (by kernel_rfl) (by kernel_rfl) (fun _ _ _ h => h) (Or.inl ⟨by rfl, ?hyn24⟩) (by assumption) ?_
                case hyn24 => (intro w hSw; (try dsimp only at hSw); go_split_ands; go_simp; try with_reducible rfl)
                try simp only [Act.put, List.setIfInBounds_toArray, List.set_cons_zero, List.set_cons_succ]
                refine wpAnyH_take (i := 25) (oi := { dst := some 98, op := Op.move (Operand.tmp 3), type := 23, pos := "law.go:124", after := #[{ on := 24, ground := Ground.guard }], guard := some (24, true) }) (v := undef) rfl (by kernel_rfl) (by kernel_rfl) (by kernel_rfl) (fun _ _ _ h => h) (Or.inr ⟨by rfl, rfl⟩) (by assumption) ?_
                try simp only [Act.put, List.setIfInBounds_toArray, List.set_cons_zero, List.set_cons_succ]
                refine wpAnyH_take (i := 26) (oi := { dst := some 99, op := Op.move (Operand.tmp 4), type := 3, pos := "law.go:124", after := #[{ on := 24, ground := Ground.guard }], guard := some (24, true) }) (v := undef) rfl (by kernel_rfl) (by kernel_rfl) (by kernel_rfl) (fun _ _ _ h => h) (Or.inr ⟨by rfl, rfl⟩) (by assumption) ?_
                try simp only [Act.put, List.setIfInBounds_toArray, List.set_cons_zero, List.set_cons_succ]
                refine wpAnyH_take (i := 27) (oi := { dst := some 100, op := Op.indexAddr 23 (Operand.tmp 98) (Operand.tmp 99), type := 0, pos := "law.go:124", after := #[{ on := 25, ground := Ground.data }, { on := 26, ground := Ground.data }, { on := 24, ground := Ground.guard }], guard := some (24, true) }) (v := undef) rfl (by kernel_rfl) (by kernel_rfl) (by kernel_rfl) (fun _ _ _ h => h) (Or.inr ⟨by rfl, rfl⟩) (by assumption) ?_
                try simp only [Act.put, List.setIfInBounds_toArray, List.set_cons_zero, List.set_cons_succ]
                refine wpAnyH_take (i := 28) (oi := { dst := some 101, op := Op.fieldAddr 26 (Operand.tmp 100) 0, type := 0, pos := "law.go:124", after := #[{ on := 27, ground := Ground.data }, { on := 24, ground := Ground.guard }], guard := some (24, true) }) (v := undef) rfl (by kernel_rfl) (by kernel_rfl) (by kernel_rfl) (fun _ _ _ h => h) (Or.inr ⟨by rfl, rfl⟩) (by assumption) ?_
                try simp only [Act.put, List.setIfInBounds_toArray, List.set_cons_zero, List.set_cons_succ]
                refine wpAnyH_take (i := 29) (oi := { dst := some 102, op := Op.load 9 (Operand.tmp 101), type := 9, pos := "law.go:124", after := #[{ on := 28, ground := Ground.data }, { on := 24, ground := Ground.guard }], guard := some (24, true) }) (v := undef) rfl (by kernel_rfl) (by kernel_rfl) (by kernel_rfl) (fun _ _ _ h => h) (Or.inr ⟨by rfl, rfl⟩) (by assumption) ?_
                try simp only [Act.put, List.setIfInBounds_toArray, List.set_cons_zero, List.set_cons_succ]
                refine wpAnyH_take (i := 30) (oi := { dst := some 103, op := Op.binOp BinOp.neq 9 (Operand.tmp 102) (Operand.const (Value.string { data := #[105, 110] })) 9, type := 4, pos := "law.go:124", after := #[{ on := 29, ground := Ground.data }, { on := 24, ground := Ground.guard }], guard := some (24, true) }) (v := undef) rfl (by kernel_rfl) (by kernel_rfl) (by kernel_rfl) (fun _ _ _ h => h) (Or.inr ⟨by rfl, rfl⟩) (by assumption) ?_
                try simp only [Act.put, List.setIfInBounds_toArray, List.set_cons_zero, List.set_cons_succ]
                refine wpAnyH_take (i := 31) (oi := { dst := some 104, op := Op.pick (Operand.tmp 97) (Operand.tmp 103) (Operand.const (Value.bool false)), type := 4, pos := "law.go:124", after := #[{ on := 24, ground := Ground.data }, { on := 30, ground := Ground.data }, { on := 5, ground := Ground.guard }], guard := some (5, false) }) (v := ?valn31) rfl (by kernel_rfl) (by kernel_rfl) (by kernel_rfl) (fun _ _ _ h => h) (Or.inl ⟨by rfl, ?hyn31⟩) (by assumption) ?_
                case hyn31 => (intro w hSw; (try dsimp only at hSw); go_split_ands; go_simp; try with_reducible rfl)
                try simp only [Act.put, List.setIfInBounds_toArray, List.set_cons_zero, List.set_cons_succ]
                refine wpAnyH_take (i := 32) (oi := { dst := some 105, op := Op.pick (Operand.tmp 78) (Operand.const (Value.bool true)) (Operand.tmp 104), type := 4, pos := "law.go:124", after := #[{ on := 5, ground := Ground.data }, { on := 31, ground := Ground.data }], guard := none }) (v := ?valn32) rfl (by kernel_rfl) (by kernel_rfl) (by kernel_rfl) (fun _ _ _ h => h) (Or.inl ⟨by rfl, ?hyn32⟩) (by assumption) ?_
                case hyn32 => (intro w hSw; (try dsimp only at hSw); go_split_ands; go_simp; try with_reducible rfl)
                try simp only [Act.put, List.setIfInBounds_toArray, List.set_cons_zero, List.set_cons_succ]
                refine wpAnyH_done (by kernel_rfl) ?_ _
                go_wp2
                go_roundw
                case rel => exact ⟨i + 1, by omega, by go_num, hid_mk (hkeep.out _ hHeld.2)⟩
                case measure => simp [intOf]; omega
        · have hin' : ¬ (i : Int) < 59 := by omega
          have HB := hid_mk HW.out.2
          clear HW
          go_wp2_with fail
          go_loopw [9] (fun vr wr => ∃ r : Nat, 112 ≤ r ∧ r ≤ 176 ∧ vr = .int .i32 (r : Int) ∧ Hid (Next w wr)) (fun vr _ => (176 - intOf vr).toNat)
          case atStart => exact ⟨112, by omega, by omega, rfl, HB⟩
          case round =>
            obtain ⟨r, hr0, hr1, rfl, HR⟩ := hrel
            generalize wr = wk at *
            clear HB
            by_cases hrn : r < 176
            · have hrn' : (r : Int) < 176 := by omega
              have hr00 : (0 : Int) ≤ (r : Int) := by omega
              have hd10 := hid_mk (fun w => (digits_any r 10 0 (by omega) (.inl rfl) (by omega) w : Calls Tryd.prog 17 #[.int .u32 (r : Int), .int .u32 10, .int .u8 0] w (DigPost 10 r w)))
              go_wp2_with fail
              refine (hd10.out wk).mono ?_
              rintro e w2 ⟨d10, rfl, _, _, _, l10, rfl⟩
              have hs10 := size_strOf d10
              go_wp2_with fail
              refine (charrefDecodes_w _ false wk HR.out.2).mono ?_
              rintro e w3 ⟨rfl, hn3⟩
              have H3 := hid_mk (HR.out.trans hn3)
              clear hn3 HR hd10
              go_wp2
              go_roundw
              case rel => exact ⟨r + 1, by omega, by omega, by go_num, H3⟩
              case measure => simp [intOf]; omega
            · have hrn' : ¬ (r : Int) < 176 := by omega
              go_wp2_with fail
              refine (dec_notin wk HR.out.2).mono ?_
              rintro e w3 ⟨rfl, hn3⟩
              have H3 := hid_mk (HR.out.trans hn3)
              clear hn3 HR
              go_wp2_with fail
              refine (works_any w3 H3.out.2).mono ?_
              rintro e w4 ⟨rfl, hn4⟩
              have H4 := hid_mk (H3.out.trans hn4)
              clear hn4 H3
              go_wp2
              go_ret
              exact ⟨rfl, H4.out⟩
end Go.Proofs.YtflgiejnklbjnaaDoor
