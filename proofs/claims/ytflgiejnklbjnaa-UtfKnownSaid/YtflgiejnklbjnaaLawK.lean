/-
  The law of layer 2 about the examples: it returns true.
-/
import Derived.Test.YtflgiejnklbjnaaLawP
import Derived.Laws.OwnMore
namespace Go.Proofs.Ytflgiejnklbjnaa
open Go.RowKit
def litK : List (List UInt8 × List UInt8) := [([195, 169], [195, 169]), ([195], [239, 191, 189]), ([195, 40], [239, 191, 189, 40]), ([226, 130, 40], [239, 191, 189, 40]), ([240, 128, 128], [239, 191, 189, 239, 191, 189, 239, 191, 189]), ([128], [239, 191, 189]), ([237, 160, 128], [239, 191, 189, 239, 191, 189, 239, 191, 189]), ([244, 144], [239, 191, 189, 239, 191, 189]), ([192, 175], [239, 191, 189, 239, 191, 189]), ([240, 159, 152], [239, 191, 189]), ([240, 159, 152, 128], [240, 159, 152, 128]), ([13, 13, 10, 10, 13], [10, 10, 10, 10]), ([], []), ([239, 187, 191], [239, 187, 191]), ([0], [0])]
def cellsK : List Value := litK.flatMap fun p => [.string (strOf p.1), .string (strOf p.2)]
theorem litK_dec : ∀ j, j < 15 → decOut (litK.getD j ([], [])).1 = ((litK.getD j ([], [])).2, 0) := by decide +kernel
theorem litK_len : ∀ j, j < 15 → (litK.getD j ([], [])).1.length ≤ 5 := by decide +kernel
theorem cellsK_even : ∀ (l : List (List UInt8 × List UInt8)) (j : Nat), j < l.length → (l.flatMap fun p => [Value.string (strOf p.1), Value.string (strOf p.2)])[2 * j]? = some (.string (strOf (l.getD j ([], [])).1)) ∧ (l.flatMap fun p => [Value.string (strOf p.1), Value.string (strOf p.2)])[2 * j + 1]? = some (.string (strOf (l.getD j ([], [])).2))
  | [], j, h => by simp at h
  | p :: l, 0, _ => ⟨rfl, rfl⟩
  | p :: l, j + 1, h => by
    have ih := cellsK_even l j (by simpa using h)
    rw [List.flatMap_cons, show 2 * (j + 1) + 1 = (2 * j + 1) + 2 from by omega, show 2 * (j + 1) = 2 * j + 2 from by omega]
    exact ih
theorem make_dec (n : Nat) (hn : n ≤ 100000) (w : World) : ∃ w1 Z, (Z : List UInt8).length = n ∧ (Instr.makeSlice 22 (.int .i64 (n : Int)) (.int .i64 (n : Int))).run Try.prog w = .ok (.slice (some ⟨w.heap.size, 0, none⟩) n n) w1 ∧ Below w.heap.size w w1 ∧ Calls Try.prog 7 #[.slice (some ⟨w.heap.size, 0, none⟩) n n] w1 fun e w' => e = .returned (.tuple #[.string (strOf (decOut Z).1), .int .i64 (decOut Z).2]) ∧ Below w1.heap.size w1 w' := by
  obtain ⟨i0, hi, hz0, hz1, hz2⟩ := info_parts infoByte
  obtain ⟨w1, hrun, hown, hgrow⟩ := run_makeSlice_full (P := Try.prog) w w.heap.size 22 5 i0 _ 1 Try.underlying22 hi hz0 hz1 .i64 .i64 n (by omega) (by rw [hz2]; omega) (by unfold maxLen; omega) (Nat.le_refl _)
  have hb : Below w.heap.size w w1 := (Below.refl _ _).grown hgrow (Nat.le_refl _) (fun k hk => by cases hk)
  have hcs : (madeCells (Value.cells (.int .u8 0)) (n * 1)).toList = Lib.byteCells (List.replicate n 0) := by
    rw [Nat.mul_one, show Value.cells (.int .u8 0) = #[.int .u8 0] from rfl, toList_madeCells_one]
    unfold Lib.byteCells
    rw [List.map_replicate]
    rfl
  rw [hcs] at hown
  have hl : (List.replicate n (0 : UInt8)).length = n := List.length_replicate
  generalize List.replicate n (0 : UInt8) = Z at hown hl
  obtain rfl : n = Z.length := hl.symm
  obtain ⟨a, cap, hv, hh⟩ := own_bytes hown
  injection hv with h1 h2 h3
  subst h1
  exact ⟨w1, Z, rfl, hrun, hb, decode_any _ _ Z w1 (by omega) hh⟩
theorem has_new_runes (w : World) (rs : List Int) (cs : Array Value) (fr : Nat × Nat) (h : cs.toList = rs.map (Value.int .i32)) : HasRunes (w.alloc (.cells cs 21 fr)) (some ⟨w.heap.size, 0, none⟩) rs := by
  refine .inr ⟨_, rfl, fun _ => by simp, fun j hj => ?_⟩
  rw [addr_add0, cell_of_row _ _ j _ _ _ (heap_alloc_new w _), ← Array.getElem?_toList, h]
  simp [List.getD, hj]
def litL : List Int := [-1, 0, 127, 128, 2047, 2048, 55295, 55296, 57343, 57344, 65535, 65536, 1114111, 1114112, 2147483647, -2147483648]
theorem two_bytes (a : Nat) (h : a < 256) : (((a.toUInt8).toNat : Nat) : Int) = (a : Int) := by
  simp
  omega
set_option maxHeartbeats 4000000 in
set_option maxRecDepth 100000 in
theorem utfKnown_w (w : World) :
    Calls Try.prog 5 #[] w fun e w' => e = .returned (.bool true) ∧ (Below w.heap.size w w' ∧ True) := by
  go_enter Try.func5, Try.ntmps5
  go_wp2_with fail
  have hrow := hid_mk (show (w.alloc (.cells cellsK.toArray 9)).heap[w.heap.size]? = some (.cells cellsK.toArray 9 (0, 0)) ∧ Below w.heap.size w (w.alloc (.cells cellsK.toArray 9)) from ⟨heap_alloc_new w _, (Below.refl _ _).alloc (Nat.le_refl _) _⟩)
  go_loopw [2] (fun vi wr => ∃ i j : Nat, i ≤ 30 ∧ vi = .int .i64 (i : Int) ∧ Hid (i = 2 * j) ∧ Hid (wr.heap[w.heap.size]? = some (.cells cellsK.toArray 9 (0, 0)) ∧ Below w.heap.size w wr)) (fun vi _ => 30 - (intOf vi).toNat)
  case atStart => exact ⟨0, 0, by omega, rfl, hid_mk rfl, hrow⟩
  case round =>
    obtain ⟨i, j, hi, rfl, hij, HW⟩ := hrel
    generalize wr = wo at *
    clear hrow
    by_cases hin : i < 30
    · have hin' : (i : Int) < 30 := by omega
      have hi0 : (0 : Int) ≤ (i : Int) := by omega
      have hj : j < 15 := by have := hij.out; omega
      have hce := cellsK_even litK j hj
      have e1 : wo.cell? ⟨w.heap.size, i, none⟩ = some (.string (strOf (litK.getD j ([], [])).1)) := by
        rw [cell_of_row _ _ i _ _ _ HW.out.1, hij.out, List.getElem?_toArray]
        exact hce.1
      obtain ⟨gc, w2, hcv, hb2, hd1⟩ := dec_text (litK.getD j ([], [])).1 (by have := litK_len j hj; omega) wo
      have hdt : decT (litK.getD j ([], [])).1 = (litK.getD j ([], [])).2 := by
        have h1 := litK_dec j hj
        have h2 := litK_len j hj
        unfold decOut at h1
        rw [if_neg (by omega)] at h1
        exact (Prod.mk.injEq _ _ _ _).mp h1 |>.1
      have he2 := hid_mk (show ∀ w4, Below wo.heap.size wo w4 → w4.cell? ⟨w.heap.size, i + 1, none⟩ = some (.string (strOf (litK.getD j ([], [])).2)) ∧ w4.heap[w.heap.size]? = some (.cells cellsK.toArray 9 (0, 0)) ∧ Below w.heap.size w w4 from fun w4 hb => by
        have hlt : w.heap.size < wo.heap.size := (Array.getElem?_eq_some_iff.1 HW.out.1).1
        have hr := (hb.block _ hlt).trans HW.out.1
        refine ⟨?_, hr, HW.out.2.trans (hb.mono HW.out.2.size)⟩
        rw [cell_of_row _ _ (i + 1) _ _ _ hr, hij.out, List.getElem?_toArray]
        exact hce.2)
      rw [hdt] at hd1
      have HD := hid_mk hd1
      have HB := hid_mk hb2
      have hij2 := hid_mk (show i + 2 = 2 * (j + 1) by have := hij.out; omega)
      have hi28 : i ≤ 28 := by have := hij.out; omega
      clear hce hdt hd1 hb2 HW hij
      generalize (litK.getD j ([], [])).1 = X at *
      generalize (litK.getD j ([], [])).2 = Y at *
      go_wp2_with fail
      with_reducible refine HD.out.mono ?_
      rintro e w4 ⟨rfl, hb4⟩
      obtain ⟨e2, he3, he4⟩ := he2.out w4 (HB.out.trans (hb4.mono HB.out.size))
      have HF := hid_mk (And.intro he3 he4)
      clear hb4 he3 he4 he2 HB HD hcv e1
      go_wp2
      go_roundw
      case rel => exact ⟨i + 2, j + 1, by omega, by first | rfl | go_num, hij2, HF⟩
      case measure => simp [intOf]; omega
    · have hin' : ¬ (i : Int) < 30 := by omega
      have HB := hid_mk HW.out.2
      clear HW hij
      go_wp2_with fail
      go_loopw [5] (fun va wr => ∃ a : Nat, a ≤ 256 ∧ va = .int .i64 (a : Int) ∧ Hid (Below w.heap.size w wr)) (fun va _ => 256 - (intOf va).toNat)
      case atStart => exact ⟨0, by omega, rfl, HB⟩
      case round =>
        obtain ⟨a, ha, rfl, HW⟩ := hrel
        generalize wr = wo at *
        clear HB
        by_cases han : a < 256
        · have han' : (a : Int) < 256 := by omega
          have ha0 : (0 : Int) ≤ (a : Int) := by omega
          have haw : IntKind.u8.wrap (a : Int) = (a : Int) := u8_wrap _ ha0 han'
          go_wp2_with fail
          go_loopw [6] (fun vb wr => ∃ b : Nat, b ≤ 260 ∧ vb = .int .i64 (b : Int) ∧ Hid (Below w.heap.size w wr)) (fun vb _ => 260 - (intOf vb).toNat)
          case atStart => exact ⟨0, by omega, rfl, HW⟩
          case round =>
            obtain ⟨b, hb, rfl, HW2⟩ := hrel
            by_cases hbn : b < 256
            · have hbn' : (b : Int) < 256 := by omega
              have hb0 : (0 : Int) ≤ (b : Int) := by omega
              have hbw : IntKind.u8.wrap (b : Int) = (b : Int) := u8_wrap _ hb0 hbn'
              clear HW
              have t1 := two_bytes a han
              have t2 := two_bytes b hbn
              have hn1 : HasBytes (wr.alloc (.cells #[.int .u8 (a : Int), .int .u8 (b : Int), .int .u8 128, .int .u8 191, .int .u8 120] 5)) (some ⟨wr.heap.size, 0, none⟩) [a.toUInt8, b.toUInt8, 128, 191, 120] := has_new wr _ _ _ (by simp only [Lib.byteCells, List.map_cons, List.map_nil, t1, t2]; rfl)
              have HD := hid_mk (utfDecodes_w (some ⟨wr.heap.size, 0, none⟩) 5 [a.toUInt8, b.toUInt8, 128, 191, 120] _ hn1)
              have hn2 := hid_mk (fun (w2 : World) => bytes_conv (w2.alloc (.cells #[.int .u8 (a : Int), .int .u8 (b : Int), .int .u8 128] 5)) (some ⟨w2.heap.size, 0, none⟩) 3 [a.toUInt8, b.toUInt8, 128] (has_new w2 _ _ _ (by simp only [Lib.byteCells, List.map_cons, List.map_nil, t1, t2]; rfl)))
              have HB1 := hid_mk (show Below w.heap.size w (wr.alloc (.cells #[.int .u8 (a : Int), .int .u8 (b : Int), .int .u8 128, .int .u8 191, .int .u8 120] 5)) from HW2.out.alloc HW2.out.size _)
              clear t1 t2 hn1
              go_wp2_with fail
              refine HD.out.mono ?_
              rintro e w2 ⟨rfl, hb2, _⟩
              have HB2 := hid_mk (HB1.out.trans (hb2.mono HB1.out.size))
              have hcv : (convert 22 9 (.slice (some ⟨w2.heap.size, 0, none⟩) 3 3)).run Try.prog (w2.alloc (.cells #[.int .u8 (a : Int), .int .u8 (b : Int), .int .u8 128] 5)) = .ok (.string (strOf [a.toUInt8, b.toUInt8, 128])) _ := hn2.out w2
              generalize strOf [a.toUInt8, b.toUInt8, 128] = S at hcv
              clear hb2 HD HB1 hn2
              go_wp2_with fail
              refine (utfRunes_w S _).mono ?_
              rintro e w3 ⟨rfl, hb3, _⟩
              have HB3 := hid_mk ((HB2.out.alloc HB2.out.size _).trans (hb3.mono (by have := HB2.out.size; simp; omega)))
              clear hb3 hcv HB2 HW2
              go_wp2
              go_roundw
              case rel => exact ⟨b + 5, by omega, by first | rfl | go_num, HB3⟩
              case measure => simp [intOf]; omega
            · have hbn' : ¬ (b : Int) < 256 := by omega
              clear HW
              go_wp2
              go_roundw
              case rel => exact ⟨a + 1, by omega, by first | rfl | go_num, HW2⟩
              case measure => simp [intOf]; omega
        · have han' : ¬ (a : Int) < 256 := by omega
          obtain ⟨w2, Z, hZ, hmk, hb1, hd1⟩ := make_dec 65536 (by omega) wo
          have ho : decOut Z = (decT Z, 0) := by
            unfold decOut
            rw [if_neg (by omega)]
            rfl
          rw [ho] at hd1
          generalize decT Z = T at hd1
          have HD := hid_mk hd1
          have HB1 := hid_mk (HW.out.trans (hb1.mono HW.out.size))
          have ec : ((65536 : Nat) : Int) = 65536 := rfl
          rw [ec] at hmk
          clear ho hd1 hb1 hZ ec HW
          go_wp2_with fail
          refine HD.out.mono ?_
          rintro e w3 ⟨rfl, hb3⟩
          have HB3 := hid_mk (HB1.out.trans (hb3.mono HB1.out.size))
          clear hb3 HD HB1 hmk
          obtain ⟨w4, Z2, hZ, hmk, hb1, hd1⟩ := make_dec 65537 (by omega) w3
          have ho : decOut Z2 = ([], 3) := by
            unfold decOut
            rw [if_pos (by omega)]
          rw [ho] at hd1
          have HD := hid_mk hd1
          have HB4 := hid_mk (HB3.out.trans (hb1.mono HB3.out.size))
          have ec : ((65537 : Nat) : Int) = 65537 := rfl
          rw [ec] at hmk
          clear ho hd1 hb1 hZ ec HB3
          go_wp2_with fail
          refine HD.out.mono ?_
          rintro e w5 ⟨rfl, hb3⟩
          have HB5 := hid_mk (HB4.out.trans (hb3.mono HB4.out.size))
          have hq : (strOf []).toList = [] := by decide +kernel
          clear hb3 HD HB4 hmk
          go_wp2_with fail
          refine (utfStrings_w (some ⟨w5.heap.size, 0, none⟩) 16 litL (by decide +kernel) _ (has_new_runes w5 litL _ (0, 0) rfl)).mono ?_
          rintro e w6 ⟨rfl, hb6, _⟩
          have HB6 := hid_mk ((HB5.out.alloc HB5.out.size _).trans (hb6.mono (by have := HB5.out.size; simp; omega)))
          clear hb6 HB5
          go_wp2_with fail
          refine (works_any _).mono ?_
          rintro e w7 ⟨rfl, hb⟩
          have HB7 := hid_mk (HB6.out.trans (hb.mono HB6.out.size))
          clear hb HB6
          go_wp2
          go_ret
          exact ⟨rfl, HB7.out, trivial⟩
end Go.Proofs.Ytflgiejnklbjnaa
