/-
  The reference's letters, digits and small letters. Condition: the text's length is bounded.
-/
import Derived.Test.YtfjhljhgmbhklaaGreatDoorTBytes
namespace Go.Proofs.YtfjhljhgmbhklaaGreatDoor
open Go.RowKit
set_option maxHeartbeats 1000000 in
theorem rLetter_any (c : UInt8) (w : World) :
    Calls Tryz.prog 28 #[.int .u8 (c.toNat : Int)] w fun e w' => e = .returned (.bool (isLet c)) ∧ w = w' := by
  go_enter Tryz.func28, Tryz.ntmps28
  go_wp2
  all_goals
    go_ret
    refine ⟨ret_bool ?_, rfl⟩
    rw [Bool.eq_iff_iff]
    unfold isLet
    simp
    omega
set_option maxHeartbeats 1000000 in
theorem rDigit_any (c : UInt8) (w : World) :
    Calls Tryz.prog 29 #[.int .u8 (c.toNat : Int)] w fun e w' => e = .returned (.bool (isDig c)) ∧ w = w' := by
  go_enter Tryz.func29, Tryz.ntmps29
  go_wp2
  all_goals
    go_ret
    refine ⟨ret_bool ?_, rfl⟩
    rw [Bool.eq_iff_iff]
    unfold isDig
    simp <;> omega
theorem smL_take (l : List UInt8) (k : Nat) (hk : k < l.length) : smL (l.take k) ++ [smC (l.getD k 0)] = smL (l.take (k + 1)) := by
  unfold smL
  rw [List.take_add_one, List.map_append, List.getElem?_eq_getElem hk]
  simp [List.getD, hk]
theorem byteCells_one (c : UInt8) : [Value.int .u8 (c.toNat : Int)] = Lib.byteCells [c] := by simp [Lib.byteCells]
set_option maxHeartbeats 4000000 in
set_option maxRecDepth 100000 in
theorem rSmall_any (s : ByteArray) (w : World) (hs : s.size ≤ 1000000000) :
    Calls Tryz.prog 30 #[.string s] w fun e w' => e = .returned (.string (strOf (smL (sl s)))) ∧ Below w.heap.size w w' := by
  obtain ⟨i0, hi, hz0, hz1, hz2⟩ := info_parts infoByte
  have HI := hid_mk (And.intro hi (And.intro hz0 (And.intro hz1 hz2)))
  clear hi hz0 hz1 hz2
  go_enter Tryz.func30, Tryz.ntmps30
  go_wp2_with fail
  go_loopw [3, 4, 5] (fun v3 i _ wr => ∃ k : Nat, k ≤ s.size ∧ i = .int .i64 k ∧ Hid (wr.ownsRow w.heap.size 5 1 v3 k (Lib.byteCells (smL ((sl s).take k))) ∧ Below w.heap.size w wr)) (fun _ i _ _ => s.size - (intOf i).toNat)
  case atStart => exact ⟨0, Nat.zero_le _, rfl, hid_mk ⟨⟨rfl, .inl ⟨rfl, rfl⟩⟩, Below.refl _ _⟩⟩
  case round =>
    obtain ⟨k, hk, rfl, hW⟩ := hrel
    by_cases hlt : k < s.size
    · have hlti : (k : Int) < (s.size : Int) := by omega
      have ht := smL_take (sl s) k (by rw [len_sl]; exact hlt)
      rw [getD_sl s k hlt] at ht
      have HT := hid_mk ht
      clear ht
      by_cases hup : 65 ≤ (s[k]'hlt).toNat ∧ (s[k]'hlt).toNat ≤ 90
      · have HE := hid_mk (show (((s[k]'hlt).toNat : Int) + 32) = ((smC (s[k]'hlt)).toNat : Int) by rw [smC_up _ hup]; omega)
        obtain ⟨u1, u2⟩ := hup
        have u3 : (65 : Int) ≤ ((s[k]'hlt).toNat : Int) := by omega
        have u4 : ((s[k]'hlt).toNat : Int) ≤ 90 := by omega
        have hown := hW.out.1
        go_wp2_with (at_builtin; refine Classical.byContradiction fun hno => ?_)
        refine hno ?_
        clear hno
        obtain ⟨hi, hz0, hz1, hz2⟩ := HI.out
        refine wpList_append_own _ rfl (.tmp 23) (.tmp 25) _ rfl w.heap.size 5 i0 _ 1 1 Tryz.underlying42 hi hz0 hz1 hz2 rfl (by decide) _ k (Lib.byteCells (smL ((sl s).take k))) rfl (World.ownsRow.alloc hown _) ⟨wr.heap.size, 0, none⟩ 1 1 [.int .u8 (((s[k]'hlt).toNat : Int) + 32)] rfl rfl ?c1 ?c2 ?c3 ?c4 ?c5 ?_
        case c1 =>
          intro j u hu
          rw [addr_add0, cell_of_row _ _ j _ _ _ (heap_alloc_new wr _), ← hu, ← Array.getElem?_toList]
        case c2 =>
          intro u hu
          rw [List.mem_singleton] at hu
          subst hu
          rfl
        case c3 => unfold maxLen; omega
        case c4 => omega
        case c5 => exact Nat.le_trans hW.out.2.size (by simp)
        intro v' w2 hown' hgrow _
        rw [HE.out, byteCells_one, ← Lib.byteCells_append, HT.out] at hown'
        have HN := hid_mk (And.intro hown' ((hW.out.2.alloc hW.out.2.size _).grown hgrow (Nat.le_trans hW.out.2.size (by simp)) (fun q hq => own_base hown q hq)))
        clear hown' hgrow hown hi hz0 hz1 hz2
        go_wp2_with fail
        go_roundw
        case rel => exact ⟨k + 1, by omega, by go_num, HN⟩
        case measure => simp [intOf]; omega
      · have HE := hid_mk (show ((s[k]'hlt).toNat : Int) = ((smC (s[k]'hlt)).toNat : Int) by rw [smC_no _ hup])
        have hcase : (s[k]'hlt).toNat < 65 ∨ (65 ≤ (s[k]'hlt).toNat ∧ 90 < (s[k]'hlt).toNat) := by omega
        clear hup
        rcases hcase with h1 | ⟨h1, h2⟩
        · have u3 : ¬ (65 : Int) ≤ ((s[k]'hlt).toNat : Int) := by omega
          have hown := hW.out.1
          go_wp2_with (at_builtin; refine Classical.byContradiction fun hno => ?_)
          refine hno ?_
          clear hno
          obtain ⟨hi, hz0, hz1, hz2⟩ := HI.out
          refine wpList_append_own _ rfl (.tmp 23) (.tmp 25) _ rfl w.heap.size 5 i0 _ 1 1 Tryz.underlying42 hi hz0 hz1 hz2 rfl (by decide) _ k (Lib.byteCells (smL ((sl s).take k))) rfl (World.ownsRow.alloc hown _) ⟨wr.heap.size, 0, none⟩ 1 1 [.int .u8 ((s[k]'hlt).toNat : Int)] rfl rfl ?c1 ?c2 ?c3 ?c4 ?c5 ?_
          case c1 =>
            intro j u hu
            rw [addr_add0, cell_of_row _ _ j _ _ _ (heap_alloc_new wr _), ← hu, ← Array.getElem?_toList]
          case c2 =>
            intro u hu
            rw [List.mem_singleton] at hu
            subst hu
            rfl
          case c3 => unfold maxLen; omega
          case c4 => omega
          case c5 => exact Nat.le_trans hW.out.2.size (by simp)
          intro v' w2 hown' hgrow _
          rw [HE.out, byteCells_one, ← Lib.byteCells_append, HT.out] at hown'
          have HN := hid_mk (And.intro hown' ((hW.out.2.alloc hW.out.2.size _).grown hgrow (Nat.le_trans hW.out.2.size (by simp)) (fun q hq => own_base hown q hq)))
          clear hown' hgrow hown hi hz0 hz1 hz2
          go_wp2_with fail
          go_roundw
          case rel => exact ⟨k + 1, by omega, by go_num, HN⟩
          case measure => simp [intOf]; omega
        · have u3 : (65 : Int) ≤ ((s[k]'hlt).toNat : Int) := by omega
          have u4 : ¬ ((s[k]'hlt).toNat : Int) ≤ 90 := by omega
          have hown := hW.out.1
          go_wp2_with (at_builtin; refine Classical.byContradiction fun hno => ?_)
          refine hno ?_
          clear hno
          obtain ⟨hi, hz0, hz1, hz2⟩ := HI.out
          refine wpList_append_own _ rfl (.tmp 23) (.tmp 25) _ rfl w.heap.size 5 i0 _ 1 1 Tryz.underlying42 hi hz0 hz1 hz2 rfl (by decide) _ k (Lib.byteCells (smL ((sl s).take k))) rfl (World.ownsRow.alloc hown _) ⟨wr.heap.size, 0, none⟩ 1 1 [.int .u8 ((s[k]'hlt).toNat : Int)] rfl rfl ?c1 ?c2 ?c3 ?c4 ?c5 ?_
          case c1 =>
            intro j u hu
            rw [addr_add0, cell_of_row _ _ j _ _ _ (heap_alloc_new wr _), ← hu, ← Array.getElem?_toList]
          case c2 =>
            intro u hu
            rw [List.mem_singleton] at hu
            subst hu
            rfl
          case c3 => unfold maxLen; omega
          case c4 => omega
          case c5 => exact Nat.le_trans hW.out.2.size (by simp)
          intro v' w2 hown' hgrow _
          rw [HE.out, byteCells_one, ← Lib.byteCells_append, HT.out] at hown'
          have HN := hid_mk (And.intro hown' ((hW.out.2.alloc hW.out.2.size _).grown hgrow (Nat.le_trans hW.out.2.size (by simp)) (fun q hq => own_base hown q hq)))
          clear hown' hgrow hown hi hz0 hz1 hz2
          go_wp2_with fail
          go_roundw
          case rel => exact ⟨k + 1, by omega, by go_num, HN⟩
          case measure => simp [intOf]; omega
    · obtain rfl : k = s.size := by omega
      have hh := hW.out.1
      rw [List.take_of_length_le (by rw [len_sl]; exact Nat.le_refl _)] at hh
      have hl : (smL (sl s)).length = s.size := by unfold smL; rw [List.length_map, len_sl]
      rw [← hl] at hh
      obtain ⟨a, cap, rfl, hb⟩ := own_bytes hh
      have hbc := bytes_conv wr a cap (smL (sl s)) hb
      rw [hl] at hbc ⊢
      have hlt' : ¬ (s.size : Int) < (s.size : Int) := by omega
      clear hh hb hl
      go_wp2_with fail
      go_ret
      exact ⟨rfl, hW.out.2⟩
end Go.Proofs.YtfjhljhgmbhklaaGreatDoor
