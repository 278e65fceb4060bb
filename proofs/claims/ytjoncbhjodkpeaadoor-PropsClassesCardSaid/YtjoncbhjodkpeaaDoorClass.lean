/-
  Class, of the program and of the document's answers: for every character the class of its range. No condition.
-/
import Derived.Test.YtjoncbhjodkpeaaDoorSearch
import Derived.Test.YtjoncbhjodkpeaaDoorLits
namespace Go.Proofs.YtjoncbhjodkpeaaDoor
open Go.RowKit
theorem infoSpans : (Tryd.prog.info? 42).map (·.size) = some spanCells.size := by rw [sizeSpan]; kernel_rfl
theorem sizeBoth : zeroCells.size = spanCells.size := by rw [sizeSpan, sizeZero]
set_option maxHeartbeats 1000000 in
set_option maxRecDepth 100000 in
theorem class_any (r : Int) (w : World) :
    Calls Tryd.prog 10 #[.int .i32 r] w fun e w' => e = .returned (.int .u8 (cls r)) ∧ Below w.heap.size w w' := by
  have hz : ∀ w, (zeroValue 42).run Tryd.prog w = .ok (.agg zeroCells) w := fun _ => by kernel_rfl
  go_enter Tryd.func10, Tryd.ntmps10
  go_wp2_with (first
    | (go_at_call 20; refine (spans_any _).mono ?_; rintro e w1 ⟨rfl, hb1⟩)
    | (refine wpList_store_row rfl 42 (.tmp 3) (.tmp 5) rfl w1.heap.size spanCells rfl rfl 42 zeroCells (heap_alloc_new w1 _) infoSpans sizeBoth oneSpan ?_)
    | (go_at_call 21; refine Classical.byContradiction fun hno => ?_))
  refine hno ?_
  clear hno
  have hs1 : w.heap.size + 1 ≤ w1.heap.size := by have := hb1.size; simpa using this
  have c0 : ((w1.alloc (.cells zeroCells 42)).setRow w1.heap.size spanCells).cell? ⟨w.heap.size, 0, none⟩ = some (.int .i32 r) := by
    rw [cell_setRow_other _ _ _ _ (by show w.heap.size ≠ w1.heap.size; omega), World.cell?_alloc_lt w1 _ _ (by show w.heap.size < w1.heap.size; omega), hb1.cell (by simp)]
    simp
  have cg : ∀ j, ((w1.alloc (.cells zeroCells 42)).setRow w1.heap.size spanCells).cell? ⟨w1.heap.size, j, none⟩ = spanCells[j]? := fun j =>
    cell_of_row _ _ j _ _ _ (setRow_heap _ _ _ _ _ _ (heap_alloc_new w1 (.cells zeroCells 42)))
  have hb2 : Below w.heap.size w ((w1.alloc (.cells zeroCells 42)).setRow w1.heap.size spanCells) :=
    below_setRow ((((Below.refl _ _).alloc (Nat.le_refl _) _).trans (hb1.mono (by simp))).alloc (by omega) _) (by omega) _
  generalize (w1.alloc (.cells zeroCells 42)).setRow w1.heap.size spanCells = w2 at *
  clear hb1
  have CG : Hid _ := cg
  clear cg
  have hS := search_any r w.heap.size w1.heap.size w2 c0 CG.out
  generalize w1.heap.size = g at *
  clear hz
  refine hS.mono ?_
  rintro e w3 ⟨i, rfl, ⟨hi, hlow, hhigh⟩, n, rfl⟩
  have hcls : Hid _ := cls_at r i hlow hhigh
  clear hS hlow hhigh
  have h0 : (0 : Int) ≤ (i : Int) := by omega
  by_cases h146 : i < 146
  · have hk : i < spans.length := by rw [lenS]; exact h146
    obtain ⟨t0, _, t2⟩ := span_at i hk
    have d0 := (CG.out (i * 3)).trans t0
    have d2 := (CG.out (i * 3 + 2)).trans t2
    clear t0 t2
    have hcls2 : Hid _ := hcls.out.trans (dif_pos hk)
    clear hcls
    generalize spans[i] = t at *
    obtain ⟨a, b, c⟩ := t
    simp only at d0 d2 hcls2
    have h146' : (i : Int) < 146 := by omega
    by_cases hf : a ≤ r
    · have hv : Hid (cls r = c) := hid_mk (by rw [hcls2.out, if_pos hf])
      clear hcls2
      go_wp2
      go_quiet (fail)
      go_wp2
      go_ret
      rw [hv.out]
      exact ⟨rfl, by first | exact below_drewN hb2 _ | exact below_drewN (below_drewN hb2 _) _⟩
    · have hv : Hid (cls r = 1) := hid_mk (by rw [hcls2.out, if_neg hf])
      have hfb : decide (a ≤ r) = false := by simpa using hf
      clear hcls2
      go_wp2
      go_quiet (fail)
      go_wp2
      go_ret
      rw [hv.out]
      exact ⟨rfl, by first | exact below_drewN hb2 _ | exact below_drewN (below_drewN hb2 _) _⟩
  · have hv : Hid (cls r = 1) := hid_mk (by rw [hcls.out, dif_neg (by rw [lenS]; exact h146)])
    have hd : decide ((i : Int) < 146) = false := by simp; omega
    clear hcls
    go_wp2
    go_quiet (fail)
    go_wp2
    go_ret
    rw [hv.out]
    exact ⟨rfl, by first | exact below_drewN hb2 _ | exact below_drewN (below_drewN hb2 _) _⟩
/-! The document's. -/
set_option maxHeartbeats 1000000 in
set_option maxRecDepth 100000 in
theorem refClass_any (r : Int) (w : World) :
    Calls Tryd.prog 11 #[.int .i32 r] w fun e w' => e = .returned (.int .u8 (cls r)) ∧ Below w.heap.size w w' := by
  by_cases hl : (65 ≤ r ∧ r ≤ 90) ∨ (97 ≤ r ∧ r ≤ 122)
  · have hv : Hid (cls r = 1) := hid_mk (cls_letter r hl)
    have hb0 := Below.refl w.heap.size w
    rcases hl with ⟨a1, a2⟩ | ⟨a1, a2⟩
    · go_enter Tryd.func11, Tryd.ntmps11
      go_wp2
      go_ret
      rw [hv.out]
      exact ⟨rfl, hb0⟩
    · have a3 : ¬ r ≤ 90 := by omega
      have a4 : (65 : Int) ≤ r := by omega
      go_enter Tryd.func11, Tryd.ntmps11
      go_wp2
      go_ret
      rw [hv.out]
      exact ⟨rfl, hb0⟩
  · have hq : r < 65 ∨ (90 < r ∧ r < 97) ∨ 122 < r := by omega
    have HC : Hid (∀ j, (w.alloc (.cells spanCells 26)).cell? ⟨w.heap.size, j, none⟩ = spanCells[j]?) := hid_mk (fun j => cell_of_row _ _ j _ _ _ (heap_alloc_new w _))
    have hb : Below w.heap.size w (w.alloc (.cells spanCells 26)) := (Below.refl _ _).alloc (Nat.le_refl _) _
    clear hl
    have go : (decide (65 ≤ r) && decide (r ≤ 90) || decide (97 ≤ r) && decide (r ≤ 122)) = false := by
      rcases hq with h | h | h <;> simp <;> omega
    have hq2 : (65 ≤ r → 90 < r) ∧ (97 ≤ r → 122 < r) := by omega
    clear hq
    have hcases : (r < 65) ∨ (65 ≤ r ∧ 90 < r ∧ r < 97) ∨ (65 ≤ r ∧ 90 < r ∧ 97 ≤ r ∧ 122 < r) := by omega
    clear go hq2
    rcases hcases with h | h | h
    all_goals
      first
        | (have b1 : ¬ 65 ≤ r := by omega
           have b2 : ¬ 97 ≤ r := by omega
           clear h)
        | (obtain ⟨b1, b2, b3⟩ := h
           have b4 : ¬ r ≤ 90 := by omega
           have b5 : ¬ 97 ≤ r := by omega
           clear b2 b3)
        | (obtain ⟨b1, b2, b3, b6⟩ := h
           have b4 : ¬ r ≤ 90 := by omega
           have b5 : ¬ r ≤ 122 := by omega
           clear b2 b6)
      go_enter Tryd.func11, Tryd.ntmps11
      go_wp2_with (go_at_call 9; refine (ranges_any _).mono ?_; rintro e w' ⟨rfl, rfl⟩)
      generalize w.alloc (.cells spanCells 26) = w1 at HC hb
      go_loop [4] (fun i => ∃ k : Nat, k ≤ 146 ∧ i = .int .i64 k ∧ Hid (cls r = clsOf r (spans.drop k))) (fun i => 146 - (intOf i).toNat)
      case atStart => exact ⟨0, by omega, rfl, rfl⟩
      case round =>
        obtain ⟨k, hk, rfl, hm⟩ := hrel
        by_cases hlt : k < 146
        · have hk' : k < spans.length := by rw [lenS]; exact hlt
          have hd : Hid _ := clsOf_drop r k hk'
          obtain ⟨t0, t1, t2⟩ := span_at k hk'
          have c0 := (HC.out (k * 3)).trans t0
          have c1 := (HC.out (k * 3 + 1)).trans t1
          have c2 := (HC.out (k * 3 + 2)).trans t2
          clear t0 t1 t2
          generalize spans[k] = t at *
          obtain ⟨a, b, c⟩ := t
          simp only at c0 c1 c2 hd
          have h0k : (0 : Int) ≤ (k : Int) := by omega
          by_cases h1 : a ≤ r
          · by_cases h2 : r ≤ b
            · have hv : Hid (cls r = c) := hid_mk (by rw [hm.out, hd.out, if_pos ⟨h1, h2⟩])
              clear hd hm
              go_wp2
              go_ret
              rw [hv.out]
              exact ⟨rfl, hb⟩
            · have hv : Hid (cls r = clsOf r (spans.drop (k + 1))) := hid_mk (by rw [hm.out, hd.out, if_neg (fun h => h2 h.2)])
              clear hd hm
              go_wp2
              go_round
              case rel => exact ⟨k + 1, by omega, by go_num, hv⟩
              case measure => simp [intOf]; omega
          · have hv : Hid (cls r = clsOf r (spans.drop (k + 1))) := hid_mk (by rw [hm.out, hd.out, if_neg (fun h => h1 h.1)])
            clear hd hm
            go_wp2
            go_round
            case rel => exact ⟨k + 1, by omega, by go_num, hv⟩
            case measure => simp [intOf]; omega
        · obtain rfl : k = 146 := by omega
          have hv : Hid (cls r = 1) := hid_mk (by rw [hm.out, List.drop_eq_nil_of_le (by rw [lenS]; omega)]; rfl)
          clear hm
          go_wp2
          go_ret
          rw [hv.out]
          exact ⟨rfl, hb⟩
end Go.Proofs.YtjoncbhjodkpeaaDoor
