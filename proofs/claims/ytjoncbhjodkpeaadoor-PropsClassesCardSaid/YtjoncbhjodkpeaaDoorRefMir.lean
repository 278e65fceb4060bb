/-
  Mirror of the document's answers: for every character what its list of pairs says. No condition.
-/
import Derived.Test.YtjoncbhjodkpeaaDoorProg
import Derived.Test.YtjoncbhjodkpeaaDoorFlat
import Derived.Test.YtjoncbhjodkpeaaDoorLits
import Derived.Test.YtjoncbhjodkpeaaDoorTab
import Derived.WalkLawsBesides
import Derived.Deep.AppendLies
namespace Go.Proofs.YtjoncbhjodkpeaaDoor
open Go.RowKit
def mir2 (r : Int) : List (Int × Int) → Int × Bool
  | [] => (r, false)
  | t :: l => if r = t.1 then (t.2, true) else if r = t.2 then (t.1, true) else mir2 r l
def seven : List (Int × Int) := [(60, 62), (171, 187), (8249, 8250), (8712, 8715), (8804, 8805), (8810, 8811), (8834, 8835)]
def allTwo : List (Int × Int) := seven ++ brackets
theorem lenTwo : allTwo.length = 30 := by decide
theorem mir2_drop (r : Int) (k : Nat) (hk : k < allTwo.length) : mir2 r (allTwo.drop k) = if r = allTwo[k].1 then (allTwo[k].2, true) else if r = allTwo[k].2 then (allTwo[k].1, true) else mir2 r (allTwo.drop (k + 1)) := by
  rw [List.drop_eq_getElem_cons hk]
  rfl
theorem infoTwo : (Tryd.prog.info? 53).map (fun i => (i.zero, i.size, i.bytes)) = some (some (.agg #[.int .i32 0, .int .i32 0]), 2, 8) := by kernel_rfl
theorem flatTwo : seven.flatMap cell2 ++ bracketCells.toList = allTwo.flatMap cell2 := by
  unfold allTwo bracketCells
  rw [List.flatMap_append]
theorem oneTwo : ∀ u ∈ bracketCells.toList, u.oneCell' = true := by
  intro u hu
  simp only [bracketCells, List.mem_flatMap, cell2] at hu
  obtain ⟨a, _, h⟩ := hu
  simp at h
  rcases h with rfl | rfl <;> rfl
theorem two_at (k : Nat) (hk : k < allTwo.length) : (allTwo.flatMap cell2)[k * 2]? = some (.int .i32 allTwo[k].1) ∧ (allTwo.flatMap cell2)[k * 2 + 1]? = some (.int .i32 allTwo[k].2) := by
  have h0 := flat_get cell2 2 (fun _ => rfl) allTwo k 0 hk (by omega)
  have h1 := flat_get cell2 2 (fun _ => rfl) allTwo k 1 hk (by omega)
  exact ⟨by simpa [cell2] using h0, by simpa [cell2] using h1⟩
set_option maxHeartbeats 1000000 in
set_option maxRecDepth 100000 in
theorem refMirror_any (r : Int) (w : World) :
    Calls Tryd.prog 16 #[.int .i32 r] w fun e w' => e = .returned (.tuple #[.int .i32 (mir2 r allTwo).1, .bool (mir2 r allTwo).2]) ∧ Below w.heap.size w w' := by
  obtain ⟨i0, hi, hz0, hz1, hz2⟩ := info_parts infoTwo
  have hown0 : ((w.alloc (.cells (seven.flatMap cell2).toArray 53)).alloc (.cells bracketCells 53)).ownsRow w.heap.size 53 2 (.slice (some ⟨w.heap.size, 0, none⟩) 7 7) 7 (seven.flatMap cell2) :=
    (World.ownsRow_lit w (seven.flatMap cell2).toArray 7 (Nat.le_refl _) (by decide) (by decide)).alloc _
  have hcell0 : ∀ j u, bracketCells.toList[j]? = some u → ((w.alloc (.cells (seven.flatMap cell2).toArray 53)).alloc (.cells bracketCells 53)).cell? (Addr.add ⟨w.heap.size + 1, 0, none⟩ j) = some u := by
    intro j u hu
    have hh := heap_alloc2_new w (.cells (seven.flatMap cell2).toArray 53) (.cells bracketCells 53)
    rw [Addr.add_lit, cell_of_row _ (w.heap.size + 1) (0 + j) _ _ _ hh, Nat.zero_add, ← hu, Array.getElem?_toList]
  go_enter Tryd.func16, Tryd.ntmps16
  go_wp2_with (first
    | (go_at_call 24; refine (brackets_any _).mono ?_; rintro e w' ⟨rfl, rfl⟩)
    | (at_builtin; refine Classical.byContradiction fun hno => ?_))
  refine hno ?_
  clear hno
  refine wpList_append_own _ rfl (.tmp 14) (.tmp 15) _ rfl w.heap.size 53 i0 _ 2 8 Tryd.underlying50 hi hz0 hz1 hz2 rfl (by decide) _ 7 _ rfl hown0 ⟨w.heap.size + 1, 0, none⟩ 23 23 bracketCells.toList rfl ?c1 hcell0 oneTwo ?c3 ?c4 ?c5 ?_
  case c1 => decide
  case c3 => decide
  case c4 => decide
  case c5 => simp; omega
  intro v' w1 hown1 hgrow _
  clear hown0 hcell0
  have hb1 : Below w.heap.size w w1 := (((Below.refl _ _).alloc (Nat.le_refl _) _).alloc (by simp) _).grown hgrow (by simp; omega) (fun k hk => by have hk' : some w.heap.size = some k := hk; cases hk'; exact Nat.le_refl _)
  rw [flatTwo] at hown1
  obtain ⟨g, cap, hv, hcap, hlt⟩ := hown1.form (by omega)
  rw [hv] at hown1
  rw [hv]
  have hcell : ∀ j, j < 60 → w1.cell? ⟨g, j, none⟩ = (allTwo.flatMap cell2)[j]? := fun j hj => hown1.cellAt j (by omega)
  clear hv hown1 hgrow hi hz0 hz1 hz2
  clear i0
  have HC : Hid _ := hcell
  clear hcell
  go_wp2
  go_loop [5] (fun i => ∃ k : Nat, k ≤ 30 ∧ i = .int .i64 k ∧ Hid (mir2 r allTwo = mir2 r (allTwo.drop k))) (fun i => 30 - (intOf i).toNat)
  case atStart => exact ⟨0, by omega, rfl, rfl⟩
  case round =>
    obtain ⟨k, hk, rfl, hm⟩ := hrel
    by_cases hlt : k < 30
    · have hk' : k < allTwo.length := by rw [lenTwo]; exact hlt
      have hd : Hid _ := mir2_drop r k hk'
      obtain ⟨t0, t1⟩ := two_at k hk'
      have c0 := (HC.out (k * 2) (by omega)).trans t0
      have c1 := (HC.out (k * 2 + 1) (by omega)).trans t1
      clear t0 t1
      generalize allTwo[k] = t at c0 c1 hd
      obtain ⟨a, b⟩ := t
      simp only at c0 c1 hd
      by_cases h1 : r = a
      · have hv : Hid (mir2 r allTwo = (b, true)) := hid_mk (by rw [hm.out, hd.out, if_pos h1])
        subst h1
        go_wp2
        go_ret2
        rw [hv.out]
        exact ⟨rfl, hb1⟩
      · by_cases h2 : r = b
        · have hv : Hid (mir2 r allTwo = (a, true)) := hid_mk (by rw [hm.out, hd.out, if_neg h1, if_pos h2])
          subst h2
          go_wp2
          go_ret2
          rw [hv.out]
          exact ⟨rfl, hb1⟩
        · have hv : Hid (mir2 r allTwo = mir2 r (allTwo.drop (k + 1))) := hid_mk (by rw [hm.out, hd.out, if_neg h1, if_neg h2])
          go_wp2
          go_round
          case rel => exact ⟨k + 1, by omega, by go_num, hv⟩
          case measure => simp [intOf]; omega
    · obtain rfl : k = 30 := by omega
      have hv : Hid (mir2 r allTwo = (r, false)) := hid_mk (by rw [hm.out]; rfl)
      go_wp2
      go_ret2
      rw [hv.out]
      exact ⟨rfl, hb1⟩
end Go.Proofs.YtjoncbhjodkpeaaDoor
