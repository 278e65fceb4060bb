/-
  The law of layer 4 about texts of each rule: it returns true. Condition: the world holds what Tab says.
-/
import Derived.Test.YtakakaenlfilmaaGreatDoorTRfW
import Derived.Test.YtakakaenlfilmaaGreatDoorTParts
import Derived.Laws.OwnMore
import Derived.Deep.RegionHeld3
import Derived.IntWalk
namespace Go.Proofs.YtakakaenlfilmaaGreatDoor
open Go.RowKit
def knownT : List (List UInt8) := [[], [97], [60], [97, 60], [60, 62], [60, 32, 112, 62], [60, 112], [60, 112, 62], [60, 80, 32, 67, 108, 97, 115, 115, 61, 34, 97, 32, 98, 34, 32, 105, 100, 61, 120, 62, 97, 32, 60, 32, 98, 60, 47, 112, 62], [60, 98, 114, 47, 62, 60, 33, 45, 45, 32, 120, 32, 45, 45, 62, 97, 60, 98], [60, 33, 68, 79, 67, 84, 89, 80, 69, 32, 104, 116, 109, 108, 32, 62, 32, 49, 32, 60, 32, 50], [60, 47, 62], [60, 47], [60, 47, 32, 112, 62], [60, 112, 32, 97, 32, 97, 62], [60, 112, 32, 97, 32, 65, 62], [60, 112, 32, 97, 61, 62], [60, 112, 32, 97, 61, 32, 62], [60, 112, 32, 97, 61, 34, 120, 62], [60, 112, 32, 97, 61, 39, 120, 34, 121, 39, 62], [60, 112, 32, 97, 61, 120, 34, 121, 62], [60, 112, 32, 97, 61, 96, 62], [60, 112, 32, 97, 61, 98, 61, 99, 62], [60, 112, 32, 61, 97, 62], [60, 112, 32, 97, 47, 62], [60, 112, 32, 97, 47, 32, 62], [60, 112, 47, 97, 62], [60, 112, 32, 47, 32, 62], [60, 112, 32, 97, 32, 61, 32, 98, 32, 62], [60, 112, 32, 97, 10, 98, 9, 99, 61, 100, 62], [60, 112, 32, 97, 95, 45, 57, 61, 49, 62], [60, 112, 32, 97, 58, 98, 62], [60, 112, 45, 113, 62], [60, 112, 46, 113, 62], [60, 112, 233, 62], [60, 47, 112, 32, 97, 62], [60, 47, 112, 47, 62], [60, 47, 112, 32, 62], [60, 63, 120, 63, 62], [60, 33, 120, 62], [60, 33, 45], [60, 33, 45, 45], [60, 33, 45, 45, 45, 45, 62], [60, 33, 45, 45, 62], [60, 33, 45, 45, 45, 62], [60, 33, 45, 45, 97, 45, 45, 62, 98, 45, 45, 62], [60, 33, 45, 45, 97, 45, 45, 33, 62, 98, 45, 45, 62], [60, 33, 45, 45, 97, 60, 33, 45, 45, 98, 45, 45, 62], [60, 33, 45, 45, 97, 60, 33, 45, 45, 45, 62], [60, 33, 45, 45, 97, 60, 33, 45, 45, 62], [60, 33, 45, 45, 32, 45, 32, 45, 45, 32, 45, 45, 62], [60, 33, 100, 111, 99, 116, 121, 112, 101, 62], [60, 33, 100, 111, 99, 116, 121, 112, 101, 104, 116, 109, 108, 62], [60, 33, 68, 111, 99, 84, 121, 112, 101], [60, 33, 100, 111, 99, 62], [60, 112, 32, 97, 61, 38, 97, 109, 112, 59, 62, 38, 97, 109, 112, 59, 60, 47, 112, 62], [60, 112, 32, 97, 61, 38, 108, 116, 62, 120], [60, 112, 32, 97, 61, 39, 38, 108, 116, 120, 32, 38, 99, 111, 112, 121, 61, 49, 39, 32, 98, 61, 34, 38, 108, 116, 120, 34, 62, 38, 108, 116, 120], [97, 0, 98], [60, 112, 32, 97, 61, 47, 62], [60, 112, 32, 97, 61, 47, 98, 62], [60, 112, 32, 97, 61, 39, 39, 32, 98, 62], [12, 60, 98, 114, 12, 47, 62], [97, 60, 63], [97, 60, 33], [97, 60, 47], [60, 97, 62, 60, 98, 62, 60, 47, 98, 62, 60, 47, 97, 62, 99], [60, 112, 32, 97, 61, 49, 32, 98, 61, 50, 32, 99, 61, 51, 32, 100, 61, 52, 32, 101, 61, 53, 32, 102, 61, 54, 32, 103, 61, 55, 32, 104, 61, 56, 32, 105, 61, 57, 32, 106, 61, 48, 32, 107, 61, 49, 32, 108, 61, 50, 32, 109, 61, 51, 32, 110, 61, 52, 32, 111, 61, 53, 32, 112, 61, 54, 62], [60, 112, 32, 97, 61, 49, 32, 98, 61, 50, 32, 99, 61, 51, 32, 100, 61, 52, 32, 101, 61, 53, 32, 102, 61, 54, 32, 103, 61, 55, 32, 104, 61, 56, 32, 105, 61, 57, 32, 106, 61, 48, 32, 107, 61, 49, 32, 108, 61, 50, 32, 109, 61, 51, 32, 110, 61, 52, 32, 111, 61, 53, 32, 112, 61, 54, 32, 113, 62], [60, 112, 32, 97, 61, 49, 32, 98, 61, 50, 32, 99, 61, 51, 32, 100, 61, 52, 32, 101, 61, 53, 32, 102, 61, 54, 32, 103, 61, 55, 32, 104, 61, 56, 32, 105, 61, 57, 32, 106, 61, 48, 32, 107, 61, 49, 32, 108, 61, 50, 32, 109, 61, 51, 32, 110, 61, 52, 32, 111, 61, 53, 32, 112, 61, 54, 32, 112, 62]]
def knownC : Array Value := (knownT.map fun l => Value.string (strOf l)).toArray
theorem knownLen : knownT.length = 70 := by decide +kernel
theorem knNext.cell {w w' : World} (h : Next w w') {p : Addr} {v : Value} (hc : w.cell? p = some v) : w'.cell? p = some v := (h.1.cell (World.block_lt_of_cell? w _ hc)).trans hc
theorem knNext.drewN {w w' : World} (h : Next w w') (n : Nat) : Next w (w'.drewN n) := h.trans (Next.of h.2 (below_drewN (Below.refl _ _) n))
theorem known_lit : (#[.string ⟨#[]⟩, .string ⟨#[97]⟩, .string ⟨#[60]⟩, .string ⟨#[97, 60]⟩, .string ⟨#[60, 62]⟩, .string ⟨#[60, 32, 112, 62]⟩, .string ⟨#[60, 112]⟩, .string ⟨#[60, 112, 62]⟩, .string ⟨#[60, 80, 32, 67, 108, 97, 115, 115, 61, 34, 97, 32, 98, 34, 32, 105, 100, 61, 120, 62, 97, 32, 60, 32, 98, 60, 47, 112, 62]⟩, .string ⟨#[60, 98, 114, 47, 62, 60, 33, 45, 45, 32, 120, 32, 45, 45, 62, 97, 60, 98]⟩, .string ⟨#[60, 33, 68, 79, 67, 84, 89, 80, 69, 32, 104, 116, 109, 108, 32, 62, 32, 49, 32, 60, 32, 50]⟩, .string ⟨#[60, 47, 62]⟩, .string ⟨#[60, 47]⟩, .string ⟨#[60, 47, 32, 112, 62]⟩, .string ⟨#[60, 112, 32, 97, 32, 97, 62]⟩, .string ⟨#[60, 112, 32, 97, 32, 65, 62]⟩, .string ⟨#[60, 112, 32, 97, 61, 62]⟩, .string ⟨#[60, 112, 32, 97, 61, 32, 62]⟩, .string ⟨#[60, 112, 32, 97, 61, 34, 120, 62]⟩, .string ⟨#[60, 112, 32, 97, 61, 39, 120, 34, 121, 39, 62]⟩, .string ⟨#[60, 112, 32, 97, 61, 120, 34, 121, 62]⟩, .string ⟨#[60, 112, 32, 97, 61, 96, 62]⟩, .string ⟨#[60, 112, 32, 97, 61, 98, 61, 99, 62]⟩, .string ⟨#[60, 112, 32, 61, 97, 62]⟩, .string ⟨#[60, 112, 32, 97, 47, 62]⟩, .string ⟨#[60, 112, 32, 97, 47, 32, 62]⟩, .string ⟨#[60, 112, 47, 97, 62]⟩, .string ⟨#[60, 112, 32, 47, 32, 62]⟩, .string ⟨#[60, 112, 32, 97, 32, 61, 32, 98, 32, 62]⟩, .string ⟨#[60, 112, 32, 97, 10, 98, 9, 99, 61, 100, 62]⟩, .string ⟨#[60, 112, 32, 97, 95, 45, 57, 61, 49, 62]⟩, .string ⟨#[60, 112, 32, 97, 58, 98, 62]⟩, .string ⟨#[60, 112, 45, 113, 62]⟩, .string ⟨#[60, 112, 46, 113, 62]⟩, .string ⟨#[60, 112, 233, 62]⟩, .string ⟨#[60, 47, 112, 32, 97, 62]⟩, .string ⟨#[60, 47, 112, 47, 62]⟩, .string ⟨#[60, 47, 112, 32, 62]⟩, .string ⟨#[60, 63, 120, 63, 62]⟩, .string ⟨#[60, 33, 120, 62]⟩, .string ⟨#[60, 33, 45]⟩, .string ⟨#[60, 33, 45, 45]⟩, .string ⟨#[60, 33, 45, 45, 45, 45, 62]⟩, .string ⟨#[60, 33, 45, 45, 62]⟩, .string ⟨#[60, 33, 45, 45, 45, 62]⟩, .string ⟨#[60, 33, 45, 45, 97, 45, 45, 62, 98, 45, 45, 62]⟩, .string ⟨#[60, 33, 45, 45, 97, 45, 45, 33, 62, 98, 45, 45, 62]⟩, .string ⟨#[60, 33, 45, 45, 97, 60, 33, 45, 45, 98, 45, 45, 62]⟩, .string ⟨#[60, 33, 45, 45, 97, 60, 33, 45, 45, 45, 62]⟩, .string ⟨#[60, 33, 45, 45, 97, 60, 33, 45, 45, 62]⟩, .string ⟨#[60, 33, 45, 45, 32, 45, 32, 45, 45, 32, 45, 45, 62]⟩, .string ⟨#[60, 33, 100, 111, 99, 116, 121, 112, 101, 62]⟩, .string ⟨#[60, 33, 100, 111, 99, 116, 121, 112, 101, 104, 116, 109, 108, 62]⟩, .string ⟨#[60, 33, 68, 111, 99, 84, 121, 112, 101]⟩, .string ⟨#[60, 33, 100, 111, 99, 62]⟩, .string ⟨#[60, 112, 32, 97, 61, 38, 97, 109, 112, 59, 62, 38, 97, 109, 112, 59, 60, 47, 112, 62]⟩, .string ⟨#[60, 112, 32, 97, 61, 38, 108, 116, 62, 120]⟩, .string ⟨#[60, 112, 32, 97, 61, 39, 38, 108, 116, 120, 32, 38, 99, 111, 112, 121, 61, 49, 39, 32, 98, 61, 34, 38, 108, 116, 120, 34, 62, 38, 108, 116, 120]⟩, .string ⟨#[97, 0, 98]⟩, .string ⟨#[60, 112, 32, 97, 61, 47, 62]⟩, .string ⟨#[60, 112, 32, 97, 61, 47, 98, 62]⟩, .string ⟨#[60, 112, 32, 97, 61, 39, 39, 32, 98, 62]⟩, .string ⟨#[12, 60, 98, 114, 12, 47, 62]⟩, .string ⟨#[97, 60, 63]⟩, .string ⟨#[97, 60, 33]⟩, .string ⟨#[97, 60, 47]⟩, .string ⟨#[60, 97, 62, 60, 98, 62, 60, 47, 98, 62, 60, 47, 97, 62, 99]⟩, .string ⟨#[60, 112, 32, 97, 61, 49, 32, 98, 61, 50, 32, 99, 61, 51, 32, 100, 61, 52, 32, 101, 61, 53, 32, 102, 61, 54, 32, 103, 61, 55, 32, 104, 61, 56, 32, 105, 61, 57, 32, 106, 61, 48, 32, 107, 61, 49, 32, 108, 61, 50, 32, 109, 61, 51, 32, 110, 61, 52, 32, 111, 61, 53, 32, 112, 61, 54, 62]⟩, .string ⟨#[60, 112, 32, 97, 61, 49, 32, 98, 61, 50, 32, 99, 61, 51, 32, 100, 61, 52, 32, 101, 61, 53, 32, 102, 61, 54, 32, 103, 61, 55, 32, 104, 61, 56, 32, 105, 61, 57, 32, 106, 61, 48, 32, 107, 61, 49, 32, 108, 61, 50, 32, 109, 61, 51, 32, 110, 61, 52, 32, 111, 61, 53, 32, 112, 61, 54, 32, 113, 62]⟩, .string ⟨#[60, 112, 32, 97, 61, 49, 32, 98, 61, 50, 32, 99, 61, 51, 32, 100, 61, 52, 32, 101, 61, 53, 32, 102, 61, 54, 32, 103, 61, 55, 32, 104, 61, 56, 32, 105, 61, 57, 32, 106, 61, 48, 32, 107, 61, 49, 32, 108, 61, 50, 32, 109, 61, 51, 32, 110, 61, 52, 32, 111, 61, 53, 32, 112, 61, 54, 32, 112, 62]⟩] : Array Value) = knownC := by kernel_rfl
theorem known_at (k : Nat) (hk : k < 70) : knownC[k]? = some (.string (strOf (knownT.getD k []))) := by
  have hl : k < knownT.length := by rw [knownLen]; exact hk
  unfold knownC
  rw [List.getElem?_toArray, List.getElem?_map, List.getElem?_eq_getElem hl]
  simp [List.getD, hl]
/-- A block of so many bytes, the first ones written. -/
def BigRow (g n k : Nat) (w : World) : Prop := ∃ cs : Array Value, w.heap[g]? = some (.cells cs 5 (0, 0)) ∧ cs.size = n ∧ ∀ j, j < k → cs[j]? = some (.int .u8 97)
theorem BigRow.set {g n k : Nat} {w : World} (h : BigRow g n k w) (hk : k < n) : BigRow g n (k + 1) (w.setCell ⟨g, k, none⟩ (.int .u8 97)) := by
  obtain ⟨cs, h1, h2, h3⟩ := h
  refine ⟨cs.setIfInBounds k (.int .u8 97), Blk.setAt h1 k _, by rw [Array.size_setIfInBounds]; exact h2, fun j hj => ?_⟩
  by_cases e : j = k
  · subst e
    rw [Array.getElem?_setIfInBounds_self_of_lt (by omega)]
  · rw [Array.getElem?_setIfInBounds_ne (by omega)]
    exact h3 j (by omega)
theorem BigRow.has {g n : Nat} {w : World} (h : BigRow g n n w) (i m : Nat) (hm : i + m ≤ n) : HasBytes w (some ⟨g, i, none⟩) (List.replicate m 97) := by
  obtain ⟨cs, h1, h2, h3⟩ := h
  refine .inr ⟨_, rfl, fun _ => (Array.getElem?_eq_some_iff.1 h1).1, fun j u hu => ?_⟩
  unfold Lib.byteCells at hu
  rw [List.map_replicate, List.getElem?_replicate] at hu
  split at hu
  · rename_i hj
    injection hu with hu
    subst hu
    rw [show (⟨g, i, none⟩ : Addr).add j = ⟨g, i + j, none⟩ by unfold Addr.add; split <;> simp_all]
    rw [cell_of_row w g _ _ _ _ h1, h3 (i + j) (by omega)]
    rfl
  · cases hu
theorem has_no (n : Nat) : hasL (List.replicate n 97) [60, 38, 0] = false := by
  unfold hasL
  rw [List.any_replicate]
  split <;> first | rfl | decide
set_option maxHeartbeats 4000000 in
set_option maxRecDepth 100000 in
theorem tokenKnown_w (w : World) (hT : Tab w) :
    Calls Tryz.prog 4 #[] w fun e w' => e = .returned (.bool true) ∧ Next w w' := by
  have HT := hid_mk hT
  clear hT
  obtain ⟨i0, hi, hz0, hz1, hz2⟩ := info_parts infoByte
  have HI := hid_mk (And.intro hi (And.intro hz0 (And.intro hz1 hz2)))
  clear hi hz0 hz1 hz2
  go_enter Tryz.func4, Tryz.ntmps4
  go_wp2_with fail
  rw [known_lit]
  have hrow := hid_mk (show (w.alloc (.cells knownC 9)).heap[w.heap.size]? = some (.cells knownC 9 (0, 0)) ∧ Next w (w.alloc (.cells knownC 9)) from ⟨heap_alloc_new w _, Next.of HT.out ((Below.refl _ _).alloc (Nat.le_refl _) _)⟩)
  obtain ⟨g, hg⟩ : ∃ g, g = w.heap.size := ⟨_, rfl⟩
  have HG := hid_mk hg
  rw [← hg] at hrow
  rw [← HG.out]
  clear hg
  generalize w.alloc (.cells knownC 9) = w1 at *
  go_loopw [2] (fun vi wr => ∃ i : Nat, i ≤ 70 ∧ vi = .int .i64 (i : Int) ∧ Hid (wr.heap[g]? = some (.cells knownC 9 (0, 0)) ∧ Next w wr)) (fun vi _ => 70 - (intOf vi).toNat)
  case atStart => exact ⟨0, by omega, rfl, hrow⟩
  case round =>
    obtain ⟨i, hi, rfl, HW⟩ := hrel
    generalize wr = wo at *
    clear hrow
    by_cases hin : i < 70
    · have hin' : (i : Int) < 70 := by omega
      have hi0 : (0 : Int) ≤ (i : Int) := by omega
      obtain ⟨j, hj⟩ : ∃ j, j = (i * 7 + 3) % 70 := ⟨_, rfl⟩
      have hjl : j < 70 := by rw [hj]; exact Nat.mod_lt _ (by decide)
      have e0 : wo.cell? ⟨g, i, none⟩ = some (.string (strOf (knownT.getD i []))) := by
        rw [cell_of_row _ _ i _ _ _ HW.out.1]; exact known_at i hin
      have e1 : wo.cell? ⟨g, j, none⟩ = some (.string (strOf (knownT.getD j []))) := by
        rw [cell_of_row _ _ j _ _ _ HW.out.1]; exact known_at j hjl
      generalize strOf (knownT.getD i []) = XA at *
      generalize strOf (knownT.getD j []) = XB at *
      have hr := hid_mk (fun w hT => tokenReads_w XA w hT)
      have hp := hid_mk (fun w hT => tokenParts_c XA XB w hT)
      have hq := hid_mk (fun w hT => tokenParts_c ⟨#[60, 98, 62]⟩ XA w hT)
      have hlt : g < wo.heap.size := (Array.getElem?_eq_some_iff.1 HW.out.1).1
      have hkeep := hid_mk (show ∀ w', Next wo w' → w'.heap[g]? = some (.cells knownC 9 (0, 0)) ∧ Next w w' from fun w' n => ⟨(n.1.block _ hlt).trans HW.out.1, HW.out.2.trans n⟩)
      have hT2 := hid_mk HW.out.2.2
      have hjl' : (j : Int) < 70 := by omega
      have hj0 : (0 : Int) ≤ (j : Int) := by omega
      have hmod : ((i : Int) * 7 + 3).tmod 70 = (j : Int) := by
        rw [hj, Int.tmod_eq_emod_of_nonneg (by omega)]
        omega
      have ha1 : IntKind.i64.wrap ((i : Int) * 7) = (i : Int) * 7 := IntWalk.i64_in _ (by omega)
      have ha2 : IntKind.i64.wrap ((i : Int) * 7 + 3) = (i : Int) * 7 + 3 := IntWalk.i64_in _ (by omega)
      have ha3 : IntKind.i64.wrap (j : Int) = (j : Int) := IntWalk.i64_in _ (by omega)
      clear hj HW
      go_wp2_with fail
      go_region_held3 (fun w' => w'.cell? ⟨g, i, none⟩ = some (.string XA) ∧ w'.cell? ⟨g, j, none⟩ = some (.string XB) ∧ Next wo w')
        (first
          | exact ⟨e0, e1, knNext.drewN (Next.refl hT2.out) 1⟩
          | (go_split_ands; exact ⟨knNext.cell ((‹Next wo _›).trans nA) e0, knNext.cell ((‹Next wo _›).trans nA) e1, (‹Next wo _›).trans nA⟩)
          | (go_split_ands; exact ⟨knNext.cell ((‹Next wo _›).trans nB) e0, knNext.cell ((‹Next wo _›).trans nB) e1, (‹Next wo _›).trans nB⟩)
          | (go_split_ands; exact ⟨knNext.cell ((‹Next wo _›).trans nC) e0, knNext.cell ((‹Next wo _›).trans nC) e1, (‹Next wo _›).trans nC⟩))
        (first
          | (go_at_call 3; go_split_ands; refine (hr.out _ (by exact (‹Next wo _›).2)).mono ?_; rintro e w3 ⟨rfl, nA⟩)
          | (go_at_call 9; go_split_ands; (with_reducible refine (hp.out _ ?_).mono ?_); (exact (‹Next wo _›).2); rintro e w3 ⟨rfl, nB⟩)
          | (go_at_call 9; go_split_ands; (with_reducible refine (hq.out _ ?_).mono ?_); (exact (‹Next wo _›).2); rintro e w3 ⟨rfl, nC⟩))
      all_goals
        go_split_ands
        have HK := hid_mk (hkeep.out w3 (by assumption))
        clear ha1 ha2 ha3 hmod nA nB nC
        go_wp2_with fail
        go_roundw
        case rel => exact ⟨i + 1, by omega, by go_num, HK⟩
        case measure => simp [intOf]; omega
    · have hin' : ¬ (i : Int) < 70 := by omega
      have HN := hid_mk HW.out.2
      clear HW hi hin
      obtain ⟨n, hn⟩ : ∃ n : Nat, n = 65537 := ⟨_, rfl⟩
      obtain ⟨hi', hz0, hz1, hz2⟩ := HI.out
      obtain ⟨w2, hrun, hown, hgrow⟩ := run_makeSlice_full (P := Tryz.prog) wo wo.heap.size 39 5 i0 _ 1 Tryz.underlying39 hi' hz0 hz1 .i64 .i64 n (by omega) (by rw [hz2]; omega) (by unfold maxLen; omega) (Nat.le_refl _)
      have hb : Below wo.heap.size wo w2 := (Below.refl _ _).grown hgrow (Nat.le_refl _) (fun k hk => by cases hk)
      have hbig : BigRow wo.heap.size n 0 w2 := by
        rcases hown.2 with ⟨hx, _⟩ | ⟨g', cap, cur, hv, _, h3, _, _, h5, _⟩
        · cases hx
        · injection hv with hv _ hc
          injection hv with hv
          injection hv with hv
          subst hv hc
          exact ⟨cur, h3, by rw [h5, Nat.mul_one], fun j hj => by omega⟩
      have H2 := hid_mk (And.intro hbig (And.intro (HN.out.trans (Next.of HN.out.2 hb)) HN.out.1.size))
      rw [hn] at hrun
      rw [show ((65537 : Nat) : Int) = 65537 from rfl] at hrun
      obtain ⟨gb, hgb⟩ : ∃ gb, gb = wo.heap.size := ⟨_, rfl⟩
      rw [← hgb] at hrun H2
      have HNN := hid_mk hn
      clear hown hgrow hb hbig hi' hz0 hz1 hz2 hgb hn
      go_wp2_with fail
      go_loopw [4] (fun vi wr => ∃ i : Nat, i ≤ 65537 ∧ vi = .int .i64 (i : Int) ∧ Hid (BigRow gb n i wr ∧ Next w wr ∧ w.heap.size ≤ gb)) (fun vi _ => 65537 - (intOf vi).toNat)
      case atStart => exact ⟨0, by omega, rfl, H2⟩
      case round =>
        obtain ⟨k, hk, rfl, HW⟩ := hrel
        clear H2
        by_cases hkn : k < 65537
        · have hkn' : (k : Int) < 65537 := by omega
          obtain ⟨cs, hcs, hsz, _⟩ := HW.out.1
          have hkc : k < cs.size := by rw [hsz, HNN.out]; exact hkn
          have f0 : wr.frozen? ⟨gb, k, none⟩ = false := Lib.frozen_of_heap hcs _
          have c0 : wr.cell? ⟨gb, k, none⟩ = some cs[k] := by rw [cell_of_row wr gb _ _ _ _ hcs, Array.getElem?_eq_getElem hkc]
          have HX := hid_mk (show BigRow gb n (k + 1) (wr.setCell ⟨gb, k, none⟩ (.int .u8 97)) ∧ Next w (wr.setCell ⟨gb, k, none⟩ (.int .u8 97)) ∧ w.heap.size ≤ gb from by
            have hb : Below w.heap.size w (wr.setCell ⟨gb, k, none⟩ (.int .u8 97)) := HW.out.2.1.1.setCell (p := ⟨gb, k, none⟩) HW.out.2.2 _
            exact ⟨HW.out.1.set (by rw [HNN.out]; exact hkn), ⟨hb, HT.out.below hb⟩, HW.out.2.2⟩)
          generalize cs[k] = u0 at *
          clear hcs hsz hkc
          go_wp2_with fail
          go_roundw
          case rel => exact ⟨k + 1, by omega, by go_num, HX⟩
          case measure => simp [intOf]; omega
        · have hkn' : ¬ (k : Int) < 65537 := by omega
          have hkk : k = n := by rw [HNN.out]; omega
          have HB := hid_mk (show BigRow gb n n wr ∧ Next w wr ∧ w.heap.size ≤ gb by rw [← hkk]; rw [hkk] at HW ⊢; exact HW.out)
          obtain ⟨Z, hZ⟩ : ∃ Z, Z = List.replicate 65536 (97 : UInt8) := ⟨_, rfl⟩
          have hZl : Z.length = 65536 := by rw [hZ, List.length_replicate]
          obtain ⟨Y, hY⟩ : ∃ Y, Y = List.replicate 65537 (97 : UInt8) := ⟨_, rfl⟩
          have hYl : Y.length = 65537 := by rw [hY, List.length_replicate]
          have h1 : HasBytes wr (some ⟨gb, 1, none⟩) Z := by rw [hZ]; exact HB.out.1.has 1 65536 (by have := HNN.out; omega)
          have h2 : HasBytes wr (some ⟨gb, 0, none⟩) Y := by rw [hY]; exact HB.out.1.has 0 65537 (by have := HNN.out; omega)
          have htk : tokensL Z = (0, 0, [⟨3, [], [], false, Z⟩]) := by
            have := tokens_plain (l := Z) (by rw [hZ]; exact has_no _) (by rw [hZl]; exact Nat.le_refl _)
            rw [this, if_neg (fun h => by rw [h] at hZl; cases hZl)]
          have hcv := bytes_conv wr (some ⟨gb, 1, none⟩) 65536 Z h1
          rw [hZl] at hcv
          have hto := hid_mk (tokens_all (strOf Z) wr HB.out.2.1.2)
          rw [sl_strOf] at hto
          unfold ToksPost at hto
          rw [htk] at hto
          have hto := hid_mk (show Calls Tryz.prog 6 #[.string (strOf Z)] wr fun e w' => ∃ (v : Value) (ps : List (Tk × Value)), e = .returned (.tuple #[v, .int .i64 0, .int .i64 0]) ∧ [(⟨3, [], [], false, Z⟩ : Tk)] = ps.map (·.1) ∧ TokRow wr.heap.size v ps w' ∧ Next wr w' from hto.out)
          have hrd := hid_mk (fun w hT => tokenReads_w (strOf Y) w hT)
          have HH2 := hid_mk h2
          have HYl := hid_mk hYl
          have HBN := hid_mk HB.out.2.1
          clear hZ hY hZl hYl h1 h2 htk HW hkk HB hk hkn
          generalize strOf Z = ZS at *
          go_wp2_with fail
          (with_reducible refine hto.out.mono ?_)
          rintro e w5 ⟨v, ps, rfl, hps, hrow5, hn5⟩
          have hl1 : ps.length = 1 := by have := congrArg List.length hps; simpa using this.symm
          obtain ⟨va, vc, hv⟩ := own_slice hrow5.1
          rw [hl1] at hv
          subst hv
          have H5 := hid_mk (HBN.out.trans hn5)
          have hcv2 := bytes_conv w5 (some ⟨gb, 0, none⟩) 65537 Y (HH2.out.below hn5.1)
          rw [HYl.out] at hcv2
          clear hps hrow5 hn5 hto hcv hrun hl1 HH2
          generalize strOf Y = YS at *
          go_wp2_with fail
          (with_reducible refine (hrd.out _ ?_).mono ?_)
          · exact H5.out.2
          rintro e w6 ⟨rfl, hn6⟩
          have H6 := hid_mk (H5.out.trans hn6)
          clear hn6
          go_wp2_with fail
          refine (works_any _ H6.out.2).mono ?_
          rintro e w7 ⟨rfl, hn7⟩
          have H7 := hid_mk (H6.out.trans hn7)
          clear hn7
          go_wp2
          go_ret
          exact ⟨rfl, H7.out⟩
end Go.Proofs.YtakakaenlfilmaaGreatDoor
