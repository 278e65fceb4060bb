/-
  The closed statement of layer 1: it returns true. The table of pairs lies in the first package-level variable: a condition.
-/
import Derived.Test.YtjoncbhjodkpeaaDoorLaws
import Derived.Test.YtjoncbhjodkpeaaDoorAsciiNeed
import Derived.Deep.RegionHeld3
namespace Go.Proofs.YtjoncbhjodkpeaaDoor
open Go.RowKit
def rowR : List Int := [40, 1488, 1575, 1633, 49, 32, 8295, 768, 65, -1, 1114111, 43, 36, 44, 9, 10, 8203, 8234, 8235, 8237, 8238, 8236, 8294, 8296, 8297, 8206, 8207, 65279]
def rowC : List Int := [14, 2, 3, 7, 4, 13, 21, 9, 1, 1, 1, 5, 6, 8, 12, 11, 10, 15, 16, 17, 18, 19, 20, 22, 23, 1, 2, 10]
theorem row_any (w : World) : Calls Tryd.prog 19 #[] w fun e w' => e = .returned (.tuple #[.slice (some ⟨w.heap.size, 0, none⟩) 28 28, .slice (some ⟨w.heap.size + 1, 0, none⟩) 28 28]) ∧
    w' = (w.alloc (.cells (rowR.map (Value.int .i32)).toArray 21)).alloc (.cells (rowC.map (Value.int .u8)).toArray 24) := by
  have h := calls_exec (args := #[]) (w := w) (w' := (w.alloc (.cells (rowR.map (Value.int .i32)).toArray 21)).alloc (.cells (rowC.map (Value.int .u8)).toArray 24))
    (v := .tuple #[.slice (some ⟨w.heap.size, 0, none⟩) 28 28, .slice (some ⟨(w.alloc (.cells (rowR.map (Value.int .i32)).toArray 21)).heap.size, 0, none⟩) 28 28]) Tryd.func19 rfl (by kernel_rfl)
  have e : (w.alloc (.cells (rowR.map (Value.int .i32)).toArray 21)).heap.size = w.heap.size + 1 := by
    show (w.heap.push _).size = _
    simp
  rw [e] at h
  exact h
theorem row_cls : ∀ i, i < 28 → cls (rowR.getD i 0) = rowC.getD i 0 := by
  intro i hi
  have := (by decide +kernel : ∀ i ∈ List.range 28, cls (rowR.getD i 0) = rowC.getD i 0) i (List.mem_range.2 hi)
  exact this
theorem Next.drewN {a w : World} (h : Next a w) (n : Nat) : Next a (w.drewN n) := ⟨below_drewN h.1 n, by
  obtain ⟨T, fr, h⟩ := h.2
  exact ⟨T, fr, h⟩⟩
theorem Next.cell {a w : World} (h : Next a w) {p : Addr} {v : Value} (hc : a.cell? p = some v) : w.cell? p = some v := by
  rw [h.1.cell (block_lt_of_cell hc)]
  exact hc
theorem row_at (l : List Int) (f : Int → Value) (w : World) (g : Nat) (T : TypeId) (hg : w.heap[g]? = some (.cells (l.map f).toArray T (0, 0))) (i : Nat) (hi : i < l.length) : w.cell? ⟨g, i, none⟩ = some (f (l.getD i 0)) := by
  rw [cell_of_row w g i _ _ _ hg]
  simp [hi]
set_option maxHeartbeats 4000000 in
set_option maxRecDepth 100000 in
theorem known_law (w : World) (hg : Tab w) : Calls Tryd.prog 8 #[] w fun e w' => e = .returned (.bool true) ∧ Next w w' := by
  go_enter Tryd.func8, Tryd.ntmps8
  go_wp2_with fail
  refine (row_any w).mono ?_
  rintro e w1 ⟨rfl, rfl⟩
  have hn0 : Next w ((w.alloc (.cells (rowR.map (Value.int .i32)).toArray 21)).alloc (.cells (rowC.map (Value.int .u8)).toArray 24)) := by
    have hb : Below w.heap.size w ((w.alloc (.cells (rowR.map (Value.int .i32)).toArray 21)).alloc (.cells (rowC.map (Value.int .u8)).toArray 24)) := ((Below.refl _ _).alloc (Nat.le_refl _) _).alloc (by simp) _
    exact ⟨hb, hg.below hb⟩
  have HR : Hid (∀ i, i < 28 → ((w.alloc (.cells (rowR.map (Value.int .i32)).toArray 21)).alloc (.cells (rowC.map (Value.int .u8)).toArray 24)).cell? ⟨w.heap.size, i, none⟩ = some (.int .i32 (rowR.getD i 0))) :=
    hid_mk fun i hi => row_at rowR _ _ _ _ (heap_alloc2_old w _ _) i hi
  have HC : Hid (∀ i, i < 28 → ((w.alloc (.cells (rowR.map (Value.int .i32)).toArray 21)).alloc (.cells (rowC.map (Value.int .u8)).toArray 24)).cell? ⟨w.heap.size + 1, i, none⟩ = some (.int .u8 (rowC.getD i 0))) :=
    hid_mk fun i hi => row_at rowC _ _ _ _ (heap_alloc2_new w _ _) i hi
  generalize (w.alloc (.cells (rowR.map (Value.int .i32)).toArray 21)).alloc (.cells (rowC.map (Value.int .u8)).toArray 24) = w1 at *
  go_wp2_with fail
  go_loopw [3] (fun vi wr => ∃ i : Nat, i ≤ 28 ∧ vi = .int .i64 i ∧ Next w1 wr) (fun vi _ => 28 - (intOf vi).toNat)
  case atStart => exact ⟨0, by omega, rfl, Next.here hn0.2⟩
  case round =>
    obtain ⟨i, hi, rfl, hn⟩ := hrel
    by_cases hlt : i < 28
    · have c0 := hn.cell (HR.out i hlt)
      have c1 := hn.cell (HC.out i hlt)
      have hcl : Hid _ := row_cls i hlt
      generalize rowR.getD i 0 = r at *
      generalize rowC.getD i 0 = c at *
      have h0 : (0 : Int) ≤ (i : Int) := by omega
      have h28 : (i : Int) < 28 := by omega
      go_wp2_with fail
      go_region_held3 (fun w' => w'.cell? ⟨w.heap.size, i, none⟩ = some (.int .i32 r) ∧ w'.cell? ⟨w.heap.size + 1, i, none⟩ = some (.int .u8 c) ∧ Next wr w')
        (first
          | exact ⟨c0, c1, (Next.here hn.2).drewN 1⟩
          | (go_split_ands; exact ⟨((‹Next wr _›).trans n1).cell c0, ((‹Next wr _›).trans n1).cell c1, (‹Next wr _›).trans n1⟩))
        (first
          | (go_at_call 10; go_split_ands; refine (class_eq hcl.out _ (by exact (‹Next wr _›).2)).mono ?_; rintro e w2 ⟨rfl, n1⟩))
      go_split_ands
      go_wp2
      go_roundw
      case rel => exact ⟨i + 1, by omega, by go_num, hn.trans (by assumption)⟩
      case measure => simp [intOf]; omega
    · obtain rfl : i = 28 := by omega
      clear HR HC
      rw [show ((28 : Nat) : Int) = 28 from rfl]
      go_wp2_with fail
      go_loopw [4] (fun vr wr => ∃ r : Int, -20 ≤ r ∧ r ≤ 1179700 ∧ vr = .int .i32 r ∧ Next w1 wr) (fun vr _ => (1179700 - intOf vr).toNat)
      case atStart => exact ⟨-20, by omega, by omega, rfl, hn⟩
      case round =>
        obtain ⟨r, hr0, hr1, rfl, hn2⟩ := hrel
        by_cases hlt2 : r < 1179648
        · by_cases h9 : 12544 < r
          · obtain ⟨c, hc⟩ : ∃ c, cls (r + 9) = c := ⟨_, rfl⟩
            have HC : Hid _ := hc
            clear hc
            go_wp2_with fail
            refine (mirrors_law (r + 9) _ hn2.2).mono ?_
            rintro e w2 ⟨rfl, n2⟩
            go_wp2_with fail
            refine (brackets_law (r + 9) _ n2.2).mono ?_
            rintro e w3 ⟨rfl, n3⟩
            go_wp2_with fail
            refine (class_eq HC.out _ n3.2).mono ?_
            rintro e w4 ⟨rfl, n4⟩
            go_wp2_with fail
            refine (refClass_eq HC.out _ n4.2).mono ?_
            rintro e w5 ⟨rfl, n5⟩
            go_wp2
            go_roundw
            case rel => exact ⟨r + 9 + 1, by omega, by omega, by first | rfl | go_num, (((hn2.trans n2).trans n3).trans n4).trans n5⟩
            case measure => simp [intOf]; omega
          · obtain ⟨c, hc⟩ : ∃ c, cls r = c := ⟨_, rfl⟩
            have HC : Hid _ := hc
            clear hc
            go_wp2_with fail
            refine (mirrors_law r _ hn2.2).mono ?_
            rintro e w2 ⟨rfl, n2⟩
            go_wp2_with fail
            refine (brackets_law r _ n2.2).mono ?_
            rintro e w3 ⟨rfl, n3⟩
            go_wp2_with fail
            refine (class_eq HC.out _ n3.2).mono ?_
            rintro e w4 ⟨rfl, n4⟩
            go_wp2_with fail
            refine (refClass_eq HC.out _ n4.2).mono ?_
            rintro e w5 ⟨rfl, n5⟩
            go_wp2
            go_roundw
            case rel => exact ⟨r + 1, by omega, by omega, by first | rfl | go_num, (((hn2.trans n2).trans n3).trans n4).trans n5⟩
            case measure => simp [intOf]; omega
        · go_wp2_with fail
          refine (bracket_eq (by decide +kernel : brL 9001 pairsT = (12297, true, true)) _ hn2.2).mono ?_
          rintro e w2 ⟨rfl, n2⟩
          go_wp2_with fail
          refine (bracket_eq (by decide +kernel : brL 9002 pairsT = (12297, false, true)) _ n2.2).mono ?_
          rintro e w3 ⟨rfl, n3⟩
          go_wp2_with fail
          refine (mirror_eq (by decide +kernel : mirL 9001 pairsT = (9002, true)) _ n3.2).mono ?_
          rintro e w4 ⟨rfl, n4⟩
          go_wp2_with fail
          refine (bracket_eq (by decide +kernel : brL 60 pairsT = (0, false, false)) _ n4.2).mono ?_
          rintro e w5 ⟨rfl, n5⟩
          go_wp2_with fail
          refine (works_any _ n5.2).mono ?_
          rintro e w6 ⟨rfl, n6⟩
          go_wp2
          go_ret
          exact ⟨rfl, hn0.trans (((((hn2.trans n2).trans n3).trans n4).trans n5).trans n6)⟩
end Go.Proofs.YtjoncbhjodkpeaaDoor
