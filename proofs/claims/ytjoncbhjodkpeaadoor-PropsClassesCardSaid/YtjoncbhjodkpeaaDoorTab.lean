/-
  Mirror, of the program and of the document: for every character what the table of pairs says. The program's table is a condition: it lies in the first package-level variable.
-/
import Derived.Test.YtjoncbhjodkpeaaDoorProg
import Derived.Test.YtjoncbhjodkpeaaDoorFlat
import Derived.Test.YtjoncbhjodkpeaaDoorLits
import Derived.WalkLawsBesides
namespace Go.Proofs.YtjoncbhjodkpeaaDoor
open Go.RowKit
theorem cells_two (w : World) {W : World} {B : Nat} (h : Below B W w) (h2 : B ≤ w.heap.size) (o : Obj) : Below B W (w.alloc o) := h.alloc h2 o
theorem hid_mk {p : Prop} (h : p) : Hid p := h
/-- What the pairs from a list on tell of a character. -/
def mirL (r : Int) : List (Int × Int × Bool) → Int × Bool
  | [] => (r, false)
  | t :: l => if r = t.1 then (t.2.1, true) else if r = t.2.1 then (t.1, true) else mirL r l
theorem lenP : pairsT.length = 30 := by decide
theorem idxP (k : Nat) (hk : k < pairsT.length) (w : World) : (Instr.index 48 (.agg pairCells) (.int .i64 (k : Int))).run Tryd.prog w = .ok (.agg #[.int .i32 pairsT[k].1, .int .i32 pairsT[k].2.1, .bool pairsT[k].2.2]) w := by
  have h := run_index_arr (P := Tryd.prog) 48 47 30 3 pairCells k w (by kernel_rfl) (by kernel_rfl) (by kernel_rfl) (by rw [← lenP]; exact hk)
  rw [h]
  have e := flat_extract cellP 3 (fun _ => rfl) pairsT k hk
  unfold pairCells
  rw [e]
  rfl
theorem mirL_drop (r : Int) (k : Nat) (hk : k < pairsT.length) : mirL r (pairsT.drop k) = if r = pairsT[k].1 then (pairsT[k].2.1, true) else if r = pairsT[k].2.1 then (pairsT[k].1, true) else mirL r (pairsT.drop (k + 1)) := by
  rw [List.drop_eq_getElem_cons hk]
  rfl
set_option maxHeartbeats 1000000 in
set_option maxRecDepth 100000 in
theorem mirror_any (r : Int) (w : World) (T : TypeId) (fr : Nat × Nat) (hg : w.heap[0]? = some (.cells pairCells T fr)) :
    Calls Tryd.prog 15 #[.int .i32 r] w fun e w' => e = .returned (.tuple #[.int .i32 (mirL r pairsT).1, .bool (mirL r pairsT).2]) ∧ Below w.heap.size w w' := by
  go_enter Tryd.func15, Tryd.ntmps15
  go_wp2_with (refine wpList_load_row rfl 48 _ rfl 0 rfl T _ fr _ hg Tryd.underlying48 rfl (by kernel_rfl) ?_)
  go_loopw [7] (fun i wr => ∃ k : Nat, k ≤ 30 ∧ i = .int .i64 k ∧ Hid (mirL r pairsT = mirL r (pairsT.drop k)) ∧ Below w.heap.size w wr) (fun i _ => 30 - (intOf i).toNat)
  case atStart => exact ⟨0, by omega, rfl, rfl, Below.refl _ _⟩
  case round =>
    obtain ⟨k, hk, rfl, hm, hb⟩ := hrel
    by_cases hlt : k < 30
    · have hk' : k < pairsT.length := by rw [lenP]; exact hlt
      have hi := idxP k hk'
      have hd : Hid _ := mirL_drop r k hk'
      have hz := hb.size
      generalize pairsT[k] = t at hi hd
      obtain ⟨a, b, c⟩ := t
      simp only at hi hd
      have hal : ∀ v, Below w.heap.size w (wr.alloc v) := fun v => hb.alloc hz v
      by_cases h1 : r = a
      · have hv : Hid (mirL r pairsT = (b, true)) := hid_mk (by rw [hm.out, hd.out, if_pos h1])
        go_wp2
        go_ret2
        rw [hv.out]
        exact ⟨rfl, hal _⟩
      · by_cases h2 : r = b
        · have hv : Hid (mirL r pairsT = (a, true)) := hid_mk (by rw [hm.out, hd.out, if_neg h1, if_pos h2])
          go_wp2
          go_ret2
          rw [hv.out]
          exact ⟨rfl, hal _⟩
        · have hv : Hid (mirL r pairsT = mirL r (pairsT.drop (k + 1))) := hid_mk (by rw [hm.out, hd.out, if_neg h1, if_neg h2])
          go_wp2
          go_roundw
          case rel => exact ⟨k + 1, by omega, by go_num, hv, hal _⟩
          case measure => simp [intOf]; omega
    · obtain rfl : k = 30 := by omega
      have hv : Hid (mirL r pairsT = (r, false)) := hid_mk (by rw [hm.out]; rfl)
      go_wp2
      go_ret2
      rw [hv.out]
      exact ⟨rfl, hb⟩
end Go.Proofs.YtjoncbhjodkpeaaDoor
