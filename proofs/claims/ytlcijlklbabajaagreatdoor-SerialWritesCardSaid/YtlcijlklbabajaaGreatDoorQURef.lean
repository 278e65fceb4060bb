/-
  The reference's cut of a text into characters. Condition: the text's length is bounded.
-/
import Derived.Test.YtlcijlklbabajaaGreatDoorQUCut
import Derived.IntWalk
import Derived.Laws.Rows
import Derived.Deep.RegionHeld3
namespace Go.Proofs.YtlcijlklbabajaaGreatDoor.U
open Go.RowKit
set_option maxHeartbeats 2000000 in
set_option maxRecDepth 100000 in
theorem refSize_any (b : Nat) (hb : b < 256) (w : World) :
 Calls Tryz.prog 95 #[.int .u8 b] w fun e w' => e = .returned (.int .i64 (sizeB b)) ∧ w' = w := by
 have hcase : b < 128 ∨ (128 ≤ b ∧ b < 194) ∨ (194 ≤ b ∧ b ≤ 223) ∨ (224 ≤ b ∧ b ≤ 239) ∨ (240 ≤ b ∧ b ≤ 244) ∨ 244 < b := by omega
 rcases hcase with h | h | h | h | h | h
 ·have hv : Hid (sizeB b = 1) := hid_mk (by unfold sizeB; (repeat' split) <;> omega)
  go_enter Tryz.func95, Tryz.ntmps95
  go_wp2
  all_goals
   go_ret
   rw [hv.out]
   exact ⟨rfl, rfl⟩
 ·have hv : Hid (sizeB b = 0) := hid_mk (by unfold sizeB; (repeat' split) <;> omega)
  go_enter Tryz.func95, Tryz.ntmps95
  go_wp2
  all_goals
   go_ret
   rw [hv.out]
   exact ⟨rfl, rfl⟩
 ·have hv : Hid (sizeB b = 2) := hid_mk (by unfold sizeB; (repeat' split) <;> omega)
  go_enter Tryz.func95, Tryz.ntmps95
  go_wp2
  all_goals
   go_ret
   rw [hv.out]
   exact ⟨rfl, rfl⟩
 ·have hv : Hid (sizeB b = 3) := hid_mk (by unfold sizeB; (repeat' split) <;> omega)
  go_enter Tryz.func95, Tryz.ntmps95
  go_wp2
  all_goals
   go_ret
   rw [hv.out]
   exact ⟨rfl, rfl⟩
 ·have hv : Hid (sizeB b = 4) := hid_mk (by unfold sizeB; (repeat' split) <;> omega)
  go_enter Tryz.func95, Tryz.ntmps95
  go_wp2
  all_goals
   go_ret
   rw [hv.out]
   exact ⟨rfl, rfl⟩
 ·have hv : Hid (sizeB b = 0) := hid_mk (by unfold sizeB; (repeat' split) <;> omega)
  go_enter Tryz.func95, Tryz.ntmps95
  go_wp2
  all_goals
   go_ret
   rw [hv.out]
   exact ⟨rfl, rfl⟩
set_option maxHeartbeats 2000000 in
theorem refSecond_any (a b : Nat) (ha : a < 256) (hb : b < 256) (w : World) :
 Calls Tryz.prog 96 #[.int .u8 a, .int .u8 b] w fun e w' => e = .returned (.bool (decide (Sec a b))) ∧ w' = w := by
 have hcase : a = 224 ∨ a = 237 ∨ a = 240 ∨ a = 244 ∨ (a ≠ 224 ∧ a ≠ 237 ∧ a ≠ 240 ∧ a ≠ 244) := by omega
 rcases hcase with rfl | rfl | rfl | rfl | ⟨h1, h2, h3, h4⟩
 ·have hcb : b < 160 ∨ (160 ≤ b ∧ b ≤ 191) ∨ 191 < b := by omega
  rcases hcb with h | h | h
  ·have hv : Hid (decide (Sec 224 b) = false) := hid_mk (by unfold Sec; simp; omega)
   go_enter Tryz.func96, Tryz.ntmps96
   go_wp2
   all_goals
    go_ret
    rw [hv.out]
    first | exact ⟨rfl, rfl⟩ | (refine ⟨?_, rfl⟩; congr 2; simp; omega)
  ·have hv : Hid (decide (Sec 224 b) = true) := hid_mk (by unfold Sec; simp; omega)
   go_enter Tryz.func96, Tryz.ntmps96
   go_wp2
   all_goals
    go_ret
    rw [hv.out]
    first | exact ⟨rfl, rfl⟩ | (refine ⟨?_, rfl⟩; congr 2; simp; omega)
  ·have hv : Hid (decide (Sec 224 b) = false) := hid_mk (by unfold Sec; simp; omega)
   go_enter Tryz.func96, Tryz.ntmps96
   go_wp2
   all_goals
    go_ret
    rw [hv.out]
    first | exact ⟨rfl, rfl⟩ | (refine ⟨?_, rfl⟩; congr 2; simp; omega)
 ·have hcb : b < 128 ∨ (128 ≤ b ∧ b ≤ 159) ∨ 159 < b := by omega
  rcases hcb with h | h | h
  ·have hv : Hid (decide (Sec 237 b) = false) := hid_mk (by unfold Sec; simp; omega)
   go_enter Tryz.func96, Tryz.ntmps96
   go_wp2
   all_goals
    go_ret
    rw [hv.out]
    first | exact ⟨rfl, rfl⟩ | (refine ⟨?_, rfl⟩; congr 2; simp; omega)
  ·have hv : Hid (decide (Sec 237 b) = true) := hid_mk (by unfold Sec; simp; omega)
   go_enter Tryz.func96, Tryz.ntmps96
   go_wp2
   all_goals
    go_ret
    rw [hv.out]
    first | exact ⟨rfl, rfl⟩ | (refine ⟨?_, rfl⟩; congr 2; simp; omega)
  ·have hv : Hid (decide (Sec 237 b) = false) := hid_mk (by unfold Sec; simp; omega)
   go_enter Tryz.func96, Tryz.ntmps96
   go_wp2
   all_goals
    go_ret
    rw [hv.out]
    first | exact ⟨rfl, rfl⟩ | (refine ⟨?_, rfl⟩; congr 2; simp; omega)
 ·have hcb : b < 144 ∨ (144 ≤ b ∧ b ≤ 191) ∨ 191 < b := by omega
  rcases hcb with h | h | h
  ·have hv : Hid (decide (Sec 240 b) = false) := hid_mk (by unfold Sec; simp; omega)
   go_enter Tryz.func96, Tryz.ntmps96
   go_wp2
   all_goals
    go_ret
    rw [hv.out]
    first | exact ⟨rfl, rfl⟩ | (refine ⟨?_, rfl⟩; congr 2; simp; omega)
  ·have hv : Hid (decide (Sec 240 b) = true) := hid_mk (by unfold Sec; simp; omega)
   go_enter Tryz.func96, Tryz.ntmps96
   go_wp2
   all_goals
    go_ret
    rw [hv.out]
    first | exact ⟨rfl, rfl⟩ | (refine ⟨?_, rfl⟩; congr 2; simp; omega)
  ·have hv : Hid (decide (Sec 240 b) = false) := hid_mk (by unfold Sec; simp; omega)
   go_enter Tryz.func96, Tryz.ntmps96
   go_wp2
   all_goals
    go_ret
    rw [hv.out]
    first | exact ⟨rfl, rfl⟩ | (refine ⟨?_, rfl⟩; congr 2; simp; omega)
 ·have hcb : b < 128 ∨ (128 ≤ b ∧ b ≤ 143) ∨ 143 < b := by omega
  rcases hcb with h | h | h
  ·have hv : Hid (decide (Sec 244 b) = false) := hid_mk (by unfold Sec; simp; omega)
   go_enter Tryz.func96, Tryz.ntmps96
   go_wp2
   all_goals
    go_ret
    rw [hv.out]
    first | exact ⟨rfl, rfl⟩ | (refine ⟨?_, rfl⟩; congr 2; simp; omega)
  ·have hv : Hid (decide (Sec 244 b) = true) := hid_mk (by unfold Sec; simp; omega)
   go_enter Tryz.func96, Tryz.ntmps96
   go_wp2
   all_goals
    go_ret
    rw [hv.out]
    first | exact ⟨rfl, rfl⟩ | (refine ⟨?_, rfl⟩; congr 2; simp; omega)
  ·have hv : Hid (decide (Sec 244 b) = false) := hid_mk (by unfold Sec; simp; omega)
   go_enter Tryz.func96, Tryz.ntmps96
   go_wp2
   all_goals
    go_ret
    rw [hv.out]
    first | exact ⟨rfl, rfl⟩ | (refine ⟨?_, rfl⟩; congr 2; simp; omega)
 ·have hcb : b < 128 ∨ (128 ≤ b ∧ b ≤ 191) ∨ 191 < b := by omega
  have e1 : ((a : Int) == 224) = false := by simp; omega
  have e2 : ((a : Int) == 237) = false := by simp; omega
  have e3 : ((a : Int) == 240) = false := by simp; omega
  have e4 : ((a : Int) == 244) = false := by simp; omega
  rcases hcb with h | h | h
  ·have hv : Hid (decide (Sec a b) = false) := hid_mk (decide_eq_false (by unfold Sec; (repeat' split) <;> omega))
   clear h1 h2 h3 h4
   go_enter Tryz.func96, Tryz.ntmps96
   go_wp2
   all_goals
    go_ret
    rw [hv.out]
    first | exact ⟨rfl, rfl⟩ | (refine ⟨?_, rfl⟩; congr 2; simp; omega)
  ·have hv : Hid (decide (Sec a b) = true) := hid_mk (decide_eq_true (by unfold Sec; (repeat' split) <;> omega))
   clear h1 h2 h3 h4
   go_enter Tryz.func96, Tryz.ntmps96
   go_wp2
   all_goals
    go_ret
    rw [hv.out]
    first | exact ⟨rfl, rfl⟩ | (refine ⟨?_, rfl⟩; congr 2; simp; omega)
  ·have hv : Hid (decide (Sec a b) = false) := hid_mk (decide_eq_false (by unfold Sec; (repeat' split) <;> omega))
   clear h1 h2 h3 h4
   go_enter Tryz.func96, Tryz.ntmps96
   go_wp2
   all_goals
    go_ret
    rw [hv.out]
    first | exact ⟨rfl, rfl⟩ | (refine ⟨?_, rfl⟩; congr 2; simp; omega)
def maskOf (n : Nat) : Nat := if n = 2 then 32 else if n = 3 then 16 else 8
/-- The character so far: the first byte's bits, and those of the next bytes, up to the k-th. -/
def accR (l : List UInt8) (m : Nat) : Nat → Nat
 | 0 => atL l 0 % m
 | 1 => atL l 0 % m
 | k + 2 => accR l m (k + 1) * 64 + atL l (k + 1) % 64
theorem accR_succ (l : List UInt8) (m k : Nat) (h : 1 ≤ k) : accR l m (k + 1) = accR l m k * 64 + atL l k % 64 := by
 obtain ⟨j, rfl⟩ : ∃ j, k = j + 1 := ⟨k - 1, by omega⟩
 rfl
theorem accR_lt (l : List UInt8) (m k : Nat) (hm : m ≤ 32) (hm0 : 0 < m) (h1 : 1 ≤ k) (h3 : k ≤ 3) : accR l m k < 131072 := by
 have h0 : atL l 0 % m < 32 := Nat.lt_of_lt_of_le (Nat.mod_lt _ hm0) hm
 have hk : k = 1 ∨ k = 2 ∨ k = 3 := by omega
 rcases hk with rfl | rfl | rfl
 ·show atL l 0 % m < _
  omega
 ·show atL l 0 % m * 64 + atL l 1 % 64 < _
  omega
 ·show (atL l 0 % m * 64 + atL l 1 % 64) * 64 + atL l 2 % 64 < _
  omega
theorem cut_none (l : List UInt8) (h : sizeB (atL l 0) = 0) : cutL l = bad 1 := by
 unfold cutL cutN
 unfold sizeB at h
 (repeat' split at h) <;> first | (exfalso; omega) | skip
 rw [if_neg (by omega), if_neg (by omega), if_neg (by omega), if_neg (by omega)]
theorem cut_ascii (l : List UInt8) (h : sizeB (atL l 0) = 1) : cutL l = ⟨atL l 0, 1, true⟩ := by
 unfold cutL cutN
 unfold sizeB at h
 (repeat' split at h) <;> first | (exfalso; omega) | skip
 rw [if_pos (by omega)]
def Good (l : List UInt8) (k : Nat) : Prop := ∀ j, 1 ≤ j → j < k → j < l.length ∧ okAt (atL l 0) j (atL l j)
theorem ok1 (a b : Nat) : okAt a 1 b = Sec a b := if_pos rfl
theorem ok2 (a b : Nat) : okAt a 2 b = Cont b := if_neg (by decide)
theorem ok3 (a b : Nat) : okAt a 3 b = Cont b := if_neg (by decide)
theorem cut_bad (l : List UInt8) (k : Nat) (h1 : 1 ≤ k) (hk : k < sizeB (atL l 0)) (hg : Good l k) (st : l.length ≤ k ∨ ¬ okAt (atL l 0) k (atL l k)) : cutL l = bad k := by
 have hx : ¬ (k < l.length ∧ okAt (atL l 0) k (atL l k)) := fun h => st.elim (fun h2 => absurd h.1 (by omega)) (fun h2 => h2 h.2)
 have hc : (194 ≤ atL l 0 ∧ atL l 0 ≤ 223 ∧ k = 1) ∨ (224 ≤ atL l 0 ∧ atL l 0 ≤ 239 ∧ (k = 1 ∨ k = 2)) ∨ (240 ≤ atL l 0 ∧ atL l 0 ≤ 244 ∧ (k = 1 ∨ k = 2 ∨ k = 3)) := by
  unfold sizeB at hk
  (repeat' split at hk) <;> omega
 have g1 := hg 1 (by omega)
 have g2 := hg 2 (by omega)
 rw [ok1] at g1
 rw [ok2] at g2
 unfold cutL cutN
 rcases hc with ⟨c1, c2, rfl⟩ | ⟨c1, c2, rfl | rfl⟩ | ⟨c1, c2, rfl | rfl | rfl⟩
 all_goals first | rw [ok1] at hx | rw [ok2] at hx | rw [ok3] at hx
 ·rw [if_neg (by omega), if_pos ⟨c1, c2⟩, if_neg hx]
 ·rw [if_neg (by omega), if_neg (by omega), if_pos ⟨c1, c2⟩, if_neg hx]
 ·rw [if_neg (by omega), if_neg (by omega), if_pos ⟨c1, c2⟩, if_pos (g1 (by omega)), if_neg hx]
 ·rw [if_neg (by omega), if_neg (by omega), if_neg (by omega), if_pos ⟨c1, c2⟩, if_neg hx]
 ·rw [if_neg (by omega), if_neg (by omega), if_neg (by omega), if_pos ⟨c1, c2⟩, if_pos (g1 (by omega)), if_neg hx]
 ·rw [if_neg (by omega), if_neg (by omega), if_neg (by omega), if_pos ⟨c1, c2⟩, if_pos (g1 (by omega)), if_pos (g2 (by omega)), if_neg hx]
theorem cut_full (l : List UInt8) (h2 : 2 ≤ sizeB (atL l 0)) (hg : Good l (sizeB (atL l 0))) : cutL l = ⟨accR l (maskOf (sizeB (atL l 0))) (sizeB (atL l 0)), sizeB (atL l 0), true⟩ := by
 have h4 : sizeB (atL l 0) ≤ 4 := by unfold sizeB; (repeat' split) <;> omega
 have hn : sizeB (atL l 0) = 2 ∨ sizeB (atL l 0) = 3 ∨ sizeB (atL l 0) = 4 := by omega
 have g1 := hg 1 (by omega)
 have g2 := hg 2 (by omega)
 have g3 := hg 3 (by omega)
 unfold okAt at g1 g2 g3
 rcases hn with hn | hn | hn
 all_goals rw [hn] at g1 g2 g3 ⊢
 all_goals unfold sizeB at hn
 all_goals
  simp at g1 g2 g3
  (repeat' split at hn) <;> first | (exfalso; omega) | skip
 ·unfold cutL cutN
  rw [if_neg (by omega), if_pos (by omega), if_pos g1]
  rfl
 ·unfold cutL cutN
  rw [if_neg (by omega), if_neg (by omega), if_pos (by omega), if_pos g1, if_pos g2]
  show Cutp.mk _ _ _ = Cutp.mk ((atL l 0 % 16 * 64 + atL l 1 % 64) * 64 + atL l 2 % 64) _ _
  congr 1
  omega
 ·unfold cutL cutN
  rw [if_neg (by omega), if_neg (by omega), if_neg (by omega), if_pos (by omega), if_pos g1, if_pos g2, if_pos g3]
  show Cutp.mk _ _ _ = Cutp.mk (((atL l 0 % 8 * 64 + atL l 1 % 64) * 64 + atL l 2 % 64) * 64 + atL l 3 % 64) _ _
  congr 1
  omega
theorem first_and (n b : Nat) (h2 : 2 ≤ n) (h4 : n ≤ 4) (hb : b < 256) : bits .and .i32 (b : Int) (255 / 2 ^ (n + 1)) = ((b % maskOf n : Nat) : Int) := by
 have hn : n = 2 ∨ n = 3 ∨ n = 4 := by omega
 rcases hn with rfl | rfl | rfl
 ·have := bits_mask .i32 31 (by decide) wraps_i32 5 (by decide) (b : Int) (by omega) (by omega)
  simpa [maskOf] using this
 ·have := bits_mask .i32 31 (by decide) wraps_i32 4 (by decide) (b : Int) (by omega) (by omega)
  simpa [maskOf] using this
 ·have := bits_mask .i32 31 (by decide) wraps_i32 3 (by decide) (b : Int) (by omega) (by omega)
  simpa [maskOf] using this
theorem part_row {w1 : World} {g : Nat} {x y z : Value} (a b c : Value) (h : w1.heap[g]? = some (.cells #[x, y, z] 85 (0, 0))) :
 (((w1.setCell ⟨g, 0, none⟩ a).setCell ⟨g, 1, none⟩ b).setCell ⟨g, 2, none⟩ c).heap[g]? = some (.cells #[a, b, c] 85 (0, 0)) := by
 have h1 := heap_setCell_same w1 g 0 _ _ a h
 have h2 := heap_setCell_same _ g 1 _ _ b h1
 have h3 := heap_setCell_same _ g 2 _ _ c h2
 exact h3
theorem part_below {w w1 : World} (a b c : Value) (h : Below w.heap.size w w1) :
 Below w.heap.size w (((w1.setCell ⟨w.heap.size, 0, none⟩ a).setCell ⟨w.heap.size, 1, none⟩ b).setCell ⟨w.heap.size, 2, none⟩ c) :=
 ((h.setCell (p := ⟨w.heap.size, 0, none⟩) (Nat.le_refl _) _).setCell (p := ⟨w.heap.size, 1, none⟩) (Nat.le_refl _) _).setCell (p := ⟨w.heap.size, 2, none⟩) (Nat.le_refl _) _
abbrev cO0 : Oper := { dst := some 30, op := Op.move (Operand.tmp 5), type := 3, pos := "ref.go:54", after := #[], guard := none }
abbrev cO1 : Oper := { dst := some 31, op := Op.move (Operand.tmp 0), type := 9, pos := "ref.go:54", after := #[], guard := none }
abbrev cO2 : Oper := { dst := some 32, op := Op.call { callee := Callee.builtin Builtin.len, args := #[Operand.tmp 31], argTypes := #[9] }, type := 3, pos := "ref.go:54", after := #[{ on := 1, ground := Ground.data }], guard := none }
abbrev cO3 : Oper := { dst := some 33, op := Op.binOp BinOp.geq 3 (Operand.tmp 30) (Operand.tmp 32) 3, type := 4, pos := "ref.go:54", after := #[{ on := 0, ground := Ground.data }, { on := 2, ground := Ground.data }], guard := none }
abbrev cO4 : Oper := { dst := some 34, op := Op.move (Operand.tmp 33), type := 4, pos := "ref.go:54", after := #[{ on := 3, ground := Ground.data }], guard := none }
abbrev cO5 : Oper := { dst := some 35, op := Op.move (Operand.tmp 5), type := 3, pos := "ref.go:54", after := #[{ on := 4, ground := Ground.guard }], guard := some (4, false) }
abbrev cO6 : Oper := { dst := some 36, op := Op.binOp BinOp.eql 3 (Operand.tmp 35) (Operand.const (Value.int IntKind.i64 1)) 3, type := 4, pos := "ref.go:54", after := #[{ on := 5, ground := Ground.data }, { on := 4, ground := Ground.guard }], guard := some (4, false) }
abbrev cO7 : Oper := { dst := some 37, op := Op.move (Operand.tmp 36), type := 4, pos := "ref.go:54", after := #[{ on := 6, ground := Ground.data }, { on := 4, ground := Ground.chain }, { on := 4, ground := Ground.guard }], guard := some (4, false) }
abbrev cO8 : Oper := { dst := some 38, op := Op.move (Operand.tmp 0), type := 9, pos := "ref.go:54", after := #[{ on := 7, ground := Ground.guard }], guard := some (7, true) }
abbrev cO9 : Oper := { dst := some 39, op := Op.index 9 (Operand.tmp 38) (Operand.const (Value.int IntKind.i64 0)), type := 5, pos := "ref.go:54", after := #[{ on := 8, ground := Ground.data }, { on := 7, ground := Ground.guard }], guard := some (7, true) }
abbrev cO10 : Oper := { dst := some 40, op := Op.move (Operand.tmp 0), type := 9, pos := "ref.go:54", after := #[{ on := 7, ground := Ground.guard }], guard := some (7, true) }
abbrev cO11 : Oper := { dst := some 41, op := Op.index 9 (Operand.tmp 40) (Operand.const (Value.int IntKind.i64 1)), type := 5, pos := "ref.go:54", after := #[{ on := 10, ground := Ground.data }, { on := 7, ground := Ground.guard }], guard := some (7, true) }
abbrev cO12 : Oper := { dst := some 42, op := Op.call { callee := Callee.value (Operand.func 96), args := #[Operand.tmp 39, Operand.tmp 41], argTypes := #[5, 5] }, type := 4, pos := "ref.go:54", after := #[{ on := 9, ground := Ground.data }, { on := 11, ground := Ground.data }, { on := 7, ground := Ground.chain }, { on := 7, ground := Ground.guard }], guard := some (7, true) }
abbrev cO13 : Oper := { dst := some 43, op := Op.unOp UnOp.not 4 (Operand.tmp 42), type := 4, pos := "ref.go:54", after := #[{ on := 12, ground := Ground.data }, { on := 7, ground := Ground.guard }], guard := some (7, true) }
abbrev cO14 : Oper := { dst := some 44, op := Op.pick (Operand.tmp 37) (Operand.tmp 43) (Operand.const (Value.bool false)), type := 4, pos := "ref.go:54", after := #[{ on := 7, ground := Ground.data }, { on := 13, ground := Ground.data }, { on := 4, ground := Ground.guard }], guard := some (4, false) }
abbrev cO15 : Oper := { dst := some 45, op := Op.pick (Operand.tmp 34) (Operand.const (Value.bool true)) (Operand.tmp 44), type := 4, pos := "ref.go:54", after := #[{ on := 4, ground := Ground.data }, { on := 14, ground := Ground.data }], guard := none }
abbrev cO16 : Oper := { dst := some 46, op := Op.move (Operand.tmp 45), type := 4, pos := "ref.go:54", after := #[{ on := 15, ground := Ground.data }, { on := 12, ground := Ground.chain }], guard := none }
abbrev cO17 : Oper := { dst := some 47, op := Op.move (Operand.tmp 0), type := 9, pos := "ref.go:54", after := #[{ on := 16, ground := Ground.guard }], guard := some (16, false) }
abbrev cO18 : Oper := { dst := some 48, op := Op.move (Operand.tmp 5), type := 3, pos := "ref.go:54", after := #[{ on := 16, ground := Ground.guard }], guard := some (16, false) }
abbrev cO19 : Oper := { dst := some 49, op := Op.index 9 (Operand.tmp 47) (Operand.tmp 48), type := 5, pos := "ref.go:54", after := #[{ on := 17, ground := Ground.data }, { on := 18, ground := Ground.data }, { on := 16, ground := Ground.guard }], guard := some (16, false) }
abbrev cO20 : Oper := { dst := some 50, op := Op.binOp BinOp.lss 5 (Operand.tmp 49) (Operand.const (Value.int IntKind.u8 128)) 5, type := 4, pos := "ref.go:54", after := #[{ on := 19, ground := Ground.data }, { on := 16, ground := Ground.guard }], guard := some (16, false) }
abbrev cO21 : Oper := { dst := some 51, op := Op.pick (Operand.tmp 46) (Operand.const (Value.bool true)) (Operand.tmp 50), type := 4, pos := "ref.go:54", after := #[{ on := 16, ground := Ground.data }, { on := 20, ground := Ground.data }], guard := none }
abbrev cO22 : Oper := { dst := some 52, op := Op.move (Operand.tmp 51), type := 4, pos := "ref.go:54", after := #[{ on := 21, ground := Ground.data }, { on := 16, ground := Ground.chain }], guard := none }
abbrev cO23 : Oper := { dst := some 53, op := Op.move (Operand.tmp 0), type := 9, pos := "ref.go:54", after := #[{ on := 22, ground := Ground.guard }], guard := some (22, false) }
abbrev cO24 : Oper := { dst := some 54, op := Op.move (Operand.tmp 5), type := 3, pos := "ref.go:54", after := #[{ on := 22, ground := Ground.guard }], guard := some (22, false) }
abbrev cO25 : Oper := { dst := some 55, op := Op.index 9 (Operand.tmp 53) (Operand.tmp 54), type := 5, pos := "ref.go:54", after := #[{ on := 23, ground := Ground.data }, { on := 24, ground := Ground.data }, { on := 22, ground := Ground.guard }], guard := some (22, false) }
abbrev cO26 : Oper := { dst := some 56, op := Op.binOp BinOp.gtr 5 (Operand.tmp 55) (Operand.const (Value.int IntKind.u8 191)) 5, type := 4, pos := "ref.go:54", after := #[{ on := 25, ground := Ground.data }, { on := 22, ground := Ground.guard }], guard := some (22, false) }
abbrev cO27 : Oper := { dst := some 57, op := Op.pick (Operand.tmp 52) (Operand.const (Value.bool true)) (Operand.tmp 56), type := 4, pos := "ref.go:54", after := #[{ on := 22, ground := Ground.data }, { on := 26, ground := Ground.data }], guard := none }
set_option maxHeartbeats 8000000 in
set_option maxRecDepth 100000 in
theorem refCut_any (s : ByteArray) (hs : 0 < s.size) (hm : s.size ≤ 9223372036854775800) (w : World) :
 Calls Tryz.prog 57 #[.string s] w fun e w' => e = .returned (.agg #[.int .i32 (cutL (sl s)).r, .int .i64 (cutL (sl s)).n, .bool (cutL (sl s)).ok]) ∧ Below w.heap.size w w' := by
 have hb0 := byte_atL s 0 hs
 have h256 := atL_lt (sl s) 0
 have B0 := hid_mk hb0
 clear hb0
 go_enter Tryz.func57, Tryz.ntmps57
 go_wp2_with fail
 rw [B0.out]
 refine (refSize_any _ h256 _).mono ?_
 rintro e w1 ⟨rfl, rfl⟩
 obtain ⟨b0, hb⟩ : ∃ b0, b0 = atL (sl s) 0 := ⟨_, rfl⟩
 rw [← hb]
 have HB := hid_mk hb
 rw [← hb] at h256
 clear hb
 by_cases h1 : sizeB b0 = 0
 ·have hc : Hid (cutL (sl s) = bad 1) := hid_mk (cut_none _ (HB.out ▸ h1))
  have hz : ((sizeB b0 : Int) == 0) = true := by simp; omega
  clear h1
  go_wp2
  refine bodyPost_ret (v := .agg #[.int .i32 65533, .int .i64 1, .bool false]) (by simp [results, Tryz.results57, go_sem]) rfl ⟨by rw [hc.out]; rfl, (Below.refl _ _).alloc (Nat.le_refl _) _⟩
 by_cases h2 : sizeB b0 = 1
 ·have hc : Hid (cutL (sl s) = ⟨b0, 1, true⟩) := hid_mk (HB.out ▸ cut_ascii _ (HB.out ▸ h2))
  have hz0 : ((sizeB b0 : Int) == 0) = false := by simp; omega
  have hz : ((sizeB b0 : Int) == 1) = true := by simp; omega
  clear h1 h2
  go_wp2
  refine bodyPost_ret (v := .agg #[.int .i32 b0, .int .i64 1, .bool true]) (by simp [results, Tryz.results57, go_sem, B0.out, ← HB.out]; exact IntWalk.wrap32_in _ ⟨by omega, by omega⟩) rfl ⟨by rw [hc.out]; rfl, (Below.refl _ _).alloc (Nat.le_refl _) _⟩
 have hn2 : 2 ≤ sizeB b0 := by omega
 have hn4 : sizeB b0 ≤ 4 := by unfold sizeB; (repeat' split) <;> omega
 have hz0 : ((sizeB b0 : Int) == 0) = false := by simp; omega
 have hz1 : ((sizeB b0 : Int) == 1) = false := by simp; omega
 clear h1 h2
 obtain ⟨n, hn⟩ : ∃ n, n = sizeB b0 := ⟨_, rfl⟩
 rw [← hn] at hn2 hn4 hz0 hz1 ⊢
 have HN := hid_mk hn
 clear hn
 have hand : bits BinOp.and IntKind.i32 (b0 : Int) (255 / 2 ^ (n + 1)) = ((accR (sl s) (maskOf n) 1 : Nat) : Int) := by
  rw [first_and n b0 hn2 hn4 h256, HB.out]
  rfl
 have hw1 : IntKind.i64.wrap ((n : Int) + 1) = (n : Int) + 1 := IntWalk.i64_in _ (by omega)
 have hbyte : (s[0]'hs).toNat = b0 := B0.out.trans HB.out.symm
 go_wp2_with fail
 go_region
 clear hand hw1 hz0 hz1
 have hrow : ((w.alloc (.cells #[.int .i32 0, .int .i64 0, .bool false] 85)).drew).heap[w.heap.size]? = some (.cells #[.int .i32 0, .int .i64 0, .bool false] 85 (0, 0)) := heap_alloc_new w _
 have hbel : Below w.heap.size w ((w.alloc (.cells #[.int .i32 0, .int .i64 0, .bool false] 85)).drew) := ((Below.refl _ _).alloc (Nat.le_refl _) _).drew
 generalize ((w.alloc (.cells #[.int .i32 0, .int .i64 0, .bool false] 85)).drew) = w2 at *
 go_wp2_with fail
 go_loopw [4, 5] (fun vr vi wr => ∃ k : Nat, 1 ≤ k ∧ k ≤ n ∧ vr = .int .i32 ((accR (sl s) (maskOf n) k : Nat) : Int) ∧ vi = .int .i64 (k : Int) ∧ Hid (Good (sl s) k) ∧ wr.heap[w.heap.size]? = some (.cells #[.int .i32 0, .int .i64 0, .bool false] 85 (0, 0)) ∧ Below w.heap.size w wr) (fun _ vi _ => n - (intOf vi).toNat)
 case atStart => exact ⟨1, by omega, by omega, rfl, rfl, hid_mk (fun j j1 j2 => absurd j2 (by omega)), hrow, hbel⟩
 case round =>
  obtain ⟨k, k1, kn, rfl, rfl, hg, hrow, hbel⟩ := hrel
  have c0 : wr.cell? ⟨w.heap.size, 0, none⟩ = some (.int .i32 0) := cell_of_row _ _ 0 _ _ _ hrow
  have c1 : wr.cell? ⟨w.heap.size, 1, none⟩ = some (.int .i64 0) := cell_of_row _ _ 1 _ _ _ hrow
  have c2 : wr.cell? ⟨w.heap.size, 2, none⟩ = some (.bool false) := cell_of_row _ _ 2 _ _ _ hrow
  have f0 : wr.frozen? ⟨w.heap.size, 0, none⟩ = false := frozen_of_row _ _ 0 _ _ hrow
  have f1 : wr.frozen? ⟨w.heap.size, 1, none⟩ = false := frozen_of_row _ _ 1 _ _ hrow
  have f2 : wr.frozen? ⟨w.heap.size, 2, none⟩ = false := frozen_of_row _ _ 2 _ _ hrow
  by_cases hk : k < n
  ·have hk' : (k : Int) < (n : Int) := by omega
   by_cases hl : k < s.size
   ·obtain ⟨x, hx⟩ : ∃ x, x = atL (sl s) k := ⟨_, rfl⟩
    have hx256 : x < 256 := hx ▸ atL_lt (sl s) k
    have hbk : (s[k]'hl).toNat = x := (byte_atL s k hl).trans hx.symm
    have hl' : (k : Int) < (s.size : Int) := by omega
    have hl2 : decide ((s.size : Int) ≤ (k : Int)) = false := by simp; omega
    have hl2n : decide (s.size ≤ k) = false := by simp; omega
    have HX := hid_mk hx
    clear hx
    by_cases hk1 : k = 1
    ·obtain rfl : k = 1 := hk1
     have hl1 : (1 : Int) < (s.size : Int) := by omega
     have hl3 : decide ((s.size : Int) ≤ 1) = false := by simp; omega
     have hl3n : decide (s.size ≤ 1) = false := by simp; omega
     by_cases hs2 : Sec b0 x
     ·have hsec : decide (Sec b0 x) = true := decide_eq_true hs2
      have hcx := sec_cont hs2
      unfold Cont at hcx
      have hx1 : decide ((x : Int) < 128) = false := by simp; omega
      have hx1n : decide (x < 128) = false := by simp; omega
      have hx2 : decide (191 < (x : Int)) = false := by simp; omega
      have hx2n : decide (191 < x) = false := by simp; omega
      have hg' : Hid (Good (sl s) 2) := hid_mk (fun j j1 j2 => by
       obtain rfl : j = 1 := by omega
       rw [ok1, ← HB.out, ← HX.out]
       exact ⟨by rw [len_sl]; exact hl, hs2⟩)
      clear hcx hs2
      go_wp2_with fail
      refine wp_region_held_drew (S := fun w' => w' = wr.drew) (by kernel_rfl) rfl (fun hHeld => ?_)
      refine wpAnyH_take (i := 0) (oi := cO0) (v := ?valc0) rfl (by kernel_rfl) (by kernel_rfl) (by kernel_rfl) (fun _ _ _ h => h) (Or.inl ⟨by rfl, ?hyc0⟩) (by assumption) ?_
      case hyc0 => (intro w hSw; (try dsimp only at hSw); go_split_ands; go_simp; try with_reducible rfl)
      try simp only [Act.put, List.setIfInBounds_toArray, List.set_cons_zero, List.set_cons_succ]
      refine wpAnyH_take (i := 1) (oi := cO1) (v := ?valc1) rfl (by kernel_rfl) (by kernel_rfl) (by kernel_rfl) (fun _ _ _ h => h) (Or.inl ⟨by rfl, ?hyc1⟩) (by assumption) ?_
      case hyc1 => (intro w hSw; (try dsimp only at hSw); go_split_ands; go_simp; try with_reducible rfl)
      try simp only [Act.put, List.setIfInBounds_toArray, List.set_cons_zero, List.set_cons_succ]
      refine wpAnyH_take (i := 2) (oi := cO2) (v := ?valc2) rfl (by kernel_rfl) (by kernel_rfl) (by kernel_rfl) (fun _ _ _ h => h) (Or.inl ⟨by rfl, ?hyc2⟩) (by assumption) ?_
      case hyc2 => (intro w hSw; (try dsimp only at hSw); go_split_ands; go_simp; try with_reducible rfl)
      try simp only [Act.put, List.setIfInBounds_toArray, List.set_cons_zero, List.set_cons_succ]
      refine wpAnyH_take (i := 3) (oi := cO3) (v := ?valc3) rfl (by kernel_rfl) (by kernel_rfl) (by kernel_rfl) (fun _ _ _ h => h) (Or.inl ⟨by rfl, ?hyc3⟩) (by assumption) ?_
      case hyc3 => (intro w hSw; (try dsimp only at hSw); go_split_ands; go_simp; try with_reducible rfl)
      try simp only [Act.put, List.setIfInBounds_toArray, List.set_cons_zero, List.set_cons_succ]
      refine wpAnyH_take (i := 4) (oi := cO4) (v := ?valc4) rfl (by kernel_rfl) (by kernel_rfl) (by kernel_rfl) (fun _ _ _ h => h) (Or.inl ⟨by rfl, ?hyc4⟩) (by assumption) ?_
      case hyc4 => (intro w hSw; (try dsimp only at hSw); go_split_ands; go_simp; try with_reducible rfl)
      try simp only [Act.put, List.setIfInBounds_toArray, List.set_cons_zero, List.set_cons_succ]
      refine wpAnyH_take (i := 5) (oi := cO5) (v := ?valc5) rfl (by kernel_rfl) (by kernel_rfl) (by kernel_rfl) (fun _ _ _ h => h) (Or.inl ⟨by rfl, ?hyc5⟩) (by assumption) ?_
      case hyc5 => (intro w hSw; (try dsimp only at hSw); go_split_ands; go_simp; try with_reducible rfl)
      try simp only [Act.put, List.setIfInBounds_toArray, List.set_cons_zero, List.set_cons_succ]
      refine wpAnyH_take (i := 6) (oi := cO6) (v := ?valc6) rfl (by kernel_rfl) (by kernel_rfl) (by kernel_rfl) (fun _ _ _ h => h) (Or.inl ⟨by rfl, ?hyc6⟩) (by assumption) ?_
      case hyc6 => (intro w hSw; (try dsimp only at hSw); go_split_ands; go_simp; try with_reducible rfl)
      try simp only [Act.put, List.setIfInBounds_toArray, List.set_cons_zero, List.set_cons_succ]
      refine wpAnyH_take (i := 7) (oi := cO7) (v := ?valc7) rfl (by kernel_rfl) (by kernel_rfl) (by kernel_rfl) (fun _ _ _ h => h) (Or.inl ⟨by rfl, ?hyc7⟩) (by assumption) ?_
      case hyc7 => (intro w hSw; (try dsimp only at hSw); go_split_ands; go_simp; try with_reducible rfl)
      try simp only [Act.put, List.setIfInBounds_toArray, List.set_cons_zero, List.set_cons_succ]
      refine wpAnyH_take (i := 8) (oi := cO8) (v := ?valc8) rfl (by kernel_rfl) (by kernel_rfl) (by kernel_rfl) (fun _ _ _ h => h) (Or.inl ⟨by rfl, ?hyc8⟩) (by assumption) ?_
      case hyc8 => (intro w hSw; (try dsimp only at hSw); go_split_ands; go_simp; try with_reducible rfl)
      try simp only [Act.put, List.setIfInBounds_toArray, List.set_cons_zero, List.set_cons_succ]
      refine wpAnyH_take (i := 9) (oi := cO9) (v := ?valc9) rfl (by kernel_rfl) (by kernel_rfl) (by kernel_rfl) (fun _ _ _ h => h) (Or.inl ⟨by rfl, ?hyc9⟩) (by assumption) ?_
      case hyc9 => (intro w hSw; (try dsimp only at hSw); go_split_ands; go_simp; try with_reducible rfl)
      try simp only [Act.put, List.setIfInBounds_toArray, List.set_cons_zero, List.set_cons_succ]
      refine wpAnyH_take (i := 10) (oi := cO10) (v := ?valc10) rfl (by kernel_rfl) (by kernel_rfl) (by kernel_rfl) (fun _ _ _ h => h) (Or.inl ⟨by rfl, ?hyc10⟩) (by assumption) ?_
      case hyc10 => (intro w hSw; (try dsimp only at hSw); go_split_ands; go_simp; try with_reducible rfl)
      try simp only [Act.put, List.setIfInBounds_toArray, List.set_cons_zero, List.set_cons_succ]
      refine wpAnyH_take (i := 11) (oi := cO11) (v := ?valc11) rfl (by kernel_rfl) (by kernel_rfl) (by kernel_rfl) (fun _ _ _ h => h) (Or.inl ⟨by rfl, ?hyc11⟩) (by assumption) ?_
      case hyc11 => (intro w hSw; (try dsimp only at hSw); go_split_ands; go_simp; try with_reducible rfl)
      try simp only [Act.put, List.setIfInBounds_toArray, List.set_cons_zero, List.set_cons_succ]
      refine wpAnyH_ready (rs := [12]) (by kernel_rfl) (by simp) ?_
      refine AllReadyH.cons (o := cO12) rfl (fun K hK => ?_) AllReadyH.nil
      go_simp
      (refine (refSecond_any _ _ h256 hx256 _).mono ?_; rintro e w5 ⟨rfl, rfl⟩; rw [hsec])
      try go_wp2_with fail
      refine hK.out _ _ ?_ (fun hHeld2 => ?_)
      ·first | rfl | exact hHeld
      clear hK K hHeld
      have hHeld := hHeld2
      clear hHeld2
      try simp only [Act.put, List.setIfInBounds_toArray, List.set_cons_zero, List.set_cons_succ]
      refine wpAnyH_take (i := 13) (oi := cO13) (v := ?valc13) rfl (by kernel_rfl) (by kernel_rfl) (by kernel_rfl) (fun _ _ _ h => h) (Or.inl ⟨by rfl, ?hyc13⟩) (by assumption) ?_
      case hyc13 => (intro w hSw; (try dsimp only at hSw); go_split_ands; go_simp; try with_reducible rfl)
      try simp only [Act.put, List.setIfInBounds_toArray, List.set_cons_zero, List.set_cons_succ]
      refine wpAnyH_take (i := 14) (oi := cO14) (v := ?valc14) rfl (by kernel_rfl) (by kernel_rfl) (by kernel_rfl) (fun _ _ _ h => h) (Or.inl ⟨by rfl, ?hyc14⟩) (by assumption) ?_
      case hyc14 => (intro w hSw; (try dsimp only at hSw); go_split_ands; go_simp; try with_reducible rfl)
      try simp only [Act.put, List.setIfInBounds_toArray, List.set_cons_zero, List.set_cons_succ]
      refine wpAnyH_take (i := 15) (oi := cO15) (v := ?valc15) rfl (by kernel_rfl) (by kernel_rfl) (by kernel_rfl) (fun _ _ _ h => h) (Or.inl ⟨by rfl, ?hyc15⟩) (by assumption) ?_
      case hyc15 => (intro w hSw; (try dsimp only at hSw); go_split_ands; go_simp; try with_reducible rfl)
      try simp only [Act.put, List.setIfInBounds_toArray, List.set_cons_zero, List.set_cons_succ]
      refine wpAnyH_take (i := 16) (oi := cO16) (v := ?valc16) rfl (by kernel_rfl) (by kernel_rfl) (by kernel_rfl) (fun _ _ _ h => h) (Or.inl ⟨by rfl, ?hyc16⟩) (by assumption) ?_
      case hyc16 => (intro w hSw; (try dsimp only at hSw); go_split_ands; go_simp; try with_reducible rfl)
      try simp only [Act.put, List.setIfInBounds_toArray, List.set_cons_zero, List.set_cons_succ]
      refine wpAnyH_take (i := 17) (oi := cO17) (v := ?valc17) rfl (by kernel_rfl) (by kernel_rfl) (by kernel_rfl) (fun _ _ _ h => h) (Or.inl ⟨by rfl, ?hyc17⟩) (by assumption) ?_
      case hyc17 => (intro w hSw; (try dsimp only at hSw); go_split_ands; go_simp; try with_reducible rfl)
      try simp only [Act.put, List.setIfInBounds_toArray, List.set_cons_zero, List.set_cons_succ]
      refine wpAnyH_take (i := 18) (oi := cO18) (v := ?valc18) rfl (by kernel_rfl) (by kernel_rfl) (by kernel_rfl) (fun _ _ _ h => h) (Or.inl ⟨by rfl, ?hyc18⟩) (by assumption) ?_
      case hyc18 => (intro w hSw; (try dsimp only at hSw); go_split_ands; go_simp; try with_reducible rfl)
      try simp only [Act.put, List.setIfInBounds_toArray, List.set_cons_zero, List.set_cons_succ]
      refine wpAnyH_take (i := 19) (oi := cO19) (v := ?valc19) rfl (by kernel_rfl) (by kernel_rfl) (by kernel_rfl) (fun _ _ _ h => h) (Or.inl ⟨by rfl, ?hyc19⟩) (by assumption) ?_
      case hyc19 => (intro w hSw; (try dsimp only at hSw); go_split_ands; go_simp; try with_reducible rfl)
      try simp only [Act.put, List.setIfInBounds_toArray, List.set_cons_zero, List.set_cons_succ]
      refine wpAnyH_take (i := 20) (oi := cO20) (v := ?valc20) rfl (by kernel_rfl) (by kernel_rfl) (by kernel_rfl) (fun _ _ _ h => h) (Or.inl ⟨by rfl, ?hyc20⟩) (by assumption) ?_
      case hyc20 => (intro w hSw; (try dsimp only at hSw); go_split_ands; go_simp; try with_reducible rfl)
      try simp only [Act.put, List.setIfInBounds_toArray, List.set_cons_zero, List.set_cons_succ]
      refine wpAnyH_take (i := 21) (oi := cO21) (v := ?valc21) rfl (by kernel_rfl) (by kernel_rfl) (by kernel_rfl) (fun _ _ _ h => h) (Or.inl ⟨by rfl, ?hyc21⟩) (by assumption) ?_
      case hyc21 => (intro w hSw; (try dsimp only at hSw); go_split_ands; go_simp; try with_reducible rfl)
      try simp only [Act.put, List.setIfInBounds_toArray, List.set_cons_zero, List.set_cons_succ]
      refine wpAnyH_take (i := 22) (oi := cO22) (v := ?valc22) rfl (by kernel_rfl) (by kernel_rfl) (by kernel_rfl) (fun _ _ _ h => h) (Or.inl ⟨by rfl, ?hyc22⟩) (by assumption) ?_
      case hyc22 => (intro w hSw; (try dsimp only at hSw); go_split_ands; go_simp; try with_reducible rfl)
      try simp only [Act.put, List.setIfInBounds_toArray, List.set_cons_zero, List.set_cons_succ]
      refine wpAnyH_take (i := 23) (oi := cO23) (v := ?valc23) rfl (by kernel_rfl) (by kernel_rfl) (by kernel_rfl) (fun _ _ _ h => h) (Or.inl ⟨by rfl, ?hyc23⟩) (by assumption) ?_
      case hyc23 => (intro w hSw; (try dsimp only at hSw); go_split_ands; go_simp; try with_reducible rfl)
      try simp only [Act.put, List.setIfInBounds_toArray, List.set_cons_zero, List.set_cons_succ]
      refine wpAnyH_take (i := 24) (oi := cO24) (v := ?valc24) rfl (by kernel_rfl) (by kernel_rfl) (by kernel_rfl) (fun _ _ _ h => h) (Or.inl ⟨by rfl, ?hyc24⟩) (by assumption) ?_
      case hyc24 => (intro w hSw; (try dsimp only at hSw); go_split_ands; go_simp; try with_reducible rfl)
      try simp only [Act.put, List.setIfInBounds_toArray, List.set_cons_zero, List.set_cons_succ]
      refine wpAnyH_take (i := 25) (oi := cO25) (v := ?valc25) rfl (by kernel_rfl) (by kernel_rfl) (by kernel_rfl) (fun _ _ _ h => h) (Or.inl ⟨by rfl, ?hyc25⟩) (by assumption) ?_
      case hyc25 => (intro w hSw; (try dsimp only at hSw); go_split_ands; go_simp; try with_reducible rfl)
      try simp only [Act.put, List.setIfInBounds_toArray, List.set_cons_zero, List.set_cons_succ]
      refine wpAnyH_take (i := 26) (oi := cO26) (v := ?valc26) rfl (by kernel_rfl) (by kernel_rfl) (by kernel_rfl) (fun _ _ _ h => h) (Or.inl ⟨by rfl, ?hyc26⟩) (by assumption) ?_
      case hyc26 => (intro w hSw; (try dsimp only at hSw); go_split_ands; go_simp; try with_reducible rfl)
      try simp only [Act.put, List.setIfInBounds_toArray, List.set_cons_zero, List.set_cons_succ]
      refine wpAnyH_take (i := 27) (oi := cO27) (v := ?valc27) rfl (by kernel_rfl) (by kernel_rfl) (by kernel_rfl) (fun _ _ _ h => h) (Or.inl ⟨by rfl, ?hyc27⟩) (by assumption) ?_
      case hyc27 => (intro w hSw; (try dsimp only at hSw); go_split_ands; go_simp; try with_reducible rfl)
      try simp only [Act.put, List.setIfInBounds_toArray, List.set_cons_zero, List.set_cons_succ]
      refine wpAnyH_done (by kernel_rfl) ?_ _
      clear hHeld
      have hand6 : bits .and .u8 (x : Int) 63 = (x : Int) % 64 := u8_and63 _ (by omega) (by omega)
      have hmask : maskOf n ≤ 32 ∧ 0 < maskOf n := by unfold maskOf; (repeat' split) <;> omega
      have hacc := accR_lt (sl s) (maskOf n) 1 hmask.1 hmask.2 (by omega) (by omega)
      have heq : Hid (bits .or .i32 (wrap32 (((accR (sl s) (maskOf n) 1 : Nat) : Int) * 64)) ((x : Int) % 64) = ((accR (sl s) (maskOf n) (1 + 1) : Nat) : Int)) := hid_mk (by
       rw [IntWalk.wrap32_in _ ⟨by omega, by omega⟩, i32_or6 _ _ (by omega) (by omega) (by omega) (by omega) (by omega), accR_succ (sl s) (maskOf n) 1 (by omega), ← HX.out]
       omega)
      clear hacc hmask
      go_wp2_with fail
      refine ⟨⟨1 + 1, by omega, by omega, by rw [heq.out], by first | rfl | go_num, hg', hrow, hbel.drew⟩, ?_⟩
      simp [intOf]
      omega
     ·have hsec : decide (Sec b0 x) = false := decide_eq_false hs2
      have hc : Hid (cutL (sl s) = bad 1) := hid_mk (cut_bad (sl s) 1 (by omega) (by rw [← HB.out, ← HN.out]; exact hk) hg.out (.inr (by rw [ok1, ← HB.out, ← HX.out]; exact hs2)))
      clear hs2
      go_wp2_with fail
      refine wp_region_held_drew (S := fun w' => w' = wr.drew) (by kernel_rfl) rfl (fun hHeld => ?_)
      refine wpAnyH_take (i := 0) (oi := cO0) (v := ?valb0) rfl (by kernel_rfl) (by kernel_rfl) (by kernel_rfl) (fun _ _ _ h => h) (Or.inl ⟨by rfl, ?hyb0⟩) (by assumption) ?_
      case hyb0 => (intro w hSw; (try dsimp only at hSw); go_split_ands; go_simp; try with_reducible rfl)
      try simp only [Act.put, List.setIfInBounds_toArray, List.set_cons_zero, List.set_cons_succ]
      refine wpAnyH_take (i := 1) (oi := cO1) (v := ?valb1) rfl (by kernel_rfl) (by kernel_rfl) (by kernel_rfl) (fun _ _ _ h => h) (Or.inl ⟨by rfl, ?hyb1⟩) (by assumption) ?_
      case hyb1 => (intro w hSw; (try dsimp only at hSw); go_split_ands; go_simp; try with_reducible rfl)
      try simp only [Act.put, List.setIfInBounds_toArray, List.set_cons_zero, List.set_cons_succ]
      refine wpAnyH_take (i := 2) (oi := cO2) (v := ?valb2) rfl (by kernel_rfl) (by kernel_rfl) (by kernel_rfl) (fun _ _ _ h => h) (Or.inl ⟨by rfl, ?hyb2⟩) (by assumption) ?_
      case hyb2 => (intro w hSw; (try dsimp only at hSw); go_split_ands; go_simp; try with_reducible rfl)
      try simp only [Act.put, List.setIfInBounds_toArray, List.set_cons_zero, List.set_cons_succ]
      refine wpAnyH_take (i := 3) (oi := cO3) (v := ?valb3) rfl (by kernel_rfl) (by kernel_rfl) (by kernel_rfl) (fun _ _ _ h => h) (Or.inl ⟨by rfl, ?hyb3⟩) (by assumption) ?_
      case hyb3 => (intro w hSw; (try dsimp only at hSw); go_split_ands; go_simp; try with_reducible rfl)
      try simp only [Act.put, List.setIfInBounds_toArray, List.set_cons_zero, List.set_cons_succ]
      refine wpAnyH_take (i := 4) (oi := cO4) (v := ?valb4) rfl (by kernel_rfl) (by kernel_rfl) (by kernel_rfl) (fun _ _ _ h => h) (Or.inl ⟨by rfl, ?hyb4⟩) (by assumption) ?_
      case hyb4 => (intro w hSw; (try dsimp only at hSw); go_split_ands; go_simp; try with_reducible rfl)
      try simp only [Act.put, List.setIfInBounds_toArray, List.set_cons_zero, List.set_cons_succ]
      refine wpAnyH_take (i := 5) (oi := cO5) (v := ?valb5) rfl (by kernel_rfl) (by kernel_rfl) (by kernel_rfl) (fun _ _ _ h => h) (Or.inl ⟨by rfl, ?hyb5⟩) (by assumption) ?_
      case hyb5 => (intro w hSw; (try dsimp only at hSw); go_split_ands; go_simp; try with_reducible rfl)
      try simp only [Act.put, List.setIfInBounds_toArray, List.set_cons_zero, List.set_cons_succ]
      refine wpAnyH_take (i := 6) (oi := cO6) (v := ?valb6) rfl (by kernel_rfl) (by kernel_rfl) (by kernel_rfl) (fun _ _ _ h => h) (Or.inl ⟨by rfl, ?hyb6⟩) (by assumption) ?_
      case hyb6 => (intro w hSw; (try dsimp only at hSw); go_split_ands; go_simp; try with_reducible rfl)
      try simp only [Act.put, List.setIfInBounds_toArray, List.set_cons_zero, List.set_cons_succ]
      refine wpAnyH_take (i := 7) (oi := cO7) (v := ?valb7) rfl (by kernel_rfl) (by kernel_rfl) (by kernel_rfl) (fun _ _ _ h => h) (Or.inl ⟨by rfl, ?hyb7⟩) (by assumption) ?_
      case hyb7 => (intro w hSw; (try dsimp only at hSw); go_split_ands; go_simp; try with_reducible rfl)
      try simp only [Act.put, List.setIfInBounds_toArray, List.set_cons_zero, List.set_cons_succ]
      refine wpAnyH_take (i := 8) (oi := cO8) (v := ?valb8) rfl (by kernel_rfl) (by kernel_rfl) (by kernel_rfl) (fun _ _ _ h => h) (Or.inl ⟨by rfl, ?hyb8⟩) (by assumption) ?_
      case hyb8 => (intro w hSw; (try dsimp only at hSw); go_split_ands; go_simp; try with_reducible rfl)
      try simp only [Act.put, List.setIfInBounds_toArray, List.set_cons_zero, List.set_cons_succ]
      refine wpAnyH_take (i := 9) (oi := cO9) (v := ?valb9) rfl (by kernel_rfl) (by kernel_rfl) (by kernel_rfl) (fun _ _ _ h => h) (Or.inl ⟨by rfl, ?hyb9⟩) (by assumption) ?_
      case hyb9 => (intro w hSw; (try dsimp only at hSw); go_split_ands; go_simp; try with_reducible rfl)
      try simp only [Act.put, List.setIfInBounds_toArray, List.set_cons_zero, List.set_cons_succ]
      refine wpAnyH_take (i := 10) (oi := cO10) (v := ?valb10) rfl (by kernel_rfl) (by kernel_rfl) (by kernel_rfl) (fun _ _ _ h => h) (Or.inl ⟨by rfl, ?hyb10⟩) (by assumption) ?_
      case hyb10 => (intro w hSw; (try dsimp only at hSw); go_split_ands; go_simp; try with_reducible rfl)
      try simp only [Act.put, List.setIfInBounds_toArray, List.set_cons_zero, List.set_cons_succ]
      refine wpAnyH_take (i := 11) (oi := cO11) (v := ?valb11) rfl (by kernel_rfl) (by kernel_rfl) (by kernel_rfl) (fun _ _ _ h => h) (Or.inl ⟨by rfl, ?hyb11⟩) (by assumption) ?_
      case hyb11 => (intro w hSw; (try dsimp only at hSw); go_split_ands; go_simp; try with_reducible rfl)
      try simp only [Act.put, List.setIfInBounds_toArray, List.set_cons_zero, List.set_cons_succ]
      refine wpAnyH_ready (rs := [12]) (by kernel_rfl) (by simp) ?_
      refine AllReadyH.cons (o := cO12) rfl (fun K hK => ?_) AllReadyH.nil
      go_simp
      (refine (refSecond_any _ _ h256 hx256 _).mono ?_; rintro e w5 ⟨rfl, rfl⟩; rw [hsec])
      try go_wp2_with fail
      refine hK.out _ _ ?_ (fun hHeld2 => ?_)
      ·first | rfl | exact hHeld
      clear hK K hHeld
      have hHeld := hHeld2
      clear hHeld2
      try simp only [Act.put, List.setIfInBounds_toArray, List.set_cons_zero, List.set_cons_succ]
      refine wpAnyH_take (i := 13) (oi := cO13) (v := ?valb13) rfl (by kernel_rfl) (by kernel_rfl) (by kernel_rfl) (fun _ _ _ h => h) (Or.inl ⟨by rfl, ?hyb13⟩) (by assumption) ?_
      case hyb13 => (intro w hSw; (try dsimp only at hSw); go_split_ands; go_simp; try with_reducible rfl)
      try simp only [Act.put, List.setIfInBounds_toArray, List.set_cons_zero, List.set_cons_succ]
      refine wpAnyH_take (i := 14) (oi := cO14) (v := ?valb14) rfl (by kernel_rfl) (by kernel_rfl) (by kernel_rfl) (fun _ _ _ h => h) (Or.inl ⟨by rfl, ?hyb14⟩) (by assumption) ?_
      case hyb14 => (intro w hSw; (try dsimp only at hSw); go_split_ands; go_simp; try with_reducible rfl)
      try simp only [Act.put, List.setIfInBounds_toArray, List.set_cons_zero, List.set_cons_succ]
      refine wpAnyH_take (i := 15) (oi := cO15) (v := ?valb15) rfl (by kernel_rfl) (by kernel_rfl) (by kernel_rfl) (fun _ _ _ h => h) (Or.inl ⟨by rfl, ?hyb15⟩) (by assumption) ?_
      case hyb15 => (intro w hSw; (try dsimp only at hSw); go_split_ands; go_simp; try with_reducible rfl)
      try simp only [Act.put, List.setIfInBounds_toArray, List.set_cons_zero, List.set_cons_succ]
      refine wpAnyH_take (i := 16) (oi := cO16) (v := ?valb16) rfl (by kernel_rfl) (by kernel_rfl) (by kernel_rfl) (fun _ _ _ h => h) (Or.inl ⟨by rfl, ?hyb16⟩) (by assumption) ?_
      case hyb16 => (intro w hSw; (try dsimp only at hSw); go_split_ands; go_simp; try with_reducible rfl)
      try simp only [Act.put, List.setIfInBounds_toArray, List.set_cons_zero, List.set_cons_succ]
      refine wpAnyH_take (i := 17) (oi := cO17) (v := undef) rfl (by kernel_rfl) (by kernel_rfl) (by kernel_rfl) (fun _ _ _ h => h) (Or.inr ⟨by rfl, rfl⟩) (by assumption) ?_
      try simp only [Act.put, List.setIfInBounds_toArray, List.set_cons_zero, List.set_cons_succ]
      refine wpAnyH_take (i := 18) (oi := cO18) (v := undef) rfl (by kernel_rfl) (by kernel_rfl) (by kernel_rfl) (fun _ _ _ h => h) (Or.inr ⟨by rfl, rfl⟩) (by assumption) ?_
      try simp only [Act.put, List.setIfInBounds_toArray, List.set_cons_zero, List.set_cons_succ]
      refine wpAnyH_take (i := 19) (oi := cO19) (v := undef) rfl (by kernel_rfl) (by kernel_rfl) (by kernel_rfl) (fun _ _ _ h => h) (Or.inr ⟨by rfl, rfl⟩) (by assumption) ?_
      try simp only [Act.put, List.setIfInBounds_toArray, List.set_cons_zero, List.set_cons_succ]
      refine wpAnyH_take (i := 20) (oi := cO20) (v := undef) rfl (by kernel_rfl) (by kernel_rfl) (by kernel_rfl) (fun _ _ _ h => h) (Or.inr ⟨by rfl, rfl⟩) (by assumption) ?_
      try simp only [Act.put, List.setIfInBounds_toArray, List.set_cons_zero, List.set_cons_succ]
      refine wpAnyH_take (i := 21) (oi := cO21) (v := ?valb21) rfl (by kernel_rfl) (by kernel_rfl) (by kernel_rfl) (fun _ _ _ h => h) (Or.inl ⟨by rfl, ?hyb21⟩) (by assumption) ?_
      case hyb21 => (intro w hSw; (try dsimp only at hSw); go_split_ands; go_simp; try with_reducible rfl)
      try simp only [Act.put, List.setIfInBounds_toArray, List.set_cons_zero, List.set_cons_succ]
      refine wpAnyH_take (i := 22) (oi := cO22) (v := ?valb22) rfl (by kernel_rfl) (by kernel_rfl) (by kernel_rfl) (fun _ _ _ h => h) (Or.inl ⟨by rfl, ?hyb22⟩) (by assumption) ?_
      case hyb22 => (intro w hSw; (try dsimp only at hSw); go_split_ands; go_simp; try with_reducible rfl)
      try simp only [Act.put, List.setIfInBounds_toArray, List.set_cons_zero, List.set_cons_succ]
      refine wpAnyH_take (i := 23) (oi := cO23) (v := undef) rfl (by kernel_rfl) (by kernel_rfl) (by kernel_rfl) (fun _ _ _ h => h) (Or.inr ⟨by rfl, rfl⟩) (by assumption) ?_
      try simp only [Act.put, List.setIfInBounds_toArray, List.set_cons_zero, List.set_cons_succ]
      refine wpAnyH_take (i := 24) (oi := cO24) (v := undef) rfl (by kernel_rfl) (by kernel_rfl) (by kernel_rfl) (fun _ _ _ h => h) (Or.inr ⟨by rfl, rfl⟩) (by assumption) ?_
      try simp only [Act.put, List.setIfInBounds_toArray, List.set_cons_zero, List.set_cons_succ]
      refine wpAnyH_take (i := 25) (oi := cO25) (v := undef) rfl (by kernel_rfl) (by kernel_rfl) (by kernel_rfl) (fun _ _ _ h => h) (Or.inr ⟨by rfl, rfl⟩) (by assumption) ?_
      try simp only [Act.put, List.setIfInBounds_toArray, List.set_cons_zero, List.set_cons_succ]
      refine wpAnyH_take (i := 26) (oi := cO26) (v := undef) rfl (by kernel_rfl) (by kernel_rfl) (by kernel_rfl) (fun _ _ _ h => h) (Or.inr ⟨by rfl, rfl⟩) (by assumption) ?_
      try simp only [Act.put, List.setIfInBounds_toArray, List.set_cons_zero, List.set_cons_succ]
      refine wpAnyH_take (i := 27) (oi := cO27) (v := ?valb27) rfl (by kernel_rfl) (by kernel_rfl) (by kernel_rfl) (fun _ _ _ h => h) (Or.inl ⟨by rfl, ?hyb27⟩) (by assumption) ?_
      case hyb27 => (intro w hSw; (try dsimp only at hSw); go_split_ands; go_simp; try with_reducible rfl)
      try simp only [Act.put, List.setIfInBounds_toArray, List.set_cons_zero, List.set_cons_succ]
      refine wpAnyH_done (by kernel_rfl) ?_ _
      clear hHeld
      go_wp2
      refine bodyPost_ret (results_cell_row (p := 2) (ty := 85) (by kernel_rfl) _ _ w.heap.size 85 _ (0, 0) _ rfl (part_row _ _ _ hrow) Tryz.underlying85 rfl (by kernel_rfl)) rfl ⟨by rw [hc.out]; rfl, (part_below _ _ _ hbel).drew⟩
    ·have hok : Hid (okAt (atL (sl s) 0) k (atL (sl s) k) ↔ 128 ≤ x ∧ x ≤ 191) := hid_mk (by unfold okAt Cont; rw [if_neg hk1, HX.out])
     have hk1' : ((k : Int) == 1) = false := by simp; omega
     have hk1n : (k == 1) = false := by simp; omega
     have hk1d : decide (k = 1) = false := by simp; omega
     clear hk1
     by_cases hx1 : x < 128
     ·have hc : Hid (cutL (sl s) = bad k) := hid_mk (cut_bad (sl s) k k1 (by rw [← HB.out, ← HN.out]; exact hk) hg.out (.inr (by rw [hok.out]; omega)))
      have hx1' : decide ((x : Int) < 128) = true := by simp; omega
      have hx1n' : decide (x < 128) = true := by simp; omega
      clear hx1
      go_wp2_with fail
      refine wp_region_held_drew (S := fun w' => w' = wr.drew) (by kernel_rfl) rfl (fun hHeld => ?_)
      refine wpAnyH_take (i := 0) (oi := cO0) (v := ?vald0) rfl (by kernel_rfl) (by kernel_rfl) (by kernel_rfl) (fun _ _ _ h => h) (Or.inl ⟨by rfl, ?hyd0⟩) (by assumption) ?_
      case hyd0 => (intro w hSw; (try dsimp only at hSw); go_split_ands; go_simp; try with_reducible rfl)
      try simp only [Act.put, List.setIfInBounds_toArray, List.set_cons_zero, List.set_cons_succ]
      refine wpAnyH_take (i := 1) (oi := cO1) (v := ?vald1) rfl (by kernel_rfl) (by kernel_rfl) (by kernel_rfl) (fun _ _ _ h => h) (Or.inl ⟨by rfl, ?hyd1⟩) (by assumption) ?_
      case hyd1 => (intro w hSw; (try dsimp only at hSw); go_split_ands; go_simp; try with_reducible rfl)
      try simp only [Act.put, List.setIfInBounds_toArray, List.set_cons_zero, List.set_cons_succ]
      refine wpAnyH_take (i := 2) (oi := cO2) (v := ?vald2) rfl (by kernel_rfl) (by kernel_rfl) (by kernel_rfl) (fun _ _ _ h => h) (Or.inl ⟨by rfl, ?hyd2⟩) (by assumption) ?_
      case hyd2 => (intro w hSw; (try dsimp only at hSw); go_split_ands; go_simp; try with_reducible rfl)
      try simp only [Act.put, List.setIfInBounds_toArray, List.set_cons_zero, List.set_cons_succ]
      refine wpAnyH_take (i := 3) (oi := cO3) (v := ?vald3) rfl (by kernel_rfl) (by kernel_rfl) (by kernel_rfl) (fun _ _ _ h => h) (Or.inl ⟨by rfl, ?hyd3⟩) (by assumption) ?_
      case hyd3 => (intro w hSw; (try dsimp only at hSw); go_split_ands; go_simp; try with_reducible rfl)
      try simp only [Act.put, List.setIfInBounds_toArray, List.set_cons_zero, List.set_cons_succ]
      refine wpAnyH_take (i := 4) (oi := cO4) (v := ?vald4) rfl (by kernel_rfl) (by kernel_rfl) (by kernel_rfl) (fun _ _ _ h => h) (Or.inl ⟨by rfl, ?hyd4⟩) (by assumption) ?_
      case hyd4 => (intro w hSw; (try dsimp only at hSw); go_split_ands; go_simp; try with_reducible rfl)
      try simp only [Act.put, List.setIfInBounds_toArray, List.set_cons_zero, List.set_cons_succ]
      refine wpAnyH_take (i := 5) (oi := cO5) (v := ?vald5) rfl (by kernel_rfl) (by kernel_rfl) (by kernel_rfl) (fun _ _ _ h => h) (Or.inl ⟨by rfl, ?hyd5⟩) (by assumption) ?_
      case hyd5 => (intro w hSw; (try dsimp only at hSw); go_split_ands; go_simp; try with_reducible rfl)
      try simp only [Act.put, List.setIfInBounds_toArray, List.set_cons_zero, List.set_cons_succ]
      refine wpAnyH_take (i := 6) (oi := cO6) (v := ?vald6) rfl (by kernel_rfl) (by kernel_rfl) (by kernel_rfl) (fun _ _ _ h => h) (Or.inl ⟨by rfl, ?hyd6⟩) (by assumption) ?_
      case hyd6 => (intro w hSw; (try dsimp only at hSw); go_split_ands; go_simp; try with_reducible rfl)
      try simp only [Act.put, List.setIfInBounds_toArray, List.set_cons_zero, List.set_cons_succ]
      refine wpAnyH_take (i := 7) (oi := cO7) (v := ?vald7) rfl (by kernel_rfl) (by kernel_rfl) (by kernel_rfl) (fun _ _ _ h => h) (Or.inl ⟨by rfl, ?hyd7⟩) (by assumption) ?_
      case hyd7 => (intro w hSw; (try dsimp only at hSw); go_split_ands; go_simp; try with_reducible rfl)
      try simp only [Act.put, List.setIfInBounds_toArray, List.set_cons_zero, List.set_cons_succ]
      refine wpAnyH_take (i := 8) (oi := cO8) (v := undef) rfl (by kernel_rfl) (by kernel_rfl) (by kernel_rfl) (fun _ _ _ h => h) (Or.inr ⟨by rfl, rfl⟩) (by assumption) ?_
      try simp only [Act.put, List.setIfInBounds_toArray, List.set_cons_zero, List.set_cons_succ]
      refine wpAnyH_take (i := 9) (oi := cO9) (v := undef) rfl (by kernel_rfl) (by kernel_rfl) (by kernel_rfl) (fun _ _ _ h => h) (Or.inr ⟨by rfl, rfl⟩) (by assumption) ?_
      try simp only [Act.put, List.setIfInBounds_toArray, List.set_cons_zero, List.set_cons_succ]
      refine wpAnyH_take (i := 10) (oi := cO10) (v := undef) rfl (by kernel_rfl) (by kernel_rfl) (by kernel_rfl) (fun _ _ _ h => h) (Or.inr ⟨by rfl, rfl⟩) (by assumption) ?_
      try simp only [Act.put, List.setIfInBounds_toArray, List.set_cons_zero, List.set_cons_succ]
      refine wpAnyH_take (i := 11) (oi := cO11) (v := undef) rfl (by kernel_rfl) (by kernel_rfl) (by kernel_rfl) (fun _ _ _ h => h) (Or.inr ⟨by rfl, rfl⟩) (by assumption) ?_
      try simp only [Act.put, List.setIfInBounds_toArray, List.set_cons_zero, List.set_cons_succ]
      refine wpAnyH_take (i := 12) (oi := cO12) (v := undef) rfl (by kernel_rfl) (by kernel_rfl) (by kernel_rfl) (fun _ _ _ h => h) (Or.inr ⟨by rfl, rfl⟩) (by assumption) ?_
      try simp only [Act.put, List.setIfInBounds_toArray, List.set_cons_zero, List.set_cons_succ]
      refine wpAnyH_take (i := 13) (oi := cO13) (v := undef) rfl (by kernel_rfl) (by kernel_rfl) (by kernel_rfl) (fun _ _ _ h => h) (Or.inr ⟨by rfl, rfl⟩) (by assumption) ?_
      try simp only [Act.put, List.setIfInBounds_toArray, List.set_cons_zero, List.set_cons_succ]
      refine wpAnyH_take (i := 14) (oi := cO14) (v := ?vald14) rfl (by kernel_rfl) (by kernel_rfl) (by kernel_rfl) (fun _ _ _ h => h) (Or.inl ⟨by rfl, ?hyd14⟩) (by assumption) ?_
      case hyd14 => (intro w hSw; (try dsimp only at hSw); go_split_ands; go_simp; try with_reducible rfl)
      try simp only [Act.put, List.setIfInBounds_toArray, List.set_cons_zero, List.set_cons_succ]
      refine wpAnyH_take (i := 15) (oi := cO15) (v := ?vald15) rfl (by kernel_rfl) (by kernel_rfl) (by kernel_rfl) (fun _ _ _ h => h) (Or.inl ⟨by rfl, ?hyd15⟩) (by assumption) ?_
      case hyd15 => (intro w hSw; (try dsimp only at hSw); go_split_ands; go_simp; try with_reducible rfl)
      try simp only [Act.put, List.setIfInBounds_toArray, List.set_cons_zero, List.set_cons_succ]
      refine wpAnyH_take (i := 16) (oi := cO16) (v := ?vald16) rfl (by kernel_rfl) (by kernel_rfl) (by kernel_rfl) (fun _ _ _ h => h) (Or.inl ⟨by rfl, ?hyd16⟩) (by assumption) ?_
      case hyd16 => (intro w hSw; (try dsimp only at hSw); go_split_ands; go_simp; try with_reducible rfl)
      try simp only [Act.put, List.setIfInBounds_toArray, List.set_cons_zero, List.set_cons_succ]
      refine wpAnyH_take (i := 17) (oi := cO17) (v := ?vald17) rfl (by kernel_rfl) (by kernel_rfl) (by kernel_rfl) (fun _ _ _ h => h) (Or.inl ⟨by rfl, ?hyd17⟩) (by assumption) ?_
      case hyd17 => (intro w hSw; (try dsimp only at hSw); go_split_ands; go_simp; try with_reducible rfl)
      try simp only [Act.put, List.setIfInBounds_toArray, List.set_cons_zero, List.set_cons_succ]
      refine wpAnyH_take (i := 18) (oi := cO18) (v := ?vald18) rfl (by kernel_rfl) (by kernel_rfl) (by kernel_rfl) (fun _ _ _ h => h) (Or.inl ⟨by rfl, ?hyd18⟩) (by assumption) ?_
      case hyd18 => (intro w hSw; (try dsimp only at hSw); go_split_ands; go_simp; try with_reducible rfl)
      try simp only [Act.put, List.setIfInBounds_toArray, List.set_cons_zero, List.set_cons_succ]
      refine wpAnyH_take (i := 19) (oi := cO19) (v := ?vald19) rfl (by kernel_rfl) (by kernel_rfl) (by kernel_rfl) (fun _ _ _ h => h) (Or.inl ⟨by rfl, ?hyd19⟩) (by assumption) ?_
      case hyd19 => (intro w hSw; (try dsimp only at hSw); go_split_ands; go_simp; try with_reducible rfl)
      try simp only [Act.put, List.setIfInBounds_toArray, List.set_cons_zero, List.set_cons_succ]
      refine wpAnyH_take (i := 20) (oi := cO20) (v := ?vald20) rfl (by kernel_rfl) (by kernel_rfl) (by kernel_rfl) (fun _ _ _ h => h) (Or.inl ⟨by rfl, ?hyd20⟩) (by assumption) ?_
      case hyd20 => (intro w hSw; (try dsimp only at hSw); go_split_ands; go_simp; try with_reducible rfl)
      try simp only [Act.put, List.setIfInBounds_toArray, List.set_cons_zero, List.set_cons_succ]
      refine wpAnyH_take (i := 21) (oi := cO21) (v := ?vald21) rfl (by kernel_rfl) (by kernel_rfl) (by kernel_rfl) (fun _ _ _ h => h) (Or.inl ⟨by rfl, ?hyd21⟩) (by assumption) ?_
      case hyd21 => (intro w hSw; (try dsimp only at hSw); go_split_ands; go_simp; try with_reducible rfl)
      try simp only [Act.put, List.setIfInBounds_toArray, List.set_cons_zero, List.set_cons_succ]
      refine wpAnyH_take (i := 22) (oi := cO22) (v := ?vald22) rfl (by kernel_rfl) (by kernel_rfl) (by kernel_rfl) (fun _ _ _ h => h) (Or.inl ⟨by rfl, ?hyd22⟩) (by assumption) ?_
      case hyd22 => (intro w hSw; (try dsimp only at hSw); go_split_ands; go_simp; try with_reducible rfl)
      try simp only [Act.put, List.setIfInBounds_toArray, List.set_cons_zero, List.set_cons_succ]
      refine wpAnyH_take (i := 23) (oi := cO23) (v := undef) rfl (by kernel_rfl) (by kernel_rfl) (by kernel_rfl) (fun _ _ _ h => h) (Or.inr ⟨by rfl, rfl⟩) (by assumption) ?_
      try simp only [Act.put, List.setIfInBounds_toArray, List.set_cons_zero, List.set_cons_succ]
      refine wpAnyH_take (i := 24) (oi := cO24) (v := undef) rfl (by kernel_rfl) (by kernel_rfl) (by kernel_rfl) (fun _ _ _ h => h) (Or.inr ⟨by rfl, rfl⟩) (by assumption) ?_
      try simp only [Act.put, List.setIfInBounds_toArray, List.set_cons_zero, List.set_cons_succ]
      refine wpAnyH_take (i := 25) (oi := cO25) (v := undef) rfl (by kernel_rfl) (by kernel_rfl) (by kernel_rfl) (fun _ _ _ h => h) (Or.inr ⟨by rfl, rfl⟩) (by assumption) ?_
      try simp only [Act.put, List.setIfInBounds_toArray, List.set_cons_zero, List.set_cons_succ]
      refine wpAnyH_take (i := 26) (oi := cO26) (v := undef) rfl (by kernel_rfl) (by kernel_rfl) (by kernel_rfl) (fun _ _ _ h => h) (Or.inr ⟨by rfl, rfl⟩) (by assumption) ?_
      try simp only [Act.put, List.setIfInBounds_toArray, List.set_cons_zero, List.set_cons_succ]
      refine wpAnyH_take (i := 27) (oi := cO27) (v := ?vald27) rfl (by kernel_rfl) (by kernel_rfl) (by kernel_rfl) (fun _ _ _ h => h) (Or.inl ⟨by rfl, ?hyd27⟩) (by assumption) ?_
      case hyd27 => (intro w hSw; (try dsimp only at hSw); go_split_ands; go_simp; try with_reducible rfl)
      try simp only [Act.put, List.setIfInBounds_toArray, List.set_cons_zero, List.set_cons_succ]
      refine wpAnyH_done (by kernel_rfl) ?_ _
      clear hHeld
      go_wp2
      refine bodyPost_ret (results_cell_row (p := 2) (ty := 85) (by kernel_rfl) _ _ w.heap.size 85 _ (0, 0) _ rfl (part_row _ _ _ hrow) Tryz.underlying85 rfl (by kernel_rfl)) rfl ⟨by rw [hc.out]; rfl, (part_below _ _ _ hbel).drew⟩
     by_cases hx2 : x ≤ 191
     ·have hg' : Hid (Good (sl s) (k + 1)) := hid_mk (fun j j1 j2 => by
       rcases Nat.lt_or_ge j k with hj | hj
       ·exact hg.out j j1 hj
       ·obtain rfl : j = k := by omega
        exact ⟨by rw [len_sl]; exact hl, hok.out.2 ⟨by omega, hx2⟩⟩)
      have hx1' : decide ((x : Int) < 128) = false := by simp; omega
      have hx1n' : decide (x < 128) = false := by simp; omega
      have hx2' : decide (191 < (x : Int)) = false := by simp; omega
      have hx2n' : decide (191 < x) = false := by simp; omega
      clear hx1 hx2
      go_wp2_with fail
      refine wp_region_held_drew (S := fun w' => w' = wr.drew) (by kernel_rfl) rfl (fun hHeld => ?_)
      refine wpAnyH_take (i := 0) (oi := cO0) (v := ?vale0) rfl (by kernel_rfl) (by kernel_rfl) (by kernel_rfl) (fun _ _ _ h => h) (Or.inl ⟨by rfl, ?hye0⟩) (by assumption) ?_
      case hye0 => (intro w hSw; (try dsimp only at hSw); go_split_ands; go_simp; try with_reducible rfl)
      try simp only [Act.put, List.setIfInBounds_toArray, List.set_cons_zero, List.set_cons_succ]
      refine wpAnyH_take (i := 1) (oi := cO1) (v := ?vale1) rfl (by kernel_rfl) (by kernel_rfl) (by kernel_rfl) (fun _ _ _ h => h) (Or.inl ⟨by rfl, ?hye1⟩) (by assumption) ?_
      case hye1 => (intro w hSw; (try dsimp only at hSw); go_split_ands; go_simp; try with_reducible rfl)
      try simp only [Act.put, List.setIfInBounds_toArray, List.set_cons_zero, List.set_cons_succ]
      refine wpAnyH_take (i := 2) (oi := cO2) (v := ?vale2) rfl (by kernel_rfl) (by kernel_rfl) (by kernel_rfl) (fun _ _ _ h => h) (Or.inl ⟨by rfl, ?hye2⟩) (by assumption) ?_
      case hye2 => (intro w hSw; (try dsimp only at hSw); go_split_ands; go_simp; try with_reducible rfl)
      try simp only [Act.put, List.setIfInBounds_toArray, List.set_cons_zero, List.set_cons_succ]
      refine wpAnyH_take (i := 3) (oi := cO3) (v := ?vale3) rfl (by kernel_rfl) (by kernel_rfl) (by kernel_rfl) (fun _ _ _ h => h) (Or.inl ⟨by rfl, ?hye3⟩) (by assumption) ?_
      case hye3 => (intro w hSw; (try dsimp only at hSw); go_split_ands; go_simp; try with_reducible rfl)
      try simp only [Act.put, List.setIfInBounds_toArray, List.set_cons_zero, List.set_cons_succ]
      refine wpAnyH_take (i := 4) (oi := cO4) (v := ?vale4) rfl (by kernel_rfl) (by kernel_rfl) (by kernel_rfl) (fun _ _ _ h => h) (Or.inl ⟨by rfl, ?hye4⟩) (by assumption) ?_
      case hye4 => (intro w hSw; (try dsimp only at hSw); go_split_ands; go_simp; try with_reducible rfl)
      try simp only [Act.put, List.setIfInBounds_toArray, List.set_cons_zero, List.set_cons_succ]
      refine wpAnyH_take (i := 5) (oi := cO5) (v := ?vale5) rfl (by kernel_rfl) (by kernel_rfl) (by kernel_rfl) (fun _ _ _ h => h) (Or.inl ⟨by rfl, ?hye5⟩) (by assumption) ?_
      case hye5 => (intro w hSw; (try dsimp only at hSw); go_split_ands; go_simp; try with_reducible rfl)
      try simp only [Act.put, List.setIfInBounds_toArray, List.set_cons_zero, List.set_cons_succ]
      refine wpAnyH_take (i := 6) (oi := cO6) (v := ?vale6) rfl (by kernel_rfl) (by kernel_rfl) (by kernel_rfl) (fun _ _ _ h => h) (Or.inl ⟨by rfl, ?hye6⟩) (by assumption) ?_
      case hye6 => (intro w hSw; (try dsimp only at hSw); go_split_ands; go_simp; try with_reducible rfl)
      try simp only [Act.put, List.setIfInBounds_toArray, List.set_cons_zero, List.set_cons_succ]
      refine wpAnyH_take (i := 7) (oi := cO7) (v := ?vale7) rfl (by kernel_rfl) (by kernel_rfl) (by kernel_rfl) (fun _ _ _ h => h) (Or.inl ⟨by rfl, ?hye7⟩) (by assumption) ?_
      case hye7 => (intro w hSw; (try dsimp only at hSw); go_split_ands; go_simp; try with_reducible rfl)
      try simp only [Act.put, List.setIfInBounds_toArray, List.set_cons_zero, List.set_cons_succ]
      refine wpAnyH_take (i := 8) (oi := cO8) (v := undef) rfl (by kernel_rfl) (by kernel_rfl) (by kernel_rfl) (fun _ _ _ h => h) (Or.inr ⟨by rfl, rfl⟩) (by assumption) ?_
      try simp only [Act.put, List.setIfInBounds_toArray, List.set_cons_zero, List.set_cons_succ]
      refine wpAnyH_take (i := 9) (oi := cO9) (v := undef) rfl (by kernel_rfl) (by kernel_rfl) (by kernel_rfl) (fun _ _ _ h => h) (Or.inr ⟨by rfl, rfl⟩) (by assumption) ?_
      try simp only [Act.put, List.setIfInBounds_toArray, List.set_cons_zero, List.set_cons_succ]
      refine wpAnyH_take (i := 10) (oi := cO10) (v := undef) rfl (by kernel_rfl) (by kernel_rfl) (by kernel_rfl) (fun _ _ _ h => h) (Or.inr ⟨by rfl, rfl⟩) (by assumption) ?_
      try simp only [Act.put, List.setIfInBounds_toArray, List.set_cons_zero, List.set_cons_succ]
      refine wpAnyH_take (i := 11) (oi := cO11) (v := undef) rfl (by kernel_rfl) (by kernel_rfl) (by kernel_rfl) (fun _ _ _ h => h) (Or.inr ⟨by rfl, rfl⟩) (by assumption) ?_
      try simp only [Act.put, List.setIfInBounds_toArray, List.set_cons_zero, List.set_cons_succ]
      refine wpAnyH_take (i := 12) (oi := cO12) (v := undef) rfl (by kernel_rfl) (by kernel_rfl) (by kernel_rfl) (fun _ _ _ h => h) (Or.inr ⟨by rfl, rfl⟩) (by assumption) ?_
      try simp only [Act.put, List.setIfInBounds_toArray, List.set_cons_zero, List.set_cons_succ]
      refine wpAnyH_take (i := 13) (oi := cO13) (v := undef) rfl (by kernel_rfl) (by kernel_rfl) (by kernel_rfl) (fun _ _ _ h => h) (Or.inr ⟨by rfl, rfl⟩) (by assumption) ?_
      try simp only [Act.put, List.setIfInBounds_toArray, List.set_cons_zero, List.set_cons_succ]
      refine wpAnyH_take (i := 14) (oi := cO14) (v := ?vale14) rfl (by kernel_rfl) (by kernel_rfl) (by kernel_rfl) (fun _ _ _ h => h) (Or.inl ⟨by rfl, ?hye14⟩) (by assumption) ?_
      case hye14 => (intro w hSw; (try dsimp only at hSw); go_split_ands; go_simp; try with_reducible rfl)
      try simp only [Act.put, List.setIfInBounds_toArray, List.set_cons_zero, List.set_cons_succ]
      refine wpAnyH_take (i := 15) (oi := cO15) (v := ?vale15) rfl (by kernel_rfl) (by kernel_rfl) (by kernel_rfl) (fun _ _ _ h => h) (Or.inl ⟨by rfl, ?hye15⟩) (by assumption) ?_
      case hye15 => (intro w hSw; (try dsimp only at hSw); go_split_ands; go_simp; try with_reducible rfl)
      try simp only [Act.put, List.setIfInBounds_toArray, List.set_cons_zero, List.set_cons_succ]
      refine wpAnyH_take (i := 16) (oi := cO16) (v := ?vale16) rfl (by kernel_rfl) (by kernel_rfl) (by kernel_rfl) (fun _ _ _ h => h) (Or.inl ⟨by rfl, ?hye16⟩) (by assumption) ?_
      case hye16 => (intro w hSw; (try dsimp only at hSw); go_split_ands; go_simp; try with_reducible rfl)
      try simp only [Act.put, List.setIfInBounds_toArray, List.set_cons_zero, List.set_cons_succ]
      refine wpAnyH_take (i := 17) (oi := cO17) (v := ?vale17) rfl (by kernel_rfl) (by kernel_rfl) (by kernel_rfl) (fun _ _ _ h => h) (Or.inl ⟨by rfl, ?hye17⟩) (by assumption) ?_
      case hye17 => (intro w hSw; (try dsimp only at hSw); go_split_ands; go_simp; try with_reducible rfl)
      try simp only [Act.put, List.setIfInBounds_toArray, List.set_cons_zero, List.set_cons_succ]
      refine wpAnyH_take (i := 18) (oi := cO18) (v := ?vale18) rfl (by kernel_rfl) (by kernel_rfl) (by kernel_rfl) (fun _ _ _ h => h) (Or.inl ⟨by rfl, ?hye18⟩) (by assumption) ?_
      case hye18 => (intro w hSw; (try dsimp only at hSw); go_split_ands; go_simp; try with_reducible rfl)
      try simp only [Act.put, List.setIfInBounds_toArray, List.set_cons_zero, List.set_cons_succ]
      refine wpAnyH_take (i := 19) (oi := cO19) (v := ?vale19) rfl (by kernel_rfl) (by kernel_rfl) (by kernel_rfl) (fun _ _ _ h => h) (Or.inl ⟨by rfl, ?hye19⟩) (by assumption) ?_
      case hye19 => (intro w hSw; (try dsimp only at hSw); go_split_ands; go_simp; try with_reducible rfl)
      try simp only [Act.put, List.setIfInBounds_toArray, List.set_cons_zero, List.set_cons_succ]
      refine wpAnyH_take (i := 20) (oi := cO20) (v := ?vale20) rfl (by kernel_rfl) (by kernel_rfl) (by kernel_rfl) (fun _ _ _ h => h) (Or.inl ⟨by rfl, ?hye20⟩) (by assumption) ?_
      case hye20 => (intro w hSw; (try dsimp only at hSw); go_split_ands; go_simp; try with_reducible rfl)
      try simp only [Act.put, List.setIfInBounds_toArray, List.set_cons_zero, List.set_cons_succ]
      refine wpAnyH_take (i := 21) (oi := cO21) (v := ?vale21) rfl (by kernel_rfl) (by kernel_rfl) (by kernel_rfl) (fun _ _ _ h => h) (Or.inl ⟨by rfl, ?hye21⟩) (by assumption) ?_
      case hye21 => (intro w hSw; (try dsimp only at hSw); go_split_ands; go_simp; try with_reducible rfl)
      try simp only [Act.put, List.setIfInBounds_toArray, List.set_cons_zero, List.set_cons_succ]
      refine wpAnyH_take (i := 22) (oi := cO22) (v := ?vale22) rfl (by kernel_rfl) (by kernel_rfl) (by kernel_rfl) (fun _ _ _ h => h) (Or.inl ⟨by rfl, ?hye22⟩) (by assumption) ?_
      case hye22 => (intro w hSw; (try dsimp only at hSw); go_split_ands; go_simp; try with_reducible rfl)
      try simp only [Act.put, List.setIfInBounds_toArray, List.set_cons_zero, List.set_cons_succ]
      refine wpAnyH_take (i := 23) (oi := cO23) (v := ?vale23) rfl (by kernel_rfl) (by kernel_rfl) (by kernel_rfl) (fun _ _ _ h => h) (Or.inl ⟨by rfl, ?hye23⟩) (by assumption) ?_
      case hye23 => (intro w hSw; (try dsimp only at hSw); go_split_ands; go_simp; try with_reducible rfl)
      try simp only [Act.put, List.setIfInBounds_toArray, List.set_cons_zero, List.set_cons_succ]
      refine wpAnyH_take (i := 24) (oi := cO24) (v := ?vale24) rfl (by kernel_rfl) (by kernel_rfl) (by kernel_rfl) (fun _ _ _ h => h) (Or.inl ⟨by rfl, ?hye24⟩) (by assumption) ?_
      case hye24 => (intro w hSw; (try dsimp only at hSw); go_split_ands; go_simp; try with_reducible rfl)
      try simp only [Act.put, List.setIfInBounds_toArray, List.set_cons_zero, List.set_cons_succ]
      refine wpAnyH_take (i := 25) (oi := cO25) (v := ?vale25) rfl (by kernel_rfl) (by kernel_rfl) (by kernel_rfl) (fun _ _ _ h => h) (Or.inl ⟨by rfl, ?hye25⟩) (by assumption) ?_
      case hye25 => (intro w hSw; (try dsimp only at hSw); go_split_ands; go_simp; try with_reducible rfl)
      try simp only [Act.put, List.setIfInBounds_toArray, List.set_cons_zero, List.set_cons_succ]
      refine wpAnyH_take (i := 26) (oi := cO26) (v := ?vale26) rfl (by kernel_rfl) (by kernel_rfl) (by kernel_rfl) (fun _ _ _ h => h) (Or.inl ⟨by rfl, ?hye26⟩) (by assumption) ?_
      case hye26 => (intro w hSw; (try dsimp only at hSw); go_split_ands; go_simp; try with_reducible rfl)
      try simp only [Act.put, List.setIfInBounds_toArray, List.set_cons_zero, List.set_cons_succ]
      refine wpAnyH_take (i := 27) (oi := cO27) (v := ?vale27) rfl (by kernel_rfl) (by kernel_rfl) (by kernel_rfl) (fun _ _ _ h => h) (Or.inl ⟨by rfl, ?hye27⟩) (by assumption) ?_
      case hye27 => (intro w hSw; (try dsimp only at hSw); go_split_ands; go_simp; try with_reducible rfl)
      try simp only [Act.put, List.setIfInBounds_toArray, List.set_cons_zero, List.set_cons_succ]
      refine wpAnyH_done (by kernel_rfl) ?_ _
      clear hHeld
      have hand6 : bits .and .u8 (x : Int) 63 = (x : Int) % 64 := u8_and63 _ (by omega) (by omega)
      have hmask : maskOf n ≤ 32 ∧ 0 < maskOf n := by unfold maskOf; (repeat' split) <;> omega
      have hacc := accR_lt (sl s) (maskOf n) k hmask.1 hmask.2 (by omega) (by omega)
      have heq : Hid (bits .or .i32 (wrap32 (((accR (sl s) (maskOf n) k : Nat) : Int) * 64)) ((x : Int) % 64) = ((accR (sl s) (maskOf n) (k + 1) : Nat) : Int)) := hid_mk (by
       rw [IntWalk.wrap32_in _ ⟨by omega, by omega⟩, i32_or6 _ _ (by omega) (by omega) (by omega) (by omega) (by omega), accR_succ (sl s) (maskOf n) k (by omega), ← HX.out]
       omega)
      clear hacc hmask
      go_wp2_with fail
      refine ⟨⟨k + 1, by omega, by omega, by rw [heq.out], by first | rfl | go_num, hg', hrow, hbel.drew⟩, ?_⟩
      simp [intOf]
      omega
     ·have hc : Hid (cutL (sl s) = bad k) := hid_mk (cut_bad (sl s) k k1 (by rw [← HB.out, ← HN.out]; exact hk) hg.out (.inr (by rw [hok.out]; omega)))
      have hx1' : decide ((x : Int) < 128) = false := by simp; omega
      have hx1n' : decide (x < 128) = false := by simp; omega
      have hx2' : decide (191 < (x : Int)) = true := by simp; omega
      have hx2n' : decide (191 < x) = true := by simp; omega
      clear hx1 hx2
      go_wp2_with fail
      refine wp_region_held_drew (S := fun w' => w' = wr.drew) (by kernel_rfl) rfl (fun hHeld => ?_)
      refine wpAnyH_take (i := 0) (oi := cO0) (v := ?valf0) rfl (by kernel_rfl) (by kernel_rfl) (by kernel_rfl) (fun _ _ _ h => h) (Or.inl ⟨by rfl, ?hyf0⟩) (by assumption) ?_
      case hyf0 => (intro w hSw; (try dsimp only at hSw); go_split_ands; go_simp; try with_reducible rfl)
      try simp only [Act.put, List.setIfInBounds_toArray, List.set_cons_zero, List.set_cons_succ]
      refine wpAnyH_take (i := 1) (oi := cO1) (v := ?valf1) rfl (by kernel_rfl) (by kernel_rfl) (by kernel_rfl) (fun _ _ _ h => h) (Or.inl ⟨by rfl, ?hyf1⟩) (by assumption) ?_
      case hyf1 => (intro w hSw; (try dsimp only at hSw); go_split_ands; go_simp; try with_reducible rfl)
      try simp only [Act.put, List.setIfInBounds_toArray, List.set_cons_zero, List.set_cons_succ]
      refine wpAnyH_take (i := 2) (oi := cO2) (v := ?valf2) rfl (by kernel_rfl) (by kernel_rfl) (by kernel_rfl) (fun _ _ _ h => h) (Or.inl ⟨by rfl, ?hyf2⟩) (by assumption) ?_
      case hyf2 => (intro w hSw; (try dsimp only at hSw); go_split_ands; go_simp; try with_reducible rfl)
      try simp only [Act.put, List.setIfInBounds_toArray, List.set_cons_zero, List.set_cons_succ]
      refine wpAnyH_take (i := 3) (oi := cO3) (v := ?valf3) rfl (by kernel_rfl) (by kernel_rfl) (by kernel_rfl) (fun _ _ _ h => h) (Or.inl ⟨by rfl, ?hyf3⟩) (by assumption) ?_
      case hyf3 => (intro w hSw; (try dsimp only at hSw); go_split_ands; go_simp; try with_reducible rfl)
      try simp only [Act.put, List.setIfInBounds_toArray, List.set_cons_zero, List.set_cons_succ]
      refine wpAnyH_take (i := 4) (oi := cO4) (v := ?valf4) rfl (by kernel_rfl) (by kernel_rfl) (by kernel_rfl) (fun _ _ _ h => h) (Or.inl ⟨by rfl, ?hyf4⟩) (by assumption) ?_
      case hyf4 => (intro w hSw; (try dsimp only at hSw); go_split_ands; go_simp; try with_reducible rfl)
      try simp only [Act.put, List.setIfInBounds_toArray, List.set_cons_zero, List.set_cons_succ]
      refine wpAnyH_take (i := 5) (oi := cO5) (v := ?valf5) rfl (by kernel_rfl) (by kernel_rfl) (by kernel_rfl) (fun _ _ _ h => h) (Or.inl ⟨by rfl, ?hyf5⟩) (by assumption) ?_
      case hyf5 => (intro w hSw; (try dsimp only at hSw); go_split_ands; go_simp; try with_reducible rfl)
      try simp only [Act.put, List.setIfInBounds_toArray, List.set_cons_zero, List.set_cons_succ]
      refine wpAnyH_take (i := 6) (oi := cO6) (v := ?valf6) rfl (by kernel_rfl) (by kernel_rfl) (by kernel_rfl) (fun _ _ _ h => h) (Or.inl ⟨by rfl, ?hyf6⟩) (by assumption) ?_
      case hyf6 => (intro w hSw; (try dsimp only at hSw); go_split_ands; go_simp; try with_reducible rfl)
      try simp only [Act.put, List.setIfInBounds_toArray, List.set_cons_zero, List.set_cons_succ]
      refine wpAnyH_take (i := 7) (oi := cO7) (v := ?valf7) rfl (by kernel_rfl) (by kernel_rfl) (by kernel_rfl) (fun _ _ _ h => h) (Or.inl ⟨by rfl, ?hyf7⟩) (by assumption) ?_
      case hyf7 => (intro w hSw; (try dsimp only at hSw); go_split_ands; go_simp; try with_reducible rfl)
      try simp only [Act.put, List.setIfInBounds_toArray, List.set_cons_zero, List.set_cons_succ]
      refine wpAnyH_take (i := 8) (oi := cO8) (v := undef) rfl (by kernel_rfl) (by kernel_rfl) (by kernel_rfl) (fun _ _ _ h => h) (Or.inr ⟨by rfl, rfl⟩) (by assumption) ?_
      try simp only [Act.put, List.setIfInBounds_toArray, List.set_cons_zero, List.set_cons_succ]
      refine wpAnyH_take (i := 9) (oi := cO9) (v := undef) rfl (by kernel_rfl) (by kernel_rfl) (by kernel_rfl) (fun _ _ _ h => h) (Or.inr ⟨by rfl, rfl⟩) (by assumption) ?_
      try simp only [Act.put, List.setIfInBounds_toArray, List.set_cons_zero, List.set_cons_succ]
      refine wpAnyH_take (i := 10) (oi := cO10) (v := undef) rfl (by kernel_rfl) (by kernel_rfl) (by kernel_rfl) (fun _ _ _ h => h) (Or.inr ⟨by rfl, rfl⟩) (by assumption) ?_
      try simp only [Act.put, List.setIfInBounds_toArray, List.set_cons_zero, List.set_cons_succ]
      refine wpAnyH_take (i := 11) (oi := cO11) (v := undef) rfl (by kernel_rfl) (by kernel_rfl) (by kernel_rfl) (fun _ _ _ h => h) (Or.inr ⟨by rfl, rfl⟩) (by assumption) ?_
      try simp only [Act.put, List.setIfInBounds_toArray, List.set_cons_zero, List.set_cons_succ]
      refine wpAnyH_take (i := 12) (oi := cO12) (v := undef) rfl (by kernel_rfl) (by kernel_rfl) (by kernel_rfl) (fun _ _ _ h => h) (Or.inr ⟨by rfl, rfl⟩) (by assumption) ?_
      try simp only [Act.put, List.setIfInBounds_toArray, List.set_cons_zero, List.set_cons_succ]
      refine wpAnyH_take (i := 13) (oi := cO13) (v := undef) rfl (by kernel_rfl) (by kernel_rfl) (by kernel_rfl) (fun _ _ _ h => h) (Or.inr ⟨by rfl, rfl⟩) (by assumption) ?_
      try simp only [Act.put, List.setIfInBounds_toArray, List.set_cons_zero, List.set_cons_succ]
      refine wpAnyH_take (i := 14) (oi := cO14) (v := ?valf14) rfl (by kernel_rfl) (by kernel_rfl) (by kernel_rfl) (fun _ _ _ h => h) (Or.inl ⟨by rfl, ?hyf14⟩) (by assumption) ?_
      case hyf14 => (intro w hSw; (try dsimp only at hSw); go_split_ands; go_simp; try with_reducible rfl)
      try simp only [Act.put, List.setIfInBounds_toArray, List.set_cons_zero, List.set_cons_succ]
      refine wpAnyH_take (i := 15) (oi := cO15) (v := ?valf15) rfl (by kernel_rfl) (by kernel_rfl) (by kernel_rfl) (fun _ _ _ h => h) (Or.inl ⟨by rfl, ?hyf15⟩) (by assumption) ?_
      case hyf15 => (intro w hSw; (try dsimp only at hSw); go_split_ands; go_simp; try with_reducible rfl)
      try simp only [Act.put, List.setIfInBounds_toArray, List.set_cons_zero, List.set_cons_succ]
      refine wpAnyH_take (i := 16) (oi := cO16) (v := ?valf16) rfl (by kernel_rfl) (by kernel_rfl) (by kernel_rfl) (fun _ _ _ h => h) (Or.inl ⟨by rfl, ?hyf16⟩) (by assumption) ?_
      case hyf16 => (intro w hSw; (try dsimp only at hSw); go_split_ands; go_simp; try with_reducible rfl)
      try simp only [Act.put, List.setIfInBounds_toArray, List.set_cons_zero, List.set_cons_succ]
      refine wpAnyH_take (i := 17) (oi := cO17) (v := ?valf17) rfl (by kernel_rfl) (by kernel_rfl) (by kernel_rfl) (fun _ _ _ h => h) (Or.inl ⟨by rfl, ?hyf17⟩) (by assumption) ?_
      case hyf17 => (intro w hSw; (try dsimp only at hSw); go_split_ands; go_simp; try with_reducible rfl)
      try simp only [Act.put, List.setIfInBounds_toArray, List.set_cons_zero, List.set_cons_succ]
      refine wpAnyH_take (i := 18) (oi := cO18) (v := ?valf18) rfl (by kernel_rfl) (by kernel_rfl) (by kernel_rfl) (fun _ _ _ h => h) (Or.inl ⟨by rfl, ?hyf18⟩) (by assumption) ?_
      case hyf18 => (intro w hSw; (try dsimp only at hSw); go_split_ands; go_simp; try with_reducible rfl)
      try simp only [Act.put, List.setIfInBounds_toArray, List.set_cons_zero, List.set_cons_succ]
      refine wpAnyH_take (i := 19) (oi := cO19) (v := ?valf19) rfl (by kernel_rfl) (by kernel_rfl) (by kernel_rfl) (fun _ _ _ h => h) (Or.inl ⟨by rfl, ?hyf19⟩) (by assumption) ?_
      case hyf19 => (intro w hSw; (try dsimp only at hSw); go_split_ands; go_simp; try with_reducible rfl)
      try simp only [Act.put, List.setIfInBounds_toArray, List.set_cons_zero, List.set_cons_succ]
      refine wpAnyH_take (i := 20) (oi := cO20) (v := ?valf20) rfl (by kernel_rfl) (by kernel_rfl) (by kernel_rfl) (fun _ _ _ h => h) (Or.inl ⟨by rfl, ?hyf20⟩) (by assumption) ?_
      case hyf20 => (intro w hSw; (try dsimp only at hSw); go_split_ands; go_simp; try with_reducible rfl)
      try simp only [Act.put, List.setIfInBounds_toArray, List.set_cons_zero, List.set_cons_succ]
      refine wpAnyH_take (i := 21) (oi := cO21) (v := ?valf21) rfl (by kernel_rfl) (by kernel_rfl) (by kernel_rfl) (fun _ _ _ h => h) (Or.inl ⟨by rfl, ?hyf21⟩) (by assumption) ?_
      case hyf21 => (intro w hSw; (try dsimp only at hSw); go_split_ands; go_simp; try with_reducible rfl)
      try simp only [Act.put, List.setIfInBounds_toArray, List.set_cons_zero, List.set_cons_succ]
      refine wpAnyH_take (i := 22) (oi := cO22) (v := ?valf22) rfl (by kernel_rfl) (by kernel_rfl) (by kernel_rfl) (fun _ _ _ h => h) (Or.inl ⟨by rfl, ?hyf22⟩) (by assumption) ?_
      case hyf22 => (intro w hSw; (try dsimp only at hSw); go_split_ands; go_simp; try with_reducible rfl)
      try simp only [Act.put, List.setIfInBounds_toArray, List.set_cons_zero, List.set_cons_succ]
      refine wpAnyH_take (i := 23) (oi := cO23) (v := ?valf23) rfl (by kernel_rfl) (by kernel_rfl) (by kernel_rfl) (fun _ _ _ h => h) (Or.inl ⟨by rfl, ?hyf23⟩) (by assumption) ?_
      case hyf23 => (intro w hSw; (try dsimp only at hSw); go_split_ands; go_simp; try with_reducible rfl)
      try simp only [Act.put, List.setIfInBounds_toArray, List.set_cons_zero, List.set_cons_succ]
      refine wpAnyH_take (i := 24) (oi := cO24) (v := ?valf24) rfl (by kernel_rfl) (by kernel_rfl) (by kernel_rfl) (fun _ _ _ h => h) (Or.inl ⟨by rfl, ?hyf24⟩) (by assumption) ?_
      case hyf24 => (intro w hSw; (try dsimp only at hSw); go_split_ands; go_simp; try with_reducible rfl)
      try simp only [Act.put, List.setIfInBounds_toArray, List.set_cons_zero, List.set_cons_succ]
      refine wpAnyH_take (i := 25) (oi := cO25) (v := ?valf25) rfl (by kernel_rfl) (by kernel_rfl) (by kernel_rfl) (fun _ _ _ h => h) (Or.inl ⟨by rfl, ?hyf25⟩) (by assumption) ?_
      case hyf25 => (intro w hSw; (try dsimp only at hSw); go_split_ands; go_simp; try with_reducible rfl)
      try simp only [Act.put, List.setIfInBounds_toArray, List.set_cons_zero, List.set_cons_succ]
      refine wpAnyH_take (i := 26) (oi := cO26) (v := ?valf26) rfl (by kernel_rfl) (by kernel_rfl) (by kernel_rfl) (fun _ _ _ h => h) (Or.inl ⟨by rfl, ?hyf26⟩) (by assumption) ?_
      case hyf26 => (intro w hSw; (try dsimp only at hSw); go_split_ands; go_simp; try with_reducible rfl)
      try simp only [Act.put, List.setIfInBounds_toArray, List.set_cons_zero, List.set_cons_succ]
      refine wpAnyH_take (i := 27) (oi := cO27) (v := ?valf27) rfl (by kernel_rfl) (by kernel_rfl) (by kernel_rfl) (fun _ _ _ h => h) (Or.inl ⟨by rfl, ?hyf27⟩) (by assumption) ?_
      case hyf27 => (intro w hSw; (try dsimp only at hSw); go_split_ands; go_simp; try with_reducible rfl)
      try simp only [Act.put, List.setIfInBounds_toArray, List.set_cons_zero, List.set_cons_succ]
      refine wpAnyH_done (by kernel_rfl) ?_ _
      clear hHeld
      go_wp2
      refine bodyPost_ret (results_cell_row (p := 2) (ty := 85) (by kernel_rfl) _ _ w.heap.size 85 _ (0, 0) _ rfl (part_row _ _ _ hrow) Tryz.underlying85 rfl (by kernel_rfl)) rfl ⟨by rw [hc.out]; rfl, (part_below _ _ _ hbel).drew⟩
   ·have hge : (s.size : Int) ≤ (k : Int) := by omega
    have hc : Hid (cutL (sl s) = bad k) := hid_mk (cut_bad (sl s) k k1 (by rw [← HB.out, ← HN.out]; exact hk) hg.out (.inl (by rw [len_sl]; omega)))
    go_wp2_with fail
    refine wp_region_held_drew (S := fun w' => w' = wr.drew) (by kernel_rfl) rfl (fun hHeld => ?_)
    refine wpAnyH_take (i := 0) (oi := cO0) (v := ?vala0) rfl (by kernel_rfl) (by kernel_rfl) (by kernel_rfl) (fun _ _ _ h => h) (Or.inl ⟨by rfl, ?hya0⟩) (by assumption) ?_
    case hya0 => (intro w hSw; (try dsimp only at hSw); go_split_ands; go_simp; try with_reducible rfl)
    try simp only [Act.put, List.setIfInBounds_toArray, List.set_cons_zero, List.set_cons_succ]
    refine wpAnyH_take (i := 1) (oi := cO1) (v := ?vala1) rfl (by kernel_rfl) (by kernel_rfl) (by kernel_rfl) (fun _ _ _ h => h) (Or.inl ⟨by rfl, ?hya1⟩) (by assumption) ?_
    case hya1 => (intro w hSw; (try dsimp only at hSw); go_split_ands; go_simp; try with_reducible rfl)
    try simp only [Act.put, List.setIfInBounds_toArray, List.set_cons_zero, List.set_cons_succ]
    refine wpAnyH_take (i := 2) (oi := cO2) (v := ?vala2) rfl (by kernel_rfl) (by kernel_rfl) (by kernel_rfl) (fun _ _ _ h => h) (Or.inl ⟨by rfl, ?hya2⟩) (by assumption) ?_
    case hya2 => (intro w hSw; (try dsimp only at hSw); go_split_ands; go_simp; try with_reducible rfl)
    try simp only [Act.put, List.setIfInBounds_toArray, List.set_cons_zero, List.set_cons_succ]
    refine wpAnyH_take (i := 3) (oi := cO3) (v := ?vala3) rfl (by kernel_rfl) (by kernel_rfl) (by kernel_rfl) (fun _ _ _ h => h) (Or.inl ⟨by rfl, ?hya3⟩) (by assumption) ?_
    case hya3 => (intro w hSw; (try dsimp only at hSw); go_split_ands; go_simp; try with_reducible rfl)
    try simp only [Act.put, List.setIfInBounds_toArray, List.set_cons_zero, List.set_cons_succ]
    refine wpAnyH_take (i := 4) (oi := cO4) (v := ?vala4) rfl (by kernel_rfl) (by kernel_rfl) (by kernel_rfl) (fun _ _ _ h => h) (Or.inl ⟨by rfl, ?hya4⟩) (by assumption) ?_
    case hya4 => (intro w hSw; (try dsimp only at hSw); go_split_ands; go_simp; try with_reducible rfl)
    try simp only [Act.put, List.setIfInBounds_toArray, List.set_cons_zero, List.set_cons_succ]
    refine wpAnyH_take (i := 5) (oi := cO5) (v := undef) rfl (by kernel_rfl) (by kernel_rfl) (by kernel_rfl) (fun _ _ _ h => h) (Or.inr ⟨by rfl, rfl⟩) (by assumption) ?_
    try simp only [Act.put, List.setIfInBounds_toArray, List.set_cons_zero, List.set_cons_succ]
    refine wpAnyH_take (i := 6) (oi := cO6) (v := undef) rfl (by kernel_rfl) (by kernel_rfl) (by kernel_rfl) (fun _ _ _ h => h) (Or.inr ⟨by rfl, rfl⟩) (by assumption) ?_
    try simp only [Act.put, List.setIfInBounds_toArray, List.set_cons_zero, List.set_cons_succ]
    refine wpAnyH_take (i := 7) (oi := cO7) (v := undef) rfl (by kernel_rfl) (by kernel_rfl) (by kernel_rfl) (fun _ _ _ h => h) (Or.inr ⟨by rfl, rfl⟩) (by assumption) ?_
    try simp only [Act.put, List.setIfInBounds_toArray, List.set_cons_zero, List.set_cons_succ]
    refine wpAnyH_take (i := 8) (oi := cO8) (v := undef) rfl (by kernel_rfl) (by kernel_rfl) (by kernel_rfl) (fun _ _ _ h => h) (Or.inr ⟨by rfl, rfl⟩) (by assumption) ?_
    try simp only [Act.put, List.setIfInBounds_toArray, List.set_cons_zero, List.set_cons_succ]
    refine wpAnyH_take (i := 9) (oi := cO9) (v := undef) rfl (by kernel_rfl) (by kernel_rfl) (by kernel_rfl) (fun _ _ _ h => h) (Or.inr ⟨by rfl, rfl⟩) (by assumption) ?_
    try simp only [Act.put, List.setIfInBounds_toArray, List.set_cons_zero, List.set_cons_succ]
    refine wpAnyH_take (i := 10) (oi := cO10) (v := undef) rfl (by kernel_rfl) (by kernel_rfl) (by kernel_rfl) (fun _ _ _ h => h) (Or.inr ⟨by rfl, rfl⟩) (by assumption) ?_
    try simp only [Act.put, List.setIfInBounds_toArray, List.set_cons_zero, List.set_cons_succ]
    refine wpAnyH_take (i := 11) (oi := cO11) (v := undef) rfl (by kernel_rfl) (by kernel_rfl) (by kernel_rfl) (fun _ _ _ h => h) (Or.inr ⟨by rfl, rfl⟩) (by assumption) ?_
    try simp only [Act.put, List.setIfInBounds_toArray, List.set_cons_zero, List.set_cons_succ]
    refine wpAnyH_take (i := 12) (oi := cO12) (v := undef) rfl (by kernel_rfl) (by kernel_rfl) (by kernel_rfl) (fun _ _ _ h => h) (Or.inr ⟨by rfl, rfl⟩) (by assumption) ?_
    try simp only [Act.put, List.setIfInBounds_toArray, List.set_cons_zero, List.set_cons_succ]
    refine wpAnyH_take (i := 13) (oi := cO13) (v := undef) rfl (by kernel_rfl) (by kernel_rfl) (by kernel_rfl) (fun _ _ _ h => h) (Or.inr ⟨by rfl, rfl⟩) (by assumption) ?_
    try simp only [Act.put, List.setIfInBounds_toArray, List.set_cons_zero, List.set_cons_succ]
    refine wpAnyH_take (i := 14) (oi := cO14) (v := undef) rfl (by kernel_rfl) (by kernel_rfl) (by kernel_rfl) (fun _ _ _ h => h) (Or.inr ⟨by rfl, rfl⟩) (by assumption) ?_
    try simp only [Act.put, List.setIfInBounds_toArray, List.set_cons_zero, List.set_cons_succ]
    refine wpAnyH_take (i := 15) (oi := cO15) (v := ?vala15) rfl (by kernel_rfl) (by kernel_rfl) (by kernel_rfl) (fun _ _ _ h => h) (Or.inl ⟨by rfl, ?hya15⟩) (by assumption) ?_
    case hya15 => (intro w hSw; (try dsimp only at hSw); go_split_ands; go_simp; try with_reducible rfl)
    try simp only [Act.put, List.setIfInBounds_toArray, List.set_cons_zero, List.set_cons_succ]
    refine wpAnyH_take (i := 16) (oi := cO16) (v := ?vala16) rfl (by kernel_rfl) (by kernel_rfl) (by kernel_rfl) (fun _ _ _ h => h) (Or.inl ⟨by rfl, ?hya16⟩) (by assumption) ?_
    case hya16 => (intro w hSw; (try dsimp only at hSw); go_split_ands; go_simp; try with_reducible rfl)
    try simp only [Act.put, List.setIfInBounds_toArray, List.set_cons_zero, List.set_cons_succ]
    refine wpAnyH_take (i := 17) (oi := cO17) (v := undef) rfl (by kernel_rfl) (by kernel_rfl) (by kernel_rfl) (fun _ _ _ h => h) (Or.inr ⟨by rfl, rfl⟩) (by assumption) ?_
    try simp only [Act.put, List.setIfInBounds_toArray, List.set_cons_zero, List.set_cons_succ]
    refine wpAnyH_take (i := 18) (oi := cO18) (v := undef) rfl (by kernel_rfl) (by kernel_rfl) (by kernel_rfl) (fun _ _ _ h => h) (Or.inr ⟨by rfl, rfl⟩) (by assumption) ?_
    try simp only [Act.put, List.setIfInBounds_toArray, List.set_cons_zero, List.set_cons_succ]
    refine wpAnyH_take (i := 19) (oi := cO19) (v := undef) rfl (by kernel_rfl) (by kernel_rfl) (by kernel_rfl) (fun _ _ _ h => h) (Or.inr ⟨by rfl, rfl⟩) (by assumption) ?_
    try simp only [Act.put, List.setIfInBounds_toArray, List.set_cons_zero, List.set_cons_succ]
    refine wpAnyH_take (i := 20) (oi := cO20) (v := undef) rfl (by kernel_rfl) (by kernel_rfl) (by kernel_rfl) (fun _ _ _ h => h) (Or.inr ⟨by rfl, rfl⟩) (by assumption) ?_
    try simp only [Act.put, List.setIfInBounds_toArray, List.set_cons_zero, List.set_cons_succ]
    refine wpAnyH_take (i := 21) (oi := cO21) (v := ?vala21) rfl (by kernel_rfl) (by kernel_rfl) (by kernel_rfl) (fun _ _ _ h => h) (Or.inl ⟨by rfl, ?hya21⟩) (by assumption) ?_
    case hya21 => (intro w hSw; (try dsimp only at hSw); go_split_ands; go_simp; try with_reducible rfl)
    try simp only [Act.put, List.setIfInBounds_toArray, List.set_cons_zero, List.set_cons_succ]
    refine wpAnyH_take (i := 22) (oi := cO22) (v := ?vala22) rfl (by kernel_rfl) (by kernel_rfl) (by kernel_rfl) (fun _ _ _ h => h) (Or.inl ⟨by rfl, ?hya22⟩) (by assumption) ?_
    case hya22 => (intro w hSw; (try dsimp only at hSw); go_split_ands; go_simp; try with_reducible rfl)
    try simp only [Act.put, List.setIfInBounds_toArray, List.set_cons_zero, List.set_cons_succ]
    refine wpAnyH_take (i := 23) (oi := cO23) (v := undef) rfl (by kernel_rfl) (by kernel_rfl) (by kernel_rfl) (fun _ _ _ h => h) (Or.inr ⟨by rfl, rfl⟩) (by assumption) ?_
    try simp only [Act.put, List.setIfInBounds_toArray, List.set_cons_zero, List.set_cons_succ]
    refine wpAnyH_take (i := 24) (oi := cO24) (v := undef) rfl (by kernel_rfl) (by kernel_rfl) (by kernel_rfl) (fun _ _ _ h => h) (Or.inr ⟨by rfl, rfl⟩) (by assumption) ?_
    try simp only [Act.put, List.setIfInBounds_toArray, List.set_cons_zero, List.set_cons_succ]
    refine wpAnyH_take (i := 25) (oi := cO25) (v := undef) rfl (by kernel_rfl) (by kernel_rfl) (by kernel_rfl) (fun _ _ _ h => h) (Or.inr ⟨by rfl, rfl⟩) (by assumption) ?_
    try simp only [Act.put, List.setIfInBounds_toArray, List.set_cons_zero, List.set_cons_succ]
    refine wpAnyH_take (i := 26) (oi := cO26) (v := undef) rfl (by kernel_rfl) (by kernel_rfl) (by kernel_rfl) (fun _ _ _ h => h) (Or.inr ⟨by rfl, rfl⟩) (by assumption) ?_
    try simp only [Act.put, List.setIfInBounds_toArray, List.set_cons_zero, List.set_cons_succ]
    refine wpAnyH_take (i := 27) (oi := cO27) (v := ?vala27) rfl (by kernel_rfl) (by kernel_rfl) (by kernel_rfl) (fun _ _ _ h => h) (Or.inl ⟨by rfl, ?hya27⟩) (by assumption) ?_
    case hya27 => (intro w hSw; (try dsimp only at hSw); go_split_ands; go_simp; try with_reducible rfl)
    try simp only [Act.put, List.setIfInBounds_toArray, List.set_cons_zero, List.set_cons_succ]
    refine wpAnyH_done (by kernel_rfl) ?_ _
    clear hHeld
    go_wp2
    refine bodyPost_ret (results_cell_row (p := 2) (ty := 85) (by kernel_rfl) _ _ w.heap.size 85 _ (0, 0) _ rfl (part_row _ _ _ hrow) Tryz.underlying85 rfl (by kernel_rfl)) rfl ⟨by rw [hc.out]; rfl, (part_below _ _ _ hbel).drew⟩
  ·have hk' : ¬ (k : Int) < (n : Int) := by omega
   obtain rfl : k = n := by omega
   have hc : Hid (cutL (sl s) = ⟨accR (sl s) (maskOf k) k, k, true⟩) := hid_mk (by
    have h := cut_full (sl s) (by rw [← HB.out, ← HN.out]; exact hn2) (by rw [← HB.out, ← HN.out]; exact hg.out)
    rw [← HB.out, ← HN.out] at h
    exact h)
   go_wp2
   refine bodyPost_ret (results_cell_row (p := 2) (ty := 85) (by kernel_rfl) _ _ w.heap.size 85 _ (0, 0) _ rfl (part_row _ _ _ hrow) Tryz.underlying85 rfl (by kernel_rfl)) rfl ⟨by rw [hc.out], part_below _ _ _ hbel⟩
end Go.Proofs.YtlcijlklbabajaaGreatDoor.U
