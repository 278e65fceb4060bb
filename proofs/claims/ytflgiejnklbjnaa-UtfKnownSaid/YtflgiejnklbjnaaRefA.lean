/-
  The reference's functions size and second. No condition.
-/
import Derived.Test.YtflgiejnklbjnaaStr
namespace Go.Proofs.Ytflgiejnklbjnaa
open Go.RowKit
set_option maxHeartbeats 2000000 in
set_option maxRecDepth 100000 in
theorem refSize_any (b : Nat) (hb : b < 256) (w : World) :
    Calls Try.prog 27 #[.int .u8 b] w fun e w' => e = .returned (.int .i64 (sizeB b)) ∧ w' = w := by
  have hcase : b < 128 ∨ (128 ≤ b ∧ b < 194) ∨ (194 ≤ b ∧ b ≤ 223) ∨ (224 ≤ b ∧ b ≤ 239) ∨ (240 ≤ b ∧ b ≤ 244) ∨ 244 < b := by omega
  rcases hcase with h | h | h | h | h | h
  · have hv : Hid (sizeB b = 1) := hid_mk (by unfold sizeB; (repeat' split) <;> omega)
    go_enter Try.func27, Try.ntmps27
    go_wp2
    all_goals
      go_ret
      rw [hv.out]
      exact ⟨rfl, rfl⟩
  · have hv : Hid (sizeB b = 0) := hid_mk (by unfold sizeB; (repeat' split) <;> omega)
    go_enter Try.func27, Try.ntmps27
    go_wp2
    all_goals
      go_ret
      rw [hv.out]
      exact ⟨rfl, rfl⟩
  · have hv : Hid (sizeB b = 2) := hid_mk (by unfold sizeB; (repeat' split) <;> omega)
    go_enter Try.func27, Try.ntmps27
    go_wp2
    all_goals
      go_ret
      rw [hv.out]
      exact ⟨rfl, rfl⟩
  · have hv : Hid (sizeB b = 3) := hid_mk (by unfold sizeB; (repeat' split) <;> omega)
    go_enter Try.func27, Try.ntmps27
    go_wp2
    all_goals
      go_ret
      rw [hv.out]
      exact ⟨rfl, rfl⟩
  · have hv : Hid (sizeB b = 4) := hid_mk (by unfold sizeB; (repeat' split) <;> omega)
    go_enter Try.func27, Try.ntmps27
    go_wp2
    all_goals
      go_ret
      rw [hv.out]
      exact ⟨rfl, rfl⟩
  · have hv : Hid (sizeB b = 0) := hid_mk (by unfold sizeB; (repeat' split) <;> omega)
    go_enter Try.func27, Try.ntmps27
    go_wp2
    all_goals
      go_ret
      rw [hv.out]
      exact ⟨rfl, rfl⟩
set_option maxHeartbeats 2000000 in
theorem refSecond_any (a b : Nat) (ha : a < 256) (hb : b < 256) (w : World) :
    Calls Try.prog 28 #[.int .u8 a, .int .u8 b] w fun e w' => e = .returned (.bool (decide (Sec a b))) ∧ w' = w := by
  have hcase : a = 224 ∨ a = 237 ∨ a = 240 ∨ a = 244 ∨ (a ≠ 224 ∧ a ≠ 237 ∧ a ≠ 240 ∧ a ≠ 244) := by omega
  rcases hcase with rfl | rfl | rfl | rfl | ⟨h1, h2, h3, h4⟩
  · have hcb : b < 160 ∨ (160 ≤ b ∧ b ≤ 191) ∨ 191 < b := by omega
    rcases hcb with h | h | h
    · have hv : Hid (decide (Sec 224 b) = false) := hid_mk (by unfold Sec; simp; omega)
      go_enter Try.func28, Try.ntmps28
      go_wp2
      all_goals
        go_ret
        rw [hv.out]
        first | exact ⟨rfl, rfl⟩ | (refine ⟨?_, rfl⟩; congr 2; simp; omega)
    · have hv : Hid (decide (Sec 224 b) = true) := hid_mk (by unfold Sec; simp; omega)
      go_enter Try.func28, Try.ntmps28
      go_wp2
      all_goals
        go_ret
        rw [hv.out]
        first | exact ⟨rfl, rfl⟩ | (refine ⟨?_, rfl⟩; congr 2; simp; omega)
    · have hv : Hid (decide (Sec 224 b) = false) := hid_mk (by unfold Sec; simp; omega)
      go_enter Try.func28, Try.ntmps28
      go_wp2
      all_goals
        go_ret
        rw [hv.out]
        first | exact ⟨rfl, rfl⟩ | (refine ⟨?_, rfl⟩; congr 2; simp; omega)
  · have hcb : b < 128 ∨ (128 ≤ b ∧ b ≤ 159) ∨ 159 < b := by omega
    rcases hcb with h | h | h
    · have hv : Hid (decide (Sec 237 b) = false) := hid_mk (by unfold Sec; simp; omega)
      go_enter Try.func28, Try.ntmps28
      go_wp2
      all_goals
        go_ret
        rw [hv.out]
        first | exact ⟨rfl, rfl⟩ | (refine ⟨?_, rfl⟩; congr 2; simp; omega)
    · have hv : Hid (decide (Sec 237 b) = true) := hid_mk (by unfold Sec; simp; omega)
      go_enter Try.func28, Try.ntmps28
      go_wp2
      all_goals
        go_ret
        rw [hv.out]
        first | exact ⟨rfl, rfl⟩ | (refine ⟨?_, rfl⟩; congr 2; simp; omega)
    · have hv : Hid (decide (Sec 237 b) = false) := hid_mk (by unfold Sec; simp; omega)
      go_enter Try.func28, Try.ntmps28
      go_wp2
      all_goals
        go_ret
        rw [hv.out]
        first | exact ⟨rfl, rfl⟩ | (refine ⟨?_, rfl⟩; congr 2; simp; omega)
  · have hcb : b < 144 ∨ (144 ≤ b ∧ b ≤ 191) ∨ 191 < b := by omega
    rcases hcb with h | h | h
    · have hv : Hid (decide (Sec 240 b) = false) := hid_mk (by unfold Sec; simp; omega)
      go_enter Try.func28, Try.ntmps28
      go_wp2
      all_goals
        go_ret
        rw [hv.out]
        first | exact ⟨rfl, rfl⟩ | (refine ⟨?_, rfl⟩; congr 2; simp; omega)
    · have hv : Hid (decide (Sec 240 b) = true) := hid_mk (by unfold Sec; simp; omega)
      go_enter Try.func28, Try.ntmps28
      go_wp2
      all_goals
        go_ret
        rw [hv.out]
        first | exact ⟨rfl, rfl⟩ | (refine ⟨?_, rfl⟩; congr 2; simp; omega)
    · have hv : Hid (decide (Sec 240 b) = false) := hid_mk (by unfold Sec; simp; omega)
      go_enter Try.func28, Try.ntmps28
      go_wp2
      all_goals
        go_ret
        rw [hv.out]
        first | exact ⟨rfl, rfl⟩ | (refine ⟨?_, rfl⟩; congr 2; simp; omega)
  · have hcb : b < 128 ∨ (128 ≤ b ∧ b ≤ 143) ∨ 143 < b := by omega
    rcases hcb with h | h | h
    · have hv : Hid (decide (Sec 244 b) = false) := hid_mk (by unfold Sec; simp; omega)
      go_enter Try.func28, Try.ntmps28
      go_wp2
      all_goals
        go_ret
        rw [hv.out]
        first | exact ⟨rfl, rfl⟩ | (refine ⟨?_, rfl⟩; congr 2; simp; omega)
    · have hv : Hid (decide (Sec 244 b) = true) := hid_mk (by unfold Sec; simp; omega)
      go_enter Try.func28, Try.ntmps28
      go_wp2
      all_goals
        go_ret
        rw [hv.out]
        first | exact ⟨rfl, rfl⟩ | (refine ⟨?_, rfl⟩; congr 2; simp; omega)
    · have hv : Hid (decide (Sec 244 b) = false) := hid_mk (by unfold Sec; simp; omega)
      go_enter Try.func28, Try.ntmps28
      go_wp2
      all_goals
        go_ret
        rw [hv.out]
        first | exact ⟨rfl, rfl⟩ | (refine ⟨?_, rfl⟩; congr 2; simp; omega)
  · have hcb : b < 128 ∨ (128 ≤ b ∧ b ≤ 191) ∨ 191 < b := by omega
    have e1 : ((a : Int) == 224) = false := by simp; omega
    have e2 : ((a : Int) == 237) = false := by simp; omega
    have e3 : ((a : Int) == 240) = false := by simp; omega
    have e4 : ((a : Int) == 244) = false := by simp; omega
    rcases hcb with h | h | h
    · have hv : Hid (decide (Sec a b) = false) := hid_mk (decide_eq_false (by unfold Sec; (repeat' split) <;> omega))
      clear h1 h2 h3 h4
      go_enter Try.func28, Try.ntmps28
      go_wp2
      all_goals
        go_ret
        rw [hv.out]
        first | exact ⟨rfl, rfl⟩ | (refine ⟨?_, rfl⟩; congr 2; simp; omega)
    · have hv : Hid (decide (Sec a b) = true) := hid_mk (decide_eq_true (by unfold Sec; (repeat' split) <;> omega))
      clear h1 h2 h3 h4
      go_enter Try.func28, Try.ntmps28
      go_wp2
      all_goals
        go_ret
        rw [hv.out]
        first | exact ⟨rfl, rfl⟩ | (refine ⟨?_, rfl⟩; congr 2; simp; omega)
    · have hv : Hid (decide (Sec a b) = false) := hid_mk (decide_eq_false (by unfold Sec; (repeat' split) <;> omega))
      clear h1 h2 h3 h4
      go_enter Try.func28, Try.ntmps28
      go_wp2
      all_goals
        go_ret
        rw [hv.out]
        first | exact ⟨rfl, rfl⟩ | (refine ⟨?_, rfl⟩; congr 2; simp; omega)
end Go.Proofs.Ytflgiejnklbjnaa
