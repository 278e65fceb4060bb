/-
  The reference's One: a character's bytes, in a row of its own. No condition.
-/
import Derived.Test.YtakakaenlfilmaaGreatDoorWords
namespace Go.Proofs.YtakakaenlfilmaaGreatDoor
open Go.RowKit
def encZ (r : Int) : Array Value := (Lib.runeCells r).toArray
theorem and63 (x : Int) (h0 : 0 ≤ x) (h1 : x < 2147483648) : bits .and .i32 x 63 = x % 64 := bits_mask .i32 31 (by decide) wraps_i32 6 (by decide) x h0 h1
theorem u8_wrap (x : Int) (h0 : 0 ≤ x) (h1 : x < 256) : IntKind.u8.wrap x = x := wraps_u8 x h0 h1
set_option maxHeartbeats 4000000 in
set_option maxRecDepth 100000 in
theorem refOne_any (r : Int) (r0 : -2147483648 ≤ r) (r1 : r ≤ 2147483647) (w : World) :
    Calls Tryz.prog 52 #[.int .i32 r] w fun e w' => e = .returned (.slice (some ⟨w.heap.size, 0, none⟩) (Lib.runeCells r).length (Lib.runeCells r).length) ∧ w' = w.alloc (.cells (Lib.runeCells r).toArray 5) := by
  have hcase : (r < 0 ∨ (55296 ≤ r ∧ r ≤ 57343) ∨ 1114111 < r) ∨ (0 ≤ r ∧ r < 128) ∨ (128 ≤ r ∧ r < 2048) ∨ (2048 ≤ r ∧ r < 65536 ∧ (r < 55296 ∨ 57343 < r)) ∨ (65536 ≤ r ∧ r ≤ 1114111) := by omega
  rcases hcase with h | h | h | h | h
  · have hv : Hid (Lib.runeCells r = [.int .u8 239, .int .u8 191, .int .u8 189]) := hid_mk (by unfold Lib.runeCells; rw [Lib.encodeRuneZ_bad h]; rfl)
    rcases h with h | ⟨ha, hb⟩ | h
    · go_enter Tryz.func52, Tryz.ntmps52
      go_wp2
      all_goals
        go_ret
        rw [hv.out]
        exact ⟨rfl, rfl⟩
    · go_enter Tryz.func52, Tryz.ntmps52
      go_wp2
      all_goals
        go_ret
        rw [hv.out]
        exact ⟨rfl, rfl⟩
    · go_enter Tryz.func52, Tryz.ntmps52
      go_wp2
      all_goals
        go_ret
        rw [hv.out]
        exact ⟨rfl, rfl⟩
  · obtain ⟨ha, hb⟩ := h
    have hv : Hid (Lib.runeCells r = [.int .u8 r]) := hid_mk (by unfold Lib.runeCells; rw [Lib.encodeRuneZ_one ha (by omega)]; rfl)
    go_enter Tryz.func52, Tryz.ntmps52
    go_wp2
    all_goals
      go_ret
      rw [hv.out]
      exact ⟨rfl, rfl⟩
  · obtain ⟨ha, hb⟩ := h
    have hv : Hid (Lib.runeCells r = [.int .u8 (192 + r / 64), .int .u8 (128 + r % 64)]) := hid_mk (by unfold Lib.runeCells; rw [Lib.encodeRuneZ_two ha (by omega)]; rfl)
    have hA : bits .and .i32 r 63 = r % 64 := and63 r (by omega) (by omega)
    go_enter Tryz.func52, Tryz.ntmps52
    go_wp2
    all_goals
      go_ret
      rw [hv.out]
      exact ⟨rfl, rfl⟩
  · obtain ⟨ha, hb, hc⟩ := h
    have hv : Hid (Lib.runeCells r = [.int .u8 (224 + r / 4096), .int .u8 (128 + r / 64 % 64), .int .u8 (128 + r % 64)]) := hid_mk (by unfold Lib.runeCells; rw [Lib.encodeRuneZ_three (by omega)]; rfl)
    have hA : bits .and .i32 r 63 = r % 64 := and63 r (by omega) (by omega)
    have hA2 : bits .and .i32 (r / 64) 63 = r / 64 % 64 := and63 (r / 64) (by omega) (by omega)
    rcases hc with hc | hc
    all_goals
      go_enter Tryz.func52, Tryz.ntmps52
      go_wp2
      all_goals
        go_ret
        rw [hv.out]
        exact ⟨rfl, rfl⟩
  · obtain ⟨ha, hb⟩ := h
    have hv : Hid (Lib.runeCells r = [.int .u8 (240 + r / 262144), .int .u8 (128 + r / 4096 % 64), .int .u8 (128 + r / 64 % 64), .int .u8 (128 + r % 64)]) := hid_mk (by unfold Lib.runeCells; rw [Lib.encodeRuneZ_four (by omega) (by omega)]; rfl)
    have hA : bits .and .i32 r 63 = r % 64 := and63 r (by omega) (by omega)
    have hA2 : bits .and .i32 (r / 64) 63 = r / 64 % 64 := and63 (r / 64) (by omega) (by omega)
    have hA3 : bits .and .i32 (r / 4096) 63 = r / 4096 % 64 := and63 (r / 4096) (by omega) (by omega)
    go_enter Tryz.func52, Tryz.ntmps52
    go_wp2
    all_goals
      go_ret
      rw [hv.out]
      exact ⟨rfl, rfl⟩
end Go.Proofs.YtakakaenlfilmaaGreatDoor
