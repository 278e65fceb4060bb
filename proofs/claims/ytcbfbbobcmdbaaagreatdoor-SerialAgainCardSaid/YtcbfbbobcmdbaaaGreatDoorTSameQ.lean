/-
  SameAttrs, of two rows of the same attributes: it only draws. Condition: their number is bounded.
-/
import Derived.Test.YtcbfbbobcmdbaaaGreatDoorTNTA
import Derived.Deep.QuietTactic
import Derived.BigQuiet
namespace Go.Proofs.YtcbfbbobcmdbaaaGreatDoor
open Go.RowKit
set_option maxHeartbeats 4000000 in
set_option maxRecDepth 100000 in
theorem sameAttrs_q (a1 a2 : Option Addr) (c1 c2 : Nat) (l : List Atr) (w : World) (h1 : HasAttrs w a1 l) (h2 : HasAttrs w a2 l) (hl : l.length ≤ 1000000) :
    Calls Tryz.prog 26 #[.slice a1 l.length c1, .slice a2 l.length c2] w fun e w' => e = .returned (.bool true) ∧ ∃ m, w' = w.drewN m := by
  obtain ⟨n, hn⟩ : ∃ n, n = l.length := ⟨_, rfl⟩
  have HN := hid_mk hn
  have H1 := hid_mk h1
  have H2 := hid_mk h2
  obtain ⟨i0, hi, hz0, hz1, hz2⟩ := info_parts infoAttr
  have HI := hid_mk (And.intro hi (And.intro hz0 (And.intro hz1 hz2)))
  rw [← hn] at hl ⊢
  clear hn h1 h2 hi hz0 hz1 hz2
  go_enter Tryz.func26, Tryz.ntmps26
  go_wp2_with fail
  go_loopw [5] (fun i wr => ∃ k : Nat, k ≤ n ∧ i = .int .i64 k ∧ Hid (∃ m, wr = w.drewN m)) (fun i _ => n - (intOf i).toNat)
  case atStart => exact ⟨0, Nat.zero_le _, rfl, hid_mk ⟨0, rfl⟩⟩
  case round =>
    obtain ⟨k, hk, rfl, HW⟩ := hrel
    by_cases hlt : k < n
    · have hlti : (k : Int) < (n : Int) := by omega
      have hkl : k < l.length := by rw [← HN.out]; exact hlt
      have hbl : Below w.heap.size w wr := by
        obtain ⟨m, hm⟩ := HW.out
        rw [hm]
        exact below_drewN (Below.refl _ _) m
      rcases H1.out.below hbl with ⟨_, hx⟩ | ⟨g1, hg1, _, hc1⟩
      · rw [hx] at hkl; simp at hkl
      rcases H2.out.below hbl with ⟨_, hx⟩ | ⟨g2, hg2, _, hc2⟩
      · rw [hx] at hkl; simp at hkl
      subst hg1 hg2
      have d1 := (hc1 k hkl).1
      have d2 := (hc1 k hkl).2
      have d3 := (hc2 k hkl).1
      have d4 := (hc2 k hkl).2
      obtain ⟨x, hx⟩ : ∃ x, x = strOf l[k].1 := ⟨_, rfl⟩
      obtain ⟨y, hy⟩ : ∃ y, y = strOf l[k].2 := ⟨_, rfl⟩
      rw [← hx] at d1 d3
      rw [← hy] at d2 d4
      clear hc1 hc2 hx hy hkl hbl
      go_wp2_with fail
      obtain ⟨hi, hz0, hz1, hz2⟩ := HI.out
      have hx0 : (x.toList == x.toList) = true := beq_self_eq_true _
      have hy0 : (y.toList == y.toList) = true := beq_self_eq_true _
      go_quiet (fail)
      have HD := hid_mk (show ∃ m, wr.drewN nq = w.drewN m by
        obtain ⟨m, hm⟩ := HW.out
        exact ⟨m + nq, by rw [hm, World.drewN_drewN]⟩)
      clear hi hz0 hz1 hz2
      go_wp2_with fail
      go_roundw
      case rel => exact ⟨k + 1, by omega, by go_num, HD⟩
      case measure => simp [intOf]; omega
    · have hlti : ¬ (k : Int) < (n : Int) := by omega
      go_wp2_with fail
      go_ret
      exact ⟨rfl, HW.out⟩
end Go.Proofs.YtcbfbbobcmdbaaaGreatDoor
