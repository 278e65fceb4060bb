/-
  partLength of the program: how many bytes the first part has. Condition: there is a byte.
-/
import Derived.Test.YtflgiejnklbjnaaProg
import Derived.Test.YtflgiejnklbjnaaCut
import Derived.WalkSpells
import Derived.WalkLawsBesides
namespace Go.Proofs.Ytflgiejnklbjnaa
open Go.RowKit
theorem hid_mk {p : Prop} (h : p) : Hid p := h
def wh (b : Nat) : Nat := if 194 ≤ b ∧ b ≤ 223 then 2 else if 224 ≤ b ∧ b ≤ 239 then 3 else if 240 ≤ b ∧ b ≤ 244 then 4 else 1
def lo2 (b : Nat) : Nat := if b = 224 then 160 else if b = 240 then 144 else if 194 ≤ b ∧ b ≤ 244 then 128 else 0
def hi2 (b : Nat) : Nat := if b = 237 then 159 else if b = 244 then 143 else if 194 ≤ b ∧ b ≤ 244 then 191 else 0
theorem wellFormed_any (b : Nat) (hb : b < 256) (w : World) : Calls Try.prog 30 #[.int .u8 b] w fun e w' => e = .returned (.tuple #[.int .i64 (wh b), .int .u8 (lo2 b), .int .u8 (hi2 b)]) ∧ w = w' := by
  have hcase : b = 224 ∨ b = 237 ∨ b = 240 ∨ b = 244 ∨ (194 ≤ b ∧ b ≤ 223) ∨ (225 ≤ b ∧ b ≤ 236) ∨ (238 ≤ b ∧ b ≤ 239) ∨ (241 ≤ b ∧ b ≤ 243) ∨ b < 194 ∨ 244 < b := by omega
  rcases hcase with rfl | rfl | rfl | rfl | h | h | h | h | h | h
  · go_enter Try.func30, Try.ntmps30
    go_wp2
    go_ret3
    exact ⟨rfl, rfl⟩
  · go_enter Try.func30, Try.ntmps30
    go_wp2
    go_ret3
    exact ⟨rfl, rfl⟩
  · go_enter Try.func30, Try.ntmps30
    go_wp2
    go_ret3
    exact ⟨rfl, rfl⟩
  · go_enter Try.func30, Try.ntmps30
    go_wp2
    go_ret3
    exact ⟨rfl, rfl⟩
  · have hv : Hid (wh b = 2 ∧ lo2 b = 128 ∧ hi2 b = 191) := hid_mk (by unfold wh lo2 hi2; refine ⟨?_, ?_, ?_⟩ <;> (repeat' split) <;> omega)
    go_enter Try.func30, Try.ntmps30
    go_wp2
    all_goals
      go_ret3
      rw [hv.out.1, hv.out.2.1, hv.out.2.2]
      exact ⟨rfl, rfl⟩
  · have hv : Hid (wh b = 3 ∧ lo2 b = 128 ∧ hi2 b = 191) := hid_mk (by unfold wh lo2 hi2; refine ⟨?_, ?_, ?_⟩ <;> (repeat' split) <;> omega)
    go_enter Try.func30, Try.ntmps30
    go_wp2
    all_goals
      go_ret3
      rw [hv.out.1, hv.out.2.1, hv.out.2.2]
      exact ⟨rfl, rfl⟩
  · have hv : Hid (wh b = 3 ∧ lo2 b = 128 ∧ hi2 b = 191) := hid_mk (by unfold wh lo2 hi2; refine ⟨?_, ?_, ?_⟩ <;> (repeat' split) <;> omega)
    go_enter Try.func30, Try.ntmps30
    go_wp2
    all_goals
      go_ret3
      rw [hv.out.1, hv.out.2.1, hv.out.2.2]
      exact ⟨rfl, rfl⟩
  · have hv : Hid (wh b = 4 ∧ lo2 b = 128 ∧ hi2 b = 191) := hid_mk (by unfold wh lo2 hi2; refine ⟨?_, ?_, ?_⟩ <;> (repeat' split) <;> omega)
    go_enter Try.func30, Try.ntmps30
    go_wp2
    all_goals
      go_ret3
      rw [hv.out.1, hv.out.2.1, hv.out.2.2]
      exact ⟨rfl, rfl⟩
  · have hv : Hid (wh b = 1 ∧ lo2 b = 0 ∧ hi2 b = 0) := hid_mk (by unfold wh lo2 hi2; refine ⟨?_, ?_, ?_⟩ <;> (repeat' split) <;> omega)
    go_enter Try.func30, Try.ntmps30
    go_wp2
    all_goals
      go_ret3
      rw [hv.out.1, hv.out.2.1, hv.out.2.2]
      exact ⟨rfl, rfl⟩
  · have hv : Hid (wh b = 1 ∧ lo2 b = 0 ∧ hi2 b = 0) := hid_mk (by unfold wh lo2 hi2; refine ⟨?_, ?_, ?_⟩ <;> (repeat' split) <;> omega)
    go_enter Try.func30, Try.ntmps30
    go_wp2
    all_goals
      go_ret3
      rw [hv.out.1, hv.out.2.1, hv.out.2.2]
      exact ⟨rfl, rfl⟩
def okAt (a j b : Nat) : Prop := if j = 1 then Sec a b else Cont b
theorem cut_stop (l : List UInt8) (k : Nat) (h1 : 1 ≤ k) (hk : k ≤ wh (atL l 0)) (acc : ∀ j, 1 ≤ j → j < k → j < l.length ∧ okAt (atL l 0) j (atL l j))
    (stop : k = wh (atL l 0) ∨ l.length ≤ k ∨ ¬ okAt (atL l 0) k (atL l k)) : (cutL l).n = k := by
  unfold cutL cutN
  have a1 := acc 1 (by omega)
  have a2 := acc 2 (by omega)
  have a3 := acc 3 (by omega)
  have hw4 : wh (atL l 0) ≤ 4 := by unfold wh; (repeat' split) <;> omega
  have hk4 : k = 1 ∨ k = 2 ∨ k = 3 ∨ k = 4 := by omega
  generalize atL l 0 = b0 at *
  generalize l.length = n at *
  unfold okAt at a1 a2 a3 stop
  simp only [if_true, show (2 : Nat) ≠ 1 from by decide, show (3 : Nat) ≠ 1 from by decide, if_false] at a1 a2 a3
  unfold wh at hk stop
  rcases hk4 with rfl | rfl | rfl | rfl
  all_goals
    simp at a1 a2 a3 stop
    (repeat' split at hk) <;> (repeat' split at stop) <;> (repeat' split) <;> first | rfl | (exfalso; omega) | (simp_all [bad]; done) | (simp_all [bad]; omega)
def sl (s : ByteArray) : List UInt8 := s.data.toList
theorem byte_atL (s : ByteArray) (k : Nat) (h : k < s.size) : (s[k]'h).toNat = atL (sl s) k := by
  unfold atL sl
  have h2 : k < s.data.toList.length := by rw [Array.length_toList]; exact h
  rw [List.getElem?_eq_getElem h2]
  rfl
theorem len_sl (s : ByteArray) : (sl s).length = s.size := Array.length_toList
set_option maxHeartbeats 2000000 in
theorem partLength_any (s : ByteArray) (hs : 0 < s.size) (hm : s.size ≤ 9223372036854775807) (w : World) :
    Calls Try.prog 24 #[.string s] w fun e w' => e = .returned (.int .i64 (cutL (sl s)).n) ∧ w = w' := by
  have hb0 := byte_atL s 0 hs
  have h256 := atL_lt (sl s) 0
  have B0 : Hid _ := hb0
  clear hb0
  go_enter Try.func24, Try.ntmps24
  go_wp2_with fail
  rw [B0.out]
  refine (wellFormed_any _ h256 w).mono ?_
  rintro e w1 ⟨rfl, rfl⟩
  obtain ⟨b0, hb⟩ : ∃ b0, b0 = atL (sl s) 0 := ⟨_, rfl⟩
  rw [← hb]
  have HB : Hid _ := hb
  clear hb B0
  have hw4 : wh b0 ≤ 4 := by unfold wh; (repeat' split) <;> omega
  have hw1 : 1 ≤ wh b0 := by unfold wh; (repeat' split) <;> omega
  have hlh : lo2 b0 ≤ 255 ∧ hi2 b0 ≤ 255 := by unfold lo2 hi2; constructor <;> (repeat' split) <;> omega
  have hsec : Hid (1 < wh b0 → ∀ x, okAt b0 1 x ↔ lo2 b0 ≤ x ∧ x ≤ hi2 b0) := hid_mk (fun h x => by
    unfold okAt Sec lo2 hi2 wh at *
    rw [if_pos rfl]
    (repeat' split at h) <;> (repeat' split) <;> omega)
  go_wp2_with fail
  go_loop [6, 4, 5] (fun vk vl vh => ∃ k lo hi : Nat, 1 ≤ k ∧ k ≤ wh b0 ∧ lo ≤ 255 ∧ hi ≤ 255 ∧ vk = .int .i64 k ∧ vl = .int .u8 lo ∧ vh = .int .u8 hi ∧ Hid (k = 1 → lo = lo2 b0 ∧ hi = hi2 b0) ∧ Hid (1 < k → lo = 128 ∧ hi = 191) ∧ Hid (∀ j, 1 ≤ j → j < k → j < (sl s).length ∧ okAt b0 j (atL (sl s) j))) (fun vk _ _ => 4 - (intOf vk).toNat)
  case atStart => exact ⟨1, lo2 b0, hi2 b0, by omega, hw1, hlh.1, hlh.2, rfl, rfl, rfl, fun _ => ⟨rfl, rfl⟩, fun h => absurd h (by omega), fun j h1 h2 => absurd h2 (by omega)⟩
  case round =>
    obtain ⟨k, lo, hi, h1, hk, hl1, hh1, rfl, rfl, rfl, e1, e2, acc⟩ := hrel
    have hstop : Hid (k = wh b0 ∨ (sl s).length ≤ k ∨ ¬ okAt b0 k (atL (sl s) k) → (cutL (sl s)).n = k) := hid_mk (fun st => cut_stop (sl s) k h1 (HB.out ▸ hk) (HB.out ▸ acc.out) (HB.out ▸ st))
    by_cases c1 : k < wh b0
    · have c1' : (k : Int) < (wh b0 : Int) := by omega
      by_cases c2 : k < s.size
      · have c2' : (k : Int) < (s.size : Int) := by omega
        have hby := byte_atL s k c2
        have hok : Hid (okAt b0 k (atL (sl s) k) ↔ lo ≤ (s[k]'c2).toNat ∧ (s[k]'c2).toNat ≤ hi) := hid_mk (by
          rw [hby]
          rcases Nat.lt_or_ge 1 k with hk1 | hk1
          · obtain ⟨rfl, rfl⟩ := e2.out hk1
            unfold okAt Cont
            rw [if_neg (by omega)]
          · obtain rfl : k = 1 := by omega
            obtain ⟨rfl, rfl⟩ := e1.out rfl
            exact hsec.out (by omega) _)
        clear hby
        by_cases c3 : lo ≤ (s[k]'c2).toNat
        · have c3' : (lo : Int) ≤ ((s[k]'c2).toNat : Int) := by omega
          by_cases c4 : (s[k]'c2).toNat ≤ hi
          · have c4' : ((s[k]'c2).toNat : Int) ≤ (hi : Int) := by omega
            go_wp2
            go_round
            case rel =>
              refine ⟨k + 1, 128, 191, by omega, by omega, by omega, by omega, by go_num, rfl, rfl, fun h => absurd h (by omega), fun _ => ⟨rfl, rfl⟩, fun j j1 j2 => ?_⟩
              rcases Nat.lt_or_ge j k with hj | hj
              · exact acc.out j j1 hj
              · obtain rfl : j = k := by omega
                exact ⟨by rw [len_sl]; exact c2, hok.out.2 ⟨c3, c4⟩⟩
            case measure => simp [intOf]; omega
          · have hv : Hid ((cutL (sl s)).n = k) := hid_mk (hstop.out (.inr (.inr (fun h => c4 (hok.out.1 h).2))))
            have c4' : ¬ ((s[k]'c2).toNat : Int) ≤ (hi : Int) := by omega
            go_wp2
            go_ret
            rw [hv.out]
            exact ⟨rfl, rfl⟩
        · have hv : Hid ((cutL (sl s)).n = k) := hid_mk (hstop.out (.inr (.inr (fun h => c3 (hok.out.1 h).1))))
          have c3' : ¬ (lo : Int) ≤ ((s[k]'c2).toNat : Int) := by omega
          go_wp2
          go_ret
          rw [hv.out]
          exact ⟨rfl, rfl⟩
      · have hv : Hid ((cutL (sl s)).n = k) := hid_mk (hstop.out (.inr (.inl (by rw [len_sl]; omega))))
        have c2' : ¬ (k : Int) < (s.size : Int) := by omega
        go_wp2
        go_ret
        rw [hv.out]
        exact ⟨rfl, rfl⟩
    · have hv : Hid ((cutL (sl s)).n = k) := hid_mk (hstop.out (.inl (by omega)))
      have c1' : ¬ (k : Int) < (wh b0 : Int) := by omega
      go_wp2
      go_ret
      rw [hv.out]
      exact ⟨rfl, rfl⟩
end Go.Proofs.Ytflgiejnklbjnaa
