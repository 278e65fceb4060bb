/-
  The reference's way through a part, plain: the character so far; where it stops. No condition.
-/
import Derived.Test.YtflgiejnklbjnaaRefA
import Derived.IntWalk
namespace Go.Proofs.Ytflgiejnklbjnaa
open Go.RowKit
def maskOf (n : Nat) : Nat := if n = 2 then 32 else if n = 3 then 16 else 8
/-- The character so far: the first byte's bits, and those of the next bytes, up to the k-th. -/
def accR (l : List UInt8) (m : Nat) : Nat → Nat
  | 0 => atL l 0 % m
  | 1 => atL l 0 % m
  | k + 2 => accR l m (k + 1) * 64 + atL l (k + 1) % 64
theorem accR_succ (l : List UInt8) (m k : Nat) (h : 1 ≤ k) : accR l m (k + 1) = accR l m k * 64 + atL l k % 64 := by
  obtain ⟨j, rfl⟩ : ∃ j, k = j + 1 := ⟨k - 1, by omega⟩
  rfl
theorem accR_lt (l : List UInt8) (m k : Nat) (hm : m ≤ 32) (hm0 : 0 < m) (h1 : 1 ≤ k) (h3 : k ≤ 3) : accR l m k < 131072 := by
  have h0 : atL l 0 % m < 32 := Nat.lt_of_lt_of_le (Nat.mod_lt _ hm0) hm
  have hk : k = 1 ∨ k = 2 ∨ k = 3 := by omega
  rcases hk with rfl | rfl | rfl
  · show atL l 0 % m < _
    omega
  · show atL l 0 % m * 64 + atL l 1 % 64 < _
    omega
  · show (atL l 0 % m * 64 + atL l 1 % 64) * 64 + atL l 2 % 64 < _
    omega
theorem cut_none (l : List UInt8) (h : sizeB (atL l 0) = 0) : cutL l = bad 1 := by
  unfold cutL cutN
  unfold sizeB at h
  (repeat' split at h) <;> first | (exfalso; omega) | skip
  rw [if_neg (by omega), if_neg (by omega), if_neg (by omega), if_neg (by omega)]
theorem cut_ascii (l : List UInt8) (h : sizeB (atL l 0) = 1) : cutL l = ⟨atL l 0, 1, true⟩ := by
  unfold cutL cutN
  unfold sizeB at h
  (repeat' split at h) <;> first | (exfalso; omega) | skip
  rw [if_pos (by omega)]
def Good (l : List UInt8) (k : Nat) : Prop := ∀ j, 1 ≤ j → j < k → j < l.length ∧ okAt (atL l 0) j (atL l j)
theorem ok1 (a b : Nat) : okAt a 1 b = Sec a b := if_pos rfl
theorem ok2 (a b : Nat) : okAt a 2 b = Cont b := if_neg (by decide)
theorem ok3 (a b : Nat) : okAt a 3 b = Cont b := if_neg (by decide)
theorem cut_bad (l : List UInt8) (k : Nat) (h1 : 1 ≤ k) (hk : k < sizeB (atL l 0)) (hg : Good l k) (st : l.length ≤ k ∨ ¬ okAt (atL l 0) k (atL l k)) : cutL l = bad k := by
  have hx : ¬ (k < l.length ∧ okAt (atL l 0) k (atL l k)) := fun h => st.elim (fun h2 => absurd h.1 (by omega)) (fun h2 => h2 h.2)
  have hc : (194 ≤ atL l 0 ∧ atL l 0 ≤ 223 ∧ k = 1) ∨ (224 ≤ atL l 0 ∧ atL l 0 ≤ 239 ∧ (k = 1 ∨ k = 2)) ∨ (240 ≤ atL l 0 ∧ atL l 0 ≤ 244 ∧ (k = 1 ∨ k = 2 ∨ k = 3)) := by
    unfold sizeB at hk
    (repeat' split at hk) <;> omega
  have g1 := hg 1 (by omega)
  have g2 := hg 2 (by omega)
  rw [ok1] at g1
  rw [ok2] at g2
  unfold cutL cutN
  rcases hc with ⟨c1, c2, rfl⟩ | ⟨c1, c2, rfl | rfl⟩ | ⟨c1, c2, rfl | rfl | rfl⟩
  all_goals first | rw [ok1] at hx | rw [ok2] at hx | rw [ok3] at hx
  · rw [if_neg (by omega), if_pos ⟨c1, c2⟩, if_neg hx]
  · rw [if_neg (by omega), if_neg (by omega), if_pos ⟨c1, c2⟩, if_neg hx]
  · rw [if_neg (by omega), if_neg (by omega), if_pos ⟨c1, c2⟩, if_pos (g1 (by omega)), if_neg hx]
  · rw [if_neg (by omega), if_neg (by omega), if_neg (by omega), if_pos ⟨c1, c2⟩, if_neg hx]
  · rw [if_neg (by omega), if_neg (by omega), if_neg (by omega), if_pos ⟨c1, c2⟩, if_pos (g1 (by omega)), if_neg hx]
  · rw [if_neg (by omega), if_neg (by omega), if_neg (by omega), if_pos ⟨c1, c2⟩, if_pos (g1 (by omega)), if_pos (g2 (by omega)), if_neg hx]
theorem cut_full (l : List UInt8) (h2 : 2 ≤ sizeB (atL l 0)) (hg : Good l (sizeB (atL l 0))) : cutL l = ⟨accR l (maskOf (sizeB (atL l 0))) (sizeB (atL l 0)), sizeB (atL l 0), true⟩ := by
  have h4 : sizeB (atL l 0) ≤ 4 := by unfold sizeB; (repeat' split) <;> omega
  have hn : sizeB (atL l 0) = 2 ∨ sizeB (atL l 0) = 3 ∨ sizeB (atL l 0) = 4 := by omega
  have g1 := hg 1 (by omega)
  have g2 := hg 2 (by omega)
  have g3 := hg 3 (by omega)
  unfold okAt at g1 g2 g3
  rcases hn with hn | hn | hn
  all_goals rw [hn] at g1 g2 g3 ⊢
  all_goals unfold sizeB at hn
  all_goals
    simp at g1 g2 g3
    (repeat' split at hn) <;> first | (exfalso; omega) | skip
  · unfold cutL cutN
    rw [if_neg (by omega), if_pos (by omega), if_pos g1]
    rfl
  · unfold cutL cutN
    rw [if_neg (by omega), if_neg (by omega), if_pos (by omega), if_pos g1, if_pos g2]
    show Cutp.mk _ _ _ = Cutp.mk ((atL l 0 % 16 * 64 + atL l 1 % 64) * 64 + atL l 2 % 64) _ _
    congr 1
    omega
  · unfold cutL cutN
    rw [if_neg (by omega), if_neg (by omega), if_neg (by omega), if_pos (by omega), if_pos g1, if_pos g2, if_pos g3]
    show Cutp.mk _ _ _ = Cutp.mk (((atL l 0 % 8 * 64 + atL l 1 % 64) * 64 + atL l 2 % 64) * 64 + atL l 3 % 64) _ _
    congr 1
    omega
theorem first_and (n b : Nat) (h2 : 2 ≤ n) (h4 : n ≤ 4) (hb : b < 256) : bits .and .i32 (b : Int) (255 / 2 ^ (n + 1)) = ((b % maskOf n : Nat) : Int) := by
  have hn : n = 2 ∨ n = 3 ∨ n = 4 := by omega
  rcases hn with rfl | rfl | rfl
  · have := bits_mask .i32 31 (by decide) wraps_i32 5 (by decide) (b : Int) (by omega) (by omega)
    simpa [maskOf] using this
  · have := bits_mask .i32 31 (by decide) wraps_i32 4 (by decide) (b : Int) (by omega) (by omega)
    simpa [maskOf] using this
  · have := bits_mask .i32 31 (by decide) wraps_i32 3 (by decide) (b : Int) (by omega) (by omega)
    simpa [maskOf] using this
end Go.Proofs.Ytflgiejnklbjnaa
