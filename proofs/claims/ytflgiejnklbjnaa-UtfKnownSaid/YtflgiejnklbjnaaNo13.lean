/-
  What is decoded has no carriage return; how long it is. Plain; no condition.
-/
import Derived.Test.YtflgiejnklbjnaaNorm
import Derived.Test.YtflgiejnklbjnaaLawD
namespace Go.Proofs.Ytflgiejnklbjnaa
open Go.RowKit
theorem enc_no13 (r : Nat) (h : r ≠ 13) : ∀ b ∈ Lib.encodeRune (r : Int), b.toNat ≠ 13 := by
  intro b hb
  unfold Lib.encodeRune at hb
  rw [List.mem_map] at hb
  obtain ⟨x, hx, rfl⟩ := hb
  have hx2 : x ≠ 13 ∧ 0 ≤ x ∧ x < 256 := by
    have hbd := Lib.encodeRuneZ_byte (r : Int) x hx
    refine ⟨?_, hbd.1, hbd.2⟩
    unfold Lib.encodeRuneZ at hx
    (repeat' split at hx) <;> simp at hx <;> omega
  rw [u8_of x x.toNat (by omega) (by omega)]
  omega
theorem decT_no13 (bs : List UInt8) (j : Nat) : atL (decT bs) j ≠ 13 := by
  have hm := norm_mem (runesL bs) 0 (runesL_val bs)
  have hall : ∀ b ∈ decT bs, b.toNat ≠ 13 := by
    rw [decT_eq]
    unfold encL
    intro b hb
    rw [List.mem_flatMap] at hb
    obtain ⟨x, hx, hb⟩ := hb
    rw [List.mem_map] at hx
    obtain ⟨r, hr, rfl⟩ := hx
    exact enc_no13 r (hm r hr).2 b hb
  unfold atL
  cases hg : (decT bs)[j]? with
  | none => decide
  | some b => exact hall b (List.mem_of_getElem? hg)
theorem decT_len (bs : List UInt8) : (decT bs).length ≤ 4 * bs.length := by
  have h1 := decSt_len (runesL bs) (0, [])
  have h2 := runesL_len bs
  have h1' : (decT bs).length ≤ 4 * (runesL bs).length := by simpa [decT, decSt] using h1
  omega
end Go.Proofs.Ytflgiejnklbjnaa
