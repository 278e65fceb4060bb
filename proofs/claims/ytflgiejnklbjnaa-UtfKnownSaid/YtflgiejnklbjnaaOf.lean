/-
  A character's bytes, cut, are that character again, plain. No condition.
-/
import Derived.Test.YtflgiejnklbjnaaSeam
namespace Go.Proofs.Ytflgiejnklbjnaa
theorem u8_of (x : Int) (n : Nat) (h : x = (n : Int)) (h2 : n < 256) : (x.toNat.toUInt8).toNat = n := by
  subst h
  simp
  omega
theorem cut_of_enc (r : Nat) (t : List UInt8) (hv : r < 55296 ∨ (57344 ≤ r ∧ r ≤ 1114111)) : cutL (Lib.encodeRune (r : Int) ++ t) = ⟨r, (Lib.encodeRune (r : Int)).length, true⟩ := by
  unfold Lib.encodeRune
  by_cases c1 : r < 128
  · rw [Lib.encodeRuneZ_one (by omega) (by omega)]
    simp only [List.map_cons, List.map_nil, List.cons_append, List.nil_append, List.length_cons, List.length_nil]
    have ha := u8_of (r : Int) r rfl (by omega)
    generalize ((r : Int).toNat.toUInt8) = a at *
    have e0 : atL (a :: t) 0 = a.toNat := rfl
    unfold cutL cutN
    rw [e0, ha, if_pos c1]
  by_cases c2 : r < 2048
  · rw [Lib.encodeRuneZ_two (by omega) (by omega)]
    simp only [List.map_cons, List.map_nil, List.cons_append, List.nil_append, List.length_cons, List.length_nil]
    have ha := u8_of (192 + (r : Int) / 64) (192 + r / 64) (by omega) (by omega)
    have hb := u8_of (128 + (r : Int) % 64) (128 + r % 64) (by omega) (by omega)
    generalize ((192 + (r : Int) / 64).toNat.toUInt8) = a at *
    generalize ((128 + (r : Int) % 64).toNat.toUInt8) = b at *
    have e0 : atL (a :: b :: t) 0 = a.toNat := rfl
    have e1 : atL (a :: b :: t) 1 = b.toNat := rfl
    have hs : Sec a.toNat b.toNat := by
      unfold Sec
      (repeat' split) <;> omega
    unfold cutL cutN
    rw [e0, e1, if_neg (by omega), if_pos (by omega), if_pos ⟨by simp, hs⟩]
    congr 1
    omega
  by_cases c3 : r < 65536
  · rw [Lib.encodeRuneZ_three (by omega)]
    simp only [List.map_cons, List.map_nil, List.cons_append, List.nil_append, List.length_cons, List.length_nil]
    have ha := u8_of (224 + (r : Int) / 4096) (224 + r / 4096) (by omega) (by omega)
    have hb := u8_of (128 + (r : Int) / 64 % 64) (128 + r / 64 % 64) (by omega) (by omega)
    have hd := u8_of (128 + (r : Int) % 64) (128 + r % 64) (by omega) (by omega)
    generalize ((224 + (r : Int) / 4096).toNat.toUInt8) = a at *
    generalize ((128 + (r : Int) / 64 % 64).toNat.toUInt8) = b at *
    generalize ((128 + (r : Int) % 64).toNat.toUInt8) = d at *
    have e0 : atL (a :: b :: d :: t) 0 = a.toNat := rfl
    have e1 : atL (a :: b :: d :: t) 1 = b.toNat := rfl
    have e2 : atL (a :: b :: d :: t) 2 = d.toNat := rfl
    have hs : Sec a.toNat b.toNat := by
      unfold Sec
      (repeat' split) <;> omega
    have hs2 : Cont d.toNat := by unfold Cont; omega
    unfold cutL cutN
    rw [e0, e1, e2, if_neg (by omega), if_neg (by omega), if_pos (by omega), if_pos ⟨by simp, hs⟩, if_pos ⟨by simp, hs2⟩]
    congr 1
    omega
  · rw [Lib.encodeRuneZ_four (by omega) (by omega)]
    simp only [List.map_cons, List.map_nil, List.cons_append, List.nil_append, List.length_cons, List.length_nil]
    have ha := u8_of (240 + (r : Int) / 262144) (240 + r / 262144) (by omega) (by omega)
    have hb := u8_of (128 + (r : Int) / 4096 % 64) (128 + r / 4096 % 64) (by omega) (by omega)
    have hd := u8_of (128 + (r : Int) / 64 % 64) (128 + r / 64 % 64) (by omega) (by omega)
    have hf := u8_of (128 + (r : Int) % 64) (128 + r % 64) (by omega) (by omega)
    generalize ((240 + (r : Int) / 262144).toNat.toUInt8) = a at *
    generalize ((128 + (r : Int) / 4096 % 64).toNat.toUInt8) = b at *
    generalize ((128 + (r : Int) / 64 % 64).toNat.toUInt8) = d at *
    generalize ((128 + (r : Int) % 64).toNat.toUInt8) = f at *
    have e0 : atL (a :: b :: d :: f :: t) 0 = a.toNat := rfl
    have e1 : atL (a :: b :: d :: f :: t) 1 = b.toNat := rfl
    have e2 : atL (a :: b :: d :: f :: t) 2 = d.toNat := rfl
    have e3 : atL (a :: b :: d :: f :: t) 3 = f.toNat := rfl
    have hs : Sec a.toNat b.toNat := by
      unfold Sec
      (repeat' split) <;> omega
    have hs2 : Cont d.toNat := by unfold Cont; omega
    have hs3 : Cont f.toNat := by unfold Cont; omega
    unfold cutL cutN
    rw [e0, e1, e2, e3, if_neg (by omega), if_neg (by omega), if_neg (by omega), if_pos (by omega), if_pos ⟨by simp, hs⟩, if_pos ⟨by simp, hs2⟩, if_pos ⟨by simp, hs3⟩]
    congr 1
    omega
end Go.Proofs.Ytflgiejnklbjnaa
