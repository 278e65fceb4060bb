/-
  A text behind a well-formed one that ends with no carriage return, decoded; the count of bytes that are no later part. Plain; no condition.
-/
import Derived.Test.YtflgiejnklbjnaaNo13
namespace Go.Proofs.Ytflgiejnklbjnaa
open Go.RowKit
def lastR : Nat → List Nat → Nat
  | b, [] => b
  | _, r :: rs => lastR r rs
theorem normL_app : ∀ (xs ys : List Nat) (b : Nat), normL b (xs ++ ys) = normL b xs ++ normL (lastR b xs) ys
  | [], _, _ => rfl
  | r :: rs, ys, b => by
    show normL b (r :: (rs ++ ys)) = _
    rw [normL_cons, normL_cons, normL_app rs ys r, List.append_assoc]
    rfl
theorem normL_start (b : Nat) (hb : b ≠ 13) : ∀ ys : List Nat, normL b ys = normL 0 ys
  | [] => rfl
  | r :: rs => by
    rw [normL_cons, normL_cons]
    congr 1
    by_cases h : r = 13
    · rw [if_pos h, if_pos h]
    · rw [if_neg h, if_neg h, if_neg (fun hh => hb hh.2), if_neg (fun hh => absurd hh.2 (by decide))]
theorem lastR_snoc : ∀ (xs : List Nat) (b r : Nat), lastR b (xs ++ [r]) = r
  | [], _, _ => rfl
  | _ :: xs, _, r => lastR_snoc xs _ r
theorem lastR_13 (xs : List Nat) (b : Nat) (hb : b ≠ 13) (h : lastR b xs = 13) : ∃ ys, xs = ys ++ [13] := by
  rcases List.eq_nil_or_concat xs with rfl | ⟨ys, r, rfl⟩
  · exact absurd h hb
  · rw [List.concat_eq_append, lastR_snoc] at h
    exact ⟨ys, by rw [h, List.concat_eq_append]⟩
theorem encL_app2 (xs ys : List Int) : encL (xs ++ ys) = encL xs ++ encL ys := by unfold encL; rw [List.flatMap_append]
/-- A text behind a well-formed one that ends with no carriage return is decoded as alone. -/
theorem decT_app (a b : List UInt8) (hw : wellL a = true) (h13 : ∀ t, a ≠ t ++ [13]) : decT (a ++ b) = decT a ++ decT b := by
  have hl : lastR 0 (runesL a) ≠ 13 := fun h => by
    obtain ⟨ys, hy⟩ := lastR_13 _ 0 (by decide) h
    have he := encL_runes a.length a (Nat.le_refl _) hw
    rw [hy, List.map_append, encL_app2] at he
    exact h13 (encL (ys.map fun (r : Nat) => (r : Int))) he.symm
  rw [decT_eq (a ++ b), decT_eq a, decT_eq b, runesL_app b a.length a (Nat.le_refl _) hw, normL_app, normL_start _ hl, List.map_append, encL_app2]
/-- How many bytes are no later part. -/
def headB (b : UInt8) : Bool := decide (b.toNat < 128 ∨ 192 ≤ b.toNat)
def cntL (l : List UInt8) : Nat := (l.filter headB).length
theorem cntL_app (a b : List UInt8) : cntL (a ++ b) = cntL a + cntL b := by unfold cntL; rw [List.filter_append, List.length_append]
theorem cnt_enc (r : Nat) (hv : Val r) : cntL (Lib.encodeRune (r : Int)) = 1 := by
  unfold Val at hv
  unfold Lib.encodeRune cntL
  by_cases c1 : r < 128
  · rw [Lib.encodeRuneZ_one (by omega) (by omega)]
    have ha := u8_of (r : Int) r rfl (by omega)
    have hb : headB (((r : Int)).toNat.toUInt8) = true := by unfold headB; rw [ha]; simp; omega
    simp only [List.map_cons, List.map_nil, List.filter_cons, List.filter_nil, hb]
    rfl
  by_cases c2 : r < 2048
  · rw [Lib.encodeRuneZ_two (by omega) (by omega)]
    have ha := u8_of (192 + (r : Int) / 64) (192 + r / 64) (by omega) (by omega)
    have hb := u8_of (128 + (r : Int) % 64) (128 + r % 64) (by omega) (by omega)
    have h1 : headB ((192 + (r : Int) / 64).toNat.toUInt8) = true := by unfold headB; rw [ha]; simp
    have h2 : headB ((128 + (r : Int) % 64).toNat.toUInt8) = false := by unfold headB; rw [hb]; simp; omega
    simp only [List.map_cons, List.map_nil, List.filter_cons, List.filter_nil, h1, h2]
    rfl
  by_cases c3 : r < 65536
  · rw [Lib.encodeRuneZ_three (by omega)]
    have ha := u8_of (224 + (r : Int) / 4096) (224 + r / 4096) (by omega) (by omega)
    have hb := u8_of (128 + (r : Int) / 64 % 64) (128 + r / 64 % 64) (by omega) (by omega)
    have hd := u8_of (128 + (r : Int) % 64) (128 + r % 64) (by omega) (by omega)
    have h1 : headB ((224 + (r : Int) / 4096).toNat.toUInt8) = true := by unfold headB; rw [ha]; simp; omega
    have h2 : headB ((128 + (r : Int) / 64 % 64).toNat.toUInt8) = false := by unfold headB; rw [hb]; simp; omega
    have h3 : headB ((128 + (r : Int) % 64).toNat.toUInt8) = false := by unfold headB; rw [hd]; simp; omega
    simp only [List.map_cons, List.map_nil, List.filter_cons, List.filter_nil, h1, h2, h3]
    rfl
  · rw [Lib.encodeRuneZ_four (by omega) (by omega)]
    have ha := u8_of (240 + (r : Int) / 262144) (240 + r / 262144) (by omega) (by omega)
    have hb := u8_of (128 + (r : Int) / 4096 % 64) (128 + r / 4096 % 64) (by omega) (by omega)
    have hd := u8_of (128 + (r : Int) / 64 % 64) (128 + r / 64 % 64) (by omega) (by omega)
    have hf := u8_of (128 + (r : Int) % 64) (128 + r % 64) (by omega) (by omega)
    have h1 : headB ((240 + (r : Int) / 262144).toNat.toUInt8) = true := by unfold headB; rw [ha]; simp; omega
    have h2 : headB ((128 + (r : Int) / 4096 % 64).toNat.toUInt8) = false := by unfold headB; rw [hb]; simp; omega
    have h3 : headB ((128 + (r : Int) / 64 % 64).toNat.toUInt8) = false := by unfold headB; rw [hd]; simp; omega
    have h4 : headB ((128 + (r : Int) % 64).toNat.toUInt8) = false := by unfold headB; rw [hf]; simp; omega
    simp only [List.map_cons, List.map_nil, List.filter_cons, List.filter_nil, h1, h2, h3, h4]
    rfl
theorem cnt_encL : ∀ (l : List Nat), (∀ r ∈ l, Val r) → cntL (encL (l.map fun (r : Nat) => (r : Int))) = l.length
  | [], _ => rfl
  | r :: l, h => by
    have e : encL ((r :: l).map fun (r : Nat) => (r : Int)) = Lib.encodeRune (r : Int) ++ encL (l.map fun (r : Nat) => (r : Int)) := by
      unfold encL
      rw [List.map_cons, List.flatMap_cons]
    rw [e, cntL_app, cnt_enc r (h r (List.mem_cons_self ..)), cnt_encL l (fun x hx => h x (List.mem_cons_of_mem _ hx)), List.length_cons]
    omega
/-- A well-formed text has as many characters as it has bytes that are none of a later part. -/
theorem cnt_runes (a : List UInt8) (hw : wellL a = true) : cntL a = (runesL a).length := by
  have h := cnt_encL (runesL a) (runesL_val a)
  rwa [encL_runes a.length a (Nat.le_refl _) hw] at h
theorem cnt_take (l : List UInt8) (k : Nat) (h : k < l.length) : cntL (l.take (k + 1)) = cntL (l.take k) + if 128 ≤ atL l k ∧ atL l k ≤ 191 then 0 else 1 := by
  rw [List.take_succ_eq_append_getElem h, cntL_app]
  congr 1
  have e : atL l k = l[k].toNat := by unfold atL; rw [List.getElem?_eq_getElem h]; rfl
  rw [e]
  unfold cntL headB
  by_cases c : 128 ≤ l[k].toNat ∧ l[k].toNat ≤ 191
  · rw [if_pos c]
    have : decide (l[k].toNat < 128 ∨ 192 ≤ l[k].toNat) = false := by simp; omega
    rw [List.filter_cons, this]
    rfl
  · rw [if_neg c]
    have : decide (l[k].toNat < 128 ∨ 192 ≤ l[k].toNat) = true := by simp; omega
    rw [List.filter_cons, this]
    rfl
theorem and192_fin : ∀ x : Fin 256, bits .and .u8 ((x.val : Nat) : Int) 192 = (((x.val / 64) * 64 : Nat) : Int) := by decide +kernel
theorem and192 (x : Nat) (h : x < 256) : bits .and .u8 (x : Int) 192 = (((x / 64) * 64 : Nat) : Int) := and192_fin ⟨x, h⟩
end Go.Proofs.Ytflgiejnklbjnaa
