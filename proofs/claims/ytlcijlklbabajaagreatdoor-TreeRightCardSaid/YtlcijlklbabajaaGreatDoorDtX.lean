/-
  Data that may be is data that is well-formed, without the character 0, plain. No Go in sight; no condition.
-/
import Derived.Test.YtlcijlklbabajaaGreatDoorLpDocs
import Derived.Test.YtlcijlklbabajaaGreatDoorRPsm
namespace Go.Proofs.YtlcijlklbabajaaGreatDoor
open R
theorem nz_of {l : List UInt8} (h : ¬ 0 ≤ Lib.indexByte l 0) : nz l = true := by
  have hg := Lib.indexByte_ge l 0
  have hn := Lib.indexByte_none (l := l) (c := 0) (by omega)
  unfold nz
  rw [List.all_eq_true]
  intro x hx
  obtain ⟨k, hk, rfl⟩ := List.mem_iff_getElem.1 hx
  rw [bne_iff_ne]
  intro e
  exact hn k (by rw [List.getElem?_eq_getElem hk, e])
theorem dL_eq (l : List UInt8) : Lib.decodeL l = U.decL l := (U.decode_list ⟨l.toArray⟩ 0).trans (by rw [List.drop_zero])
/-- What utf8.ValidString tells is what the cuts tell. -/
theorem valid_well : ∀ (n : Nat) (l : List UInt8), l.length ≤ n → Lib.validD l = U.wellL l
  | _, [], _ => rfl
  | 0, _ :: _, h => by simp at h
  | n + 1, c :: t, h => by
    have h0 : 0 < (c :: t).length := Nat.succ_pos _
    obtain ⟨n1, n2, _⟩ := U.cut_facts (c :: t) h0
    rw [Lib.validD_step _ (by simp), U.wellL_cons _ h0, dL_eq]
    unfold U.decL
    cases hok : (U.cutL (c :: t)).ok with
    | false =>
      rw [if_neg Bool.false_ne_true, if_pos ⟨rfl, rfl⟩]
      rfl
    | true =>
      have he := U.cut_enc (c :: t) h0 hok
      rw [if_pos rfl, if_neg (by
        rintro ⟨e1, e2⟩
        have e1 : (U.cutL (c :: t)).r = 65533 := e1
        have e2 : (U.cutL (c :: t)).n = 1 := e2
        rw [e1, e2] at he
        have := congrArg List.length he
        revert this
        rw [List.length_take]
        show ¬ (min 1 (t.length + 1) = (Lib.encodeRune ((65533 : Nat) : Int)).length)
        rw [show (Lib.encodeRune ((65533 : Nat) : Int)).length = 3 by decide]
        omega), Bool.true_and]
      exact valid_well n _ (by rw [List.length_drop]; simp only [List.length_cons] at h ⊢; omega)
theorem dataX_eq (l : List UInt8) : dataX l = (U.wellL l && nz l) := by
  unfold dataX
  rw [valid_well _ l (Nat.le_refl _)]
  congr 1
  rw [Bool.eq_iff_iff, decide_eq_true_eq]
  constructor
  · intro h
    exact nz_of (by omega)
  · intro h
    have := no_nul h
    omega
end Go.Proofs.YtlcijlklbabajaaGreatDoor
