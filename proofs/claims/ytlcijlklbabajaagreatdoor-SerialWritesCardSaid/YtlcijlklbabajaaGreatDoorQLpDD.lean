/-
  Documents of one kind, plain: a name behind a text, a text cut by a comment. No Go in sight; no condition.
-/
import Derived.Test.YtlcijlklbabajaaGreatDoorQTHRi
import Derived.Test.YtlcijlklbabajaaGreatDoorQTBPl
import Derived.Test.YtlcijlklbabajaaGreatDoorQUCut
import Derived.Test.YtlcijlklbabajaaGreatDoorQRPsm
namespace Go.Proofs.YtlcijlklbabajaaGreatDoor
theorem leaves_lt {c : UInt8} (l : List UInt8) (hc : c ≠ 60) : leavesL (c :: l) = false := by
 unfold leavesL
 have : (atL (c :: l) 0 == 60) = false := by
  refine beq_false_of_ne fun h => hc ?_
  unfold atL at h
  exact UInt8.toNat_inj.1 h
 rw [this]
 simp
theorem textN_pre (m : List UInt8) (hm : leavesL m = true) : ∀ (a : List UInt8), (∀ c ∈ a, c ≠ 60) → textN (a ++ m) = a.length
 | [], _ => textN_stop hm
 | c :: t, h => by
   rw [List.cons_append]
   unfold textN
   rw [if_neg (by rw [leaves_lt _ (h c (List.mem_cons_self ..))]; exact Bool.false_ne_true), textN_pre m hm t (fun x hx => h x (List.mem_cons_of_mem _ hx))]
   rfl
theorem textN_all : ∀ (a : List UInt8), (∀ c ∈ a, c ≠ 60) → textN a = a.length
 | [], _ => rfl
 | c :: t, h => by
   unfold textN
   rw [if_neg (by rw [leaves_lt _ (h c (List.mem_cons_self ..))]; exact Bool.false_ne_true), textN_all t (fun x hx => h x (List.mem_cons_of_mem _ hx))]
   rfl
theorem nz_no {l : List UInt8} (h : ∀ c ∈ l, c ≠ 0) : nz l = true := by
 unfold nz
 rw [List.all_eq_true]
 intro c hc
 exact bne_iff_ne.2 (h c hc)
namespace U
theorem dec_well {bs : List UInt8} (hw : wellL bs = true) (h13 : ∀ b ∈ bs, b ≠ 13) : decT bs = bs := by
 have he := encL_runes bs.length bs (Nat.le_refl _) hw
 have hr : ∀ r ∈ runesL bs, r ≠ 13 := by
  rintro r hr rfl
  have : (13 : UInt8) ∈ bs := by
   rw [← he]
   unfold encL
   refine List.mem_flatMap.2 ⟨((13 : Nat) : Int), List.mem_map.2 ⟨13, hr, rfl⟩, ?_⟩
   decide
  exact h13 13 this rfl
 rw [decT_eq, norm_same _ 0 (by decide) hr, he]
theorem well_ascii : ∀ (bs : List UInt8), (∀ b ∈ bs, b.toNat < 128) → wellL bs = true
 | [], _ => rfl
 | c :: t, h => by
   have hc := h c (List.mem_cons_self ..)
   have hcut : cutL (c :: t) = ⟨c.toNat, 1, true⟩ := by
    unfold cutL cutN
    have : atL (c :: t) 0 = c.toNat := rfl
    rw [this]
    simp [hc]
   rw [wellL_cons _ (by simp), hcut]
   exact well_ascii t (fun x hx => h x (List.mem_cons_of_mem _ hx))
theorem well_app {a b : List UInt8} (ha : wellL a = true) (hb : wellL b = true) : wellL (a ++ b) = true := by
 have he := encL_runes a.length a (Nat.le_refl _) ha
 rw [← he, (encL_app _ b).2, hb]
end U
end Go.Proofs.YtlcijlklbabajaaGreatDoor
/-
  Data that may be is data that is well-formed, without the character 0, plain. No Go in sight; no condition.
-/
namespace Go.Proofs.YtlcijlklbabajaaGreatDoor
open R
theorem nz_of {l : List UInt8} (h : ¬ 0 ≤ Lib.indexByte l 0) : nz l = true := by
 have hg := Lib.indexByte_ge l 0
 have hn := Lib.indexByte_none (l := l) (c := 0) (by omega)
 unfold nz
 rw [List.all_eq_true]
 intro x hx
 obtain ⟨k, hk, rfl⟩ := List.mem_iff_getElem.1 hx
 rw [bne_iff_ne]
 intro e
 exact hn k (by rw [List.getElem?_eq_getElem hk, e])
theorem dL_eq (l : List UInt8) : Lib.decodeL l = U.decL l := (U.decode_list ⟨l.toArray⟩ 0).trans (by rw [List.drop_zero])
/-- What utf8.ValidString tells is what the cuts tell. -/
theorem valid_well : ∀ (n : Nat) (l : List UInt8), l.length ≤ n → Lib.validD l = U.wellL l
 | _, [], _ => rfl
 | 0, _ :: _, h => by simp at h
 | n + 1, c :: t, h => by
   have h0 : 0 < (c :: t).length := Nat.succ_pos _
   obtain ⟨n1, n2, _⟩ := U.cut_facts (c :: t) h0
   rw [Lib.validD_step _ (by simp), U.wellL_cons _ h0, dL_eq]
   unfold U.decL
   cases hok : (U.cutL (c :: t)).ok with
   | false =>
     rw [if_neg Bool.false_ne_true, if_pos ⟨rfl, rfl⟩]
     rfl
   | true =>
     have he := U.cut_enc (c :: t) h0 hok
     rw [if_pos rfl, if_neg (by
      rintro ⟨e1, e2⟩
      have e1 : (U.cutL (c :: t)).r = 65533 := e1
      have e2 : (U.cutL (c :: t)).n = 1 := e2
      rw [e1, e2] at he
      have := congrArg List.length he
      revert this
      rw [List.length_take]
      show ¬ (min 1 (t.length + 1) = (Lib.encodeRune ((65533 : Nat) : Int)).length)
      rw [show (Lib.encodeRune ((65533 : Nat) : Int)).length = 3 by decide]
      omega), Bool.true_and]
     exact valid_well n _ (by rw [List.length_drop]; simp only [List.length_cons] at h ⊢; omega)
theorem dataX_eq (l : List UInt8) : dataX l = (U.wellL l && nz l) := by
 unfold dataX
 rw [valid_well _ l (Nat.le_refl _)]
 congr 1
 rw [Bool.eq_iff_iff, decide_eq_true_eq]
 constructor
 ·intro h
  exact nz_of (by omega)
 ·intro h
  have := no_nul h
  omega
end Go.Proofs.YtlcijlklbabajaaGreatDoor
