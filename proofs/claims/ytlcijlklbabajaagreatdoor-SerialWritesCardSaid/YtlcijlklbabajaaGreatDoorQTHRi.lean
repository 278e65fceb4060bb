/-
  A row of tokens as it is read. No condition.
-/
import Derived.Test.YtlcijlklbabajaaGreatDoorQTNTA
namespace Go.Proofs.YtlcijlklbabajaaGreatDoor
open Go.RowKit
/-- A slice value of these tokens, as it is read. -/
def HasToks (w : World) (a : Option Addr) (ps : List (Tk × Value)) : Prop :=
 (a = none ∧ ps = []) ∨ ∃ g, a = some ⟨g, 0, none⟩ ∧ g < w.heap.size ∧ ∀ k (h : k < ps.length) (j : Nat), j < 5 → w.cell? ⟨g, k * 5 + j, none⟩ = (tkF ps[k])[j]?
theorem TokRow.has {B : Nat} {v : Value} {ps : List (Tk × Value)} {w : World} (h : TokRow B v ps w) : ∃ a c, v = .slice a ps.length c ∧ HasToks w a ps := by
 rcases h.1.2 with ⟨rfl, h0⟩ | ⟨g, cap, cur, rfl, h2, h3, h4, h5, h6, h7⟩
 ·exact ⟨none, 0, by rw [h0], .inl ⟨rfl, List.eq_nil_of_length_eq_zero h0⟩⟩
 ·refine ⟨_, cap, rfl, .inr ⟨g, rfl, (Array.getElem?_eq_some_iff.1 h3).1, fun k hk j hj => ?_⟩⟩
  rw [cell_of_row w g _ _ _ _ h3, ← flat_get tkF 5 (fun _ => rfl) ps k j hk hj]
  have hlt : k * 5 + j < ps.length * 5 := by omega
  rw [← h7, List.getElem?_take, if_pos hlt, Array.getElem?_toList]
theorem TokRow.cells {B g c : Nat} {n : Nat} {ps : List (Tk × Value)} {w : World} (h : TokRow B (.slice (some ⟨g, 0, none⟩) n c) ps w) (k : Nat) (hk : k < ps.length) (j : Nat) (hj : j < 5) : w.cell? ⟨g, k * 5 + j, none⟩ = (tkF ps[k])[j]? := by
 obtain ⟨a, c', hv, hh⟩ := h.has
 injection hv with ha _ _
 subst ha
 rcases hh with ⟨hx, _⟩ | ⟨g', hg, _, hc⟩
 ·cases hx
 ·injection hg with hg
  injection hg with hg
  subst hg
  exact hc k hk j hj
theorem TokRow.some {B : Nat} {v : Value} {ps : List (Tk × Value)} {w : World} (h : TokRow B v ps w) (hne : 0 < ps.length) : ∃ g c, v = .slice (some ⟨g, 0, none⟩) ps.length c := by
 obtain ⟨a, c, hv, hh⟩ := h.has
 rcases hh with ⟨_, h0⟩ | ⟨g, hg, _⟩
 ·rw [h0] at hne; simp at hne
 ·subst hg
  exact ⟨g, c, hv⟩
end Go.Proofs.YtlcijlklbabajaaGreatDoor
namespace Go.Proofs.YtlcijlklbabajaaGreatDoor
open Go.RowKit
/-- Has a text one of some bytes? -/
def hasL (l some : List UInt8) : Bool := l.any fun c => some.contains c
theorem hasL_hit {l s : List UInt8} {k : Nat} (hk : k < l.length) (h : s.contains (l.getD k 0) = true) : hasL l s = true := by
 unfold hasL
 rw [List.any_eq_true]
 exact ⟨l.getD k 0, by simp [List.getD, hk], h⟩
theorem decL_no38 (attr : Bool) (l : List UInt8) (h : ∀ c ∈ l, c.toNat ≠ 38) : decL l attr = l := by
 have := decL_skip attr [] l h
 rwa [List.append_nil, decL_nil, List.append_nil] at this
theorem leavesL_no {l : List UInt8} (h : hasL l [60, 38, 0] = false) (k : Nat) : leavesL (l.drop k) = false := by
 cases hl : leavesL (l.drop k) with
 | false => rfl
 | true =>
   exfalso
   obtain ⟨h2, h60⟩ := leaves_facts hl
   rw [atL_drop, Nat.add_zero] at h60
   rw [List.length_drop] at h2
   have hk : k < l.length := by omega
   have := hasL_hit (l := l) (s := [60, 38, 0]) hk (by
    have e : l.getD k 0 = 60 := by
     apply UInt8.toNat_inj.1
     unfold atL at h60
     rw [List.getD_eq_getElem?_getD]
     exact h60
    rw [e]
    decide)
   rw [h] at this
   cases this
theorem textN_no {l : List UInt8} (h : hasL l [60, 38, 0] = false) : ∀ (n k : Nat), n = l.length - k → k ≤ l.length → textN (l.drop k) = n
 | 0, k, hn, hk => by
   rw [List.drop_eq_nil_of_le (by omega)]
   rfl
 | n + 1, k, hn, hk => by
   rw [textN_go (by omega) (leavesL_no h k), textN_no h n (k + 1) (by omega) (by omega)]
theorem tokens_plain {l : List UInt8} (h : hasL l [60, 38, 0] = false) (hl : l.length ≤ 65536) : tokensL l = (0, 0, if l = [] then [] else [⟨3, [], [], false, l⟩]) := by
 have h0 : ¬ 0 ≤ Lib.indexByte l 0 := by
  intro h0
  obtain ⟨k, hk⟩ : ∃ k : Nat, Lib.indexByte l 0 = (k : Int) := ⟨(Lib.indexByte l 0).toNat, by omega⟩
  have h1 := (Lib.indexByte_some hk).1
  have hkl := (List.getElem?_eq_some_iff.1 h1).1
  have := hasL_hit (l := l) (s := [60, 38, 0]) hkl (by rw [List.getD_eq_getElem?_getD, h1]; decide)
  rw [h] at this
  cases this
 unfold tokensL
 rw [if_neg (by omega), if_neg h0]
 by_cases hn : l = []
 ·subst hn; rfl
 ·have hpos : 0 < l.length := List.length_pos_iff.2 hn
  have hone : oneL l = (0, ⟨3, [], [], false, l⟩, []) := by
   unfold oneL
   rw [show leavesL l = false from by have := leavesL_no h 0; rwa [List.drop_zero] at this]
   have ht := textN_no h (l.length - 1) 1 rfl (by omega)
   rw [ht, show l.length - 1 + 1 = l.length by omega, List.take_length, List.drop_length]
   rw [decL_no38 false l (fun c hc h38 => by
    obtain ⟨k, hk, rfl⟩ := List.mem_iff_getElem.1 hc
    have := hasL_hit (l := l) (s := [60, 38, 0]) hk (by
     have e : l.getD k 0 = 38 := by
      apply UInt8.toNat_inj.1
      rw [List.getD_eq_getElem?_getD, List.getElem?_eq_getElem hk]
      exact h38
     rw [e]
     decide)
    rw [h] at this
    cases this)]
   rfl
  rw [toksL_step l hn, hone, if_neg hn]
  rfl
end Go.Proofs.YtlcijlklbabajaaGreatDoor
namespace Go.Proofs.YtlcijlklbabajaaGreatDoor
def alnB (c : UInt8) : Bool := isLet c || isDig c
theorem up_stop {st : List UInt8} {c : UInt8} (rest : List UInt8) (hc : st.contains c = true) : ∀ (n : List UInt8), (∀ x ∈ n, st.contains x = false) → upL (n ++ c :: rest) st = n ∧ downL (n ++ c :: rest) st = c :: rest
 | [], _ => by
   unfold upL downL
   rw [List.nil_append, List.takeWhile_cons, List.dropWhile_cons, hc]
   exact ⟨rfl, rfl⟩
 | x :: n, h => by
   have ih := up_stop rest hc n (fun y hy => h y (List.mem_cons_of_mem _ hy))
   have hx := h x (List.mem_cons_self ..)
   unfold upL downL at ih ⊢
   rw [List.cons_append, List.takeWhile_cons, List.dropWhile_cons, hx]
   simp only [Bool.not_false, if_true]
   rw [ih.1, ih.2]
   exact ⟨rfl, rfl⟩
theorem not_in {st : List UInt8} (hst : ∀ x ∈ st, alnB x = false) {c : UInt8} (h : alnB c = true) : st.contains c = false := by
 cases hc : st.contains c with
 | false => rfl
 | true =>
   rw [List.contains_iff_mem] at hc
   rw [hst c hc] at h
   cases h
theorem smC_aln {c : UInt8} (h : alnB c = true) : alnB (smC c) = true := by
 by_cases hu : 65 ≤ c.toNat ∧ c.toNat ≤ 90
 ·have := smC_up c hu
  unfold alnB isLet
  simp
  omega
 ·rw [smC_no c hu]
  exact h
theorem madeL_sm {n o : List UInt8} (h : ∀ x ∈ n, alnB x = true) : madeL (smL n) o = true := by
 unfold madeL smL
 rw [List.all_map, List.all_eq_true]
 intro x hx
 have := smC_aln (h x hx)
 unfold alnB at this
 simp only [Function.comp]
 rw [this, Bool.true_or]
theorem skB_no {c : UInt8} {l : List UInt8} (h : blanksL.contains c = false) : skB (c :: l) = c :: l := by
 unfold skB Lib.trimLeftS
 rw [List.dropWhile_cons, h]
 rfl
theorem skB_yes {c : UInt8} {l : List UInt8} (h : blanksL.contains c = true) : skB (c :: l) = skB l := by
 unfold skB Lib.trimLeftS
 rw [List.dropWhile_cons, h]
 rfl
theorem pre_cons (c : UInt8) (l : List UInt8) : Lib.hasPrefix (c :: l) [c] = true := by simp [Lib.hasPrefix, List.isPrefixOf]
theorem pre_ne {c d : UInt8} (l p : List UInt8) (h : c ≠ d) : Lib.hasPrefix (c :: l) (d :: p) = false := by
 simp [Lib.hasPrefix, List.isPrefixOf]
 intro e
 exact absurd e.symm h
theorem tag_gt (k : Nat) {n : List UInt8} (h : ∀ x ∈ n, alnB x = true) (rest : List UInt8) : tagL k (n ++ 62 :: rest) = (0, ⟨k, smL n, [], false, []⟩, rest) := by
 obtain ⟨h1, h2⟩ := up_stop (st := [9, 10, 12, 32, 47, 62]) (c := 62) rest (by decide) n (fun x hx => not_in (by decide) (h x hx))
 unfold tagL
 rw [h1, h2, madeL_sm h, attrsF_gt (S := 62 :: rest) (skB_no (by decide)).symm (pre_cons _ _)]
 rfl
theorem one_start {c : UInt8} {l : List UInt8} (h : isLet c = true) : oneL (60 :: c :: l) = tagL 1 (c :: l) := by
 unfold oneL
 have hl : leavesL (60 :: c :: l) = true := by
  unfold leavesL
  simp [h, atL]
 rw [hl]
 simp only [Bool.not_true, Bool.false_eq_true, if_false]
 rw [show ((60 :: c :: l).getD 1 0) = c from rfl, h, if_pos rfl]
 rfl
theorem one_end {c : UInt8} {l : List UInt8} : oneL (60 :: 47 :: c :: l) = endL (c :: l) := by
 unfold oneL
 have hl : leavesL (60 :: 47 :: c :: l) = true := by
  unfold leavesL
  simp [atL]
 rw [hl]
 simp only [Bool.not_true, Bool.false_eq_true, if_false]
 rw [show ((60 :: 47 :: c :: l).getD 1 0) = 47 from rfl, show isLet 47 = false by decide, if_neg Bool.false_ne_true, show (atL (60 :: 47 :: c :: l) 1 == 47) = true from rfl, if_pos rfl]
 rfl
def nz (l : List UInt8) : Bool := l.all fun c => c != 0
theorem nz_app (a b : List UInt8) : nz (a ++ b) = (nz a && nz b) := List.all_append
theorem nz_cons (c : UInt8) (b : List UInt8) : nz (c :: b) = (c != 0 && nz b) := rfl
theorem no_nul {l : List UInt8} (h : nz l = true) : ¬ 0 ≤ Lib.indexByte l 0 := by
 intro h0
 obtain ⟨k, hk⟩ : ∃ k : Nat, Lib.indexByte l 0 = (k : Int) := ⟨(Lib.indexByte l 0).toNat, by omega⟩
 have h1 := (Lib.indexByte_some hk).1
 have := List.all_eq_true.1 h 0 (List.mem_iff_getElem?.2 ⟨k, h1⟩)
 revert this
 decide
theorem toks_step0 {l r : List UInt8} {t : Tk} (hl : l ≠ []) (h : oneL l = (0, t, r)) {ts : List Tk} (hr : toksL r = (0, 0, ts)) : toksL l = (0, 0, t :: ts) := by
 rw [toksL_step l hl, h, if_pos rfl]
 simp only
 rw [hr, if_pos rfl]
theorem tokensL_ok {l : List UInt8} (hl : l.length ≤ 65536) (hz : nz l = true) {ts : List Tk} (h : toksL l = (0, 0, ts)) : tokensL l = (0, 0, ts) := by
 unfold tokensL
 rw [if_neg (by omega), if_neg (no_nul hz), h, if_pos rfl]
theorem end_ok {l r n d : List UInt8} (hl : l.isEmpty = false) (h0 : isLet (l.getD 0 0) = true) (ht : tagL 2 l = (0, ⟨2, n, [], false, d⟩, r)) : endL l = (0, ⟨2, n, [], false, d⟩, r) := by
 unfold endL
 rw [hl, h0, ht]
 rfl
end Go.Proofs.YtlcijlklbabajaaGreatDoor
namespace Go.Proofs.YtlcijlklbabajaaGreatDoor
section
variable {l b st : List UInt8}
theorem up_app (h : downL l st ≠ []) : upL (l ++ b) st = upL l st ∧ downL (l ++ b) st = downL l st ++ b := by
 induction l with
 | nil => exact absurd rfl h
 | cons c t ih =>
   unfold upL downL at ih ⊢
   unfold downL at h
   rw [List.cons_append, List.takeWhile_cons, List.takeWhile_cons, List.dropWhile_cons, List.dropWhile_cons]
   rw [List.dropWhile_cons] at h
   cases hc : st.contains c with
   | true => exact ⟨rfl, rfl⟩
   | false =>
     rw [hc] at h
     simp only [Bool.not_false, if_true] at h ⊢
     obtain ⟨h1, h2⟩ := ih h
     rw [h1, h2]
     exact ⟨rfl, rfl⟩
theorem sk_app (h : skB l ≠ []) : skB (l ++ b) = skB l ++ b := by
 induction l with
 | nil => exact absurd rfl h
 | cons c t ih =>
   cases hc : blanksL.contains c with
   | true =>
     rw [skB_yes hc] at h ⊢
     rw [List.cons_append, skB_yes hc]
     exact ih h
   | false => rw [List.cons_append, skB_no hc, skB_no hc, List.cons_append]
theorem pre_app {p : List UInt8} (h : Lib.hasPrefix l p = true) : Lib.hasPrefix (l ++ b) p = true := by
 unfold Lib.hasPrefix at h ⊢
 rw [List.isPrefixOf_iff_prefix] at h ⊢
 exact h.trans (List.prefix_append _ _)
theorem pre_same {p : List UInt8} (hl : p.length ≤ l.length) : Lib.hasPrefix (l ++ b) p = Lib.hasPrefix l p := by
 rw [Bool.eq_iff_iff]
 unfold Lib.hasPrefix
 rw [List.isPrefixOf_iff_prefix, List.isPrefixOf_iff_prefix]
 constructor
 ·intro h
  exact List.prefix_of_prefix_length_le h (List.prefix_append _ _) hl
 ·intro h
  exact h.trans (List.prefix_append _ _)
theorem drop_app {k : Nat} (h : k ≤ l.length) : (l ++ b).drop k = l.drop k ++ b := by
 rw [List.drop_append, show k - l.length = 0 by omega, List.drop_zero]
theorem nil_pre {p : List UInt8} (hp : p ≠ []) : Lib.hasPrefix [] p = false := by
 cases p with
 | nil => exact absurd rfl hp
 | cons _ _ => rfl
theorem ne_of_pre {p : List UInt8} (hp : p ≠ []) (h : Lib.hasPrefix l p = true) : l ≠ [] := by
 intro e
 rw [e, nil_pre hp] at h
 cases h
theorem pos_of_ne (h : l ≠ []) : 1 ≤ l.length := List.length_pos_iff.2 h
theorem pre_same1 {c : UInt8} (h : l ≠ []) : Lib.hasPrefix (l ++ b) [c] = Lib.hasPrefix l [c] := pre_same (p := [c]) (pos_of_ne h)
theorem value_app {v r : List UInt8} (h : valueL l = some (v, r)) (hr : r ≠ []) : valueL (l ++ b) = some (v, r ++ b) := by
 unfold valueL at h ⊢
 by_cases hl : l = []
 ·subst hl
  simp [nil_pre, upL] at h
 ·rw [pre_same (p := [34]) (by have := pos_of_ne hl; simp; omega), pre_same (p := [39]) (by have := pos_of_ne hl; simp; omega), drop_app (pos_of_ne hl)]
  split at h
  ·rename_i h34
   rw [if_pos h34]
   split at h
   ·rename_i hq
    obtain ⟨u1, u2⟩ := up_app (b := b) (ne_of_pre (by simp) hq)
    injection h with h
    injection h with h1 h2
    rw [u1, u2, pre_app hq, if_pos rfl, drop_app (k := 1) (pre_le hq), h1, h2]
   ·cases h
  ·rename_i h34
   rw [if_neg h34]
   split at h
   ·rename_i h39
    rw [if_pos h39]
    split at h
    ·rename_i hq
     obtain ⟨u1, u2⟩ := up_app (b := b) (ne_of_pre (by simp) hq)
     injection h with h
     injection h with h1 h2
     rw [u1, u2, pre_app hq, if_pos rfl, drop_app (k := 1) (pre_le hq), h1, h2]
    ·cases h
   ·rename_i h39
    rw [if_neg h39]
    split at h
    ·cases h
    ·rename_i hu
     injection h with h
     injection h with h1 h2
     obtain ⟨u1, u2⟩ := up_app (b := b) (l := l) (st := [9, 10, 12, 32, 62]) (by rw [h2]; exact hr)
     rw [u1, u2, if_neg hu, h1, h2]
theorem valueL_ne {v r : List UInt8} (h : valueL l = some (v, r)) : l ≠ [] := by
 intro e
 subst e
 simp [valueL, nil_pre, upL] at h
theorem attr_app {a : List UInt8 × List UInt8} {r : List UInt8} (h : attrL l = some (a, r)) (hr : r ≠ []) : attrL (l ++ b) = some (a, r ++ b) := by
 unfold attrL at h ⊢
 by_cases hD : downL l [9, 10, 12, 32, 61, 47, 62] = []
 ·rw [hD] at h
  split at h
  ·cases h
  ·rw [show skB [] = [] from rfl, nil_pre (by simp), if_neg Bool.false_ne_true] at h
   injection h with h
   injection h with _ h2
   exact absurd h2.symm hr
 ·obtain ⟨u1, u2⟩ := up_app (b := b) hD
  rw [u1, u2]
  split at h
  ·cases h
  ·rename_i hn
   rw [if_neg hn]
   split at h
   ·rename_i h61
    have hE := ne_of_pre (by simp) h61
    rw [sk_app hE, pre_app h61, if_pos rfl, drop_app (k := 1) (pre_le h61)]
    cases hv : valueL (skB ((skB (downL l [9, 10, 12, 32, 61, 47, 62])).drop 1)) with
    | none => rw [hv] at h; cases h
    | some p =>
      obtain ⟨v, r'⟩ := p
      rw [hv] at h
      simp only at h
      injection h with h
      injection h with h1 h2
      subst h2
      rw [sk_app (valueL_ne hv), value_app hv hr]
      simp only
      rw [h1]
   ·rename_i h61
    injection h with h
    injection h with h1 h2
    have hE : skB (downL l [9, 10, 12, 32, 61, 47, 62]) ≠ [] := by rw [h2]; exact hr
    rw [sk_app hE, pre_same1 hE, if_neg h61, h1, h2]
theorem attrs_app : ∀ (n : Nat) {l : List UInt8} {al al' : List (List UInt8 × List UInt8)} {sf : Bool} {r : List UInt8}, attrsF n l al = (0, al', sf, r) → attrsF n (l ++ b) al = (0, al', sf, r ++ b)
 | 0, _, _, _, _, _, h => by cases h
 | n + 1, l, al, al', sf, r, h => by
   unfold attrsF at h
   split at h
   ·rename_i h1
    injection h with _ h; injection h with h2 h; injection h with h3 h4
    rw [attrsF_gt (S := skB l ++ b) (sk_app (ne_of_pre (by simp) h1)).symm (pre_app h1), drop_app (k := 1) (pre_le h1), h2, h3, h4]
   ·rename_i h1
    split at h
    ·rename_i h2
     injection h with _ h; injection h with h3 h; injection h with h4 h5
     have hS := ne_of_pre (by simp) h2
     rw [attrsF_self (S := skB l ++ b) (sk_app hS).symm (by rw [pre_same1 hS]; exact Bool.eq_false_iff.2 h1) (pre_app h2), drop_app (k := 2) (pre_le h2), h3, h4, h5]
    ·rename_i h2
     split at h
     ·injection h with h _; cases h
     ·rename_i h3
      simp only [Bool.or_eq_true, not_or] at h3
      have hS : skB l ≠ [] := by
       intro e
       rw [e] at h3
       exact h3.1 rfl
      have h47 : (atL (skB l) 0 == 47) = false := Bool.eq_false_iff.2 h3.2
      have hat0 : atL (skB l ++ b) 0 = atL (skB l) 0 := by
       unfold atL
       rw [List.getElem?_append_left (pos_of_ne hS)]
      have hbad : ((skB l ++ b).isEmpty || atL (skB l ++ b) 0 == 47) = false := by
       rw [hat0, h47, Bool.or_false]
       cases hs : skB l with
       | nil => exact absurd hs hS
       | cons _ _ => rfl
      have hsl : Lib.hasPrefix (skB l ++ b) [47, 62] = false := by
       cases hs : skB l with
       | nil => exact absurd hs hS
       | cons c t =>
         rw [List.cons_append]
         refine pre_ne _ _ (fun e => ?_)
         rw [hs, e] at h47
         exact absurd h47 (by simp [atL])
      have hgt : Lib.hasPrefix (skB l ++ b) [62] = false := by rw [pre_same1 hS]; exact Bool.eq_false_iff.2 h1
      cases ha : attrL (skB l) with
      | none => rw [ha] at h; injection h with h _; cases h
      | some p =>
        obtain ⟨a, r'⟩ := p
        rw [ha] at h
        simp only at h
        split at h
        ·injection h with h _; cases h
        ·rename_i hd
         have hr' : r' ≠ [] := by
          intro e
          subst e
          cases n with
          | zero => injection h with h _; cases h
          | succ m =>
            unfold attrsF at h
            rw [show skB [] = [] from rfl, nil_pre (by simp), nil_pre (by simp)] at h
            injection h with h _
            cases h
         rw [attrsF_more (S := skB l ++ b) (sk_app hS).symm hgt hsl hbad (attr_app ha hr') (Bool.eq_false_iff.2 hd)]
         exact attrs_app n h
theorem tag_app {k : Nat} {t : Tk} {r : List UInt8} (h : tagL k l = (0, t, r)) : tagL k (l ++ b) = (0, t, r ++ b) := by
 unfold tagL at h ⊢
 by_cases hD : downL l [9, 10, 12, 32, 47, 62] = []
 ·exfalso
  rw [hD] at h
  split at h
  ·injection h with h _; cases h
  ·have : attrsF 17 [] [] = (40, [], false, []) := by decide
   rw [this] at h
   injection h with h _
   cases h
 ·obtain ⟨u1, u2⟩ := up_app (b := b) hD
  rw [u1, u2]
  split at h
  ·injection h with h _; cases h
  ·rename_i hn
   rw [if_neg hn]
   cases ha : attrsF 17 (downL l [9, 10, 12, 32, 47, 62]) [] with
   | mk e q =>
     obtain ⟨al, sf, r'⟩ := q
     rw [ha] at h
     cases e with
     | succ e => injection h with h _; cases h
     | zero =>
       injection h with _ h
       injection h with h1 h2
       rw [attrs_app 17 ha]
       simp only
       rw [h1, h2]
theorem getD_app {k : Nat} (h : k < l.length) : (l ++ b).getD k 0 = l.getD k 0 := by
 rw [List.getD_eq_getElem?_getD, List.getElem?_append_left h, ← List.getD_eq_getElem?_getD]
theorem atL_app {k : Nat} (h : k < l.length) : atL (l ++ b) k = atL l k := by
 unfold atL
 rw [List.getElem?_append_left h]
theorem end_app {t : Tk} {r : List UInt8} (h : endL l = (0, t, r)) : endL (l ++ b) = (0, t, r ++ b) := by
 by_cases hl : l = []
 ·subst hl
  cases h
 ·unfold endL at h ⊢
  have he : l.isEmpty = false := by
   cases l with
   | nil => exact absurd rfl hl
   | cons _ _ => rfl
  have he2 : (l ++ b).isEmpty = false := by
   cases l with
   | nil => exact absurd rfl hl
   | cons _ _ => rfl
  rw [he] at h
  rw [he2, getD_app (pos_of_ne hl)]
  split at h
  ·injection h with h _; cases h
  ·rename_i h1
   rw [if_neg h1]
   split at h
   ·injection h with h _; cases h
   ·rename_i h2
    rw [h] at h2
    rw [tag_app h]
    simp only at h2 ⊢
    rw [if_neg h2]
theorem index_app {s : List UInt8} (h : 0 ≤ Lib.index l s) (hs : s ≠ []) : Lib.index (l ++ b) s = Lib.index l s := by
 induction l with
 | nil =>
   cases s with
   | nil => exact absurd rfl hs
   | cons _ _ => unfold Lib.index at h; simp at h
 | cons c t ih =>
   rw [List.cons_append]
   unfold Lib.index at h ⊢
   cases hp : s.isPrefixOf (c :: t) with
   | true =>
     have : s.isPrefixOf (c :: (t ++ b)) = true := by
      rw [List.isPrefixOf_iff_prefix] at hp ⊢
      rw [← List.cons_append]
      exact hp.trans (List.prefix_append _ _)
     rw [this]
     rfl
   | false =>
     rw [hp] at h
     simp only [Bool.false_eq_true, if_false] at h ⊢
     split at h
     ·simp at h
     ·rename_i h1
      have h0 : 0 ≤ Lib.index t s := by
       have := beq_eq_false_iff_ne.1 (Bool.eq_false_iff.2 h1)
       omega
      have ht := ih h0
      have hpf : s.isPrefixOf (c :: (t ++ b)) = false := by
       cases hq : s.isPrefixOf (c :: (t ++ b)) with
       | false => rfl
       | true =>
         exfalso
         have hlen : s.length ≤ (c :: t).length := by
          have := Lib.index_room t s h0
          simp only [List.length_cons]
          omega
         rw [List.isPrefixOf_iff_prefix, ← List.cons_append] at hq
         have := List.prefix_of_prefix_length_le hq (List.prefix_append _ _) hlen
         rw [← List.isPrefixOf_iff_prefix, hp] at this
         cases this
      rw [hpf]
      simp only [Bool.false_eq_true, if_false]
      rw [ht]
theorem cut_app {s : List UInt8} (hs : s ≠ []) (h : (Lib.cut l s).2.2 = true) : Lib.cut (l ++ b) s = ((Lib.cut l s).1, (Lib.cut l s).2.1 ++ b, true) := by
 unfold Lib.cut at h ⊢
 by_cases h0 : 0 ≤ Lib.index l s
 ·have hr := Lib.index_room l s h0
  rw [index_app h0 hs, if_pos h0, if_pos h0]
  rw [List.take_append_of_le_length (by omega), drop_app (by omega)]
 ·rw [if_neg h0] at h
  cases h
theorem leaves_app (h : leavesL l = true) : leavesL (l ++ b) = true := by
 have h2 := (leaves_facts h).1
 unfold leavesL at h ⊢
 rw [getD_app h2, atL_app (by omega)]
 rw [decide_eq_true (show 2 ≤ (l ++ b).length by rw [List.length_append]; omega)]
 rw [decide_eq_true h2] at h
 exact h
theorem leaves_same (h2 : 2 ≤ l.length) : leavesL (l ++ b) = leavesL l := by
 unfold leavesL
 rw [getD_app h2, atL_app (by omega), decide_eq_true h2, decide_eq_true (show 2 ≤ (l ++ b).length by rw [List.length_append]; omega)]
/-- Where a text's bytes end amid the text, they end there too if more stands behind. -/
theorem textN_app : ∀ {l : List UInt8}, textN l < l.length → textN (l ++ b) = textN l
 | [], h => by simp [textN] at h
 | c :: t, h => by
   cases hl : leavesL (c :: t) with
   | true => rw [textN_stop hl, textN_stop (leaves_app hl)]
   | false =>
     unfold textN at h
     rw [if_neg (by rw [hl]; exact Bool.false_ne_true)] at h
     simp only [List.length_cons] at h
     have ht : textN t < t.length := by omega
     have hlen : 2 ≤ (c :: t).length := by simp only [List.length_cons]; omega
     have ih := textN_app ht
     rw [List.cons_append]
     unfold textN
     rw [← List.cons_append, leaves_same hlen, hl, ih]
/-- A token that has ended is the same with more behind it; but a text must end ahead of what leaves it. -/
theorem one_app {t : Tk} {r : List UInt8} (hl : l ≠ []) (h : oneL l = (0, t, r)) (hk : t.kind ≠ 3 ∨ r ≠ []) : oneL (l ++ b) = (0, t, r ++ b) := by
 have hpos := pos_of_ne hl
 unfold oneL at h ⊢
 cases hL : leavesL l with
 | false =>
   rw [hL] at h
   simp only [Bool.not_false, if_true] at h
   injection h with _ h
   injection h with h1 h2
   have hr : r ≠ [] := by
    rcases hk with hk | hk
    ·rw [← h1] at hk; exact absurd rfl hk
    ·exact hk
   have hlt : textN (l.drop 1) + 1 < l.length := by
    rcases Nat.lt_or_ge (textN (l.drop 1) + 1) l.length with h | h
    ·exact h
    ·rw [List.drop_eq_nil_of_le h] at h2
     exact absurd h2.symm hr
   have hL2 : leavesL (l ++ b) = false := by
    rw [leaves_same (by omega)]
    exact hL
   have ht : textN ((l ++ b).drop 1) = textN (l.drop 1) := by
    rw [drop_app hpos]
    exact textN_app (by rw [List.length_drop]; omega)
   rw [hL2, ht]
   simp only [Bool.not_false, if_true]
   rw [List.take_append_of_le_length (by omega), drop_app (by omega), h1, h2]
 | true =>
   rw [hL] at h
   rw [leaves_app hL]
   have h2 := (leaves_facts hL).1
   simp only [Bool.not_true, Bool.false_eq_true, if_false] at h ⊢
   rw [getD_app h2, atL_app h2, drop_app hpos, drop_app h2]
   split at h
   ·rename_i h1
    rw [if_pos h1]
    exact tag_app h
   ·rename_i h1
    rw [if_neg h1]
    split at h
    ·rename_i h3
     rw [if_pos h3]
     exact end_app h
    ·rename_i h3
     rw [if_neg h3]
     split at h
     ·rename_i h4
      rw [if_pos (pre_app h4), drop_app (k := 4) (pre_le h4)]
      unfold comL at h ⊢
      split at h
      ·injection h with h _; cases h
      ·rename_i h5
       have hc : (Lib.cut (l.drop 4) [45, 45, 62]).2.2 = true := by
        cases hc : (Lib.cut (l.drop 4) [45, 45, 62]).2.2 with
        | true => rfl
        | false => rw [hc] at h5; exact absurd rfl h5
       injection h with _ h
       injection h with h6 h7
       rw [cut_app (by simp) hc]
       rw [hc] at h5
       simp only at h5 ⊢
       rw [if_neg h5, h6, h7]
     ·rename_i h4
      split at h
      ·rename_i h5
       have h9 := docO_len h5
       have h4' : Lib.hasPrefix (l ++ b) [60, 33, 45, 45] = false := by rw [pre_same (p := [60, 33, 45, 45]) (by show 4 ≤ l.length; omega)]; exact Bool.eq_false_iff.2 h4
       have hd : docO (l ++ b) = true := by
        unfold docO at h5 ⊢
        rw [List.take_append_of_le_length h9, decide_eq_true (show 9 ≤ (l ++ b).length by rw [List.length_append]; omega)]
        rw [decide_eq_true h9] at h5
        exact h5
       rw [h4', if_neg Bool.false_ne_true, if_pos hd, drop_app h9]
       unfold docL at h ⊢
       split at h
       ·rename_i hc
        injection h with _ h
        injection h with h6 h7
        rw [cut_app (by simp) hc]
        simp only [if_true]
        rw [h6, h7]
       ·injection h with h _; cases h
      ·injection h with h _; cases h
theorem toksL_place : ∀ {r : List UInt8}, (toksL r).1 = 0 → (toksL r).2.1 = 0 := by
 intro r h
 by_cases hr : r = []
 ·subst hr; rfl
 ·rw [toksL_step r hr] at h ⊢
  split at h
  ·rename_i h1
   rw [if_pos h1]
   split at h
   ·rename_i h2
    rw [if_pos h2]
   ·rename_i h2
    exact absurd h h2
  ·rename_i h1
   exact absurd h h1
end
end Go.Proofs.YtlcijlklbabajaaGreatDoor
namespace Go.Proofs.YtlcijlklbabajaaGreatDoor
def distinctN (al : List (List UInt8 × List UInt8)) : Prop := ∀ j k, j < k → k < al.length → (al.getD j ([], [])).1 ≠ (al.getD k ([], [])).1
structure RightT (t : Tk) : Prop where
 lo : 1 ≤ t.kind
 hi : t.kind ≤ 5
 small : smL t.name = t.name
 named : t.name ≠ [] ↔ t.kind ≤ 2
 few : t.attrs.length ≤ 16
 only : t.kind ≠ 1 → t.attrs = [] ∧ t.self = false
 apart : distinctN t.attrs
theorem smC_smC (c : UInt8) : smC (smC c) = smC c := by
 by_cases h : 65 ≤ c.toNat ∧ c.toNat ≤ 90
 ·have := smC_up c h
  refine smC_no _ ?_
  omega
 ·rw [smC_no c h, smC_no c h]
theorem smL_smL (l : List UInt8) : smL (smL l) = smL l := by
 unfold smL
 rw [List.map_map]
 refine List.map_congr_left fun c _ => smC_smC c
theorem distinct_nil : distinctN [] := fun j k h1 h2 => by simp at h2
theorem distinct_snoc {al : List (List UInt8 × List UInt8)} {a : List UInt8 × List UInt8} (h : distinctN al) (hn : al.any (fun b => b.1 == a.1) = false) : distinctN (al ++ [a]) := by
 intro j k h1 h2
 rw [List.length_append, List.length_singleton] at h2
 rcases Nat.lt_or_ge k al.length with hk | hk
 ·have := h j k h1 hk
  simp only [List.getD_eq_getElem?_getD] at this ⊢
  rw [List.getElem?_append_left (by omega), List.getElem?_append_left hk]
  exact this
 ·obtain rfl : k = al.length := by omega
  simp only [List.getD_eq_getElem?_getD]
  rw [List.getElem?_append_left h1, List.getElem?_append_right (Nat.le_refl _), Nat.sub_self, List.getElem?_eq_getElem h1]
  intro e
  have hm := List.any_eq_false.1 hn al[j] (List.getElem_mem h1)
  exact hm (by simpa using e)
theorem attrs_right : ∀ (n : Nat) {l : List UInt8} {al al' : List (List UInt8 × List UInt8)} {sf : Bool} {r : List UInt8}, attrsF n l al = (0, al', sf, r) → distinctN al → distinctN al' ∧ al'.length + 1 ≤ al.length + n
 | 0, _, _, _, _, _, h, _ => by cases h
 | n + 1, l, al, al', sf, r, h, hd => by
   unfold attrsF at h
   split at h
   ·injection h with _ h; injection h with h2 _
    subst h2
    exact ⟨hd, by omega⟩
   ·split at h
    ·injection h with _ h; injection h with h2 _
     subst h2
     exact ⟨hd, by omega⟩
    ·split at h
     ·injection h with h _; cases h
     ·cases ha : attrL (skB l) with
      | none => rw [ha] at h; injection h with h _; cases h
      | some p =>
        obtain ⟨a, r'⟩ := p
        rw [ha] at h
        simp only at h
        split at h
        ·injection h with h _; cases h
        ·rename_i hn
         have := attrs_right n h (distinct_snoc hd (Bool.eq_false_iff.2 hn))
         rw [List.length_append, List.length_singleton] at this
         exact ⟨this.1, by omega⟩
theorem up_ne {l st : List UInt8} (hl : l ≠ []) (h : st.contains (l.getD 0 0) = false) : upL l st ≠ [] := by
 cases l with
 | nil => exact absurd rfl hl
 | cons c t =>
   have h' : st.contains c = false := h
   unfold upL
   rw [List.takeWhile_cons, h']
   exact List.cons_ne_nil _ _
theorem ne_of_let {l : List UInt8} (h : isLet (l.getD 0 0) = true) : l ≠ [] := by
 intro e
 subst e
 revert h
 decide
theorem tag_right {k : Nat} {l : List UInt8} {t : Tk} {r : List UInt8} (h : tagL k l = (0, t, r)) (hl : isLet (l.getD 0 0) = true) :
 t.kind = k ∧ smL t.name = t.name ∧ t.name ≠ [] ∧ t.attrs.length ≤ 16 ∧ distinctN t.attrs := by
 unfold tagL at h
 split at h
 ·injection h with h _; cases h
 ·cases ha : attrsF 17 (downL l [9, 10, 12, 32, 47, 62]) [] with
  | mk e q =>
    obtain ⟨al, sf, r'⟩ := q
    rw [ha] at h
    cases e with
    | succ e => injection h with h _; cases h
    | zero =>
      injection h with _ h
      injection h with h1 h2
      subst h1
      have hd := attrs_right 17 ha distinct_nil
      refine ⟨rfl, smL_smL _, ?_, by have := hd.2; simp only [List.length_nil] at this; show al.length ≤ 16; omega, hd.1⟩
      have hu := up_ne (st := [9, 10, 12, 32, 47, 62]) (ne_of_let hl) (not_in (by decide) (by unfold alnB; rw [hl]; rfl))
      show smL (upL l [9, 10, 12, 32, 47, 62]) ≠ []
      unfold smL
      intro e
      exact hu (List.map_eq_nil_iff.1 e)
theorem one_right {l : List UInt8} {t : Tk} {r : List UInt8} (hl : l ≠ []) (h : oneL l = (0, t, r)) : RightT t ∧ (t.kind = 3 → r = [] ∨ leavesL r = true) ∧ (leavesL l = true → t.kind ≠ 3) := by
 have hpos := pos_of_ne hl
 unfold oneL at h
 cases hL : leavesL l with
 | false =>
   rw [hL] at h
   simp only [Bool.not_false, if_true] at h
   injection h with _ h
   injection h with h1 h2
   subst h1
   refine ⟨⟨by show 1 ≤ 3; omega, by show 3 ≤ 5; omega, rfl, ⟨fun h => absurd rfl h, fun h => by have : (3 : Nat) ≤ 2 := h; omega⟩, Nat.zero_le _, fun _ => ⟨rfl, rfl⟩, distinct_nil⟩, fun _ => ?_, fun h => by cases h⟩
   subst h2
   have key : ∀ m : List UInt8, m.drop (textN m) = [] ∨ leavesL (m.drop (textN m)) = true := by
    intro m
    induction m with
    | nil => exact .inl rfl
    | cons c m ih =>
      cases hm : leavesL (c :: m) with
      | true => rw [textN_stop hm]; exact .inr hm
      | false =>
        unfold textN
        rw [if_neg (by rw [hm]; exact Bool.false_ne_true), List.drop_succ_cons]
        exact ih
   have := key (l.drop 1)
   rw [List.drop_drop] at this
   rw [Nat.add_comm]
   exact this
 | true =>
   rw [hL] at h
   simp only [Bool.not_true, Bool.false_eq_true, if_false] at h
   have h2 := (leaves_facts hL).1
   split at h
   ·rename_i h1
    have hg : (l.drop 1).getD 0 0 = l.getD 1 0 := by simp [List.getD_eq_getElem?_getD]
    obtain ⟨a, b, c, d, e⟩ := tag_right h (by rw [hg]; exact h1)
    exact ⟨⟨by omega, by omega, b, ⟨fun _ => by omega, fun _ => c⟩, d, fun hk => absurd a hk, e⟩, fun hk => by omega, fun _ => by omega⟩
   ·split at h
    ·unfold endL at h
     split at h
     ·injection h with h _; cases h
     ·rename_i h4
      split at h
      ·injection h with h _; cases h
      ·rename_i h5
       simp only [Bool.or_eq_true, not_or, Bool.not_eq_true', Bool.not_eq_false] at h4 h5
       obtain ⟨a, b, c, d, e⟩ := tag_right h h4.2
       rw [h] at h5
       have h6 : t.attrs = [] := by simpa using h5.1
       have h7 : t.self = false := by simpa using h5.2
       exact ⟨⟨by omega, by omega, b, ⟨fun _ => by omega, fun _ => c⟩, d, fun _ => ⟨h6, h7⟩, e⟩, fun hk => by omega, fun _ => by omega⟩
    ·split at h
     ·unfold comL at h
      split at h
      ·injection h with h _; cases h
      ·injection h with _ h
       injection h with h1 _
       subst h1
       exact ⟨⟨by show 1 ≤ 4; omega, by show 4 ≤ 5; omega, rfl, ⟨fun h => absurd rfl h, fun h => by have : (4 : Nat) ≤ 2 := h; omega⟩, Nat.zero_le _, fun _ => ⟨rfl, rfl⟩, distinct_nil⟩, fun h => by have : (4 : Nat) = 3 := h; omega, fun _ h => by have : (4 : Nat) = 3 := h; omega⟩
     ·split at h
      ·unfold docL at h
       split at h
       ·injection h with _ h
        injection h with h1 _
        subst h1
        exact ⟨⟨by show 1 ≤ 5; omega, by show 5 ≤ 5; omega, rfl, ⟨fun h => absurd rfl h, fun h => by have : (5 : Nat) ≤ 2 := h; omega⟩, Nat.zero_le _, fun _ => ⟨rfl, rfl⟩, distinct_nil⟩, fun h => by have : (5 : Nat) = 3 := h; omega, fun _ h => by have : (5 : Nat) = 3 := h; omega⟩
       ·injection h with h _; cases h
      ·injection h with h _; cases h
structure RightL (ts : List Tk) : Prop where
 each : ∀ t ∈ ts, RightT t
 texts : ∀ i, i + 1 < ts.length → (ts.getD (i + 1) .none).kind = 3 → (ts.getD i .none).kind ≠ 3
theorem toks_right : ∀ (ts : List Tk) {l : List UInt8}, toksL l = (0, 0, ts) → RightL ts ∧ (leavesL l = true → (ts.getD 0 .none).kind ≠ 3)
 | [], _, _ => ⟨⟨(fun t h => nomatch h), (fun i h => by simp at h)⟩, fun _ => by decide⟩
 | t :: ts, l, h => by
   have hl : l ≠ [] := by
    intro e
    rw [e, toksL_nil] at h
    injection h with _ h; injection h with _ h; cases h
   rw [toksL_step l hl] at h
   split at h
   ·rename_i h1
    split at h
    ·rename_i h2
     injection h with _ h
     injection h with _ h
     injection h with h3 h4
     have hone : oneL l = (0, t, (oneL l).2.2) := by rw [← h3, ← h1]
     have hr : toksL (oneL l).2.2 = (0, 0, ts) := by
      have h5 : (toksL (oneL l).2.2).2.1 = 0 := toksL_place h2
      generalize toksL (oneL l).2.2 = R at *
      obtain ⟨r1, r2, r3⟩ := R
      simp only at h2 h4 h5
      rw [h2, h4, h5]
     obtain ⟨a, b, c⟩ := one_right hl hone
     obtain ⟨d, e⟩ := toks_right ts hr
     refine ⟨⟨fun u hu => ?_, fun i hi hk => ?_⟩, c⟩
     ·rcases List.mem_cons.1 hu with rfl | hu
      ·exact a
      ·exact d.each u hu
     ·cases i with
      | zero =>
        intro h3k
        have hk' : (ts.getD 0 .none).kind = 3 := hk
        have h3k' : t.kind = 3 := h3k
        rcases b h3k' with hb | hb
        ·rw [hb, toksL_nil] at hr
         injection hr with _ hr; injection hr with _ hr
         subst hr
         simp at hi
        ·exact e hb hk'
      | succ i => exact d.texts i (by simpa using hi) hk
    ·rename_i h2
     injection h with h _
     exact absurd h h2
   ·rename_i h1
    injection h with h _
    exact absurd h h1
theorem tokensL_right (l : List UInt8) : RightL (tokensL l).2.2 := by
 have hn : RightL [] := ⟨(fun t h => nomatch h), (fun i h => by simp at h)⟩
 unfold tokensL
 split
 ·exact hn
 ·split
  ·exact hn
  ·split
   ·rename_i h
    have hp := toksL_place h
    refine (toks_right _ (l := l) ?_).1
    generalize toksL l = R at *
    obtain ⟨r1, r2, r3⟩ := R
    simp only at h hp
    rw [h, hp]
   ·exact hn
end Go.Proofs.YtlcijlklbabajaaGreatDoor
