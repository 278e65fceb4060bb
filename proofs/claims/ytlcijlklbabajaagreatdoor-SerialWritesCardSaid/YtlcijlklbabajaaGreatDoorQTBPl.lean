/-
  Tokens, plain: what a text's tokens are; no Go in sight, no condition.
-/
import Derived.Test.YtlcijlklbabajaaGreatDoorQPlNum
import Derived.Lib.IndexMore
import Derived.Lib.SlTrimSet
import Derived.Lib.IndexAny
namespace Go.Proofs.YtlcijlklbabajaaGreatDoor
def blanksL : List UInt8 := [9, 10, 12, 32]
def isLet (c : UInt8) : Bool := (decide (97 ≤ c.toNat) && decide (c.toNat ≤ 122)) || (decide (65 ≤ c.toNat) && decide (c.toNat ≤ 90))
def isDig (c : UInt8) : Bool := decide (48 ≤ c.toNat) && decide (c.toNat ≤ 57)
def smC (c : UInt8) : UInt8 := if 65 ≤ c.toNat ∧ c.toNat ≤ 90 then c + 32 else c
def smL (l : List UInt8) : List UInt8 := l.map smC
def madeL (l others : List UInt8) : Bool := l.all fun c => isLet c || isDig c || others.contains c
/-- Does something else than a text begin here? -/
def leavesL (l : List UInt8) : Bool := decide (2 ≤ l.length) && atL l 0 == 60 && (isLet (l.getD 1 0) || [47, 33, 63].contains (l.getD 1 0))
def upL (l stops : List UInt8) : List UInt8 := l.takeWhile fun c => !stops.contains c
def downL (l stops : List UInt8) : List UInt8 := l.dropWhile fun c => !stops.contains c
def skB (l : List UInt8) : List UInt8 := Lib.trimLeftS l blanksL
/-- How many bytes a text has from here on. -/
def textN : List UInt8 → Nat
 | [] => 0
 | c :: t => if leavesL (c :: t) then 0 else textN t + 1
structure Tk where
 kind : Nat
 name : List UInt8
 attrs : List (List UInt8 × List UInt8)
 self : Bool
 data : List UInt8
deriving DecidableEq
def Tk.none : Tk := ⟨0, [], [], false, []⟩
/-- A value as it is written, and what is behind it. -/
def valueL (l : List UInt8) : Option (List UInt8 × List UInt8) :=
 if Lib.hasPrefix l [34] then (if Lib.hasPrefix (downL (l.drop 1) [34]) [34] then some (upL (l.drop 1) [34], (downL (l.drop 1) [34]).drop 1) else none)
 else if Lib.hasPrefix l [39] then (if Lib.hasPrefix (downL (l.drop 1) [39]) [39] then some (upL (l.drop 1) [39], (downL (l.drop 1) [39]).drop 1) else none)
 else if (upL l [9, 10, 12, 32, 62]).isEmpty || Lib.containsAny (upL l [9, 10, 12, 32, 62]) [34, 39, 60, 61, 96] then none
 else some (upL l [9, 10, 12, 32, 62], downL l [9, 10, 12, 32, 62])
/-- An attribute, and what is behind it. -/
def attrL (l : List UInt8) : Option ((List UInt8 × List UInt8) × List UInt8) :=
 if (upL l [9, 10, 12, 32, 61, 47, 62]).isEmpty || !madeL (smL (upL l [9, 10, 12, 32, 61, 47, 62])) [45, 95] then none
 else if Lib.hasPrefix (skB (downL l [9, 10, 12, 32, 61, 47, 62])) [61] then
  match valueL (skB ((skB (downL l [9, 10, 12, 32, 61, 47, 62])).drop 1)) with
  | none => none
  | some (v, r) => some ((smL (upL l [9, 10, 12, 32, 61, 47, 62]), decL v true), r)
 else some ((smL (upL l [9, 10, 12, 32, 61, 47, 62]), []), skB (downL l [9, 10, 12, 32, 61, 47, 62]))
/-- The attributes of a tag from here on (at most n - 1 more): what is wrong; they, is it self-closed, what is behind. -/
def attrsF : Nat → List UInt8 → List (List UInt8 × List UInt8) → Nat × List (List UInt8 × List UInt8) × Bool × List UInt8
 | 0, _, _ => (3, [], false, [])
 | n + 1, l, al =>
   if Lib.hasPrefix (skB l) [62] then (0, al, false, (skB l).drop 1)
   else if Lib.hasPrefix (skB l) [47, 62] then (0, al, true, (skB l).drop 2)
   else if (skB l).isEmpty || atL (skB l) 0 == 47 then (40, [], false, [])
   else match attrL (skB l) with
    | none => (41, [], false, [])
    | some (a, r) => if al.any (fun b => b.1 == a.1) then (41, [], false, []) else attrsF n r (al ++ [a])
/-- A tag from its name on. -/
def tagL (kind : Nat) (l : List UInt8) : Nat × Tk × List UInt8 :=
 if !madeL (smL (upL l [9, 10, 12, 32, 47, 62])) [] then (40, .none, [])
 else match attrsF 17 (downL l [9, 10, 12, 32, 47, 62]) [] with
  | (0, al, self, r) => (0, ⟨kind, smL (upL l [9, 10, 12, 32, 47, 62]), al, self, []⟩, r)
  | (e + 1, _, _, _) => (e + 1, .none, [])
def endL (l : List UInt8) : Nat × Tk × List UInt8 :=
 if l.isEmpty || !isLet (l.getD 0 0) then (40, .none, [])
 else if !(tagL 2 l).2.1.attrs.isEmpty || (tagL 2 l).2.1.self then (40, .none, []) else tagL 2 l
def comData (d : List UInt8) : Bool := !Lib.hasPrefix d [62] && !Lib.hasPrefix d [45, 62] && !Lib.contains d [45, 45, 33, 62] && !Lib.contains d [60, 33, 45, 45] && !Lib.hasSuffix d [60, 33, 45]
def comL (l : List UInt8) : Nat × Tk × List UInt8 :=
 if !(Lib.cut l [45, 45, 62]).2.2 || !comData (Lib.cut l [45, 45, 62]).1 then (43, .none, []) else (0, ⟨4, [], [], false, (Lib.cut l [45, 45, 62]).1⟩, (Lib.cut l [45, 45, 62]).2.1)
def docO (l : List UInt8) : Bool := decide (9 ≤ l.length) && smL (l.take 9) == [60, 33, 100, 111, 99, 116, 121, 112, 101]
def docL (l : List UInt8) : Nat × Tk × List UInt8 :=
 if (Lib.cut l [62]).2.2 then (0, ⟨5, [], [], false, Lib.trimS (Lib.cut l [62]).1 blanksL⟩, (Lib.cut l [62]).2.1) else (43, .none, [])
/-- The token with which a text begins that is not empty: what is wrong; the token, what is behind. -/
def oneL (l : List UInt8) : Nat × Tk × List UInt8 :=
 if !leavesL l then (0, ⟨3, [], [], false, decL (l.take (textN (l.drop 1) + 1)) false⟩, l.drop (textN (l.drop 1) + 1))
 else if isLet (l.getD 1 0) then tagL 1 (l.drop 1)
 else if atL l 1 == 47 then endL (l.drop 2)
 else if Lib.hasPrefix l [60, 33, 45, 45] then comL (l.drop 4)
 else if docO l then docL (l.drop 9)
 else (43, .none, [])
/-- A text's tokens: what is wrong, how many bytes are left from there on; the tokens. -/
def toksF : Nat → List UInt8 → Nat × Nat × List Tk
 | 0, _ => (0, 0, [])
 | _ + 1, [] => (0, 0, [])
 | f + 1, c :: l =>
   if (oneL (c :: l)).1 = 0 then (if (toksF f (oneL (c :: l)).2.2).1 = 0 then (0, 0, (oneL (c :: l)).2.1 :: (toksF f (oneL (c :: l)).2.2).2.2) else ((toksF f (oneL (c :: l)).2.2).1, (toksF f (oneL (c :: l)).2.2).2.1, []))
   else ((oneL (c :: l)).1, l.length + 1, [])
def toksL (l : List UInt8) : Nat × Nat × List Tk := toksF l.length l
theorem down_le (l st : List UInt8) : (downL l st).length ≤ l.length := (List.dropWhile_suffix _).length_le
theorem up_le (l st : List UInt8) : (upL l st).length ≤ l.length := (List.takeWhile_prefix _).length_le
theorem sk_le (l : List UInt8) : (skB l).length ≤ l.length := (List.dropWhile_suffix _).length_le
theorem up_down (l st : List UInt8) : upL l st ++ downL l st = l := List.takeWhile_append_dropWhile
theorem up_any (l st : List UInt8) : (Lib.indexAny l st = -1 ∧ upL l st = l ∧ downL l st = []) ∨ ∃ k : Nat, Lib.indexAny l st = k ∧ k ≤ l.length ∧ upL l st = l.take k ∧ downL l st = l.drop k := by
 induction l with
 | nil => exact .inl ⟨rfl, rfl, rfl⟩
 | cons c t ih =>
   unfold Lib.indexAny upL downL
   cases hc : st.contains c with
   | true => exact .inr ⟨0, by simp, by simp, by rw [List.takeWhile_cons, hc]; rfl, by rw [List.dropWhile_cons, hc]; rfl⟩
   | false =>
     simp only [Bool.false_eq_true, if_false, List.takeWhile_cons, List.dropWhile_cons, hc, Bool.not_false, if_true]
     rcases ih with ⟨h1, h2, h3⟩ | ⟨k, h1, h2, h3, h4⟩
     ·refine .inl ⟨by rw [h1]; rfl, ?_, ?_⟩
      ·unfold upL at h2; rw [h2]
      ·unfold downL at h3; rw [h3]
     ·refine .inr ⟨k + 1, ?_, by simp; omega, ?_, ?_⟩
      ·rw [h1, if_neg (by simp)]; push_cast; rfl
      ·unfold upL at h3; rw [h3]; rfl
      ·unfold downL at h4; rw [h4]; rfl
theorem pre_le {l p : List UInt8} (h : Lib.hasPrefix l p = true) : p.length ≤ l.length := by
 unfold Lib.hasPrefix at h
 exact (List.isPrefixOf_iff_prefix.1 h).length_le
theorem valueL_le {l v r : List UInt8} (h : valueL l = some (v, r)) : v.length + r.length ≤ l.length := by
 unfold valueL at h
 have u1 := up_down (l.drop 1) [34]
 have u2 := up_down (l.drop 1) [39]
 have u3 := up_down l [9, 10, 12, 32, 62]
 have v1 := congrArg List.length u1
 have v2 := congrArg List.length u2
 have v3 := congrArg List.length u3
 simp only [List.length_append, List.length_drop] at v1 v2 v3
 split at h
 ·split at h
  ·injection h with h; injection h with ha hb
   rw [← ha, ← hb, List.length_drop]; omega
  ·cases h
 ·split at h
  ·split at h
   ·injection h with h; injection h with ha hb
    rw [← ha, ← hb, List.length_drop]; omega
   ·cases h
  ·split at h
   ·cases h
   ·injection h with h; injection h with ha hb
    rw [← ha, ← hb]; omega
theorem attrL_le {l r : List UInt8} {a : List UInt8 × List UInt8} (h : attrL l = some (a, r)) : r.length < l.length := by
 unfold attrL at h
 have u1 := up_down l [9, 10, 12, 32, 61, 47, 62]
 have v1 := congrArg List.length u1
 have s1 := sk_le (downL l [9, 10, 12, 32, 61, 47, 62])
 have s2 := sk_le ((skB (downL l [9, 10, 12, 32, 61, 47, 62])).drop 1)
 simp only [List.length_append, List.length_drop] at v1 s2
 split at h
 ·cases h
 ·rename_i hne
  have hpos : 0 < (upL l [9, 10, 12, 32, 61, 47, 62]).length := by
   cases hu : upL l [9, 10, 12, 32, 61, 47, 62] with
   | nil => rw [hu] at hne; simp at hne
   | cons _ _ => simp
  split at h
  ·split at h
   ·cases h
   ·rename_i v r' hv
    injection h with h; injection h with ha hb
    have := valueL_le hv
    rw [← hb]; omega
  ·injection h with h; injection h with ha hb
   rw [← hb]; omega
theorem attrsF_le : ∀ (n : Nat) (l : List UInt8) (al : List (List UInt8 × List UInt8)), (attrsF n l al).1 = 0 → (attrsF n l al).2.2.2.length < l.length
 | 0, _, _, h => by cases h
 | n + 1, l, al, h => by
   have s1 := sk_le l
   unfold attrsF at h ⊢
   split
   ·rename_i hp
    have := pre_le hp
    simp only [List.length_drop, List.length_cons, List.length_nil] at this ⊢
    omega
   ·rename_i h1
    rw [if_neg h1] at h
    split
    ·rename_i hp
     have := pre_le hp
     simp only [List.length_drop, List.length_cons, List.length_nil] at this ⊢
     omega
    ·rename_i h2
     rw [if_neg h2] at h
     split
     ·rename_i h3
      rw [if_pos h3] at h
      cases h
     ·rename_i h3
      rw [if_neg h3] at h
      cases ha : attrL (skB l) with
      | none => rw [ha] at h; cases h
      | some p =>
        obtain ⟨a, r⟩ := p
        rw [ha] at h
        simp only at h ⊢
        have hr := attrL_le ha
        split
        ·rename_i h4
         rw [if_pos h4] at h
         cases h
        ·rename_i h4
         rw [if_neg h4] at h
         have := attrsF_le n r (al ++ [a]) h
         omega
theorem attrsF_err : ∀ (n : Nat) (l : List UInt8) (al : List (List UInt8 × List UInt8)), (attrsF n l al).1 = 0 ∨ (attrsF n l al).1 = 3 ∨ (attrsF n l al).1 = 40 ∨ (attrsF n l al).1 = 41
 | 0, _, _ => .inr (.inl rfl)
 | n + 1, l, al => by
   unfold attrsF
   split
   ·exact .inl rfl
   ·split
    ·exact .inl rfl
    ·split
     ·exact .inr (.inr (.inl rfl))
     ·split
      ·exact .inr (.inr (.inr rfl))
      ·split
       ·exact .inr (.inr (.inr rfl))
       ·exact attrsF_err n _ _
theorem tagL_cases (kind : Nat) (l : List UInt8) : ((tagL kind l).1 = 0 ∧ (tagL kind l).2.2.length < l.length) ∨ (tagL kind l).1 = 3 ∨ (tagL kind l).1 = 40 ∨ (tagL kind l).1 = 41 := by
 unfold tagL
 have h0 := down_le l [9, 10, 12, 32, 47, 62]
 split
 ·exact .inr (.inr (.inl rfl))
 ·have h1 := attrsF_le 17 (downL l [9, 10, 12, 32, 47, 62]) []
  have h2 := attrsF_err 17 (downL l [9, 10, 12, 32, 47, 62]) []
  generalize attrsF 17 (downL l [9, 10, 12, 32, 47, 62]) [] = R at *
  obtain ⟨e, al, sf, r⟩ := R
  cases e with
  | zero => exact .inl ⟨rfl, by have := h1 rfl; simp only at this ⊢; omega⟩
  | succ e => simp only at h2 ⊢; omega
theorem endL_cases (l : List UInt8) : ((endL l).1 = 0 ∧ (endL l).2.2.length < l.length) ∨ (endL l).1 = 3 ∨ (endL l).1 = 40 ∨ (endL l).1 = 41 := by
 unfold endL
 have h := tagL_cases 2 l
 split
 ·exact .inr (.inr (.inl rfl))
 ·split
  ·exact .inr (.inr (.inl rfl))
  ·exact h
theorem cut_le (l s : List UInt8) (h : (Lib.cut l s).2.2 = true) : (Lib.cut l s).2.1.length ≤ l.length := by
 unfold Lib.cut at h ⊢
 split
 ·simp only [List.length_drop]; omega
 ·rename_i h1
  rw [if_neg h1] at h
  cases h
theorem oneL_cases (l : List UInt8) (hl : l ≠ []) : ((oneL l).1 = 0 ∧ (oneL l).2.2.length < l.length) ∨ (oneL l).1 = 3 ∨ (oneL l).1 = 40 ∨ (oneL l).1 = 41 ∨ (oneL l).1 = 43 := by
 have hpos : 0 < l.length := List.length_pos_iff.2 hl
 unfold oneL
 split
 ·refine .inl ⟨rfl, ?_⟩
  simp only [List.length_drop]; omega
 ·split
  ·have := tagL_cases 1 (l.drop 1)
   simp only [List.length_drop] at this; omega
  ·split
   ·have := endL_cases (l.drop 2)
    simp only [List.length_drop] at this; omega
   ·split
    ·unfold comL
     split
     ·exact .inr (.inr (.inr (.inr rfl)))
     ·rename_i h
      refine .inl ⟨rfl, ?_⟩
      have hc : (Lib.cut (l.drop 4) [45, 45, 62]).2.2 = true := by
       cases hc : (Lib.cut (l.drop 4) [45, 45, 62]).2.2 with
       | true => rfl
       | false => rw [hc] at h; simp at h
      have := cut_le _ _ hc
      simp only [List.length_drop] at this ⊢
      omega
    ·split
     ·unfold docL
      split
      ·rename_i hc
       refine .inl ⟨rfl, ?_⟩
       have := cut_le _ _ hc
       simp only [List.length_drop] at this ⊢
       omega
      ·exact .inr (.inr (.inr (.inr rfl)))
     ·exact .inr (.inr (.inr (.inr rfl)))
theorem toksF_fuel : ∀ (f g : Nat) (l : List UInt8), l.length ≤ f → l.length ≤ g → toksF f l = toksF g l
 | 0, 0, _, _, _ => rfl
 | 0, g + 1, l, h, _ => by
   cases l with
   | nil => rfl
   | cons _ _ => simp at h
 | f + 1, 0, l, _, h => by
   cases l with
   | nil => rfl
   | cons _ _ => simp at h
 | f + 1, g + 1, [], _, _ => rfl
 | f + 1, g + 1, c :: l, h1, h2 => by
   have hc := oneL_cases (c :: l) (by simp)
   simp only [List.length_cons] at h1 h2 hc
   unfold toksF
   split
   ·rename_i h0
    rw [toksF_fuel f g (oneL (c :: l)).2.2 (by omega) (by omega)]
   ·rfl
theorem toksL_nil : toksL [] = (0, 0, []) := rfl
theorem toksL_step (l : List UInt8) (hl : l ≠ []) : toksL l = if (oneL l).1 = 0 then (if (toksL (oneL l).2.2).1 = 0 then (0, 0, (oneL l).2.1 :: (toksL (oneL l).2.2).2.2) else ((toksL (oneL l).2.2).1, (toksL (oneL l).2.2).2.1, [])) else ((oneL l).1, l.length, []) := by
 cases l with
 | nil => exact absurd rfl hl
 | cons c l =>
   have hc := oneL_cases (c :: l) hl
   simp only [List.length_cons] at hc
   have h1 : toksL (c :: l) = toksF (l.length + 1) (c :: l) := rfl
   rw [h1]
   unfold toksF
   split
   ·rename_i h0
    rw [toksF_fuel l.length (oneL (c :: l)).2.2.length (oneL (c :: l)).2.2 (by omega) (Nat.le_refl _)]
    rfl
   ·rfl
end Go.Proofs.YtlcijlklbabajaaGreatDoor
namespace Go.Proofs.YtlcijlklbabajaaGreatDoor
def kindTab : List (List UInt8 × Nat) := [([100, 105, 118], 1), ([117, 108], 1), ([111, 108], 1), ([115, 101, 99, 116, 105, 111, 110], 1), ([97, 114, 116, 105, 99, 108, 101], 1), ([104, 101, 97, 100, 101, 114], 1), ([102, 111, 111, 116, 101, 114], 1), ([109, 97, 105, 110], 1), ([110, 97, 118], 1), ([97, 115, 105, 100, 101], 1), ([98, 108, 111, 99, 107, 113, 117, 111, 116, 101], 1), ([102, 105, 103, 117, 114, 101], 1), ([112], 2), ([108, 105], 3), ([104, 49], 4), ([104, 50], 4), ([104, 51], 4), ([104, 52], 4), ([104, 53], 4), ([104, 54], 4), ([115, 112, 97, 110], 5), ([98], 5), ([105], 5), ([101, 109], 5), ([115, 116, 114, 111, 110, 103], 5), ([117], 5), ([115], 5), ([115, 109, 97, 108, 108], 5), ([99, 111, 100, 101], 5), ([98, 100, 105], 5), ([98, 100, 111], 5), ([97, 98, 98, 114], 5), ([99, 105, 116, 101], 5), ([113], 5), ([115, 117, 98], 5), ([115, 117, 112], 5), ([109, 97, 114, 107], 5), ([97], 6), ([98, 114], 7), ([119, 98, 114], 7), ([104, 114], 8)]
/-- An element's kind; 0: none of the subset. -/
def kindL (w : List UInt8) : Nat := ((kindTab.find? fun p => p.1 == w).map (·.2)).getD 0
structure Nd where
 kind : Nat
 name : List UInt8
 attrs : List (List UInt8 × List UInt8)
 data : List UInt8
 up : Int
 kids : List Nat
deriving DecidableEq
/-- An open element. -/
structure Opn where
 node : Nat
 name : List UInt8
 kind : Nat
deriving DecidableEq
def Opn.doc : Opn := ⟨0, [], 0⟩
def voidK (k : Nat) : Bool := k == 7 || k == 8
def endsP (k : Nat) : Bool := (decide (1 ≤ k) && decide (k ≤ 4)) || k == 8
def endsToo (k a : Nat) : Bool := if k = 1 then a == 2 || a == 3 else if k = 3 then a == 2 else false
def wallO (o : Opn) : Bool := o.kind == 4 || (o.kind == 1 && o.name != [100, 105, 118])
/-- The top of what is open (the row has the top ahead, and the document not at all). -/
def topO (st : List Opn) : Opn := st.headD .doc
/-- Is an element of a kind open, as far as the first wall? -/
def hasO (k : Nat) (walls : Bool) : List Opn → Bool
 | [] => false
 | o :: t => if o.kind = k then true else if walls && wallO o then false else hasO k walls t
def admitsO (k : Nat) (st : List Opn) : Bool :=
 !((endsP k && hasO 2 false st) || (k == 3 && hasO 3 true st) || (k == 4 && (topO st).kind == 4) || (k == 6 && hasO 6 false st))
def closeS (k : Nat) (st : List Opn) : List Opn :=
 let st1 := if endsP k && (topO st).kind == 2 then st.tail else st
 if k == 3 && (topO st1).kind == 3 then st1.tail else st1
def closeE (nm : List UInt8) (st : List Opn) : Option (List Opn) :=
 let st1 := st.dropWhile fun o => endsToo (kindL nm) o.kind
 if (topO st1).name == nm then some st1.tail else none
structure Bd where
 tree : List Nd
 opn : List Opn
deriving DecidableEq
def Bd.new : Bd := ⟨[⟨0, [], [], [], -1, []⟩], []⟩
def addKid (t : List Nd) (up : Nat) (k : Nat) : List Nd := t.modify up fun n => { n with kids := n.kids ++ [k] }
/-- A node more, the last child of the current one. -/
def addN (b : Bd) (n : Nd) : Option Bd :=
 if 16384 ≤ b.tree.length then none
 else some { b with tree := addKid b.tree (topO b.opn).node b.tree.length ++ [{ n with up := ((topO b.opn).node : Int) }] }
def textB (b : Bd) (d : List UInt8) : Nat × Bd :=
 if d = [] then (0, b)
 else if (b.tree.getLastD ⟨0, [], [], [], -1, []⟩).kind == 2 && (b.tree.getLastD ⟨0, [], [], [], -1, []⟩).up == ((topO b.opn).node : Int) then
  (0, { b with tree := b.tree.modify (b.tree.length - 1) fun n => { n with data := n.data ++ d } })
 else match addN b ⟨2, [], [], d, 0, []⟩ with
  | none => (3, b)
  | some c => (0, c)
def startB (b : Bd) (t : Tk) : Nat × Bd :=
 if kindL t.name = 0 then (50, b)
 else if t.self && !voidK (kindL t.name) then (51, b)
 else if !admitsO (kindL t.name) (closeS (kindL t.name) b.opn) then (51, b)
 else if 200 ≤ (closeS (kindL t.name) b.opn).length then (52, b)
 else match addN { b with opn := closeS (kindL t.name) b.opn } ⟨1, t.name, t.attrs, [], 0, []⟩ with
  | none => (3, b)
  | some c => (0, if voidK (kindL t.name) then c else { c with opn := ⟨b.tree.length, t.name, kindL t.name⟩ :: c.opn })
def endB (b : Bd) (nm : List UInt8) : Nat × Bd :=
 if kindL nm = 0 then (50, b)
 else match closeE nm b.opn with
  | none => (51, b)
  | some st => (0, { b with opn := st })
def takeB (b : Bd) (t : Tk) (first : Bool) : Nat × Bd :=
 if t.kind = 5 then (if first then (0, b) else (51, b))
 else if t.kind = 3 then textB b t.data
 else if t.kind = 1 then startB b t
 else if t.kind = 2 then endB b t.name
 else (0, b)
/-- What tokens are built into: what is wrong, and the token's number; the tree. -/
def buildF : List Tk → Nat → Bd → Nat × Nat × List Nd
 | [], _, b => (0, 0, b.tree)
 | t :: l, i, b => if (takeB b t (i == 0)).1 = 0 then buildF l (i + 1) (takeB b t (i == 0)).2 else ((takeB b t (i == 0)).1, i, [])
def buildL (l : List Tk) : Nat × Nat × List Nd := buildF l 0 .new
theorem kindL_tab : ∀ p ∈ kindTab, kindL p.1 = p.2 := by decide +kernel
theorem kindL_le (w : List UInt8) : kindL w ≤ 8 := by
 unfold kindL
 cases h : kindTab.find? fun p => p.1 == w with
 | none => simp
 | some p =>
   have hm := List.mem_of_find?_eq_some h
   have : ∀ p ∈ kindTab, p.2 ≤ 8 := by decide +kernel
   simpa using this p hm
theorem kindL_nil : kindL [] = 0 := by decide +kernel
end Go.Proofs.YtlcijlklbabajaaGreatDoor
