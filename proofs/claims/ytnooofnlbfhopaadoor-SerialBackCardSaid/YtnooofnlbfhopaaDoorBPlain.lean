/-
  Trees of package tree, plain: what tree tokens are built into, and which trees are right. No Go in sight.
-/
import Derived.Test.YtnooofnlbfhopaaDoorTPlain
namespace Go.Proofs.YtnooofnlbfhopaaDoor
def kindTab : List (List UInt8 × Nat) := [([100, 105, 118], 1), ([117, 108], 1), ([111, 108], 1), ([115, 101, 99, 116, 105, 111, 110], 1), ([97, 114, 116, 105, 99, 108, 101], 1), ([104, 101, 97, 100, 101, 114], 1), ([102, 111, 111, 116, 101, 114], 1), ([109, 97, 105, 110], 1), ([110, 97, 118], 1), ([97, 115, 105, 100, 101], 1), ([98, 108, 111, 99, 107, 113, 117, 111, 116, 101], 1), ([102, 105, 103, 117, 114, 101], 1), ([112], 2), ([108, 105], 3), ([104, 49], 4), ([104, 50], 4), ([104, 51], 4), ([104, 52], 4), ([104, 53], 4), ([104, 54], 4), ([115, 112, 97, 110], 5), ([98], 5), ([105], 5), ([101, 109], 5), ([115, 116, 114, 111, 110, 103], 5), ([117], 5), ([115], 5), ([115, 109, 97, 108, 108], 5), ([99, 111, 100, 101], 5), ([98, 100, 105], 5), ([98, 100, 111], 5), ([97, 98, 98, 114], 5), ([99, 105, 116, 101], 5), ([113], 5), ([115, 117, 98], 5), ([115, 117, 112], 5), ([109, 97, 114, 107], 5), ([97], 6), ([98, 114], 7), ([119, 98, 114], 7), ([104, 114], 8)]
/-- An element's kind; 0: none of the subset. -/
def kindL (w : List UInt8) : Nat := ((kindTab.find? fun p => p.1 == w).map (·.2)).getD 0
structure Nd where
  kind : Nat
  name : List UInt8
  attrs : List (List UInt8 × List UInt8)
  data : List UInt8
  up : Int
  kids : List Nat
deriving DecidableEq
/-- An open element. -/
structure Opn where
  node : Nat
  name : List UInt8
  kind : Nat
deriving DecidableEq
def Opn.doc : Opn := ⟨0, [], 0⟩
def voidK (k : Nat) : Bool := k == 7 || k == 8
def endsP (k : Nat) : Bool := (decide (1 ≤ k) && decide (k ≤ 4)) || k == 8
def endsToo (k a : Nat) : Bool := if k = 1 then a == 2 || a == 3 else if k = 3 then a == 2 else false
def wallO (o : Opn) : Bool := o.kind == 4 || (o.kind == 1 && o.name != [100, 105, 118])
/-- The top of what is open (the row has the top ahead, and the document not at all). -/
def topO (st : List Opn) : Opn := st.headD .doc
/-- Is an element of a kind open, as far as the first wall? -/
def hasO (k : Nat) (walls : Bool) : List Opn → Bool
  | [] => false
  | o :: t => if o.kind = k then true else if walls && wallO o then false else hasO k walls t
def admitsO (k : Nat) (st : List Opn) : Bool :=
  !((endsP k && hasO 2 false st) || (k == 3 && hasO 3 true st) || (k == 4 && (topO st).kind == 4) || (k == 6 && hasO 6 false st))
def closeS (k : Nat) (st : List Opn) : List Opn :=
  let st1 := if endsP k && (topO st).kind == 2 then st.tail else st
  if k == 3 && (topO st1).kind == 3 then st1.tail else st1
def closeE (nm : List UInt8) (st : List Opn) : Option (List Opn) :=
  let st1 := st.dropWhile fun o => endsToo (kindL nm) o.kind
  if (topO st1).name == nm then some st1.tail else none
structure Bd where
  tree : List Nd
  opn : List Opn
deriving DecidableEq
def Bd.new : Bd := ⟨[⟨0, [], [], [], -1, []⟩], []⟩
def addKid (t : List Nd) (up : Nat) (k : Nat) : List Nd := t.modify up fun n => { n with kids := n.kids ++ [k] }
/-- A node more, the last child of the current one. -/
def addN (b : Bd) (n : Nd) : Option Bd :=
  if 16384 ≤ b.tree.length then none
  else some { b with tree := addKid b.tree (topO b.opn).node b.tree.length ++ [{ n with up := ((topO b.opn).node : Int) }] }
def textB (b : Bd) (d : List UInt8) : Nat × Bd :=
  if d = [] then (0, b)
  else if (b.tree.getLastD ⟨0, [], [], [], -1, []⟩).kind == 2 && (b.tree.getLastD ⟨0, [], [], [], -1, []⟩).up == ((topO b.opn).node : Int) then
    (0, { b with tree := b.tree.modify (b.tree.length - 1) fun n => { n with data := n.data ++ d } })
  else match addN b ⟨2, [], [], d, 0, []⟩ with
    | none => (3, b)
    | some c => (0, c)
def startB (b : Bd) (t : Tk) : Nat × Bd :=
  if kindL t.name = 0 then (50, b)
  else if t.self && !voidK (kindL t.name) then (51, b)
  else if !admitsO (kindL t.name) (closeS (kindL t.name) b.opn) then (51, b)
  else if 200 ≤ (closeS (kindL t.name) b.opn).length then (52, b)
  else match addN { b with opn := closeS (kindL t.name) b.opn } ⟨1, t.name, t.attrs, [], 0, []⟩ with
    | none => (3, b)
    | some c => (0, if voidK (kindL t.name) then c else { c with opn := ⟨b.tree.length, t.name, kindL t.name⟩ :: c.opn })
def endB (b : Bd) (nm : List UInt8) : Nat × Bd :=
  if kindL nm = 0 then (50, b)
  else match closeE nm b.opn with
    | none => (51, b)
    | some st => (0, { b with opn := st })
def takeB (b : Bd) (t : Tk) (first : Bool) : Nat × Bd :=
  if t.kind = 5 then (if first then (0, b) else (51, b))
  else if t.kind = 3 then textB b t.data
  else if t.kind = 1 then startB b t
  else if t.kind = 2 then endB b t.name
  else (0, b)
/-- What tokens are built into: what is wrong, and the token's number; the tree. -/
def buildF : List Tk → Nat → Bd → Nat × Nat × List Nd
  | [], _, b => (0, 0, b.tree)
  | t :: l, i, b => if (takeB b t (i == 0)).1 = 0 then buildF l (i + 1) (takeB b t (i == 0)).2 else ((takeB b t (i == 0)).1, i, [])
def buildL (l : List Tk) : Nat × Nat × List Nd := buildF l 0 .new
theorem kindL_tab : ∀ p ∈ kindTab, kindL p.1 = p.2 := by decide +kernel
theorem kindL_le (w : List UInt8) : kindL w ≤ 8 := by
  unfold kindL
  cases h : kindTab.find? fun p => p.1 == w with
  | none => simp
  | some p =>
    have hm := List.mem_of_find?_eq_some h
    have : ∀ p ∈ kindTab, p.2 ≤ 8 := by decide +kernel
    simpa using this p hm
theorem kindL_nil : kindL [] = 0 := by decide +kernel
theorem build_one : buildL [⟨1, [117, 108], [], false, []⟩, ⟨1, [108, 105], [], false, []⟩, ⟨3, [], [], false, [97]⟩, ⟨1, [108, 105], [], false, []⟩, ⟨3, [], [], false, [98]⟩, ⟨2, [117, 108], [], false, []⟩] =
    (0, 0, [⟨0, [], [], [], -1, [1]⟩, ⟨1, [117, 108], [], [], 0, [2, 4]⟩, ⟨1, [108, 105], [], [], 1, [3]⟩, ⟨2, [], [], [97], 2, []⟩, ⟨1, [108, 105], [], [], 1, [5]⟩, ⟨2, [], [], [98], 4, []⟩]) := by decide +kernel
theorem build_two : buildL [⟨1, [98], [], false, []⟩, ⟨1, [112], [], false, []⟩, ⟨3, [], [], false, [120]⟩, ⟨2, [98], [], false, []⟩] = (51, 3, []) := by decide +kernel
end Go.Proofs.YtnooofnlbfhopaaDoor
