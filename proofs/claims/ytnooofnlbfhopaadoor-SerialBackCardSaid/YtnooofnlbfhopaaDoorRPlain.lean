/-
  Which trees are right, plain, in the program's own order of asking. No Go in sight.
-/
import Derived.Test.YtnooofnlbfhopaaDoorBPlain
import Derived.Test.YtnooofnlbfhopaaDoorUCut
import Derived.Lib.ValidLaws
namespace Go.Proofs.YtnooofnlbfhopaaDoor
structure Nx where
  kind : Nat
  name : List UInt8
  attrs : List (List UInt8 × List UInt8)
  data : List UInt8
  up : Int
  kids : List Int
deriving DecidableEq
def docX (n : Nx) : Bool := n.kind == 0 && n.up == -1 && n.name == [] && n.attrs.length == 0 && n.data == []
def dataX (s : List UInt8) : Bool := Lib.validD s && decide (Lib.indexByte s 0 < 0)
def nmC (c : UInt8) : Bool := (decide (97 ≤ c.toNat) && decide (c.toNat ≤ 122)) || (decide (48 ≤ c.toNat) && decide (c.toNat ≤ 57)) || c == 45 || c == 95
def nameX (s : List UInt8) : Bool := s != [] && s.all nmC
def textX (n : Nx) : Bool := n.name == [] && n.attrs.length == 0 && n.data != [] && dataX n.data
/-- The attributes from the k-th on. -/
def attrsX (l : List (List UInt8 × List UInt8)) : Bool := (List.range l.length).all fun i => nameX (l.getD i ([], [])).1 && !(l.take i).any (fun a => a.1 == (l.getD i ([], [])).1) && dataX (l.getD i ([], [])).2
def elemX (n : Nx) : Bool := !(kindL n.name == 0 || n.data != [] || decide (16 < n.attrs.length)) && attrsX n.attrs
def closeToX (up : Int) : List Opn → Option (List Opn)
  | [] => if up = 0 then some [] else none
  | o :: t => if (o.node : Int) = up then some (o :: t) else closeToX up t
def placesX : List Nx → Nat → Nx → List Opn → Bool
  | [], _, _, _ => true
  | n :: r, i, p, st =>
    match closeToX n.up st with
    | none => false
    | some s1 =>
      if n.kind = 2 then (if !textX n || (p.kind == 2 && p.up == n.up) then false else placesX r (i + 1) n s1)
      else if n.kind = 1 then (if !elemX n || decide (200 ≤ s1.length) || !admitsO (kindL n.name) s1 then false
        else placesX r (i + 1) n (if voidK (kindL n.name) then s1 else ⟨i, n.name, kindL n.name⟩ :: s1))
      else false
/-- The nodes whose parent a node is, among the first n. -/
def ofUp (t : List Nx) (n : Nat) (u : Nat) : List Int := ((List.range n).filter fun i => decide (1 ≤ i) && (t.getD i ⟨0, [], [], [], 0, []⟩).up == (u : Int)).map fun (i : Nat) => (i : Int)
def kidsX (t : List Nx) : Bool := (List.range t.length).all fun u => (t.getD u ⟨0, [], [], [], 0, []⟩).kids == ofUp t t.length u
def rightX (t : List Nx) : Bool :=
  match t with
  | [] => false
  | d :: r => decide ((d :: r).length ≤ 16384) && docX d && placesX r 1 d [] && kidsX (d :: r)
theorem attrs_step {l : List (List UInt8 × List UInt8)} {k : Nat} : ((List.range (k + 1)).all fun i => nameX (l.getD i ([], [])).1 && !(l.take i).any (fun a => a.1 == (l.getD i ([], [])).1) && dataX (l.getD i ([], [])).2) =
    (((List.range k).all fun i => nameX (l.getD i ([], [])).1 && !(l.take i).any (fun a => a.1 == (l.getD i ([], [])).1) && dataX (l.getD i ([], [])).2) && (nameX (l.getD k ([], [])).1 && !(l.take k).any (fun a => a.1 == (l.getD k ([], [])).1) && dataX (l.getD k ([], [])).2)) := by
  rw [List.range_succ, List.all_append]
  simp
end Go.Proofs.YtnooofnlbfhopaaDoor
