/-
  Which trees are right, plain, in the program's own order of asking. No Go in sight.
-/
import Derived.Test.YtlcijlklbabajaaGreatDoorQTBPl
import Derived.Test.YtlcijlklbabajaaGreatDoorQUCut
import Derived.Lib.ValidLaws
import Derived.Test.YtlcijlklbabajaaGreatDoorQWords
import Derived.Test.YtlcijlklbabajaaGreatDoorQFlEx
import Derived.DataElems
namespace Go.Proofs.YtlcijlklbabajaaGreatDoor
structure Nx where
 kind : Nat
 name : List UInt8
 attrs : List (List UInt8 × List UInt8)
 data : List UInt8
 up : Int
 kids : List Int
deriving DecidableEq
def docX (n : Nx) : Bool := n.kind == 0 && n.up == -1 && n.name == [] && n.attrs.length == 0 && n.data == []
def dataX (s : List UInt8) : Bool := Lib.validD s && decide (Lib.indexByte s 0 < 0)
def nmC (c : UInt8) : Bool := (decide (97 ≤ c.toNat) && decide (c.toNat ≤ 122)) || (decide (48 ≤ c.toNat) && decide (c.toNat ≤ 57)) || c == 45 || c == 95
def nameX (s : List UInt8) : Bool := s != [] && s.all nmC
def textX (n : Nx) : Bool := n.name == [] && n.attrs.length == 0 && n.data != [] && dataX n.data
/-- The attributes from the k-th on. -/
def attrsX (l : List (List UInt8 × List UInt8)) : Bool := (List.range l.length).all fun i => nameX (l.getD i ([], [])).1 && !(l.take i).any (fun a => a.1 == (l.getD i ([], [])).1) && dataX (l.getD i ([], [])).2
def elemX (n : Nx) : Bool := !(kindL n.name == 0 || n.data != [] || decide (16 < n.attrs.length)) && attrsX n.attrs
def closeToX (up : Int) : List Opn → Option (List Opn)
 | [] => if up = 0 then some [] else none
 | o :: t => if (o.node : Int) = up then some (o :: t) else closeToX up t
def placesX : List Nx → Nat → Nx → List Opn → Bool
 | [], _, _, _ => true
 | n :: r, i, p, st =>
   match closeToX n.up st with
   | none => false
   | some s1 =>
     if n.kind = 2 then (if !textX n || (p.kind == 2 && p.up == n.up) then false else placesX r (i + 1) n s1)
     else if n.kind = 1 then (if !elemX n || decide (200 ≤ s1.length) || !admitsO (kindL n.name) s1 then false
      else placesX r (i + 1) n (if voidK (kindL n.name) then s1 else ⟨i, n.name, kindL n.name⟩ :: s1))
     else false
/-- The nodes whose parent a node is, among the first n. -/
def ofUp (t : List Nx) (n : Nat) (u : Nat) : List Int := ((List.range n).filter fun i => decide (1 ≤ i) && (t.getD i ⟨0, [], [], [], 0, []⟩).up == (u : Int)).map fun (i : Nat) => (i : Int)
def kidsX (t : List Nx) : Bool := (List.range t.length).all fun u => (t.getD u ⟨0, [], [], [], 0, []⟩).kids == ofUp t t.length u
def rightX (t : List Nx) : Bool :=
 match t with
 | [] => false
 | d :: r => decide ((d :: r).length ≤ 16384) && docX d && placesX r 1 d [] && kidsX (d :: r)
end Go.Proofs.YtlcijlklbabajaaGreatDoor
namespace Go.Proofs.YtlcijlklbabajaaGreatDoor.R
open Go.RowKit
theorem ret_bool {a b : Bool} (h : a = b) : Ending.returned (.bool a) = .returned (.bool b) := by rw [h]
theorem toList_strOf (l : List UInt8) : (strOf l).toList = l := by rw [Lib.toList_data]; exact sl_strOf l
theorem own_kind {w : World} {base n size : Nat} {e : TypeId} {v : Value} {xs : List Value} (h : w.ownsRow base e size v n xs) {g : Nat} (hg : v.ownBlock = some g) : ∃ cs, w.heap[g]? = some (.cells cs e (0, 0)) := by
 rcases h.2 with ⟨rfl, _⟩ | ⟨g', cap, cur, rfl, h2, h3, _⟩
 ·cases hg
 ·have : g' = g := by simpa [Value.ownBlock] using hg
  subst this
  exact ⟨cur, h3⟩
theorem own_slice {w : World} {base n size : Nat} {e : TypeId} {v : Value} {xs : List Value} (h : w.ownsRow base e size v n xs) : ∃ a c, v = .slice a n c := by
 rcases h.2 with ⟨rfl, h0⟩ | ⟨g', cap, cur, rfl, _⟩
 ·exact ⟨none, 0, by rw [h0]⟩
 ·exact ⟨_, cap, rfl⟩
theorem own_blocks {w w' : World} {base n size : Nat} {e : TypeId} {v : Value} {xs : List Value} (h : w.ownsRow base e size v n xs) (hk : ∀ (g : Nat) (cs : Array Value), w.heap[g]? = some (.cells cs e (0, 0)) → w'.heap[g]? = some (.cells cs e (0, 0))) : w'.ownsRow base e size v n xs := by
 refine ⟨h.1, ?_⟩
 rcases h.2 with h2 | ⟨g, cap, cur, h1, h2, h3, h4⟩
 ·exact .inl h2
 ·exact .inr ⟨g, cap, cur, h1, h2, hk g cur h3, h4⟩
def Blk (g : Nat) (o : Obj) (w : World) : Prop := w.heap[g]? = some o
theorem Blk.setAt {g : Nat} {cs : Array Value} {t : TypeId} {fr : Nat × Nat} {w : World} (h : Blk g (.cells cs t fr) w) (j : Nat) (v : Value) : Blk g (.cells (cs.setIfInBounds j v) t fr) (w.setCell ⟨g, j, none⟩ v) := by
 unfold Blk at h ⊢
 show (w.heap.modify g _)[g]? = _
 rw [Array.getElem?_modify, if_pos rfl, h]
 rfl
end Go.Proofs.YtlcijlklbabajaaGreatDoor.R
namespace Go.Proofs.YtlcijlklbabajaaGreatDoor.R
open Go.RowKit
/-- Cells that can be read from an address on. -/
def HasRow (w : World) (a : Option Addr) (cs : List Value) : Prop :=
 cs = [] ∨ ∃ x, a = some x ∧ x.block < w.heap.size ∧ ∀ j u, cs[j]? = some u → w.cell? (x.add j) = some u
theorem addrBlock (x : Addr) (j : Nat) : (x.add j).block = x.block := by unfold Addr.add; split <;> rfl
theorem HasRow.below {w w' : World} {a : Option Addr} {cs : List Value} (h : HasRow w a cs) (hb : Below w.heap.size w w') : HasRow w' a cs := by
 rcases h with h | ⟨x, h1, h2, h3⟩
 ·exact .inl h
 ·exact .inr ⟨x, h1, Nat.lt_of_lt_of_le h2 hb.size, fun j u hu => by rw [hb.cell (p := x.add j) (by rw [addrBlock]; exact h2)]; exact h3 j u hu⟩
abbrev NxM := Nx × Value × Value
def nxF (p : NxM) : List Value := [.int .u8 (p.1.kind : Int), .string (strOf p.1.name), p.2.1, .string (strOf p.1.data), .int .i64 p.1.up, p.2.2]
def atF (a : List UInt8 × List UInt8) : List Value := [.string (strOf a.1), .string (strOf a.2)]
def HasAt (w : World) (v : Value) (l : List (List UInt8 × List UInt8)) : Prop := ∃ a c, v = .slice a l.length c ∧ l.length ≤ c ∧ HasRow w a (l.flatMap atF)
def HasInts (w : World) (v : Value) (l : List Int) : Prop := ∃ a c, v = .slice a l.length c ∧ HasRow w a (l.map (Value.int .i64))
structure HasTree (w : World) (a : Option Addr) (ns : List NxM) : Prop where
 row : HasRow w a (ns.flatMap nxF)
 attrs : ∀ p ∈ ns, HasAt w p.2.1 p.1.attrs
 kids : ∀ p ∈ ns, HasInts w p.2.2 p.1.kids
theorem HasAt.below {w w' : World} {v : Value} {l : List (List UInt8 × List UInt8)} (h : HasAt w v l) (hb : Below w.heap.size w w') : HasAt w' v l := by
 obtain ⟨a, c, h1, h2, h3⟩ := h
 exact ⟨a, c, h1, h2, h3.below hb⟩
theorem HasInts.below {w w' : World} {v : Value} {l : List Int} (h : HasInts w v l) (hb : Below w.heap.size w w') : HasInts w' v l := by
 obtain ⟨a, c, h1, h2⟩ := h
 exact ⟨a, c, h1, h2.below hb⟩
theorem HasTree.below {w w' : World} {a : Option Addr} {ns : List NxM} (h : HasTree w a ns) (hb : Below w.heap.size w w') : HasTree w' a ns :=
 ⟨h.row.below hb, fun p hp => (h.attrs p hp).below hb, fun p hp => (h.kids p hp).below hb⟩
theorem HasTree.cell {w : World} {a : Option Addr} {ns : List NxM} (h : HasTree w a ns) {k : Nat} (hk : k < ns.length) : ∃ x, a = some x ∧ x.block < w.heap.size ∧ ∀ j, j < 6 → w.cell? (x.add (k * 6 + j)) = (nxF ns[k])[j]? := by
 rcases h.row with h0 | ⟨x, h1, h2, h3⟩
 ·have := congrArg List.length h0
  rw [flat_length nxF 6 (fun _ => rfl)] at this
  simp at this
  omega
 ·refine ⟨x, h1, h2, fun j hj => ?_⟩
  have h4 := flat_get nxF 6 (fun _ => rfl) ns k j hk hj
  have h5 : j < (nxF ns[k]).length := hj
  rw [List.getElem?_eq_getElem h5] at h4 ⊢
  exact h3 _ _ h4
theorem HasRow.at2 {w : World} {a : Option Addr} {l : List (List UInt8 × List UInt8)} (h : HasRow w a (l.flatMap atF)) {k : Nat} (hk : k < l.length) : ∃ x, a = some x ∧ x.block < w.heap.size ∧ w.cell? (x.add (k * 2)) = some (.string (strOf l[k].1)) ∧ w.cell? (x.add (k * 2 + 1)) = some (.string (strOf l[k].2)) := by
 rcases h with h0 | ⟨x, h1, h2, h3⟩
 ·have := congrArg List.length h0
  rw [flat_length atF 2 (fun _ => rfl)] at this
  simp at this
  omega
 ·exact ⟨x, h1, h2, h3 _ _ (flat_get atF 2 (fun _ => rfl) l k 0 hk (by omega)), h3 _ _ (flat_get atF 2 (fun _ => rfl) l k 1 hk (by omega))⟩
theorem HasRow.ints {w : World} {a : Option Addr} {l : List Int} (h : HasRow w a (l.map (Value.int .i64))) {k : Nat} (hk : k < l.length) : ∃ x, a = some x ∧ x.block < w.heap.size ∧ w.cell? (x.add k) = some (.int .i64 l[k]) := by
 rcases h with h0 | ⟨x, h1, h2, h3⟩
 ·have := congrArg List.length h0
  simp at this
  rw [this] at hk
  simp at hk
 ·exact ⟨x, h1, h2, h3 k _ (by rw [List.getElem?_map, List.getElem?_eq_getElem hk]; rfl)⟩
end Go.Proofs.YtlcijlklbabajaaGreatDoor.R
