/-
  A tree as it is read: the nodes' row, each one's attributes and children. No Go in sight; no condition.
-/
import Derived.Test.YtnooofnlbfhopaaDoorRPlain
import Derived.Test.YtnooofnlbfhopaaDoorRSm
import Derived.DataElems
namespace Go.Proofs.YtnooofnlbfhopaaDoor
open Go.RowKit
/-- Cells that can be read from an address on. -/
def HasRow (w : World) (a : Option Addr) (cs : List Value) : Prop :=
  cs = [] ∨ ∃ x, a = some x ∧ x.block < w.heap.size ∧ ∀ j u, cs[j]? = some u → w.cell? (x.add j) = some u
theorem addrBlock (x : Addr) (j : Nat) : (x.add j).block = x.block := by unfold Addr.add; split <;> rfl
theorem HasRow.below {w w' : World} {a : Option Addr} {cs : List Value} (h : HasRow w a cs) (hb : Below w.heap.size w w') : HasRow w' a cs := by
  rcases h with h | ⟨x, h1, h2, h3⟩
  · exact .inl h
  · exact .inr ⟨x, h1, Nat.lt_of_lt_of_le h2 hb.size, fun j u hu => by rw [hb.cell (p := x.add j) (by rw [addrBlock]; exact h2)]; exact h3 j u hu⟩
abbrev NxM := Nx × Value × Value
def nxF (p : NxM) : List Value := [.int .u8 (p.1.kind : Int), .string (strOf p.1.name), p.2.1, .string (strOf p.1.data), .int .i64 p.1.up, p.2.2]
def atF (a : List UInt8 × List UInt8) : List Value := [.string (strOf a.1), .string (strOf a.2)]
def HasAt (w : World) (v : Value) (l : List (List UInt8 × List UInt8)) : Prop := ∃ a c, v = .slice a l.length c ∧ l.length ≤ c ∧ HasRow w a (l.flatMap atF)
def HasInts (w : World) (v : Value) (l : List Int) : Prop := ∃ a c, v = .slice a l.length c ∧ HasRow w a (l.map (Value.int .i64))
structure HasTree (w : World) (a : Option Addr) (ns : List NxM) : Prop where
  row : HasRow w a (ns.flatMap nxF)
  attrs : ∀ p ∈ ns, HasAt w p.2.1 p.1.attrs
  kids : ∀ p ∈ ns, HasInts w p.2.2 p.1.kids
theorem HasAt.below {w w' : World} {v : Value} {l : List (List UInt8 × List UInt8)} (h : HasAt w v l) (hb : Below w.heap.size w w') : HasAt w' v l := by
  obtain ⟨a, c, h1, h2, h3⟩ := h
  exact ⟨a, c, h1, h2, h3.below hb⟩
theorem HasInts.below {w w' : World} {v : Value} {l : List Int} (h : HasInts w v l) (hb : Below w.heap.size w w') : HasInts w' v l := by
  obtain ⟨a, c, h1, h2⟩ := h
  exact ⟨a, c, h1, h2.below hb⟩
theorem HasTree.below {w w' : World} {a : Option Addr} {ns : List NxM} (h : HasTree w a ns) (hb : Below w.heap.size w w') : HasTree w' a ns :=
  ⟨h.row.below hb, fun p hp => (h.attrs p hp).below hb, fun p hp => (h.kids p hp).below hb⟩
theorem HasTree.cell {w : World} {a : Option Addr} {ns : List NxM} (h : HasTree w a ns) {k : Nat} (hk : k < ns.length) : ∃ x, a = some x ∧ x.block < w.heap.size ∧ ∀ j, j < 6 → w.cell? (x.add (k * 6 + j)) = (nxF ns[k])[j]? := by
  rcases h.row with h0 | ⟨x, h1, h2, h3⟩
  · have := congrArg List.length h0
    rw [flat_length nxF 6 (fun _ => rfl)] at this
    simp at this
    omega
  · refine ⟨x, h1, h2, fun j hj => ?_⟩
    have h4 := flat_get nxF 6 (fun _ => rfl) ns k j hk hj
    have h5 : j < (nxF ns[k]).length := hj
    rw [List.getElem?_eq_getElem h5] at h4 ⊢
    exact h3 _ _ h4
theorem HasRow.at2 {w : World} {a : Option Addr} {l : List (List UInt8 × List UInt8)} (h : HasRow w a (l.flatMap atF)) {k : Nat} (hk : k < l.length) : ∃ x, a = some x ∧ x.block < w.heap.size ∧ w.cell? (x.add (k * 2)) = some (.string (strOf l[k].1)) ∧ w.cell? (x.add (k * 2 + 1)) = some (.string (strOf l[k].2)) := by
  rcases h with h0 | ⟨x, h1, h2, h3⟩
  · have := congrArg List.length h0
    rw [flat_length atF 2 (fun _ => rfl)] at this
    simp at this
    omega
  · exact ⟨x, h1, h2, h3 _ _ (flat_get atF 2 (fun _ => rfl) l k 0 hk (by omega)), h3 _ _ (flat_get atF 2 (fun _ => rfl) l k 1 hk (by omega))⟩
theorem HasRow.ints {w : World} {a : Option Addr} {l : List Int} (h : HasRow w a (l.map (Value.int .i64))) {k : Nat} (hk : k < l.length) : ∃ x, a = some x ∧ x.block < w.heap.size ∧ w.cell? (x.add k) = some (.int .i64 l[k]) := by
  rcases h with h0 | ⟨x, h1, h2, h3⟩
  · have := congrArg List.length h0
    simp at this
    rw [this] at hk
    simp at hk
  · exact ⟨x, h1, h2, h3 k _ (by rw [List.getElem?_map, List.getElem?_eq_getElem hk]; rfl)⟩
end Go.Proofs.YtnooofnlbfhopaaDoor
