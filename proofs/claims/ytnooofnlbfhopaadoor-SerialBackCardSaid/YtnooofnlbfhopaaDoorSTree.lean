/-
  Package serial's page: writeTree. Conditions: the tree lies below the page; each child lies behind its parent; sizes are bounded.
-/
import Derived.Test.YtnooofnlbfhopaaDoorSNodeE
namespace Go.Proofs.YtnooofnlbfhopaaDoor.Pg
open Go.RowKit
/-- What a node, with all that is within it, writes; f bounds the depth. -/
def nodeF (ts : List Nx) : Nat → Pst → Nat → Pst
  | 0, st, _ => st
  | f + 1, st, i => match ts[i]? with
    | none => st
    | some n => if n.kind = 1 then endP (n.kids.foldl (fun s k => nodeF ts f s k.toNat) (startP st n.name n.attrs)) n.name else if n.kind = 2 then n.kids.foldl (fun s k => nodeF ts f s k.toNat) (wrE false st n.data) else n.kids.foldl (fun s k => nodeF ts f s k.toNat) st
theorem nodeF_at {ts : List Nx} {f i : Nat} {st : Pst} {n : Nx} (h : ts[i]? = some n) : nodeF ts (f + 1) st i = if n.kind = 1 then endP (n.kids.foldl (fun s k => nodeF ts f s k.toNat) (startP st n.name n.attrs)) n.name else if n.kind = 2 then n.kids.foldl (fun s k => nodeF ts f s k.toNat) (wrE false st n.data) else n.kids.foldl (fun s k => nodeF ts f s k.toNat) st := by
  conv => lhs; unfold nodeF
  rw [h]
structure TreeOk (ns : List NxM) : Prop where
  ok : ∀ p ∈ ns, NxOk p.1
  kids : ∀ p ∈ ns, p.1.kids.length ≤ 1000000000
  attrs : ∀ p ∈ ns, p.1.attrs.length ≤ 1000000
  up : ∀ i (hi : i < ns.length), ∀ k ∈ ns[i].1.kids, (i : Int) < k ∧ k < (ns.length : Int)
theorem node_all {B b g1 g2 g3 : Nat} {x : Addr} {c : Nat} {ns : List NxM} {w0 : World} (hB : B = w0.heap.size) (ht : HasTree w0 (some x) ns) (hok : TreeOk ns) : ∀ f i, i < ns.length → ns.length - i ≤ f → NodeC B b g1 g2 g3 (some x) ns.length c w0 (nodeF (ns.map (·.1)) f) i
  | 0, i, h1, h2 => by omega
  | f + 1, i, h1, h2 => by
    intro st w h hx hw
    have hm := List.getElem_mem h1
    have e : (ns.map (·.1))[i]? = some ns[i].1 := by rw [List.getElem?_map, List.getElem?_eq_getElem h1]; rfl
    have hIH : ∀ k, i < k → k < ns.length → NodeC B b g1 g2 g3 (some x) ns.length c w0 (nodeF (ns.map (·.1)) f) k := fun k h3 h4 => node_all hB ht hok f k h4 (by omega)
    rw [nodeF_at e]
    by_cases k1 : ns[i].1.kind = 1
    · rw [if_pos k1]
      exact node_elem _ i h1 hB ht (hok.kids _ hm) (hok.up i h1) hIH (hok.ok _ hm) (hok.attrs _ hm) k1 st w h hx hw
    · rw [if_neg k1]
      by_cases k2 : ns[i].1.kind = 2
      · rw [if_pos k2]
        exact node_text _ i h1 hB ht (hok.kids _ hm) (hok.up i h1) hIH (hok.ok _ hm) k2 st w h hx hw
      · rw [if_neg k2]
        exact node_other _ i h1 hB ht (hok.kids _ hm) (hok.up i h1) hIH k1 k2 st w h hx hw
set_option maxHeartbeats 2000000 in
set_option maxRecDepth 100000 in
theorem writeTree_any {B b : Nat} {x : Addr} {c : Nat} {ns : List NxM} {w0 : World} (hB : B = w0.heap.size) (ht : HasTree w0 (some x) ns) (hok : TreeOk ns) (hne : 0 < ns.length) (st : Pst) (w : World) (h : PageM B b st w) (hw : Below B w0 w) :
    Calls Tryd.prog 27 #[.pointer (some ⟨b, 0, none⟩), .slice (some x) ns.length c] w fun e w' => e = .returned (.tuple #[]) ∧ PageM B b (nodeF (ns.map (·.1)) ns.length st 0) w' ∧ DChg B b w w' := by
  have HN := hid_mk (fun g1 g2 g3 => node_all (b := b) (g1 := g1) (g2 := g2) (g3 := g3) (c := c) hB ht hok ns.length 0 hne (by omega))
  have H := hid_mk (And.intro h (And.intro hw hB))
  clear h hw hB ht hok hne
  have hst : ∀ (W : World) (a : Addr) (fn : Fn) (ts cs : Array Value) (m : Mode), (store a (.func fn ts cs) m).run Tryd.prog W = stored Tryd.prog W a (.func fn ts cs) m := fun W a fn ts cs m => run_store Tryd.prog W a _ m rfl
  go_enter Tryd.func27, Tryd.ntmps27
  go_wp2_with fail
  obtain ⟨o1, h1⟩ : ∃ o, o = Obj.cells #[.pointer (some ⟨b, 0, none⟩)] 70 (0, 0) := ⟨_, rfl⟩
  obtain ⟨o2, h2⟩ : ∃ o, o = Obj.cells #[.slice (some x) ns.length c] 37 (0, 0) := ⟨_, rfl⟩
  obtain ⟨o3, h3⟩ : ∃ o, o = Obj.cells #[.func (.func 38) #[] #[.pointer (some ⟨w.heap.size + 1, 0, none⟩), .pointer (some ⟨w.heap.size, 0, none⟩), .pointer (some ⟨w.heap.size + 1 + 1, 0, none⟩)]] 71 (0, 0) := ⟨_, rfl⟩
  rw [← h1, ← h2, ← h3]
  have z1 : (w.alloc o1).heap.size = w.heap.size + 1 := Array.size_push _
  have z2 : ((w.alloc o1).alloc o2).heap.size = w.heap.size + 1 + 1 := (Array.size_push _).trans (congrArg (· + 1) z1)
  have hb : Below w.heap.size w (((w.alloc o1).alloc o2).alloc o3) := (((Below.refl _ _).alloc (Nat.le_refl _) o1).alloc (by omega) o2).alloc (by omega) o3
  have n1 : (w.alloc o1).heap[w.heap.size]? = some o1 := heap_alloc_new _ _
  have n2 : ((w.alloc o1).alloc o2).heap[w.heap.size + 1]? = some o2 := by rw [← z1]; exact heap_alloc_new _ _
  have n3 : (((w.alloc o1).alloc o2).alloc o3).heap[w.heap.size + 1 + 1]? = some o3 := by rw [← z2]; exact heap_alloc_new _ _
  have hx : Bxs w.heap.size (w.heap.size + 1) (w.heap.size + 1 + 1) b (some x) ns.length c (((w.alloc o1).alloc o2).alloc o3) :=
    ⟨by rw [Below.heap_alloc _ _ _ (by omega), Below.heap_alloc _ _ _ (by omega), n1, h1], by rw [Below.heap_alloc _ _ _ (by omega), n2, h2], by rw [n3, h3]⟩
  have hc := HN.out w.heap.size (w.heap.size + 1) (w.heap.size + 1 + 1) st _ (H.out.1.below hb) hx (H.out.2.1.trans (hb.mono (by rw [H.out.2.2]; exact H.out.2.1.size)))
  rw [show ((0 : Nat) : Int) = 0 from rfl] at hc
  have HC := hid_mk hc
  have HB := hid_mk hb
  clear h1 h2 h3 z1 z2 hb n1 n2 n3 hx hc hst
  with_reducible refine HC.out.mono ?_
  rintro e1 w1 ⟨rfl, hp, hd⟩
  have HF := hid_mk (And.intro hp ((DChg.of (B := B) (b := b) HB.out).trans hd))
  clear hp hd HC
  go_wp2_with fail
  go_end0
  exact ⟨rfl, HF.out⟩
end Go.Proofs.YtnooofnlbfhopaaDoor.Pg
