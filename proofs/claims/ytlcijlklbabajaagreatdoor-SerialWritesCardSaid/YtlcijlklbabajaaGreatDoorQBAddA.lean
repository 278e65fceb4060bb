/-
  Package tree's add, in memory: a child more, a node more. No condition.
-/
import Derived.Test.YtlcijlklbabajaaGreatDoorQBDat
import Derived.Deep.RegionLaw
import Derived.Deep.AppendLies
import Derived.Deep.QuietTactic
import Derived.BigQuiet
namespace Go.Proofs.YtlcijlklbabajaaGreatDoor
open Go.RowKit
/-- A child more, and where its row lies. -/
def kidN (ns : List NdM) (up : Nat) (kv : Value) (k : Nat) : List NdM := ns.modify up fun p => ({ p.1 with kids := p.1.kids ++ [k] }, p.2.1, kv)
theorem kidN_set {ns : List NdM} {up k : Nat} {kv : Value} (h : up < ns.length) : kidN ns up kv k = ns.set up ({ (ns[up]).1 with kids := (ns[up]).1.kids ++ [k] }, (ns[up]).2.1, kv) := by
 unfold kidN
 apply List.ext_getElem?
 intro i
 rw [List.getElem?_set, List.getElem?_modify]
 by_cases e : up = i
 ·subst e
  simp [h]
 ·simp [e]
theorem kidF_snoc (l : List Nat) (k : Nat) : kidF (l ++ [k]) = kidF l ++ [.int .i64 (k : Int)] := by simp [kidF]
theorem TreeRow.addKid {B g cap up k : Nat} {ns : List NdM} {cur : Array Value} {kv : Value} {w w' : World} (h : TreeRow B (.slice (some ⟨g, 0, none⟩) ns.length cap) ns w) (hg : w.heap[g]? = some (.cells cur 38 (0, 0))) (hup : up < ns.length)
 (hgrow : w.grownBy w' (ns[up]).2.2.ownBlock) (hown : w'.ownsRow B 3 1 kv ((ns[up]).1.kids.length + 1) (kidF ((ns[up]).1.kids ++ [k]))) (hat : kv.ownBlock = (ns[up]).2.2.ownBlock ∨ ∃ q, kv.ownBlock = some q ∧ w.heap.size ≤ q) :
 TreeRow B (.slice (some ⟨g, 0, none⟩) ns.length cap) (kidN ns up kv k) (w'.setCell ⟨g, up * 6 + 5, none⟩ kv) := by
 have hkk := h.kids _ (List.getElem_mem hup)
 have hne : (ns[up]).2.2.ownBlock ≠ some g := own_ne hkk hg (by decide)
 have hrow' : w'.ownsRow B 38 6 (.slice (some ⟨g, 0, none⟩) ns.length cap) ns.length (ns.flatMap ndF) := World.ownsRow.kept h.row hgrow (.inr (fun e => hne e.symm))
 have hg' : w'.heap[g]? = some (.cells cur 38 (0, 0)) := (hgrow.block g (Array.getElem?_eq_some_iff.1 hg).1 (fun e => hne e.symm)).trans hg
 have keeps : ∀ e : TypeId, e ≠ 38 → ∀ (q : Nat) (cs : Array Value), w'.heap[q]? = some (.cells cs e (0, 0)) → (w'.setCell ⟨g, up * 6 + 5, none⟩ kv).heap[q]? = some (.cells cs e (0, 0)) := by
  intro e he q cs hq
  rw [Below.heap_setCell _ _ _ _ (fun e2 => ?_)]
  ·exact hq
  ·subst e2
   rw [hg'] at hq
   injection hq with hq
   injection hq with _ hq _
   exact he hq.symm
 have hlen : (kidN ns up kv k).length = ns.length := by unfold kidN; rw [List.length_modify]
 have hmem : ∀ p ∈ kidN ns up kv k, p = ({ (ns[up]).1 with kids := (ns[up]).1.kids ++ [k] }, (ns[up]).2.1, kv) ∨ ∃ i, ∃ hi : i < ns.length, i ≠ up ∧ p = ns[i] := by
  intro p hp
  rw [kidN_set hup] at hp
  obtain ⟨i, hi, rfl⟩ := List.mem_iff_getElem.1 hp
  rw [List.getElem_set]
  rw [List.length_set] at hi
  split
  ·exact .inl rfl
  ·exact .inr ⟨i, hi, fun e => by omega, rfl⟩
 have hap : ∀ i (hi : i < ns.length), i ≠ up → (ns[i]).2.2.ownBlock = none ∨ (ns[i]).2.2.ownBlock ≠ (ns[up]).2.2.ownBlock := by
  intro i hi hiu
  have hpw := List.pairwise_iff_getElem.1 h.apart
  rcases Nat.lt_or_gt_of_ne hiu with hlt | hlt
  ·exact hpw i up hi hup hlt
  ·rcases hpw up i hup hi hlt with hh | hh
   ·by_cases hn : (ns[i]).2.2.ownBlock = none
    ·exact .inl hn
    ·exact .inr (by rw [hh]; exact hn)
   ·exact .inr (fun e => hh e.symm)
 have hold : ∀ i (hi : i < ns.length) q, (ns[i]).2.2.ownBlock = some q → q < w.heap.size := by
  intro i hi q hq
  obtain ⟨cs, hcs⟩ := own_kind (h.kids _ (List.getElem_mem hi)) hq
  exact (Array.getElem?_eq_some_iff.1 hcs).1
 have hapk : ∀ i (hi : i < ns.length), i ≠ up → (ns[i]).2.2.ownBlock = none ∨ (ns[i]).2.2.ownBlock ≠ kv.ownBlock := by
  intro i hi hiu
  rcases hat with e | ⟨q, e, hq⟩
  ·rw [e]
   exact hap i hi hiu
  ·by_cases hn : (ns[i]).2.2.ownBlock = none
   ·exact .inl hn
   ·refine .inr (fun e2 => ?_)
    have := hold i hi q (e2.trans e)
    omega
 refine ⟨?_, fun p hp => ?_, fun p hp => ?_, ?_⟩
 ·have h1 := own_set hrow' (up * 6 + 5) kv
  have h2 := flat_set ndF 6 (fun _ => rfl) ns up 5 ({ (ns[up]).1 with kids := (ns[up]).1.kids ++ [k] }, (ns[up]).2.1, kv) kv hup (by decide) rfl
  rw [h2, ← kidN_set hup] at h1
  rw [hlen]
  exact h1
 ·have hatr : ∀ i (hi : i < ns.length), AtRow B (ns[i]).2.1 (ns[i]).1.attrs (w'.setCell ⟨g, up * 6 + 5, none⟩ kv) := by
   intro i hi
   have ha := h.attrs _ (List.getElem_mem hi)
   refine own_blocks (World.ownsRow.kept ha hgrow ?_) (keeps _ (by decide))
   cases hq : (ns[i]).2.1.ownBlock with
   | none => exact .inl rfl
   | some q =>
     refine .inr (fun e => ?_)
     obtain ⟨c1, h1⟩ := own_kind ha hq
     obtain ⟨c2, h2⟩ := own_kind hkk e.symm
     rw [h1] at h2
     injection h2 with h2
     injection h2 with _ h2 _
     exact absurd h2 (by decide)
  rcases hmem p hp with rfl | ⟨i, hi, _, rfl⟩
  ·exact hatr up hup
  ·exact hatr i hi
 ·rcases hmem p hp with rfl | ⟨i, hi, hiu, rfl⟩
  ·refine own_blocks ?_ (keeps _ (by decide))
   rw [List.length_append]
   exact hown
  ·refine own_blocks (World.ownsRow.kept (h.kids _ (List.getElem_mem hi)) hgrow ?_) (keeps _ (by decide))
   exact hap i hi hiu
 ·rw [kidN_set hup]
  refine List.pairwise_iff_getElem.2 (fun i j hi hj hij => ?_)
  rw [List.length_set] at hi hj
  rw [List.getElem_set, List.getElem_set]
  by_cases e1 : up = i
  ·rw [if_pos e1, if_neg (by omega)]
   rcases hapk j hj (by omega) with hh | hh
   ·by_cases hn : kv.ownBlock = none
    ·exact .inl hn
    ·exact .inr (by show kv.ownBlock ≠ _; rw [hh]; exact hn)
   ·exact .inr (fun e => hh e.symm)
  ·rw [if_neg e1]
   by_cases e2 : up = j
   ·rw [if_pos e2]
    exact hapk i hi (by omega)
   ·rw [if_neg e2]
    exact List.pairwise_iff_getElem.1 h.apart i j hi hj hij
theorem TreeRow.addNode {B : Nat} {v v' : Value} {ns : List NdM} {p : NdM} {w w' : World} (h : TreeRow B v ns w) (hgrow : w.grownBy w' v.ownBlock) (hown : w'.ownsRow B 38 6 v' (ns.length + 1) (ns.flatMap ndF ++ ndF p)) (ha : AtRow B p.2.1 p.1.attrs w) (hk : p.2.2 = .slice none 0 0) (hk2 : p.1.kids = []) : TreeRow B v' (ns ++ [p]) w' := by
 have hkeep : ∀ (e : TypeId), e ≠ 38 → ∀ (q : Nat) (cs : Array Value), w.heap[q]? = some (.cells cs e (0, 0)) → w'.heap[q]? = some (.cells cs e (0, 0)) := by
  intro e he q cs hq
  refine (hgrow.block q (Array.getElem?_eq_some_iff.1 hq).1 (fun e2 => ?_)).trans hq
  exact own_ne h.row hq (fun e3 => he e3.symm) e2.symm
 refine ⟨?_, fun q hq => ?_, fun q hq => ?_, ?_⟩
 ·rw [List.length_append, List.flatMap_append]
  simpa using hown
 ·rcases List.mem_append.1 hq with hq | hq
  ·exact own_blocks (h.attrs q hq) (hkeep _ (by decide))
  ·rw [List.mem_singleton.1 hq]
   exact own_blocks ha (hkeep _ (by decide))
 ·rcases List.mem_append.1 hq with hq | hq
  ·exact own_blocks (h.kids q hq) (hkeep _ (by decide))
  ·rw [List.mem_singleton.1 hq, hk, hk2]
   exact World.ownsRow_nil _ _ _ _
 ·refine List.pairwise_append.2 ⟨h.apart, List.pairwise_singleton .., fun a ha2 c hc => ?_⟩
  rw [List.mem_singleton.1 hc, hk]
  by_cases hn : a.2.2.ownBlock = none
  ·exact .inl hn
  ·exact .inr hn
theorem TreeRow.addKid' {B g cap up k : Nat} {ns : List NdM} {m : NdM} {cur : Array Value} {kv : Value} {w w' : World} (h : TreeRow B (.slice (some ⟨g, 0, none⟩) ns.length cap) ns w) (hg : w.heap[g]? = some (.cells cur 38 (0, 0))) (hm : ns[up]? = some m)
 (hgrow : w.grownBy w' m.2.2.ownBlock) (hown : w'.ownsRow B 3 1 kv (m.1.kids.length + 1) (kidF (m.1.kids ++ [k]))) (hat : kv.ownBlock = m.2.2.ownBlock ∨ ∃ q, kv.ownBlock = some q ∧ w.heap.size ≤ q) :
 TreeRow B (.slice (some ⟨g, 0, none⟩) ns.length cap) (kidN ns up kv k) (w'.setCell ⟨g, up * 6 + 5, none⟩ kv) := by
 obtain ⟨hup, rfl⟩ := List.getElem?_eq_some_iff.1 hm
 exact h.addKid hg hup hgrow hown hat
theorem TreeRow.setOther {B g n cap N j : Nat} {u : Value} {ns : List NdM} {cN : Array Value} {w : World} (h : TreeRow B (.slice (some ⟨g, 0, none⟩) n cap) ns w) (hN : w.heap[N]? = some (.cells cN 38 (0, 0))) (hne : g ≠ N) : TreeRow B (.slice (some ⟨g, 0, none⟩) n cap) ns (w.setCell ⟨N, j, none⟩ u) := by
 have hg : w.grownBy (w.setCell ⟨N, j, none⟩ u) (some N) := ⟨rfl, rfl, rfl, by rw [World.size_setCell]; exact Nat.le_refl _, fun k _ hk => Below.heap_setCell _ _ _ _ (fun e => hk (by rw [e]))⟩
 refine ⟨World.ownsRow.kept h.row hg (.inr (fun e => hne (by injection e))), fun p hp => World.ownsRow.kept (h.attrs p hp) hg (.inr (own_ne (h.attrs p hp) hN (by decide))), fun p hp => World.ownsRow.kept (h.kids p hp) hg (.inr (own_ne (h.kids p hp) hN (by decide))), h.apart⟩
theorem own_blocksF {w w' : World} {base n : Nat} {v : Value} {xs : List Value} (h : w.ownsRowF base 5 1 v n xs) (hk : ∀ (q : Nat) (cs : Array Value) (fr : Nat × Nat), w.heap[q]? = some (.cells cs 5 fr) → w'.heap[q]? = some (.cells cs 5 fr)) : w'.ownsRowF base 5 1 v n xs := by
 refine ⟨h.1, ?_⟩
 rcases h.2 with h2 | ⟨g, cap, cur, fz, h1, h2, h3, h4⟩
 ·exact .inl h2
 ·exact .inr ⟨g, cap, cur, fz, h1, h2, hk g _ _ h3, h4⟩
theorem grown_low {B : Nat} {w w' : World} {row : Option Nat} (h : w.grownBy w' row) (hr : ∀ k, row = some k → B ≤ k) (hB : B ≤ w.heap.size) : Below B w w' :=
 ⟨h.os, h.tape, h.output, h.size, fun k hk => h.block k (by omega) (fun e => by have := hr k e.symm; omega)⟩
/-- What is neither nodes, nor their children's rows, nor a builder, has stayed. -/
def Stay (w w' : World) : Prop := ∀ (q : Nat) (cs : Array Value) (e : TypeId) (fr : Nat × Nat), e ≠ 38 → e ≠ 3 → e ≠ 94 → w.heap[q]? = some (.cells cs e fr) → w'.heap[q]? = some (.cells cs e fr)
theorem Stay.trans {x y z : World} (h : Stay x y) (k : Stay y z) : Stay x z := fun q cs e fr h1 h2 h3 h4 => k q cs e fr h1 h2 h3 (h q cs e fr h1 h2 h3 h4)
theorem Stay.of {w w' : World} (h : Below w.heap.size w w') : Stay w w' := fun q _ _ _ _ _ _ h4 => (h.block q (Array.getElem?_eq_some_iff.1 h4).1).trans h4
theorem Stay.set {w : World} {g : Nat} {cs : Array Value} {e : TypeId} {fr : Nat × Nat} (h : w.heap[g]? = some (.cells cs e fr)) (he : e = 38 ∨ e = 94) (j : Nat) (u : Value) : Stay w (w.setCell ⟨g, j, none⟩ u) := by
 intro q cq eq fq h1 _ h3 h4
 rw [Below.heap_setCell _ _ _ _ (fun e2 => ?_)]
 ·exact h4
 ·subst e2
  rw [h] at h4
  injection h4 with h4
  injection h4 with _ h4 _
  rcases he with he | he
  ·exact h1 (h4.symm.trans he)
  ·exact h3 (h4.symm.trans he)
theorem Stay.grown {w w' : World} {base n size : Nat} {e : TypeId} {v : Value} {xs : List Value} (h : w.ownsRow base e size v n xs) (he : e = 38 ∨ e = 3) (hg : w.grownBy w' v.ownBlock) : Stay w w' := by
 intro q cq eq fq h1 h2 _ h4
 refine (hg.block q (Array.getElem?_eq_some_iff.1 h4).1 (fun e2 => ?_)).trans h4
 refine own_ne h h4 (fun e3 => ?_) e2.symm
 rcases he with he | he
 ·exact h1 (e3.symm.trans he)
 ·exact h2 (e3.symm.trans he)
theorem bd_done {B b : Nat} {cs1 : Array Value} {ns : List NdM} {st : List Opn} {bs : List UInt8} {w1 w' : World} {tv : Value} (hd : DataAt B b cs1 bs w1) (hs : StackAt B b 1 cs1 94 st w1) (hk : Stay w1 w') (hb : w'.heap[b]? = some (.cells (cs1.setIfInBounds 0 tv) 94 (0, 0))) (ht : TreeRow B tv ns w') (hpos : 0 < ns.length) : BdM B b ns st bs w' := by
 obtain ⟨h1, h2, h3, h4, v, h5, h6⟩ := hd
 obtain ⟨k1, k2, k3, sv, k4, k5⟩ := hs
 have far : ∀ j, j ≠ 0 → (cs1.setIfInBounds 0 tv)[j]? = cs1[j]? := fun j hj => Array.getElem?_setIfInBounds_ne (fun e => hj e.symm)
 refine ⟨cs1.setIfInBounds 0 tv, tv, ⟨hb, by rw [Array.size_setIfInBounds]; exact h2, h3, ?_, v, (far 3 (by decide)).trans h5, own_blocksF h6 (fun q cs fr => hk q cs _ fr (by decide) (by decide) (by decide))⟩, Array.getElem?_setIfInBounds_self_of_lt (by omega), ht, ⟨hb, k2, k3, sv, (far 1 (by decide)).trans k4, own_blocks k5 (fun q cs => hk q cs _ _ (by decide) (by decide) (by decide))⟩, hpos⟩
 rw [far 2 (by decide)]
 exact h4
theorem TreeRow.setB {B b : Nat} {v : Value} {ns : List NdM} {cb : Array Value} {fb : Nat × Nat} {w : World} (h : TreeRow B v ns w) (hb : w.heap[b]? = some (.cells cb 94 fb)) (j : Nat) (u : Value) : TreeRow B v ns (w.setCell ⟨b, j, none⟩ u) :=
 h.schg hb (SChg.set w j u)
/-- Rows of what is open have stayed. -/
def Hop (w w' : World) : Prop := ∀ (q : Nat) (cs : Array Value) (fr : Nat × Nat), w.heap[q]? = some (.cells cs 119 fr) → w'.heap[q]? = some (.cells cs 119 fr)
theorem Hop.trans {x y z : World} (h : Hop x y) (k : Hop y z) : Hop x z := fun q cs fr h1 => k q cs fr (h q cs fr h1)
theorem Stay.hop {w w' : World} (h : Stay w w') : Hop w w' := fun q cs fr h1 => h q cs _ fr (by decide) (by decide) (by decide) h1
theorem Keep.hop {b g : Nat} {cb cg : Array Value} {w w' : World} (h : Keep b g w w') (hb : w.heap[b]? = some (.cells cb 94 (0, 0))) (hg : w.heap[g]? = some (.cells cg 38 (0, 0))) : Hop w w' := by
 intro q cs fr hq
 refine h.2 q _ hq ?_ ?_ ?_
 ·rintro rfl
  rw [hb] at hq
  injection hq with hq
  injection hq with _ hq _
  exact absurd hq (by decide)
 ·rintro rfl
  rw [hg] at hq
  injection hq with hq
  injection hq with _ hq _
  exact absurd hq (by decide)
 ·intro c2 f2 e
  injection e with _ e _
  exact absurd e (by decide)
end Go.Proofs.YtlcijlklbabajaaGreatDoor
namespace Go.Proofs.YtlcijlklbabajaaGreatDoor
open Go.RowKit
def nodeA (k : Nat) (nm : List UInt8) (av : Value) (dt : List UInt8) (up : Int) : Value := .agg #[.int .u8 (k : Int), .string (strOf nm), av, .string (strOf dt), .int .i64 up, .slice none 0 0]
def endNs (ns : List NdM) (bs : List UInt8) (p : NdM) : List NdM := if p.1.kind = 2 then endN ns bs else ns
def endBs (bs : List UInt8) (p : NdM) : List UInt8 := if p.1.kind = 2 then [] else bs
theorem endNs_length (ns : List NdM) (bs : List UInt8) (p : NdM) : (endNs ns bs p).length = ns.length := by
 unfold endNs endN
 split
 ·rw [List.length_modify]
 ·rfl
theorem AtRow.keep {B b g : Nat} {v : Value} {l : List Atr} {cb cg : Array Value} {w w' : World} (h : AtRow B v l w) (hb : w.heap[b]? = some (.cells cb 94 (0, 0))) (hg : w.heap[g]? = some (.cells cg 38 (0, 0))) (hk : Keep b g w w') : AtRow B v l w' := by
 refine own_blocks h (fun q cs hq => hk.2 q _ hq ?_ ?_ ?_)
 ·rintro rfl
  rw [hb] at hq
  injection hq with hq
  injection hq with _ hq _
  exact absurd hq (by decide)
 ·rintro rfl
  rw [hg] at hq
  injection hq with hq
  injection hq with _ hq _
  exact absurd hq (by decide)
 ·intro cs2 fr e
  injection e with _ e _
  exact absurd e (by decide)
set_option maxHeartbeats 4000000 in
set_option maxRecDepth 100000 in
theorem add_any {B b g cap : Nat} {cs : Array Value} {ns : List NdM} {st : List Opn} {bs : List UInt8} {w : World} (h : BdU B b cs g cap ns st bs w) (hn : ns.length ≤ 16384) (p : NdM) (hp : ns[ns.length - 1]? = some p) (h2 : p.1.kind = 2 → bs ≠ []) (hst : st.length ≤ 10000) (hup : (topO st).node < ns.length) (hks : ∀ q ∈ ns, q.1.kids.length ≤ 16384)
 (k : Nat) (nm dt : List UInt8) (l : List Atr) (av : Value) (u0 : Int) (hav : AtRow B av l w) (hB : B ≤ w.heap.size) :
 Calls Tryz.prog 101 #[.pointer (some ⟨b, 0, none⟩), nodeA k nm av dt u0] w fun e w' =>
  if 16384 ≤ ns.length then e = .returned (.int .i64 3) ∧ Below w.heap.size w w'
  else e = .returned (.int .i64 0) ∧ Below B w w' ∧ Hop w w' ∧ ∃ kv, BdM B b (kidN (endNs ns bs p) (topO st).node kv ns.length ++ [(⟨k, nm, l, dt, ((topO st).node : Int), []⟩, av, .slice none 0 0)]) st (endBs bs p) w' := by
 obtain ⟨aa, ac, rfl⟩ := own_slice hav
 obtain ⟨hd, htv, htr, hsk, hpos⟩ := h
 have hb1 := hd.1
 have c0 : w.cell? ⟨b, 0, none⟩ = some (.slice (some ⟨g, 0, none⟩) ns.length cap) := by rw [cell_of_row w b 0 _ _ _ hb1]; exact htv
 have hbl : b < w.heap.size := (Array.getElem?_eq_some_iff.1 hb1).1
 obtain ⟨g', cap', cur, hv, hBg, hg, hgz, hcap, _⟩ := htr.look hpos
 injection hv with hv _ hvc
 injection hv with hv
 injection hv with hv
 subst hv hvc
 have hgl : g < w.heap.size := (Array.getElem?_eq_some_iff.1 hg).1
 have hBb := hd.2.2.1
 obtain ⟨o, ho⟩ : ∃ o, o = topO st := ⟨_, rfl⟩
 rw [← ho] at hup ⊢
 obtain ⟨O, hO⟩ : ∃ O, O = Obj.cells #[.int .u8 (k : Int), .string (strOf nm), .slice aa l.length ac, .string (strOf dt), .int .i64 u0, .slice none 0 0] 38 (0, 0) := ⟨_, rfl⟩
 have hal : Below w.heap.size w (w.alloc O) := (Below.refl _ _).alloc (Nat.le_refl _) O
 have H := hid_mk (And.intro (BdU.below ⟨hd, htv, htr, hsk, hpos⟩ hal) (And.intro (hav.below hal) (And.intro hp (And.intro h2 (And.intro hup (And.intro hks (And.intro hst (And.intro hB (And.intro hal (And.intro hBg (And.intro hBb (And.intro hg hb1))))))))))))
 have HO := hid_mk hO.symm
 have HT := hid_mk ho
 obtain ⟨n, hnn⟩ : ∃ n, n = ns.length := ⟨_, rfl⟩
 have HN := hid_mk hnn
 rw [← hnn] at c0 hn
 unfold nodeA
 clear hd htv htr hsk hpos hb1 hav hp h2 hup hks hst hB hO hal hg hgz hcap hBg hBb ho
 by_cases hlim : 16384 ≤ ns.length
 ·simp only [if_pos hlim]
  rw [← hnn] at hlim
  have h3 : (16384 : Int) ≤ (n : Int) := by omega
  clear hnn
  go_enter Tryz.func101, Tryz.ntmps101
  go_wp2_with fail
  go_ret
  rw [HO.out]
  exact ⟨rfl, H.out.2.2.2.2.2.2.2.2.1⟩
 ·simp only [if_neg hlim]
  rw [← hnn] at hlim
  have h3 : ¬ (16384 : Int) ≤ (n : Int) := by omega
  have h4 : n ≤ 16383 := by omega
  have hn0 : 0 < n := by rw [hnn]; exact H.out.1.2.2.2.2
  clear hnn hlim hn
  go_enter Tryz.func101, Tryz.ntmps101
  go_wp2_with fail
  rw [HO.out]
  (with_reducible refine (endText_any H.out.1 (by rw [← HN.out]; omega) p H.out.2.2.1 H.out.2.2.2.1).mono ?_)
  rintro e w1 ⟨rfl, hlow, hke, hif⟩
  have hx : ∃ cs1, BdU B b cs1 g cap (endNs ns bs p) st (endBs bs p) w1 := by
   unfold endNs endBs
   by_cases hk : p.1.kind = 2
   ·rw [if_pos hk] at hif
    rw [if_pos hk, if_pos hk]
    exact hif
   ·rw [if_neg hk] at hif
    rw [if_neg hk, if_neg hk]
    exact ⟨cs, hif⟩
  clear hif
  obtain ⟨cs1, hbd⟩ := hx
  obtain ⟨hbu, hav, hp, h2, hup, hks, hst, hB, hal, hBg, hBb, hg, hb1⟩ := H.out
  have hN : w1.heap[w.heap.size]? = some O := by
   refine hke.2 _ _ (heap_alloc_new w O) (by omega) (by omega) ?_
   intro cs2 fr e
   rw [← HO.out] at e
   injection e with _ e _
   exact absurd e (by decide)
  rw [← HO.out] at hN
  obtain ⟨hd, htv, htr, hsk, hpos⟩ := hbd
  obtain ⟨k1, k2, k3, sv, k4, k5⟩ := hsk
  have hav1 : AtRow B (.slice aa l.length ac) l w1 := hav.keep ((hal.block b hbl).trans hb1) ((hal.block g hgl).trans hg) hke
  have c1 : w1.cell? ⟨b, 1, none⟩ = some sv := by rw [cell_of_row w1 b 1 _ _ _ hd.1]; exact k4
  have hlen := endNs_length ns bs p
  have hne : b ≠ w.heap.size := by omega
  have hsz1 : w.heap.size < w1.heap.size := (Array.getElem?_eq_some_iff.1 hN).1
  have hop1 : Hop w w1 := (Stay.of hal).hop.trans (hke.hop ((hal.block b hbl).trans hb1) ((hal.block g hgl).trans hg))
  have HOP := hid_mk hop1
  clear hop1
  have hlow' : Below B w w1 := ((hal.mono hB).trans hlow)
  have H1 := hid_mk (And.intro hd (And.intro htv (And.intro htr (And.intro k1 (And.intro k2 (And.intro k3 (And.intro k4 (And.intro k5 (And.intro hav1 (And.intro hlow' (And.intro hN (And.intro hBg (And.intro hBb (And.intro hup (And.intro hks (And.intro hst hB))))))))))))))))
  clear hbu hav hp h2 hup hks hst hB hal hBg hBb hg hb1 hd htv htr k1 k2 k3 k4 k5 hav1 hlow hlow' hke hN hpos
  clear c0
  go_wp2_with fail
  (with_reducible refine (top_any B sv st w1 H1.out.2.2.2.2.2.2.2.1 (by have := H1.out.2.2.2.2.2.2.2.2.2.2.2.2.2.2.2.1; omega)).mono ?_)
  rintro e w2 ⟨rfl, hb2⟩
  rw [← HT.out]
  unfold opA
  obtain ⟨hd, htv, htr, k1, k2, k3, k4, k5, hav1, hlow, hN, hBg, hBb, hup, hks, hst, hB⟩ := H1.out
  have hsz2 := hb2.size
  have hN2 : w2.heap[w.heap.size]? = some (Obj.cells #[.int .u8 (k : Int), .string (strOf nm), .slice aa l.length ac, .string (strOf dt), .int .i64 u0, .slice none 0 0] 38 (0, 0)) := (hb2.block _ hsz1).trans hN
  have fN4 : w2.frozen? ⟨w.heap.size, 4, none⟩ = false := Lib.frozen_of_heap hN2 _
  have kN4 : w2.cell? ⟨w.heap.size, 4, none⟩ = some (.int .i64 u0) := by rw [cell_of_row w2 _ 4 _ _ _ hN2]; rfl
  obtain ⟨w3, hw3⟩ : ∃ w3, w3 = w2.setCell ⟨w.heap.size, 4, none⟩ (.int .i64 (o.node : Int)) := ⟨_, rfl⟩
  have hN3 : w3.heap[w.heap.size]? = some (Obj.cells #[.int .u8 (k : Int), .string (strOf nm), .slice aa l.length ac, .string (strOf dt), .int .i64 (o.node : Int), .slice none 0 0] 38 (0, 0)) := by rw [hw3]; exact Blk.setAt hN2 4 _
  have hsz3 : w3.heap.size = w2.heap.size := by rw [hw3, World.size_setCell]
  have hfar : ∀ q, q ≠ w.heap.size → q < w1.heap.size → w3.heap[q]? = w1.heap[q]? := by
   intro q hq hq2
   rw [hw3, Below.heap_setCell _ _ _ _ hq]
   exact hb2.block q hq2
  obtain ⟨ms, hms⟩ : ∃ ms, ms = endNs ns bs p := ⟨_, rfl⟩
  rw [← hms] at htv htr hlen
  have hnm : n = ms.length := by rw [hlen]; exact HN.out
  have hgN : g ≠ w.heap.size := by omega
  obtain ⟨g', cap', cur1, hv, _, hg1, hgz, hcap, hc⟩ := htr.look (by omega)
  injection hv with hv _ hvc
  injection hv with hv
  injection hv with hv
  subst hv hvc
  have hgl1 : g < w1.heap.size := (Array.getElem?_eq_some_iff.1 hg1).1
  have hbl1 : b < w1.heap.size := (Array.getElem?_eq_some_iff.1 k1).1
  have hg3 : w3.heap[g]? = some (.cells cur1 38 (0, 0)) := (hfar g hgN hgl1).trans hg1
  have hb3 : w3.heap[b]? = some (.cells cs1 94 (0, 0)) := (hfar b hne hbl1).trans k1
  have hupm : o.node < ms.length := by omega
  have d0 : w3.cell? ⟨b, 0, none⟩ = some (.slice (some ⟨g, 0, none⟩) n cap) := by rw [cell_of_row w3 b 0 _ _ _ hb3, htv, hnm]
  have d4 : w3.cell? ⟨w.heap.size, 4, none⟩ = some (.int .i64 (o.node : Int)) := by rw [cell_of_row w3 _ 4 _ _ _ hN3]; rfl
  obtain ⟨m, hm⟩ : ∃ m, ms[o.node]? = some m := ⟨_, List.getElem?_eq_getElem hupm⟩
  have hmm : m ∈ ms := List.mem_of_getElem? hm
  have d5a : w3.cell? ⟨g, o.node * 6 + 5, none⟩ = some m.2.2 := by
   rw [cell_of_row w3 g _ _ _ _ hg3, ← cell_of_row w1 g _ _ _ _ hg1]
   have := hc o.node hupm 5 (by decide)
   rw [List.getElem?_eq_getElem hupm] at hm
   injection hm with hm
   rw [hm] at this
   exact this
  have fg5 : w3.frozen? ⟨g, o.node * 6 + 5, none⟩ = false := Lib.frozen_of_heap hg3 _
  have i0 : (0 : Int) ≤ (o.node : Int) := by omega
  have i1 : (o.node : Int) < (n : Int) := by omega
  have i1n : o.node < n := by omega
  have i2 : ((o.node : Int)).toNat = o.node := by omega
  have i3 : o.node ≤ 16383 := by omega
  have HW3 := hid_mk hw3.symm
  have HF := hid_mk (And.intro hfar (And.intro hms (And.intro hnm (And.intro hg1 (And.intro hg3 (And.intro hb3 (And.intro hN3 (And.intro hsz3 (And.intro hsz2 (And.intro htr (And.intro htv (And.intro hb2 hw3))))))))))))
  have HU := hid_mk hupm
  obtain ⟨ka, kc, hka⟩ := own_slice (htr.kids _ hmm)
  obtain ⟨kl, hkl, hkv⟩ : ∃ kl, kl = m.1.kids.length ∧ m.2.2 = .slice ka kl kc := ⟨_, rfl, hka⟩
  have d5 : w3.cell? ⟨g, o.node * 6 + 5, none⟩ = some (.slice ka kl kc) := d5a.trans (congrArg some hkv)
  have HKV := hid_mk (And.intro hkv (And.intro hkl (And.intro hm hmm)))
  clear d5a hka hm hmm
  clear hd htv htr k1 k2 k3 k4 k5 hav1 hlow hN hBg hBb hup hks hst hB hN2 hw3 hN3 hfar hms hnm hg1 hg3 hb3 hsz3 hsz2 hb2 hc hgz hcap hlen hkv hkl hupm
  clear c1
  have hfield := opField0 o w2
  go_wp2_with fail
  rw [HW3.out]
  go_quiet (fail)
  obtain ⟨w4, hw4⟩ : ∃ w4, w4 = w3.drewN nq := ⟨_, rfl⟩
  rw [← hw4]
  have e0 : w4.cell? ⟨b, 0, none⟩ = some (.slice (some ⟨g, 0, none⟩) n cap) := by rw [hw4]; exact d0
  have e5 : w4.cell? ⟨g, o.node * 6 + 5, none⟩ = some (.slice ka kl kc) := by rw [hw4]; exact d5
  have ef5 : w4.frozen? ⟨g, o.node * 6 + 5, none⟩ = false := by rw [hw4]; exact fg5
  have HW4 := hid_mk hw4
  clear d0 d4 d5 fg5 hw4
  clear kN4 fN4 hfield
  obtain ⟨hd, htv, htr, k1, k2, k3, k4, k5, hav1, hlow, hN, hBg, hBb, hup, hks, hst, hB⟩ := H1.out
  obtain ⟨hfar, hms, hnm, hg1, hg3, hb3, hN3, hsz3, hsz2, htrm, htvm, hb2, hw3⟩ := HF.out
  have hupm := HU.out
  obtain ⟨hkv, hkl, hm, hmm⟩ := HKV.out
  have hklb : kl ≤ 16384 := by
   rw [hkl]
   have hmem := hmm
   rw [hms] at hmem
   unfold endNs at hmem
   split at hmem
   ·obtain ⟨p0, hp0, _, _, e3⟩ := mem_endN hmem
    rw [e3]
    exact hks p0 hp0
   ·exact hks _ hmem
  have hown1 : w1.ownsRow B 3 1 (.slice ka kl kc) kl (kidF m.1.kids) := by
   have := htrm.kids _ hmm
   rw [hkv, ← hkl] at this
   exact this
  have hownN : ∀ (q : Nat) (cs : Array Value), w2.heap[q]? = some (.cells cs 3 (0, 0)) → w3.heap[q]? = some (.cells cs 3 (0, 0)) := by
   intro q cs hq
   rw [hw3, Below.heap_setCell _ _ _ _ (fun e => ?_)]
   ·exact hq
   ·subst e
    rw [hb2.block _ hsz1, hN] at hq
    injection hq with hq
    injection hq with _ hq _
    exact absurd hq (by decide)
  have hown3 : w3.ownsRow B 3 1 (.slice ka kl kc) kl (kidF m.1.kids) := own_blocks (own_below hown1 hb2) hownN
  obtain ⟨w5, hw5⟩ : ∃ w5, w5 = (w4.alloc (.cells #[.int .i64 (n : Int)] 3 (0, 0))).drew := ⟨_, rfl⟩
  have h45 : Below w4.heap.size w4 w5 := by rw [hw5]; exact ((Below.refl _ _).alloc (Nat.le_refl _) _).drew
  have h34 : Below w3.heap.size w3 w4 := by rw [HW4.out]; exact below_drewN (Below.refl _ _) nq
  have h35 : Below w3.heap.size w3 w5 := h34.trans (h45.mono h34.size)
  have hown5 : w5.ownsRow B 3 1 (.slice ka kl kc) kl (kidF m.1.kids) := own_below hown3 h35
  have hnew5 : w5.heap[w4.heap.size]? = some (.cells #[.int .i64 (n : Int)] 3 (0, 0)) := by rw [hw5]; exact heap_alloc_new w4 _
  have hg5 : w5.heap[g]? = some (.cells cur1 38 (0, 0)) := (h35.block g (Array.getElem?_eq_some_iff.1 hg3).1).trans hg3
  have hb5 : w5.heap[b]? = some (.cells cs1 94 (0, 0)) := (h35.block b (Array.getElem?_eq_some_iff.1 hb3).1).trans hb3
  have hg4 : w4.heap[g]? = some (.cells cur1 38 (0, 0)) := (h34.block g (Array.getElem?_eq_some_iff.1 hg3).1).trans hg3
  have hc5 : w5.cell? ⟨g, o.node * 6 + 5, none⟩ = some (.slice ka kl kc) := by rw [cell_of_row w5 g _ _ _ _ hg5, ← cell_of_row w4 g _ _ _ _ hg4]; exact e5
  have hc45 : (w4.alloc (.cells #[.int .i64 (n : Int)] 3 (0, 0))).cell? ⟨g, o.node * 6 + 5, none⟩ = some (.slice ka kl kc) := by rw [hw5] at hc5; exact hc5
  have hB5 : B ≤ w5.heap.size := by have := h35.size; omega
  obtain ⟨j0, hj, hj0, hj1, hj2⟩ := info_parts infoInt
  have H5 := hid_mk (And.intro hown5 (And.intro hnew5 (And.intro hg5 (And.intro hb5 (And.intro hklb (And.intro h35 (And.intro hj (And.intro hj0 (And.intro hj1 (And.intro hj2 (And.intro hB5 hc5)))))))))))
  have HW5 := hid_mk hw5.symm
  have ht2 : TreeRow B (.slice (some ⟨g, 0, none⟩) ms.length cap) ms w2 := htrm.below hb2
  have hN2' := (hb2.block _ hsz1).trans hN
  have ht3 : TreeRow B (.slice (some ⟨g, 0, none⟩) ms.length cap) ms w3 := by rw [hw3]; exact ht2.setOther hN2' hgN
  have ht5 : TreeRow B (.slice (some ⟨g, 0, none⟩) ms.length cap) ms w5 := ht3.below h35
  have hN5 : w5.heap[w.heap.size]? = some (Obj.cells #[.int .u8 (k : Int), .string (strOf nm), .slice aa l.length ac, .string (strOf dt), .int .i64 (o.node : Int), .slice none 0 0] 38 (0, 0)) := (h35.block _ (Array.getElem?_eq_some_iff.1 hN3).1).trans hN3
  have hs5 : Stay w1 w5 := (Stay.of hb2).trans ((by rw [hw3]; exact Stay.set hN2' (.inl rfl) 4 _ : Stay w2 w3).trans (.of h35))
  have hl5 : Below B w w5 := (hlow.trans (hb2.mono (by omega))).trans (((by rw [hw3]; exact (Below.refl B w2).setCell (p := ⟨w.heap.size, 4, none⟩) hB _ : Below B w2 w3)).trans (h35.mono (by omega)))
  have H5b := hid_mk (And.intro ht5 (And.intro hN5 (And.intro hs5 (And.intro hl5 (And.intro hm (And.intro hnm (And.intro hBg (And.intro hBb (And.intro htvm (And.intro hd (And.intro (show StackAt B b 1 cs1 94 st w1 from ⟨k1, k2, k3, sv, k4, k5⟩) hav1)))))))))))
  clear ht2 hN2' ht3 ht5 hN5 hs5 hl5
  clear hd htv htr k1 k2 k3 k4 k5 hav1 hlow hN hBg hBb hup hks hst hB hfar hms hnm hg1 hg3 hb3 hN3 hsz3 hsz2 htrm htvm hb2 hw3 hupm hkv hkl hm hmm hklb hown1 hownN hown3 hw5 h45 h34 h35 hown5 hnew5 hg5 hg4 hc5 hb5 hB5 hj hj0 hj1 hj2
  go_wp2_with fail
  go_region_law
   (rw [HW5.out]
    obtain ⟨hown5, hnew5, hg5, hb5, hklb, h35, hj, hj0, hj1, hj2, hB5, hc5⟩ := H5.out
    refine step_append_lies w5 rfl (.tmp 32) (.tmp 38) 36 rfl B 3 j0 _ 1 8 Tryz.underlying36 hj hj0 hj1 hj2 rfl (by decide) _ kl (kidF m.1.kids) rfl hown5 ⟨w4.heap.size, 0, none⟩ 1 1 [.int .i64 (n : Int)] rfl rfl (World.news_of_block hnew5) (by
     intro u hu
     simp only [List.mem_cons, List.not_mem_nil, or_false] at hu
     subst hu
     rfl) (by decide) (by unfold maxLen; omega) (by omega) hB5 _ rfl ?_
    intro g6 cap6 w6 hown6 hgrow6 hat6 hlt6
    have hgk : (Value.slice ka kl kc).ownBlock ≠ some g := own_ne hown5 hg5 (by decide)
    have hg6 : w6.heap[g]? = some (.cells cur1 38 (0, 0)) := (hgrow6.block g (Array.getElem?_eq_some_iff.1 hg5).1 (fun e => hgk e.symm)).trans hg5
    have hc6 : w6.cell? ⟨g, o.node * 6 + 5, none⟩ = some (.slice ka kl kc) := by
     rw [cell_of_row w6 g _ _ _ _ hg6, ← cell_of_row w5 g _ _ _ _ hg5]
     exact hc5
    have hf6 : w6.frozen? ⟨g, o.node * 6 + 5, none⟩ = false := Lib.frozen_of_heap hg6 _
    obtain ⟨ht5, hN5, hs5, hl5, hm, hnm, hBg, hBb, htvm, hd, hsk, hav1⟩ := H5b.out
    obtain ⟨hkv, hkl, _, _⟩ := HKV.out
    obtain ⟨w7, hw7⟩ : ∃ w7, w7 = w6.setCell ⟨g, o.node * 6 + 5, none⟩ (.slice (some ⟨g6, 0, none⟩) (kl + 1) cap6) := ⟨_, rfl⟩
    have ht7 : TreeRow B (.slice (some ⟨g, 0, none⟩) ms.length cap) (kidN ms o.node (.slice (some ⟨g6, 0, none⟩) (kl + 1) cap6) n) w7 := by
     rw [hw7]
     refine ht5.addKid' hg5 hm (by rw [hkv]; exact hgrow6) (by rw [← hkl, kidF_snoc]; exact hown6) ?_
     rw [hkv]
     rcases hat6 with h | h
     ·exact .inl h.symm
     ·exact .inr ⟨g6, rfl, by omega⟩
    have hNk : (Value.slice ka kl kc).ownBlock ≠ some w.heap.size := own_ne hown5 hN5 (by decide)
    have hbk : (Value.slice ka kl kc).ownBlock ≠ some b := own_ne hown5 hb5 (by decide)
    have hgb : g ≠ b := by
     rintro rfl
     rw [hg5] at hb5
     injection hb5 with hb5
     injection hb5 with _ hb5 _
     exact absurd hb5 (by decide)
    have hN7 : w7.heap[w.heap.size]? = some (Obj.cells #[.int .u8 (k : Int), .string (strOf nm), .slice aa l.length ac, .string (strOf dt), .int .i64 (o.node : Int), .slice none 0 0] 38 (0, 0)) := by
     rw [hw7, Below.heap_setCell _ _ _ _ (fun e => hgN e.symm)]
     exact (hgrow6.block _ (Array.getElem?_eq_some_iff.1 hN5).1 (fun e => hNk e.symm)).trans hN5
    have hb7 : w7.heap[b]? = some (.cells cs1 94 (0, 0)) := by
     rw [hw7, Below.heap_setCell _ _ _ _ (fun e => hgb e.symm)]
     exact (hgrow6.block _ (Array.getElem?_eq_some_iff.1 hb5).1 (fun e => hbk e.symm)).trans hb5
    have hs7 : Stay w1 w7 := hs5.trans ((Stay.grown hown5 (.inr rfl) hgrow6).trans (by rw [hw7]; exact Stay.set hg6 (.inl rfl) _ _))
    have hl7 : Below B w w7 := hl5.trans ((grown_low hgrow6 (fun k hk => own_base hown5 k hk) hB5).trans (by rw [hw7]; exact (Below.refl B w6).setCell (p := ⟨g, o.node * 6 + 5, none⟩) hBg _))
    have q0 : w7.cell? ⟨w.heap.size, 0, none⟩ = some (.int .u8 (k : Int)) := by rw [cell_of_row w7 _ 0 _ _ _ hN7]; rfl
    have q1 : w7.cell? ⟨w.heap.size, 1, none⟩ = some (.string (strOf nm)) := by rw [cell_of_row w7 _ 1 _ _ _ hN7]; rfl
    have q2 : w7.cell? ⟨w.heap.size, 2, none⟩ = some (.slice aa l.length ac) := by rw [cell_of_row w7 _ 2 _ _ _ hN7]; rfl
    have q3 : w7.cell? ⟨w.heap.size, 3, none⟩ = some (.string (strOf dt)) := by rw [cell_of_row w7 _ 3 _ _ _ hN7]; rfl
    have q4 : w7.cell? ⟨w.heap.size, 4, none⟩ = some (.int .i64 (o.node : Int)) := by rw [cell_of_row w7 _ 4 _ _ _ hN7]; rfl
    have q5 : w7.cell? ⟨w.heap.size, 5, none⟩ = some (.slice none 0 0) := by rw [cell_of_row w7 _ 5 _ _ _ hN7]; rfl
    have qb : w7.cell? ⟨b, 0, none⟩ = some (.slice (some ⟨g, 0, none⟩) n cap) := by rw [cell_of_row w7 b 0 _ _ _ hb7, htvm, hnm]
    have h7B : B ≤ w7.heap.size := by have := (Array.getElem?_eq_some_iff.1 hb7).1; omega
    obtain ⟨w8, hw8⟩ : ∃ w8, w8 = (w7.alloc (Obj.cells #[.int .u8 (k : Int), .string (strOf nm), .slice aa l.length ac, .string (strOf dt), .int .i64 (o.node : Int), .slice none 0 0] 38 (0, 0))).drew := ⟨_, rfl⟩
    have h78 : Below w7.heap.size w7 w8 := by rw [hw8]; exact ((Below.refl _ _).alloc (Nat.le_refl _) _).drew
    have hnew8 : w8.heap[w7.heap.size]? = some (Obj.cells #[.int .u8 (k : Int), .string (strOf nm), .slice aa l.length ac, .string (strOf dt), .int .i64 (o.node : Int), .slice none 0 0] 38 (0, 0)) := by rw [hw8]; exact heap_alloc_new w7 _
    have hb8 : w8.heap[b]? = some (.cells cs1 94 (0, 0)) := (h78.block b (Array.getElem?_eq_some_iff.1 hb7).1).trans hb7
    have qb8 : w8.cell? ⟨b, 0, none⟩ = some (.slice (some ⟨g, 0, none⟩) n cap) := by rw [cell_of_row w8 b 0 _ _ _ hb8, htvm, hnm]
    have qb8' : (w7.alloc (Obj.cells #[.int .u8 (k : Int), .string (strOf nm), .slice aa l.length ac, .string (strOf dt), .int .i64 (o.node : Int), .slice none 0 0] 38 (0, 0))).cell? ⟨b, 0, none⟩ = some (.slice (some ⟨g, 0, none⟩) n cap) := by rw [hw8] at qb8; exact qb8
    have HW7 := hid_mk hw7.symm
    have HW8 := hid_mk hw8.symm
    have H8 := hid_mk (And.intro (ht7.below h78) (And.intro hnew8 (And.intro hb8 (And.intro (hs7.trans (.of h78)) (And.intro (hl7.trans (h78.mono h7B)) (And.intro h7B (And.intro h78.size (And.intro hnm (And.intro hBb (And.intro hd (And.intro hsk (And.intro (own_blocks hav1 (fun q cq hq => (hs7.trans (.of h78)) q cq _ _ (by decide) (by decide) (by decide) hq)) hBg))))))))))))
    clear ht5 hN5 hs5 hl5 hm hnm hBg hBb htvm hd hsk hav1 hkv hkl hw7 ht7 hNk hbk hgb hN7 hb7 hs7 hl7 h7B hw8 h78 hnew8 hb8 qb8
    clear hown5 hnew5 hg5 hb5 hklb h35 hj hj0 hj1 hj2 hB5 hc5 hown6 hgrow6 hat6 hlt6 hgk hg6)
  all_goals
   obtain ⟨x0, hx, hx0, hx1, hx2⟩ := info_parts infoNode
   have HX := hid_mk (And.intro hx (And.intro hx0 (And.intro hx1 hx2)))
   clear hx hx0 hx1 hx2
   rw [HW7.out]
   clear e0 e5 ef5 hc45 hc6 hf6
   go_wp2_with fail
   go_region_law
    (rw [HW8.out]
     obtain ⟨ht8, hnew8, hb8, hs8, hl8, h7B, h78, hnm, hBb, hd, hsk, hav8, hBg⟩ := H8.out
     obtain ⟨hx, hx0, hx1, hx2⟩ := HX.out
     have hkl8 : (kidN ms o.node (.slice (some ⟨g6, 0, none⟩) (kl + 1) cap6) n).length = n := by unfold kidN; rw [List.length_modify, hnm]
     have hr8 : w8.ownsRow B 38 6 (.slice (some ⟨g, 0, none⟩) n cap) n ((kidN ms o.node (.slice (some ⟨g6, 0, none⟩) (kl + 1) cap6) n).flatMap ndF) := by
      have := ht8.row
      rw [hkl8, ← hnm] at this
      exact this
     refine step_append_lies w8 rfl (.tmp 46) (.tmp 48) 28 rfl B 38 x0 _ 6 96 Tryz.underlying28 hx hx0 hx1 hx2 rfl (by decide) _ n _ rfl hr8 ⟨w7.heap.size, 0, none⟩ 1 1 [.int .u8 (k : Int), .string (strOf nm), .slice aa l.length ac, .string (strOf dt), .int .i64 (o.node : Int), .slice none 0 0] rfl rfl (World.news_of_block hnew8) (by
      intro u hu
      simp only [List.mem_cons, List.not_mem_nil, or_false] at hu
      rcases hu with rfl | rfl | rfl | rfl | rfl | rfl <;> rfl) (by decide) (by unfold maxLen; omega) (by omega) (by omega) _ rfl ?_
     intro g9 cap9 w9 hown9 hgrow9 hat9 hlt9
     have hbr : (Value.slice (some ⟨g, 0, none⟩) n cap).ownBlock ≠ some b := own_ne hr8 hb8 (by decide)
     have hb9 : w9.heap[b]? = some (.cells cs1 94 (0, 0)) := (hgrow9.block _ (Array.getElem?_eq_some_iff.1 hb8).1 (fun e => hbr e.symm)).trans hb8
     have hc9 : w9.cell? ⟨b, 0, none⟩ = some (.slice (some ⟨g, 0, none⟩) n cap) := by rw [cell_of_row w9 b 0 _ _ _ hb9, ← cell_of_row w8 b 0 _ _ _ hb8, ← HW8.out]; exact qb8'
     have hf9 : w9.frozen? ⟨b, 0, none⟩ = false := Lib.frozen_of_heap hb9 _
     have ht9 : TreeRow B (.slice (some ⟨g9, 0, none⟩) (n + 1) cap9) (kidN ms o.node (.slice (some ⟨g6, 0, none⟩) (kl + 1) cap6) n ++ [(⟨k, nm, l, dt, (o.node : Int), []⟩, .slice aa l.length ac, .slice none 0 0)]) w9 := by
      have ht8' : TreeRow B (.slice (some ⟨g, 0, none⟩) n cap) (kidN ms o.node (.slice (some ⟨g6, 0, none⟩) (kl + 1) cap6) n) w8 := by
       have := ht8
       rw [← hnm] at this
       exact this
      refine ht8'.addNode hgrow9 (by rw [hkl8]; exact hown9) hav8 rfl rfl
     have hfin : ∃ kv, BdM B b (kidN ms o.node kv n ++ [(⟨k, nm, l, dt, (o.node : Int), []⟩, .slice aa l.length ac, .slice none 0 0)]) st (endBs bs p) (w9.setCell ⟨b, 0, none⟩ (.slice (some ⟨g9, 0, none⟩) (n + 1) cap9)) := by
      refine ⟨_, bd_done hd hsk (hs8.trans ((Stay.grown hr8 (.inl rfl) hgrow9).trans (Stay.set hb9 (.inr rfl) 0 _))) (Blk.setAt hb9 0 _) (ht9.setB hb9 0 _) (by simp)⟩
     have hlw : Below B w (w9.setCell ⟨b, 0, none⟩ (.slice (some ⟨g9, 0, none⟩) (n + 1) cap9)) := hl8.trans ((grown_low hgrow9 (fun k hk => own_base hr8 k hk) (by omega)).trans ((Below.refl B w9).setCell (p := ⟨b, 0, none⟩) hBb _))
     have hhp : Hop w (w9.setCell ⟨b, 0, none⟩ (.slice (some ⟨g9, 0, none⟩) (n + 1) cap9)) := HOP.out.trans (hs8.trans ((Stay.grown hr8 (.inl rfl) hgrow9).trans (Stay.set hb9 (.inr rfl) 0 _))).hop
     have HE := hid_mk (And.intro hlw (And.intro hhp hfin))
     clear hhp
     clear ht8 hnew8 hb8 hs8 hl8 h7B h78 hnm hBb hd hsk hav8 hBg hx hx0 hx1 hx2 hkl8 hr8 hown9 hgrow9 hat9 hlt9 hbr hb9 ht9 hfin hlw)
  all_goals
   go_wp2_with fail
   go_ret
   obtain ⟨_, hms, _⟩ := HF.out
   rw [← hms, ← HN.out]
   exact ⟨rfl, HE.out⟩
end Go.Proofs.YtlcijlklbabajaaGreatDoor
