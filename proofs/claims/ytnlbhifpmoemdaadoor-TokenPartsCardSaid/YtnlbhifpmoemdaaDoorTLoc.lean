/-
  A call's own blocks beside the reader's: how they lie, and how they stay. No condition.
-/
import Derived.Test.YtnlbhifpmoemdaaDoorTAttr
namespace Go.Proofs.YtnlbhifpmoemdaaDoor
open Go.RowKit
/-- Block g is this object. -/
def Blk (g : Nat) (o : Obj) (w : World) : Prop := w.heap[g]? = some o
theorem Blk.lt {g : Nat} {o : Obj} {w : World} (h : Blk g o w) : g < w.heap.size := (Array.getElem?_eq_some_iff.1 h).1
theorem Blk.new (w : World) (o : Obj) : Blk w.heap.size o (w.alloc o) := heap_alloc_new w o
theorem Blk.next {g : Nat} {o : Obj} {w w' : World} (h : Blk g o w) (hb : Below w.heap.size w w') : Blk g o w' := (hb.block g h.lt).trans h
theorem Blk.upd {g b : Nat} {o : Obj} {w w' : World} (h : Blk g o w) (hu : Upd b w w') (hne : g ≠ b) : Blk g o w' := (hu.1.block g h.lt (fun e => hne (by injection e))).trans h
theorem Blk.set {g : Nat} {o : Obj} {w : World} (h : Blk g o w) (a : Addr) (v : Value) (hne : g ≠ a.block) : Blk g o (w.setCell a v) := (Below.heap_setCell _ _ _ _ hne).trans h
theorem Blk.cell {g : Nat} {cs : Array Value} {t : TypeId} {fr : Nat × Nat} {w : World} (h : Blk g (.cells cs t fr) w) (j : Nat) : w.cell? ⟨g, j, none⟩ = cs[j]? := cell_of_row w g j _ _ _ h
theorem Blk.frozen {g : Nat} {cs : Array Value} {t : TypeId} {w : World} (h : Blk g (.cells cs t (0, 0)) w) (j : Nat) : w.frozen? ⟨g, j, none⟩ = false := Lib.frozen_of_heap h j
theorem Blk.setAt {g : Nat} {cs : Array Value} {t : TypeId} {fr : Nat × Nat} {w : World} (h : Blk g (.cells cs t fr) w) (j : Nat) (v : Value) : Blk g (.cells (cs.setIfInBounds j v) t fr) (w.setCell ⟨g, j, none⟩ v) := by
  unfold Blk at h ⊢
  show (w.heap.modify g _)[g]? = _
  rw [Array.getElem?_modify, if_pos rfl, h]
  rfl
theorem Rd.blk {b : Nat} {x : ByteArray} {w : World} (h : Rd b x w) : Blk b (.cells #[.string x] 40 (0, 0)) w := h
theorem Rd.setOther {b : Nat} {x : ByteArray} {w : World} (h : Rd b x w) (a : Addr) (v : Value) (hne : b ≠ a.block) : Rd b x (w.setCell a v) := (Below.heap_setCell _ _ _ _ hne).trans h
/-- A block of another kind is none of the reader's. -/
theorem Rd.ne_blk {b g : Nat} {x : ByteArray} {w : World} {cs : Array Value} {t : TypeId} {fr : Nat × Nat} (h : Rd b x w) (hg : Blk g (.cells cs t fr) w) (ht : t ≠ 40) : g ≠ b := by
  rintro rfl
  rw [Rd, hg] at h
  injection h with h
  injection h with _ h _
  exact ht h
/-- A write into a block that came later. -/
theorem Upd.setNew {b : Nat} {w w1 : World} (h : Upd b w w1) (hT : Tab w) (a : Addr) (ha : w.heap.size ≤ a.block) (v : Value) : Upd b w (w1.setCell a v) :=
  ⟨⟨h.1.os, h.1.tape, h.1.output, by rw [World.size_setCell]; exact h.1.size, fun k hk hne => (Below.heap_setCell _ _ _ _ (by omega)).trans (h.1.block k hk hne)⟩,
    h.2.of_blocks (Below.heap_setCell _ _ _ _ (by have := tab_pos hT; omega)) (Below.heap_setCell _ _ _ _ (by have := max_lt hT; omega))⟩
theorem Upd.alloc {b : Nat} {w w1 : World} (h : Upd b w w1) (o : Obj) : Upd b w (w1.alloc o) :=
  h.trans (Upd.of h.2 ((Below.refl _ _).alloc (Nat.le_refl _) o))
theorem Upd.below' {b : Nat} {w w1 w2 : World} (h : Upd b w w1) (hb : Below w1.heap.size w1 w2) : Upd b w w2 := h.trans (Upd.of h.2 hb)
/-- The reader in block b holds y; of what was there when the call began nothing else has turned. -/
def Now (b : Nat) (y : ByteArray) (w0 w : World) : Prop := Rd b y w ∧ Upd b w0 w
/-- A block of the call's own, made since w0. -/
def Loc (b g : Nat) (cs : Array Value) (t : TypeId) (w0 w : World) : Prop := Blk g (.cells cs t (0, 0)) w ∧ g ≠ b ∧ w0.heap.size ≤ g
theorem Now.start {b : Nat} {y : ByteArray} {w : World} (hR : Rd b y w) (hT : Tab w) : Now b y w w := ⟨hR, Upd.refl hT⟩
theorem Now.step {b : Nat} {y y' : ByteArray} {w0 w w' : World} (h : Now b y w0 w) (hr : Rd b y' w') (hu : Upd b w w') : Now b y' w0 w' := ⟨hr, h.2.trans hu⟩
theorem Now.next {b : Nat} {y : ByteArray} {w0 w w' : World} (h : Now b y w0 w) (hb : Below w.heap.size w w') : Now b y w0 w' := ⟨h.1.next hb, h.2.below' hb⟩
theorem Now.tab {b : Nat} {y : ByteArray} {w0 w : World} (h : Now b y w0 w) : Tab w := h.2.2
theorem Now.alloc {b : Nat} {y : ByteArray} {w0 w : World} (h : Now b y w0 w) (o : Obj) : Now b y w0 (w.alloc o) := h.next ((Below.refl _ _).alloc (Nat.le_refl _) o)
theorem Now.set {b g : Nat} {y : ByteArray} {w0 w : World} {cs : Array Value} {t : TypeId} (h : Now b y w0 w) (hT : Tab w0) (hl : Loc b g cs t w0 w) (j : Nat) (v : Value) : Now b y w0 (w.setCell ⟨g, j, none⟩ v) :=
  ⟨h.1.setOther _ _ hl.2.1.symm, h.2.setNew hT ⟨g, j, none⟩ hl.2.2 v⟩
theorem Loc.new {b : Nat} {y : ByteArray} {w0 w : World} (h : Now b y w0 w) (cs : Array Value) (t : TypeId) : Loc b w.heap.size cs t w0 (w.alloc (.cells cs t)) :=
  ⟨Blk.new _ _, by have := h.1.lt; omega, h.2.1.size⟩
theorem Loc.upd {b g : Nat} {cs : Array Value} {t : TypeId} {w0 w w' : World} (h : Loc b g cs t w0 w) (hu : Upd b w w') : Loc b g cs t w0 w' := ⟨h.1.upd hu h.2.1, h.2⟩
theorem Loc.next {b g : Nat} {cs : Array Value} {t : TypeId} {w0 w w' : World} (h : Loc b g cs t w0 w) (hb : Below w.heap.size w w') : Loc b g cs t w0 w' := ⟨h.1.next hb, h.2⟩
theorem Loc.alloc {b g : Nat} {cs : Array Value} {t : TypeId} {w0 w : World} (h : Loc b g cs t w0 w) (o : Obj) : Loc b g cs t w0 (w.alloc o) := h.next ((Below.refl _ _).alloc (Nat.le_refl _) o)
theorem Loc.setAt {b g : Nat} {cs : Array Value} {t : TypeId} {w0 w : World} (h : Loc b g cs t w0 w) (j : Nat) (v : Value) : Loc b g (cs.setIfInBounds j v) t w0 (w.setCell ⟨g, j, none⟩ v) := ⟨h.1.setAt j v, h.2⟩
theorem Loc.setOther {b g : Nat} {cs : Array Value} {t : TypeId} {w0 w : World} (h : Loc b g cs t w0 w) (a : Addr) (v : Value) (hne : g ≠ a.block) : Loc b g cs t w0 (w.setCell a v) := ⟨h.1.set a v hne, h.2⟩
theorem Loc.cell {b g : Nat} {cs : Array Value} {t : TypeId} {w0 w : World} (h : Loc b g cs t w0 w) (j : Nat) : w.cell? ⟨g, j, none⟩ = cs[j]? := h.1.cell j
theorem Loc.frozen {b g : Nat} {cs : Array Value} {t : TypeId} {w0 w : World} (h : Loc b g cs t w0 w) (j : Nat) : w.frozen? ⟨g, j, none⟩ = false := h.1.frozen j
theorem Loc.lt {b g : Nat} {cs : Array Value} {t : TypeId} {w0 w : World} (h : Loc b g cs t w0 w) : g < w.heap.size := h.1.lt
end Go.Proofs.YtnlbhifpmoemdaaDoor
