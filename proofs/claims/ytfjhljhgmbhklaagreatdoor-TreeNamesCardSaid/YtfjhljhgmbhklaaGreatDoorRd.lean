/-
  The reader of package token: one cell that holds what has not been read; how a call that writes it alone leaves a world. No condition.
-/
import Derived.Test.YtfjhljhgmbhklaaGreatDoorNum
namespace Go.Proofs.YtfjhljhgmbhklaaGreatDoor
open Go.RowKit
/-- The reader in block b holds x. -/
def Rd (b : Nat) (x : ByteArray) (w : World) : Prop := w.heap[b]? = some (.cells #[.string x] 104 (0, 0))
/-- Behind a call that writes block b alone of what there was. -/
def Upd (b : Nat) (w w' : World) : Prop := w.grownBy w' (some b) ∧ Tab w'
theorem Rd.lt {b : Nat} {x : ByteArray} {w : World} (h : Rd b x w) : b < w.heap.size := (Array.getElem?_eq_some_iff.1 h).1
theorem Rd.cell {b : Nat} {x : ByteArray} {w : World} (h : Rd b x w) : w.cell? ⟨b, 0, none⟩ = some (.string x) := by
  rw [Lib.cell_of_heap h]
  rfl
theorem Rd.frozen {b : Nat} {x : ByteArray} {w : World} (h : Rd b x w) : w.frozen? ⟨b, 0, none⟩ = false := Lib.frozen_of_heap h 0
theorem Rd.next {b : Nat} {x : ByteArray} {w w' : World} (h : Rd b x w) (hn : Below w.heap.size w w') : Rd b x w' := (hn.block b h.lt).trans h
theorem Rd.set {b : Nat} {x : ByteArray} {w : World} (h : Rd b x w) (y : ByteArray) : Rd b y (w.setCell ⟨b, 0, none⟩ (.string y)) := by
  unfold Rd at h ⊢
  show (w.heap.modify b _)[b]? = _
  rw [Array.getElem?_modify, if_pos rfl, h]
  rfl
theorem Rd.ne_repl {b : Nat} {x : ByteArray} {w : World} (h : Rd b x w) (hT : Tab w) : b ≠ 3 := by
  rintro rfl
  obtain ⟨⟨T, fr, h1⟩, _⟩ := hT
  rw [Rd, h1] at h
  injection h with h
  injection h with h2 _
  have := congrArg Array.size h2
  simp [replCells, replT] at this
theorem Rd.ne_max {b : Nat} {x : ByteArray} {w : World} (h : Rd b x w) (hT : Tab w) : b ≠ 0 := by
  rintro rfl
  obtain ⟨_, m, h1⟩ := hT
  rw [h.cell] at h1
  cases h1
theorem Upd.trans {b : Nat} {w1 w2 w3 : World} (h : Upd b w1 w2) (k : Upd b w2 w3) : Upd b w1 w3 :=
  ⟨⟨k.1.os.trans h.1.os, k.1.tape.trans h.1.tape, k.1.output.trans h.1.output, Nat.le_trans h.1.size k.1.size, fun j hj hne => (k.1.block j (Nat.lt_of_lt_of_le hj h.1.size) hne).trans (h.1.block j hj hne)⟩, k.2⟩
theorem Upd.next {b : Nat} {w w' : World} (h : Next w w') : Upd b w w' := ⟨⟨h.1.os, h.1.tape, h.1.output, h.1.size, fun k hk _ => h.1.block k hk⟩, h.2⟩
theorem Upd.refl {b : Nat} {w : World} (h : Tab w) : Upd b w w := .next (Next.refl h)
theorem Upd.of {b : Nat} {w w' : World} (h : Tab w) (hb : Below w.heap.size w w') : Upd b w w' := .next (Next.of h hb)
theorem Upd.set {b : Nat} {x : ByteArray} {w : World} (h : Rd b x w) (hT : Tab w) (v : Value) : Upd b w (w.setCell ⟨b, 0, none⟩ v) :=
  ⟨⟨rfl, rfl, rfl, by simp [World.setCell], fun k _ hne => Below.heap_setCell _ _ _ _ (fun e => hne (by rw [e]))⟩,
    hT.of_blocks (Below.heap_setCell _ _ _ _ (h.ne_repl hT).symm) (Below.heap_setCell _ _ _ _ (h.ne_max hT).symm)⟩
theorem Upd.below {b : Nat} {w w' : World} (h : Upd b w w') {B : Nat} (hB : B ≤ b) (hw : B ≤ w.heap.size) : Below B w w' :=
  ⟨h.1.os, h.1.tape, h.1.output, h.1.size, fun k hk => h.1.block k (by omega) (fun e => by injection e with e; omega)⟩
theorem Upd.cell {b : Nat} {w w' : World} (h : Upd b w w') {p : Addr} {v : Value} (hc : w.cell? p = some v) (hne : p.block ≠ b) : w'.cell? p = some v :=
  h.1.cell hc (fun e => hne (by injection e))
theorem Upd.rd {b c : Nat} {x : ByteArray} {w w' : World} (h : Upd b w w') (hr : Rd c x w) (hne : c ≠ b) : Rd c x w' := (h.1.block c hr.lt (fun e => hne (by injection e))).trans hr
theorem ext_take (x : ByteArray) (n : Nat) : x.extract 0 n = strOf ((sl x).take n) := by
  rw [← strOf_sl (x.extract 0 n)]
  have := sl_cut x 0 n
  rw [Nat.zero_add, List.drop_zero] at this
  rw [this]
theorem ext_drop (x : ByteArray) (n : Nat) : x.extract n x.size = strOf ((sl x).drop n) := by
  rw [← strOf_sl (x.extract n x.size), sl_extract]
/-- take reads n bytes. -/
theorem take_any (b n : Nat) (x : ByteArray) (w : World) (hT : Tab w) (hR : Rd b x w) (hn : n ≤ x.size) :
    Calls Tryz.prog 123 #[.pointer (some ⟨b, 0, none⟩), .int .i64 (n : Int)] w fun e w' => e = .returned (.string (strOf ((sl x).take n))) ∧ Rd b (strOf ((sl x).drop n)) w' ∧ Upd b w w' := by
  have hc := hR.cell
  have hf := hR.frozen
  have HP := hid_mk (And.intro (hR.set (x.extract n x.size)) (Upd.set hR hT (.string (x.extract n x.size))))
  clear hR hT
  have hn' : (n : Int) ≤ (x.size : Int) := by omega
  go_enter Tryz.func123, Tryz.ntmps123
  go_wp2_with fail
  go_ret
  rw [← ext_take, ← ext_drop]
  exact ⟨rfl, HP.out⟩
end Go.Proofs.YtfjhljhgmbhklaaGreatDoor
