/-
  A strings.Builder within package tree's builder: copyCheck, WriteString, String, Reset. Condition: the lengths are bounded.
-/
import Derived.Test.YtlcijlklbabajaaGreatDoorQBStC
import Derived.Test.YtlcijlklbabajaaGreatDoorQWrUs
import Derived.Shelf.Strings.BuilderF
import Derived.Deep.QuietTactic
import Derived.BigQuiet
namespace Go.Proofs.YtlcijlklbabajaaGreatDoor
open Go.RowKit
theorem liesBd : liesAt Tryz.prog Tryz.prog.depth 94 (4 / Tryz.prog.cellsOf 94) 2 78 1 = true := by kernel_rfl
/-- The bytes that builder b of package tree has yet to give the last text: cells 2 and 3. -/
def DataAt (B b : Nat) (cs : Array Value) (bs : List UInt8) (w : World) : Prop :=
 w.heap[b]? = some (.cells cs 94 (0, 0)) ∧ cs.size = 4 ∧ B ≤ b ∧ (cs[2]? = some (.pointer none) ∨ cs[2]? = some (.pointer (some ⟨b, 2, none⟩))) ∧ ∃ v, cs[3]? = some v ∧ w.ownsRowF B 5 1 v bs.length (Lib.byteCells bs)
/-- Behind what a text builder's methods do: nothing has turned but block b, and rows of bytes from B on. -/
structure DChg (B b : Nat) (w w' : World) : Prop where
 os : w'.os = w.os
 tape : w'.tape = w.tape
 output : w'.output = w.output
 size : w.heap.size ≤ w'.heap.size
 blocks : ∀ k o, w.heap[k]? = some o → k ≠ b → (k < B ∨ ∀ cs fr, o ≠ .cells cs 5 fr) → w'.heap[k]? = some o
theorem DChg.of {B b : Nat} {w w' : World} (h : Below w.heap.size w w') : DChg B b w w' :=
 ⟨h.os, h.tape, h.output, h.size, fun k _ hk _ _ => (h.block k (Array.getElem?_eq_some_iff.1 hk).1).trans hk⟩
theorem DChg.refl (B b : Nat) (w : World) : DChg B b w w := .of (Below.refl _ _)
theorem DChg.trans {B b : Nat} {x y z : World} (h : DChg B b x y) (k : DChg B b y z) : DChg B b x z :=
 ⟨k.os.trans h.os, k.tape.trans h.tape, k.output.trans h.output, Nat.le_trans h.size k.size, fun j o h1 h2 h3 => k.blocks j o (h.blocks j o h1 h2 h3) h2 h3⟩
theorem DChg.set {B b : Nat} (w : World) (q : Nat) (v : Value) : DChg B b w (w.setCell ⟨b, q, none⟩ v) :=
 ⟨rfl, rfl, rfl, by rw [World.size_setCell]; exact Nat.le_refl _, fun _ _ hk hne _ => (Below.heap_setCell _ _ _ _ hne).trans hk⟩
theorem DChg.drew {B b : Nat} {w w' : World} (h : DChg B b w w') : DChg B b w w'.drew := ⟨h.os, h.tape, h.output, h.size, h.blocks⟩
theorem h5_of {b j : Nat} {cs : Array Value} {T : TypeId} {v : Value} {w : World} (hc : w.cell? ⟨b, j, none⟩ = some v) (h : w.heap[b]? = some (.cells cs T (0, 0))) : some v = cs[j]? := by
 rw [← hc, cell_of_row w b j _ _ _ h]
/-- copyCheck: the builder knows itself from then on. -/
theorem copyCheck_at {B b : Nat} {cs : Array Value} {bs : List UInt8} {w : World} (h : DataAt B b cs bs w) :
 Calls Tryz.prog 108 #[.pointer (some ⟨b, 2, none⟩)] w fun e w' => e = .returned (.tuple #[]) ∧ DataAt B b (cs.setIfInBounds 2 (.pointer (some ⟨b, 2, none⟩))) bs w' ∧ DChg B b w w' ∧ w'.heap.size = w.heap.size := by
 obtain ⟨h1, h2, h3, h4, v, h5, h6⟩ := h
 have hne : v.ownBlock ≠ some b := Lib.ownBlock_neF h6 h1 (by decide)
 have h5' : (cs.setIfInBounds 2 (.pointer (some ⟨b, 2, none⟩)))[3]? = some v := by rw [Array.getElem?_setIfInBounds_ne (by decide)]; exact h5
 have h2' : (cs.setIfInBounds 2 (.pointer (some ⟨b, 2, none⟩)))[2]? = some (.pointer (some ⟨b, 2, none⟩)) := Array.getElem?_setIfInBounds_self_of_lt (by omega)
 rcases h4 with h4 | h4
 ·obtain ⟨j, hj, hjs⟩ := Option.map_eq_some_iff.1 sizeBuilder
  have hsh : w.shape? b = some (94, 4) := by simp [World.shape?, h1, h2]
  have h0 : w.cell? ⟨b, 2, none⟩ = some (.pointer none) := by rw [cell_of_row w b 2 _ _ _ h1]; exact h4
  have hfz : w.frozen? ⟨b, 2, none⟩ = false := Lib.frozen_of_heap h1 _
  have k1 := Lib.run_to_unsafe (P := Tryz.prog) w ⟨b, 2, none⟩ Tryz.underlying76 Tryz.underlying151 hj (by rw [hjs]; decide) hsh (show 2 < 4 by decide)
  have k3 := Lib.run_from_unsafe (P := Tryz.prog) w ⟨b, 2, none⟩ Tryz.underlying151 Tryz.underlying76 hj hsh liesBd
  have k2 := run_callFunc_extern (args := #[.pointer (some ⟨b, 2, none⟩)]) (w := w) Tryz.func140 (by kernel_rfl) (by kernel_rfl) (by kernel_rfl) (e := Extern.AbiNoEscape.same) (by kernel_rfl)
  rw [Lib.run_noEscape] at k2
  simp only [Result.andThen] at k2
  have HF := hid_mk (show DataAt B b (cs.setIfInBounds 2 (.pointer (some ⟨b, 2, none⟩))) bs (w.setCell ⟨b, 2, none⟩ (.pointer (some ⟨b, 2, none⟩))) ∧ DChg B b w (w.setCell ⟨b, 2, none⟩ (.pointer (some ⟨b, 2, none⟩))) ∧ (w.setCell ⟨b, 2, none⟩ (.pointer (some ⟨b, 2, none⟩))).heap.size = w.heap.size from
   ⟨⟨Blk.setAt h1 2 _, by rw [Array.size_setIfInBounds]; exact h2, h3, .inr h2', v, h5', h6.kept (row := some b) ⟨rfl, rfl, rfl, by simp [World.setCell], fun k _ hk => Below.heap_setCell _ _ _ _ (fun e => hk (by simp [e]))⟩ (Or.inr hne)⟩, .set w 2 _, World.size_setCell ..⟩)
  clear hj hjs h6 h5' h2' h5 h4
  go_enter Tryz.func108, Tryz.ntmps108
  go_wp2
  go_end0
  exact ⟨rfl, HF.out⟩
 ·have hset : cs.setIfInBounds 2 (.pointer (some ⟨b, 2, none⟩)) = cs := by
   apply Array.ext_getElem?
   intro i
   by_cases e : i = 2
   ·subst e; rw [h2', h4]
   ·rw [Array.getElem?_setIfInBounds_ne (fun h => e h.symm)]
  have HF := hid_mk (show DataAt B b (cs.setIfInBounds 2 (.pointer (some ⟨b, 2, none⟩))) bs w ∧ DChg B b w w ∧ w.heap.size = w.heap.size by
   rw [hset]; exact ⟨⟨h1, h2, h3, .inr h4, v, h5, h6⟩, .refl _ _ _, rfl⟩)
  have h0 : w.cell? ⟨b, 2, none⟩ = some (.pointer (some ⟨b, 2, none⟩)) := by rw [cell_of_row w b 2 _ _ _ h1]; exact h4
  obtain ⟨j, hj, _⟩ := Option.map_eq_some_iff.1 sizeBuilder
  have k1 := Lib.run_neq_ptr_same (P := Tryz.prog) w ⟨b, 2, none⟩ Tryz.underlying76 hj
  clear hj h6 h5' h2' h5 h4 hset
  go_enter Tryz.func108, Tryz.ntmps108
  go_wp2
  go_end0
  exact ⟨rfl, HF.out.1, HF.out.2.1, rfl⟩
theorem DChg.grownF {B b n : Nat} {v : Value} {xs : List Value} {w w' : World} (hr : w.ownsRowF B 5 1 v n xs) (hg : w.grownBy w' v.ownBlock) : DChg B b w w' :=
 ⟨hg.os, hg.tape, hg.output, hg.size, fun k o hk _ h3 => by
  refine (hg.block k (Array.getElem?_eq_some_iff.1 hk).1 (fun e => ?_)).trans hk
  rcases hr.2 with ⟨rfl, _⟩ | ⟨g, cap, cur, fz, rfl, hB, hgg, _⟩
  ·cases e
  ·have : k = g := by simpa [Value.ownBlock] using e
   subst this
   rcases h3 with h3 | h3
   ·omega
   ·rw [hk] at hgg
    injection hgg with hgg
    exact h3 _ _ hgg⟩
set_option maxHeartbeats 2000000 in
set_option maxRecDepth 100000 in
theorem writeString_at {B b : Nat} {cs : Array Value} {bs : List UInt8} {w : World} (s : List UInt8) (h : DataAt B b cs bs w) (hlen : bs.length + s.length ≤ 1000000000) :
 Calls Tryz.prog 97 #[.pointer (some ⟨b, 2, none⟩), .string (strOf s)] w fun e w' => e = .returned (.tuple #[.int .i64 s.length, .nilIface]) ∧ ∃ cs', DataAt B b cs' (bs ++ s) w' ∧ cs'[0]? = cs[0]? ∧ cs'[1]? = cs[1]? ∧ DChg B b w w' := by
 obtain ⟨i0, hi, hz0, hz1, hz2⟩ := info_parts infoByte
 have HI := hid_mk (And.intro hi (And.intro hz0 (And.intro hz1 hz2)))
 have hss := size_strOf s
 have hcc := hid_mk (copyCheck_at h)
 have hB0 := hid_mk (show B ≤ w.heap.size by have := (Array.getElem?_eq_some_iff.1 h.1).1; have := h.2.2.1; omega)
 clear h hi hz0 hz1 hz2
 go_enter Tryz.func97, Tryz.ntmps97
 go_wp2_with fail
 (with_reducible refine hcc.out.mono ?_)
 rintro e w1 ⟨rfl, hd, hch, hsz⟩
 clear hcc
 obtain ⟨cs1, hcs1⟩ : ∃ cs1, cs1 = cs.setIfInBounds 2 (.pointer (some ⟨b, 2, none⟩)) := ⟨_, rfl⟩
 have e0 : cs1[0]? = cs[0]? := by rw [hcs1]; exact Array.getElem?_setIfInBounds_ne (by decide)
 have e1 : cs1[1]? = cs[1]? := by rw [hcs1]; exact Array.getElem?_setIfInBounds_ne (by decide)
 rw [← hcs1] at hd
 obtain ⟨h1, h2, h3, h4, v, h5, h6⟩ := hd
 have hne : v.ownBlock ≠ some b := Lib.ownBlock_neF h6 h1 (by decide)
 have c3 : w1.cell? ⟨b, 3, none⟩ = some v := by rw [cell_of_row w1 b 3 _ _ _ h1]; exact h5
 have H := hid_mk (And.intro h1 (And.intro h2 (And.intro h3 (And.intro h4 (And.intro h6 (And.intro hne (And.intro hch (And.intro e0 e1))))))))
 have hs3 : 3 < cs1.size := by omega
 have HS := hid_mk (And.intro hsz hs3)
 clear hcs1 h1 h2 h3 h4 h5 h6 hne hch e0 e1 hsz hs3
 go_wp2_with (at_builtin; refine Classical.byContradiction fun hno => ?_)
 refine hno ?_
 clear hno
 obtain ⟨h1, h2, h3, h4, h6, hne, hch, e0, e1⟩ := H.out
 obtain ⟨hi, hz0, hz1, hz2⟩ := HI.out
 refine Lib.wpList_append_own_stringF _ rfl (.tmp 12) (.tmp 13) _ _ rfl B 5 i0 Tryz.underlying42 Tryz.underlying9 hi hz0 hz1 hz2 v bs.length (Lib.byteCells bs) rfl h6 (strOf s) rfl (by unfold maxLen; omega) (by omega) (by have := hB0.out; have := HS.out.1; omega) ?_
 intro v' w2 hown1 hgrow _
 have hcs : Lib.byteCells bs ++ Lib.strCells (strOf s) = Lib.byteCells (bs ++ s) := by
  rw [Lib.byteCells_append]
  rfl
 rw [hcs, hss, ← List.length_append] at hown1
 have hbl : b < w1.heap.size := (Array.getElem?_eq_some_iff.1 h1).1
 have hb2 : w2.heap[b]? = some (.cells cs1 94 (0, 0)) := (hgrow.block b hbl (fun e => hne e.symm)).trans h1
 have d1 : w2.cell? ⟨b, 3, none⟩ = some v := by rw [cell_of_row w2 b 3 _ _ _ hb2, ← h5_of c3 h1]
 have f1 : w2.frozen? ⟨b, 3, none⟩ = false := Lib.frozen_of_heap hb2 _
 have hne2 : v'.ownBlock ≠ some b := Lib.ownBlock_neF hown1 hb2 (by decide)
 have HF := hid_mk (show ∃ cs', DataAt B b cs' (bs ++ s) (w2.setCell ⟨b, 3, none⟩ v') ∧ cs'[0]? = cs[0]? ∧ cs'[1]? = cs[1]? ∧ DChg B b w (w2.setCell ⟨b, 3, none⟩ v') from by
  refine ⟨cs1.setIfInBounds 3 v', ⟨Blk.setAt hb2 3 _, by rw [Array.size_setIfInBounds]; exact h2, h3, ?_, v', Array.getElem?_setIfInBounds_self_of_lt HS.out.2, ?_⟩, ?_, ?_, (hch.trans (.grownF h6 hgrow)).trans (.set w2 3 _)⟩
  ·rw [Array.getElem?_setIfInBounds_ne (by decide)]; exact h4
  ·exact hown1.kept (row := some b) ⟨rfl, rfl, rfl, by simp [World.setCell], fun k _ hk => Below.heap_setCell _ _ _ _ (fun e => hk (by simp [e]))⟩ (Or.inr hne2)
  ·rw [Array.getElem?_setIfInBounds_ne (by decide)]; exact e0
  ·rw [Array.getElem?_setIfInBounds_ne (by decide)]; exact e1)
 obtain ⟨gv, cap, hv⟩ : ∃ g cap, v' = .slice g (bs ++ s).length cap := by
  rcases hown1.2 with ⟨hv, h0⟩ | ⟨g, cap, cur, fz, hv, _⟩
  ·exact ⟨none, 0, by rw [hv, h0]⟩
  ·exact ⟨_, cap, hv⟩
 clear h1 h2 h3 h4 h6 hne hch e0 e1 hi hz0 hz1 hz2 hown1 hgrow hb2 hne2 hcs
 rw [hv] at HF ⊢
 clear hv
 rw [List.length_append] at HF ⊢
 go_wp2
 go_ret2
 exact ⟨rfl, HF.out⟩
end Go.Proofs.YtlcijlklbabajaaGreatDoor
namespace Go.Proofs.YtlcijlklbabajaaGreatDoor
open Go.RowKit
theorem freeze_other (w : World) (g n k : Nat) (h : k ≠ g) : (w.freeze ⟨g, 0, none⟩ n).heap[k]? = w.heap[k]? := by
 unfold World.freeze
 split
 ·rfl
 ·show (w.heap.modify g _)[k]? = _
  rw [Array.getElem?_modify, if_neg (fun e => h e.symm)]
theorem DChg.freeze {B b g n : Nat} {cs : Array Value} {fr : Nat × Nat} {w0 w : World} (h : DChg B b w0 w) (hB : B ≤ g) (hg : w0.heap[g]? = some (.cells cs 5 fr)) : DChg B b w0 (w.freeze ⟨g, 0, none⟩ n) := by
 have hb := Lib.below_freeze (Below.refl g w) (p := ⟨g, 0, none⟩) (Nat.le_refl _) n
 refine ⟨hb.os.trans h.os, hb.tape.trans h.tape, hb.output.trans h.output, Nat.le_trans h.size hb.size, fun k o hk hne h3 => ?_⟩
 have hkg : k ≠ g := by
  rintro rfl
  rcases h3 with h3 | h3
  ·omega
  ·rw [hk] at hg
   injection hg with hg
   exact h3 _ _ hg
 have := h.blocks k o hk hne h3
 rw [← this]
 exact freeze_other w g n k hkg
set_option maxHeartbeats 2000000 in
set_option maxRecDepth 100000 in
theorem string_at {B b : Nat} {cs : Array Value} {bs : List UInt8} {w : World} (h : DataAt B b cs bs w) (h0 : bs ≠ []) :
 Calls Tryz.prog 55 #[.pointer (some ⟨b, 2, none⟩)] w fun e w' => e = .returned (.string (strOf bs)) ∧ w'.heap[b]? = some (.cells cs 94 (0, 0)) ∧ DChg B b w w' := by
 obtain ⟨h1, h2, h3, h4, v, h5, hown⟩ := h
 have hne : v.ownBlock ≠ some b := Lib.ownBlock_neF hown h1 (by decide)
 have hl0 : bs.length ≠ 0 := by simpa using h0
 obtain ⟨g, cap, cur, fz, rfl, hbg, hg, hfz, hnc, hcm, hcs, htake⟩ : ∃ g cap cur fz, v = .slice (some ⟨g, 0, none⟩) bs.length cap ∧ B ≤ g ∧ w.heap[g]? = some (.cells cur 5 fz) ∧ fz.2 ≤ bs.length * 1 ∧ bs.length ≤ cap ∧ cap ≤ maxLen ∧ cur.size = cap * 1 ∧ cur.toList.take (bs.length * 1) = Lib.byteCells bs := by
  rcases hown.2 with ⟨_, hz⟩ | ⟨g, cap, cur, fz, hv, r⟩
  ·exact absurd hz hl0
  ·exact ⟨g, cap, cur, fz, hv, r⟩
 have c1 : w.drew.cell? ⟨b, 3, none⟩ = some (.slice (some ⟨g, 0, none⟩) bs.length cap) := by
  have : w.drew.heap[b]? = some (.cells cs 94 (0, 0)) := h1
  rw [cell_of_row _ b 3 _ _ _ this]; exact h5
 have hSD : (Builtin.unsafeSliceData_ #[42] 130 #[.slice (some ⟨g, 0, none⟩) bs.length cap]).run Tryz.prog w.drew = .ok (.pointer (some ⟨g, 0, none⟩)) w.drew :=
  Lib.run_unsafeSliceData_row _ _ _ _ _ _ (by omega)
 have hUS : (Builtin.unsafeString_ #[130, 3] 9 #[.pointer (some ⟨g, 0, none⟩), .int .i64 bs.length]).run Tryz.prog w.drew = .ok (.string (strOf bs)) (w.drew.freeze ⟨g, 0, none⟩ bs.length) := by
  refine Lib.run_unsafeString_row w.drew 130 3 9 5 Tryz.underlying130 (by kernel_rfl) g cur.size (by have hg' : w.drew.heap[g]? = some (.cells cur 5 fz) := hg; simp [World.shape?, hg']) bs h0 (by omega) (by unfold maxLen at hcm; omega) ?_
  intro j x hx
  exact hown.cells (g := g) rfl j (.int .u8 x.toNat) (by simp [Lib.byteCells, hx])
 have hgb : g ≠ b := by
  rintro rfl
  exact hne rfl
 have HF := hid_mk (show (w.drew.freeze ⟨g, 0, none⟩ bs.length).heap[b]? = some (.cells cs 94 (0, 0)) ∧ DChg B b w (w.drew.freeze ⟨g, 0, none⟩ bs.length) from
  ⟨(freeze_other w.drew g _ b (fun e => hgb e.symm)).trans h1, (DChg.refl B b w).drew.freeze hbg hg⟩)
 clear hown hg hfz hcs htake h4 hne hl0
 go_enter Tryz.func55, Tryz.ntmps55
 have mixed : Tryz.prog.follows Departure.mixedOrders = true := by kernel_rfl
 go_wp2
 go_region_o
 all_goals (go_wp2; go_ret; exact ⟨rfl, HF.out⟩)
set_option maxHeartbeats 2000000 in
theorem reset_at {B b : Nat} {cs : Array Value} {w : World} (h1 : w.heap[b]? = some (.cells cs 94 (0, 0))) (h2 : cs.size = 4) (h3 : B ≤ b) (x y : Value) (hx : cs[2]? = some x) (hy : cs[3]? = some y) :
 Calls Tryz.prog 106 #[.pointer (some ⟨b, 2, none⟩)] w fun e w' => e = .returned (.tuple #[]) ∧ ∃ cs', DataAt B b cs' [] w' ∧ cs'[0]? = cs[0]? ∧ cs'[1]? = cs[1]? ∧ DChg B b w w' := by
 have c2 : w.cell? ⟨b, 2, none⟩ = some x := by rw [cell_of_row w b 2 _ _ _ h1]; exact hx
 have c3 : w.cell? ⟨b, 3, none⟩ = some y := by rw [cell_of_row w b 3 _ _ _ h1]; exact hy
 have f2 : w.frozen? ⟨b, 2, none⟩ = false := Lib.frozen_of_heap h1 _
 have f3 : w.frozen? ⟨b, 3, none⟩ = false := Lib.frozen_of_heap h1 _
 have HF := hid_mk (show ∃ cs', DataAt B b cs' [] ((w.setCell ⟨b, 2, none⟩ (.pointer none)).setCell ⟨b, 3, none⟩ (.slice none 0 0)) ∧ cs'[0]? = cs[0]? ∧ cs'[1]? = cs[1]? ∧ DChg B b w ((w.setCell ⟨b, 2, none⟩ (.pointer none)).setCell ⟨b, 3, none⟩ (.slice none 0 0)) from by
  refine ⟨(cs.setIfInBounds 2 (.pointer none)).setIfInBounds 3 (.slice none 0 0), ⟨Blk.setAt (Blk.setAt h1 2 _) 3 _, by rw [Array.size_setIfInBounds, Array.size_setIfInBounds]; exact h2, h3, .inl ?_, .slice none 0 0, ?_, ⟨rfl, .inl ⟨rfl, rfl⟩⟩⟩, ?_, ?_, (DChg.set w 2 _).trans (.set _ 3 _)⟩
  ·rw [Array.getElem?_setIfInBounds_ne (by decide)]; exact Array.getElem?_setIfInBounds_self_of_lt (by omega)
  ·exact Array.getElem?_setIfInBounds_self_of_lt (by rw [Array.size_setIfInBounds]; omega)
  ·rw [Array.getElem?_setIfInBounds_ne (by decide), Array.getElem?_setIfInBounds_ne (by decide)]
  ·rw [Array.getElem?_setIfInBounds_ne (by decide), Array.getElem?_setIfInBounds_ne (by decide)])
 clear hx hy h1
 go_enter Tryz.func106, Tryz.ntmps106
 go_wp2
 go_end0
 exact ⟨rfl, HF.out⟩
end Go.Proofs.YtlcijlklbabajaaGreatDoor
namespace Go.Proofs.YtlcijlklbabajaaGreatDoor
open Go.RowKit
/-- A node as it lies, with the values of its attributes and of its children. -/
abbrev NdM := Nd × Value × Value
def ndF (p : NdM) : List Value := [.int .u8 (p.1.kind : Int), .string (strOf p.1.name), p.2.1, .string (strOf p.1.data), .int .i64 p.1.up, p.2.2]
def kidF (l : List Nat) : List Value := l.map fun (k : Nat) => Value.int .i64 (k : Int)
theorem infoNode : (Tryz.prog.info? 38).map (fun i => (i.zero, i.size, i.bytes)) = some (some (.agg #[.int .u8 0, .string ⟨#[]⟩, .slice none 0 0, .string ⟨#[]⟩, .int .i64 0, .slice none 0 0]), 6, 96) := by kernel_rfl
theorem infoInt : (Tryz.prog.info? 3).map (fun i => (i.zero, i.size, i.bytes)) = some (some (.int .i64 0), 1, 8) := by kernel_rfl
structure TreeRow (B : Nat) (v : Value) (ns : List NdM) (w : World) : Prop where
 row : w.ownsRow B 38 6 v ns.length (ns.flatMap ndF)
 attrs : ∀ p ∈ ns, AtRow B p.2.1 p.1.attrs w
 kids : ∀ p ∈ ns, w.ownsRow B 3 1 p.2.2 p.1.kids.length (kidF p.1.kids)
 apart : ns.Pairwise fun p q => p.2.2.ownBlock = none ∨ p.2.2.ownBlock ≠ q.2.2.ownBlock
theorem TreeRow.below {B : Nat} {v : Value} {ns : List NdM} {w w' : World} (h : TreeRow B v ns w) (hb : Below w.heap.size w w') : TreeRow B v ns w' :=
 ⟨own_below h.row hb, fun p hp => (h.attrs p hp).below hb, fun p hp => own_below (h.kids p hp) hb, h.apart⟩
/-- Rows of another kind stay behind what turns rows of one kind, and a block that is none of theirs. -/
theorem own_blocks {w w' : World} {base n size : Nat} {e : TypeId} {v : Value} {xs : List Value} (h : w.ownsRow base e size v n xs) (hk : ∀ (g : Nat) (cs : Array Value), w.heap[g]? = some (.cells cs e (0, 0)) → w'.heap[g]? = some (.cells cs e (0, 0))) : w'.ownsRow base e size v n xs := by
 refine ⟨h.1, ?_⟩
 rcases h.2 with h2 | ⟨g, cap, cur, h1, h2, h3, h4⟩
 ·exact .inl h2
 ·exact .inr ⟨g, cap, cur, h1, h2, hk g cur h3, h4⟩
theorem SChg.keeps {B b : Nat} {e T : TypeId} {cb : Array Value} {fb : Nat × Nat} {w w' : World} (h : SChg B b w w') (hb : w.heap[b]? = some (.cells cb T fb)) (he : e ≠ T) (h2 : e ≠ 119) : ∀ (g : Nat) (cs : Array Value), w.heap[g]? = some (.cells cs e (0, 0)) → w'.heap[g]? = some (.cells cs e (0, 0)) :=
 fun g cs hg => h.blocks g _ hg (fun e2 => by
  subst e2
  rw [hb] at hg
  injection hg with hg
  injection hg with _ hg _
  exact he hg.symm) (.inr fun cs' fr' e2 => by injection e2 with _ e2 _; exact h2 e2)
theorem DChg.keeps {B b : Nat} {e T : TypeId} {cb : Array Value} {fb : Nat × Nat} {w w' : World} (h : DChg B b w w') (hb : w.heap[b]? = some (.cells cb T fb)) (he : e ≠ T) (h2 : e ≠ 5) : ∀ (g : Nat) (cs : Array Value), w.heap[g]? = some (.cells cs e (0, 0)) → w'.heap[g]? = some (.cells cs e (0, 0)) :=
 fun g cs hg => h.blocks g _ hg (fun e2 => by
  subst e2
  rw [hb] at hg
  injection hg with hg
  injection hg with _ hg _
  exact he hg.symm) (.inr fun cs' fr' e2 => by injection e2 with _ e2 _; exact h2 e2)
theorem TreeRow.schg {B b : Nat} {v : Value} {ns : List NdM} {cb : Array Value} {fb : Nat × Nat} {w w' : World} (h : TreeRow B v ns w) (hb : w.heap[b]? = some (.cells cb 94 fb)) (hc : SChg B b w w') : TreeRow B v ns w' :=
 ⟨own_blocks h.row (hc.keeps hb (by decide) (by decide)), fun p hp => own_blocks (h.attrs p hp) (hc.keeps hb (by decide) (by decide)), fun p hp => own_blocks (h.kids p hp) (hc.keeps hb (by decide) (by decide)), h.apart⟩
theorem TreeRow.dchg {B b : Nat} {v : Value} {ns : List NdM} {cb : Array Value} {fb : Nat × Nat} {w w' : World} (h : TreeRow B v ns w) (hb : w.heap[b]? = some (.cells cb 94 fb)) (hc : DChg B b w w') : TreeRow B v ns w' :=
 ⟨own_blocks h.row (hc.keeps hb (by decide) (by decide)), fun p hp => own_blocks (h.attrs p hp) (hc.keeps hb (by decide) (by decide)), fun p hp => own_blocks (h.kids p hp) (hc.keeps hb (by decide) (by decide)), h.apart⟩
/-- The row of nodes, as it is read. -/
theorem TreeRow.look {B : Nat} {v : Value} {ns : List NdM} {w : World} (h : TreeRow B v ns w) (hne : 0 < ns.length) :
 ∃ g cap cur, v = .slice (some ⟨g, 0, none⟩) ns.length cap ∧ B ≤ g ∧ w.heap[g]? = some (.cells cur 38 (0, 0)) ∧ cur.size = cap * 6 ∧ ns.length ≤ cap ∧ ∀ k (hk : k < ns.length) (j : Nat), j < 6 → w.cell? ⟨g, k * 6 + j, none⟩ = (ndF ns[k])[j]? := by
 rcases h.row.2 with ⟨_, h0⟩ | ⟨g, cap, cur, rfl, h2, h3, h4, h5, h6, h7⟩
 ·omega
 ·refine ⟨g, cap, cur, rfl, h2, h3, h6, h4, fun k hk j hj => ?_⟩
  rw [cell_of_row w g _ _ _ _ h3, ← flat_get ndF 6 (fun _ => rfl) ns k j hk hj]
  have hlt : k * 6 + j < ns.length * 6 := by omega
  rw [← h7, List.getElem?_take, if_pos hlt, Array.getElem?_toList]
theorem flat_set {α : Type} (f : α → List Value) (n : Nat) (hf : ∀ x, (f x).length = n) : ∀ (l : List α) (k j : Nat) (x : α) (u : Value) (hk : k < l.length), j < n → f x = (f l[k]).set j u → (l.flatMap f).set (k * n + j) u = (l.set k x).flatMap f
 | [], k, j, x, u, hk, _, _ => by simp at hk
 | a :: l, 0, j, x, u, _, hj, hx => by
   have : (f a).length = n := hf a
   rw [Nat.zero_mul, Nat.zero_add, List.flatMap_cons, List.set_append_left _ _ (by omega)]
   show _ = f x ++ l.flatMap f
   rw [hx]
   rfl
 | a :: l, k + 1, j, x, u, hk, hj, hx => by
   have ha : (f a).length = n := hf a
   have ih := flat_set f n hf l k j x u (by simpa using hk) hj hx
   rw [List.flatMap_cons, List.set_append_right _ _ (by rw [ha, Nat.succ_mul]; omega), ha, show (k + 1) * n + j - n = k * n + j by rw [Nat.succ_mul]; omega, ih]
   rfl
theorem own_set {w : World} {base n size : Nat} {e : TypeId} {g cap : Nat} {xs : List Value} (h : w.ownsRow base e size (.slice (some ⟨g, 0, none⟩) n cap) n xs) (i : Nat) (u : Value) :
 (w.setCell ⟨g, i, none⟩ u).ownsRow base e size (.slice (some ⟨g, 0, none⟩) n cap) n (xs.set i u) := by
 refine ⟨by rw [List.length_set]; exact h.1, ?_⟩
 rcases h.2 with ⟨hx, _⟩ | ⟨g', cap', cur, hv, h2, h3, h4, h5, h6, h7⟩
 ·cases hx
 ·injection hv with hv _ hc
  injection hv with hv
  injection hv with hv
  subst hv hc
  refine .inr ⟨g, cap, cur.setIfInBounds i u, rfl, h2, Blk.setAt h3 i u, h4, h5, by rw [Array.size_setIfInBounds]; exact h6, ?_⟩
  rw [Array.toList_setIfInBounds, List.take_set, h7]
/-- A builder of package tree as it lies: its nodes, what is open, the bytes that the last text has yet to be given. -/
def BdM (B b : Nat) (ns : List NdM) (st : List Opn) (bs : List UInt8) (w : World) : Prop :=
 ∃ cs tv, DataAt B b cs bs w ∧ cs[0]? = some tv ∧ TreeRow B tv ns w ∧ StackAt B b 1 cs 94 st w ∧ 0 < ns.length
theorem DChg.low {B b : Nat} {w w' : World} (h : DChg B b w w') (hb : B ≤ b) (hB : B ≤ w.heap.size) : Below B w w' :=
 ⟨h.os, h.tape, h.output, h.size, fun k hk => by
  have hk' : k < w.heap.size := by omega
  have := h.blocks k _ (Array.getElem?_eq_getElem hk') (by omega) (.inl hk)
  rw [this, Array.getElem?_eq_getElem hk']⟩
theorem SChg.low {B b : Nat} {w w' : World} (h : SChg B b w w') (hb : B ≤ b) (hB : B ≤ w.heap.size) : Below B w w' :=
 ⟨h.os, h.tape, h.output, h.size, fun k hk => by
  have hk' : k < w.heap.size := by omega
  have := h.blocks k _ (Array.getElem?_eq_getElem hk') (by omega) (.inl hk)
  rw [this, Array.getElem?_eq_getElem hk']⟩
theorem StackAt.dchg {B b : Nat} {cs cs' : Array Value} {st : List Opn} {w w' : World} (h : StackAt B b 1 cs 94 st w) (hc : DChg B b w w') (hb : w'.heap[b]? = some (.cells cs' 94 (0, 0))) (h1 : cs'[1]? = cs[1]?) : StackAt B b 1 cs' 94 st w' := by
 obtain ⟨k1, k2, k3, sv, k4, k5⟩ := h
 exact ⟨hb, k2, k3, sv, h1.trans k4, own_blocks k5 (hc.keeps k1 (by decide) (by decide))⟩
/-- The last node, given its data. -/
def endN (ns : List NdM) (bs : List UInt8) : List NdM := ns.modify (ns.length - 1) fun p => ({ p.1 with data := bs }, p.2)
end Go.Proofs.YtlcijlklbabajaaGreatDoor
namespace Go.Proofs.YtlcijlklbabajaaGreatDoor
open Go.RowKit
theorem own_belowF {w w' : World} {base n : Nat} {v : Value} {xs : List Value} (h : w.ownsRowF base 5 1 v n xs) (hb : Below w.heap.size w w') : w'.ownsRowF base 5 1 v n xs := by
 refine ⟨h.1, ?_⟩
 rcases h.2 with h2 | ⟨g, cap, cur, fz, h1, h2, h3, h4⟩
 ·exact .inl h2
 ·exact .inr ⟨g, cap, cur, fz, h1, h2, (hb.block g (Array.getElem?_eq_some_iff.1 h3).1).trans h3, h4⟩
theorem DataAt.below {B b : Nat} {cs : Array Value} {bs : List UInt8} {w w' : World} (h : DataAt B b cs bs w) (hb : Below w.heap.size w w') : DataAt B b cs bs w' := by
 obtain ⟨h1, h2, h3, h4, v, h5, h6⟩ := h
 exact ⟨(hb.block b (Array.getElem?_eq_some_iff.1 h1).1).trans h1, h2, h3, h4, v, h5, own_belowF h6 hb⟩
/-- A builder of package tree, with its cells and its row of nodes named. -/
def BdU (B b : Nat) (cs : Array Value) (g cap : Nat) (ns : List NdM) (st : List Opn) (bs : List UInt8) (w : World) : Prop :=
 DataAt B b cs bs w ∧ cs[0]? = some (.slice (some ⟨g, 0, none⟩) ns.length cap) ∧ TreeRow B (.slice (some ⟨g, 0, none⟩) ns.length cap) ns w ∧ StackAt B b 1 cs 94 st w ∧ 0 < ns.length
theorem BdU.below {B b g cap : Nat} {cs : Array Value} {ns : List NdM} {st : List Opn} {bs : List UInt8} {w w' : World} (h : BdU B b cs g cap ns st bs w) (hb : Below w.heap.size w w') : BdU B b cs g cap ns st bs w' := by
 obtain ⟨h1, h2, h3, h4, h5⟩ := h
 exact ⟨h1.below hb, h2, h3.below hb, h4.below hb, h5⟩
/-- What is neither the builder, nor its row of nodes, nor bytes, has stayed. -/
def Keep (b g : Nat) (w w' : World) : Prop := w.heap.size ≤ w'.heap.size ∧ ∀ k o, w.heap[k]? = some o → k ≠ b → k ≠ g → (∀ cs fr, o ≠ .cells cs 5 fr) → w'.heap[k]? = some o
theorem Keep.of {b g : Nat} {w w' : World} (h : Below w.heap.size w w') : Keep b g w w' := ⟨h.size, fun _ _ hk _ _ _ => (h.block _ (Array.getElem?_eq_some_iff.1 hk).1).trans hk⟩
theorem Keep.dchg {B b g : Nat} {w w' : World} (h : DChg B b w w') : Keep b g w w' := ⟨h.size, fun k o hk h1 _ h3 => h.blocks k o hk h1 (.inr h3)⟩
theorem Keep.set {b g : Nat} (w : World) (q : Nat) (v : Value) : Keep b g w (w.setCell ⟨g, q, none⟩ v) := ⟨by rw [World.size_setCell]; exact Nat.le_refl _, fun k _ hk _ h2 _ => (Below.heap_setCell _ _ _ k h2).trans hk⟩
theorem Keep.trans {b g : Nat} {x y z : World} (h : Keep b g x y) (k : Keep b g y z) : Keep b g x z := ⟨Nat.le_trans h.1 k.1, fun j o h1 h2 h3 h4 => k.2 j o (h.2 j o h1 h2 h3 h4) h2 h3 h4⟩
theorem mem_endN {ns : List NdM} {bs : List UInt8} {p : NdM} (h : p ∈ endN ns bs) : ∃ p0 ∈ ns, p.2 = p0.2 ∧ p.1.attrs = p0.1.attrs ∧ p.1.kids = p0.1.kids := by
 obtain ⟨i, hi, rfl⟩ := List.mem_iff_getElem.1 h
 unfold endN at hi ⊢
 rw [List.length_modify] at hi
 rw [List.getElem_modify]
 split
 ·exact ⟨_, List.getElem_mem hi, rfl, rfl, rfl⟩
 ·exact ⟨_, List.getElem_mem hi, rfl, rfl, rfl⟩
theorem endN_vals (ns : List NdM) (bs : List UInt8) : (endN ns bs).map (·.2) = ns.map (·.2) := by
 apply List.ext_getElem?
 intro i
 unfold endN
 rw [List.getElem?_map, List.getElem?_map, List.getElem?_modify]
 split <;> cases ns[i]? <;> rfl
/-- The last node's data, written. -/
theorem TreeRow.setData {B g cap : Nat} {ns : List NdM} {bs : List UInt8} {cur : Array Value} {w : World} (h : TreeRow B (.slice (some ⟨g, 0, none⟩) ns.length cap) ns w) (hg : w.heap[g]? = some (.cells cur 38 (0, 0))) (hpos : 0 < ns.length) :
 TreeRow B (.slice (some ⟨g, 0, none⟩) ns.length cap) (endN ns bs) (w.setCell ⟨g, (ns.length - 1) * 6 + 3, none⟩ (.string (strOf bs))) := by
 have hlen : (endN ns bs).length = ns.length := by unfold endN; rw [List.length_modify]
 have hl : ns.length - 1 < ns.length := by omega
 have keeps : ∀ e : TypeId, e ≠ 38 → ∀ (k : Nat) (cs : Array Value), w.heap[k]? = some (.cells cs e (0, 0)) → (w.setCell ⟨g, (ns.length - 1) * 6 + 3, none⟩ (.string (strOf bs))).heap[k]? = some (.cells cs e (0, 0)) := by
  intro e he k cs hk
  rw [Below.heap_setCell _ _ _ _ (fun e2 => ?_)]
  ·exact hk
  ·subst e2
   rw [hg] at hk
   injection hk with hk
   injection hk with _ hk _
   exact he hk.symm
 refine ⟨?_, fun p hp => ?_, fun p hp => ?_, ?_⟩
 ·have h1 := own_set h.row ((ns.length - 1) * 6 + 3) (.string (strOf bs))
  have h2 := flat_set ndF 6 (fun _ => rfl) ns (ns.length - 1) 3 ({ (ns[ns.length - 1]).1 with data := bs }, (ns[ns.length - 1]).2) (.string (strOf bs)) hl (by decide) rfl
  have h3 : ns.set (ns.length - 1) ({ (ns[ns.length - 1]).1 with data := bs }, (ns[ns.length - 1]).2) = endN ns bs := by
   unfold endN
   apply List.ext_getElem?
   intro i
   rw [List.getElem?_set, List.getElem?_modify]
   by_cases e : ns.length - 1 = i
   ·subst e
    simp [hl]
   ·simp [e]
  rw [h2, h3] at h1
  rw [hlen]
  exact h1
 ·obtain ⟨p0, hp0, e1, e2, _⟩ := mem_endN hp
  have := h.attrs p0 hp0
  rw [e1, e2]
  exact own_blocks this (keeps _ (by decide))
 ·obtain ⟨p0, hp0, e1, _, e3⟩ := mem_endN hp
  have := h.kids p0 hp0
  rw [e1, e3]
  exact own_blocks this (keeps _ (by decide))
 ·have hv := endN_vals ns bs
  have h1 : (ns.map (·.2)).Pairwise (fun p q => p.2.ownBlock = none ∨ p.2.ownBlock ≠ q.2.ownBlock) := List.pairwise_map.2 h.apart
  rw [← hv] at h1
  exact List.pairwise_map.1 h1
set_option maxHeartbeats 4000000 in
set_option maxRecDepth 100000 in
theorem endText_any {B b g cap : Nat} {cs : Array Value} {ns : List NdM} {st : List Opn} {bs : List UInt8} {w : World} (h : BdU B b cs g cap ns st bs w) (hn : ns.length ≤ 1000000) (p : NdM) (hp : ns[ns.length - 1]? = some p) (h2 : p.1.kind = 2 → bs ≠ []) :
 Calls Tryz.prog 66 #[.pointer (some ⟨b, 0, none⟩)] w fun e w' => e = .returned (.tuple #[]) ∧ Below B w w' ∧ Keep b g w w' ∧ (if p.1.kind = 2 then ∃ cs', BdU B b cs' g cap (endN ns bs) st [] w' else BdU B b cs g cap ns st bs w') := by
 obtain ⟨hd, htv, htr, hst, hpos⟩ := h
 obtain ⟨g', cap', cur, hv, hBg, hg, hgz, hcap, hc⟩ := htr.look hpos
 injection hv with hv _ hvc
 injection hv with hv
 injection hv with hv
 subst hv hvc
 have hl : ns.length - 1 < ns.length := by omega
 have hpe : ns[ns.length - 1] = p := by
  rw [List.getElem?_eq_getElem hl] at hp
  injection hp
 have hb1 := hd.1
 have hBb := hd.2.2.1
 have c0 : w.cell? ⟨b, 0, none⟩ = some (.slice (some ⟨g, 0, none⟩) ns.length cap) := by rw [cell_of_row w b 0 _ _ _ hb1]; exact htv
 have k0 := hc (ns.length - 1) hl 0 (by decide)
 have k3 := hc (ns.length - 1) hl 3 (by decide)
 rw [hpe] at k0 k3
 have k0 : w.cell? ⟨g, (ns.length - 1) * 6, none⟩ = some (.int .u8 (p.1.kind : Int)) := k0
 have k3 : w.cell? ⟨g, (ns.length - 1) * 6 + 3, none⟩ = some (.string (strOf p.1.data)) := k3
 have H := hid_mk (And.intro hd (And.intro htv (And.intro htr (And.intro hst (And.intro hpos (And.intro hg (And.intro hBg hp)))))))
 obtain ⟨n, hnn⟩ : ∃ n, n = ns.length := ⟨_, rfl⟩
 rw [← hnn] at k0 k3 c0 hn hpos hcap
 have HN := hid_mk hnn
 have ha : IntKind.i64.wrap ((n : Int) - 1) = (n : Int) - 1 := IntWalk.i64_in _ (by omega)
 have h0 : (0 : Int) ≤ (n : Int) - 1 := by omega
 have h1 : (1 : Int) ≤ (n : Int) := by omega
 have h3 : ((n : Int) - 1).toNat = n - 1 := by omega
 have h4 : (n : Int) - 1 < (n : Int) := by omega
 have HB := hid_mk (And.intro hb1 hBb)
 clear hd htv htr hst hg hgz hc hp hl hpe hnn hb1 hBb
 go_enter Tryz.func66, Tryz.ntmps66
 go_wp2_with fail
 go_quiet (fail)
 have k0' : (w.drewN nq).cell? ⟨g, (n - 1) * 6, none⟩ = some (.int .u8 (p.1.kind : Int)) := k0
 clear ha h0 h1 h3 h4
 by_cases hk : p.1.kind = 2
 ·have hq : ((p.1.kind : Int) == 2) = true := by rw [hk]; rfl
  have hqn : (p.1.kind == 2) = true := by rw [hk]; rfl
  have hbs := h2 hk
  have HK := hid_mk hk
  clear hk h2
  go_wp2_with fail
  have hdw := hid_mk (string_at (H.out.1.below (below_drewN (Below.refl _ _) nq)) hbs)
  (with_reducible refine hdw.out.mono ?_)
  rintro e w1 ⟨rfl, hb1, hch1⟩
  obtain ⟨hd, htv, htr, hst, _, hg, hBg', hp⟩ := H.out
  have hbw : (w.drewN nq).heap[b]? = some (.cells cs 94 (0, 0)) := hd.1
  have hg1 : w1.heap[g]? = some (.cells cur 38 (0, 0)) := hch1.keeps hbw (by decide) (by decide) g cur hg
  have htr1 : TreeRow B (.slice (some ⟨g, 0, none⟩) ns.length cap) ns w1 := (htr.below (below_drewN (Below.refl _ _) nq)).dchg hbw hch1
  have hst1 := (hst.below (below_drewN (Below.refl _ _) nq)).dchg hch1 hb1 rfl
  have hgb : g ≠ b := by
   rintro rfl
   rw [hb1] at hg1
   injection hg1 with hg1
   injection hg1 with _ hg1 _
   exact absurd hg1 (by decide)
  obtain ⟨g', cap', cur', hv', _, hg'', _, _, hc1⟩ := htr1.look (by rw [← HN.out]; exact hpos)
  have k3' : w1.cell? ⟨g, (n - 1) * 6 + 3, none⟩ = some (.string (strOf p.1.data)) := by
   injection hv' with hv' _ _
   injection hv' with hv'
   injection hv' with hv'
   subst hv'
   have hl : ns.length - 1 < ns.length := by rw [← HN.out]; omega
   have := hc1 (ns.length - 1) hl 3 (by decide)
   rw [List.getElem?_eq_getElem hl] at hp
   injection hp with hp
   rw [hp, ← HN.out] at this
   exact this
  have f3' : w1.frozen? ⟨g, (n - 1) * 6 + 3, none⟩ = false := Lib.frozen_of_heap hg1 _
  obtain ⟨w2, hw2⟩ : ∃ w2, w2 = w1.setCell ⟨g, (n - 1) * 6 + 3, none⟩ (.string (strOf bs)) := ⟨_, rfl⟩
  have htr2 : TreeRow B (.slice (some ⟨g, 0, none⟩) ns.length cap) (endN ns bs) w2 := by rw [hw2, HN.out]; exact htr1.setData hg1 (by rw [← HN.out]; exact hpos)
  have hb2 : w2.heap[b]? = some (.cells cs 94 (0, 0)) := by rw [hw2, Below.heap_setCell _ _ _ _ (fun e => hgb e.symm)]; exact hb1
  have hst2 : StackAt B b 1 cs 94 st w2 := by
   obtain ⟨s1, s2, s3, sv, s4, s5⟩ := hst1
   refine ⟨hb2, s2, s3, sv, s4, own_blocks s5 (fun k ck hk => ?_)⟩
   rw [hw2, Below.heap_setCell _ _ _ _ (fun e => ?_)]
   ·exact hk
   ·subst e
    rw [hg1] at hk
    injection hk with hk
    injection hk with _ hk _
    exact absurd hk (by decide)
  have hlow1 : Below B w w1 := ((below_drewN (Below.refl _ _) nq).mono (by have := hd.2.2.1; have := (Array.getElem?_eq_some_iff.1 hd.1).1; omega)).trans (hch1.low hd.2.2.1 (by have := hd.2.2.1; have := (Array.getElem?_eq_some_iff.1 hbw).1; omega))
  have hlow2 : Below B w w2 := by rw [hw2]; exact hlow1.setCell (p := ⟨g, (n - 1) * 6 + 3, none⟩) hBg' _
  obtain ⟨x2, hx2⟩ : ∃ x, cs[2]? = some x := by rcases hd.2.2.2.1 with h | h <;> exact ⟨_, h⟩
  obtain ⟨x3, hx3, _⟩ := hd.2.2.2.2
  have hre := hid_mk (reset_at (B := B) hb2 hd.2.1 hd.2.2.1 x2 x3 hx2 hx3)
  have hke2 : Keep b g w w2 := by rw [hw2]; exact ((Keep.of (below_drewN (Below.refl _ _) nq)).trans (.dchg hch1)).trans (.set w1 _ _)
  have H2 := hid_mk (And.intro htr2 (And.intro hst2 (And.intro hlow2 (And.intro hb2 (And.intro htv (And.intro hd.2.2.1 hke2))))))
  have HW2 := hid_mk hw2
  clear hdw hd htv htr hst hg hBg' hp hbw hg1 htr1 hst1 hv' hg'' hc1 hlow1 hx2 hx3 hch1 htr2 hst2 hlow2 hb2 hw2 hb1 hke2 hgb
  go_wp2_with fail
  rw [← HW2.out]
  (with_reducible refine hre.out.mono ?_)
  rintro e w3 ⟨rfl, cs', hd3, e0, e1, hch3⟩
  obtain ⟨htr2, hst2, hlow2, hb2, htv, hBb, hke2⟩ := H2.out
  have hlen : (endN ns bs).length = ns.length := by unfold endN; rw [List.length_modify]
  have HF := hid_mk (show Below B w w3 ∧ Keep b g w w3 ∧ ∃ cs', BdU B b cs' g cap (endN ns bs) st [] w3 from by
   refine ⟨hlow2.trans (hch3.low hBb (by have := (Array.getElem?_eq_some_iff.1 hb2).1; omega)), hke2.trans (.dchg hch3), cs', hd3, by rw [hlen]; exact e0.trans htv, ?_, hst2.dchg hch3 hd3.1 e1, by rw [hlen, ← HN.out]; exact hpos⟩
   rw [hlen]
   exact htr2.dchg hb2 hch3)
  clear htr2 hst2 hlow2 hb2 htv hd3 e0 e1 hch3 hke2 hlen
  go_wp2_with fail
  go_end0
  first
   | exact ⟨rfl, HF.out⟩
   | (refine ⟨rfl, HF.out.1, HF.out.2.1, ?_⟩
      rw [if_pos HK.out]
      exact HF.out.2.2)
 ·have hq : ((p.1.kind : Int) == 2) = false := beq_false_of_ne (by omega)
  have hqn : (p.1.kind == 2) = false := beq_false_of_ne hk
  have HK := hid_mk hk
  have HF := hid_mk (show Below B w (w.drewN nq) ∧ Keep b g w (w.drewN nq) ∧ BdU B b cs g cap ns st bs (w.drewN nq) from by
   obtain ⟨hd, htv, htr, hst, hps, _⟩ := H.out
   exact ⟨below_drewN (Below.refl B w) nq, .of (below_drewN (Below.refl _ _) nq), BdU.below ⟨hd, htv, htr, hst, hps⟩ (below_drewN (Below.refl _ _) nq)⟩)
  clear hk h2
  go_wp2_with fail
  go_end0
  first
   | exact ⟨rfl, HF.out⟩
   | (refine ⟨rfl, HF.out.1, HF.out.2.1, ?_⟩
      rw [if_neg HK.out]
      exact HF.out.2.2)
end Go.Proofs.YtlcijlklbabajaaGreatDoor
