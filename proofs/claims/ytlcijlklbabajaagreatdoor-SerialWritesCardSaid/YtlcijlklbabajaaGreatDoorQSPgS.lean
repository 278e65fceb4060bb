/-
  A strings.Builder within package serial's page: copyCheck, WriteString, String, Len. Condition: the lengths are bounded.
-/
import Derived.Test.YtlcijlklbabajaaGreatDoorQSRfE
import Derived.Test.YtlcijlklbabajaaGreatDoorQBStC
import Derived.Shelf.Abstract
import Derived.Shelf.Strings.BuilderF
import Derived.Deep.QuietTactic
import Derived.BigQuiet
import Derived.Test.YtlcijlklbabajaaGreatDoorQKKind
import Derived.Deep.RegionHeld3
import Derived.Test.YtlcijlklbabajaaGreatDoorQRPsm
namespace Go.Proofs.YtlcijlklbabajaaGreatDoor.R.Pg
open Go.RowKit
theorem liesBd : liesAt Tryz.prog Tryz.prog.depth 80 (3 / Tryz.prog.cellsOf 80) 0 78 1 = true := by kernel_rfl
/-- The bytes that page b of package tree holds: cells 0 and 1. -/
def DataAt (B b : Nat) (cs : Array Value) (bs : List UInt8) (w : World) : Prop :=
 w.heap[b]? = some (.cells cs 80 (0, 0)) ∧ cs.size = 3 ∧ B ≤ b ∧ (cs[0]? = some (.pointer none) ∨ cs[0]? = some (.pointer (some ⟨b, 0, none⟩))) ∧ ∃ v, cs[1]? = some v ∧ w.ownsRowF B 5 1 v bs.length (Lib.byteCells bs)
/-- Behind what a text builder's methods do: nothing has turned but block b, and rows of bytes from B on. -/
structure DChg (B b : Nat) (w w' : World) : Prop where
 os : w'.os = w.os
 tape : w'.tape = w.tape
 output : w'.output = w.output
 size : w.heap.size ≤ w'.heap.size
 blocks : ∀ k o, w.heap[k]? = some o → k ≠ b → (k < B ∨ ∀ cs fr, o ≠ .cells cs 5 fr) → w'.heap[k]? = some o
theorem DChg.of {B b : Nat} {w w' : World} (h : Below w.heap.size w w') : DChg B b w w' :=
 ⟨h.os, h.tape, h.output, h.size, fun k _ hk _ _ => (h.block k (Array.getElem?_eq_some_iff.1 hk).1).trans hk⟩
theorem DChg.refl (B b : Nat) (w : World) : DChg B b w w := .of (Below.refl _ _)
theorem DChg.trans {B b : Nat} {x y z : World} (h : DChg B b x y) (k : DChg B b y z) : DChg B b x z :=
 ⟨k.os.trans h.os, k.tape.trans h.tape, k.output.trans h.output, Nat.le_trans h.size k.size, fun j o h1 h2 h3 => k.blocks j o (h.blocks j o h1 h2 h3) h2 h3⟩
theorem DChg.set {B b : Nat} (w : World) (q : Nat) (v : Value) : DChg B b w (w.setCell ⟨b, q, none⟩ v) :=
 ⟨rfl, rfl, rfl, by rw [World.size_setCell]; exact Nat.le_refl _, fun _ _ hk hne _ => (Below.heap_setCell _ _ _ _ hne).trans hk⟩
theorem DChg.drew {B b : Nat} {w w' : World} (h : DChg B b w w') : DChg B b w w'.drew := ⟨h.os, h.tape, h.output, h.size, h.blocks⟩
theorem h5_of {b j : Nat} {cs : Array Value} {T : TypeId} {v : Value} {w : World} (hc : w.cell? ⟨b, j, none⟩ = some v) (h : w.heap[b]? = some (.cells cs T (0, 0))) : some v = cs[j]? := by
 rw [← hc, cell_of_row w b j _ _ _ h]
/-- copyCheck: the builder knows itself from then on. -/
theorem copyCheck_at {B b : Nat} {cs : Array Value} {bs : List UInt8} {w : World} (h : DataAt B b cs bs w) :
 Calls Tryz.prog 108 #[.pointer (some ⟨b, 0, none⟩)] w fun e w' => e = .returned (.tuple #[]) ∧ DataAt B b (cs.setIfInBounds 0 (.pointer (some ⟨b, 0, none⟩))) bs w' ∧ DChg B b w w' ∧ w'.heap.size = w.heap.size := by
 obtain ⟨h1, h2, h3, h4, v, h5, h6⟩ := h
 have hne : v.ownBlock ≠ some b := Lib.ownBlock_neF h6 h1 (by decide)
 have h5' : (cs.setIfInBounds 0 (.pointer (some ⟨b, 0, none⟩)))[1]? = some v := by rw [Array.getElem?_setIfInBounds_ne (by decide)]; exact h5
 have h2' : (cs.setIfInBounds 0 (.pointer (some ⟨b, 0, none⟩)))[0]? = some (.pointer (some ⟨b, 0, none⟩)) := Array.getElem?_setIfInBounds_self_of_lt (by omega)
 rcases h4 with h4 | h4
 ·obtain ⟨j, hj, hjs⟩ := Option.map_eq_some_iff.1 sizeBuilder
  have hsh : w.shape? b = some (80, 3) := by simp [World.shape?, h1, h2]
  have h0 : w.cell? ⟨b, 0, none⟩ = some (.pointer none) := by rw [cell_of_row w b 0 _ _ _ h1]; exact h4
  have hfz : w.frozen? ⟨b, 0, none⟩ = false := Lib.frozen_of_heap h1 _
  have k1 := Lib.run_to_unsafe (P := Tryz.prog) w ⟨b, 0, none⟩ Tryz.underlying76 Tryz.underlying151 hj (by rw [hjs]; decide) hsh (show 0 < 3 by decide)
  have k3 := Lib.run_from_unsafe (P := Tryz.prog) w ⟨b, 0, none⟩ Tryz.underlying151 Tryz.underlying76 hj hsh liesBd
  have k2 := run_callFunc_extern (args := #[.pointer (some ⟨b, 0, none⟩)]) (w := w) Tryz.func140 (by kernel_rfl) (by kernel_rfl) (by kernel_rfl) (e := Extern.AbiNoEscape.same) (by kernel_rfl)
  rw [Lib.run_noEscape] at k2
  simp only [Result.andThen] at k2
  have HF := hid_mk (show DataAt B b (cs.setIfInBounds 0 (.pointer (some ⟨b, 0, none⟩))) bs (w.setCell ⟨b, 0, none⟩ (.pointer (some ⟨b, 0, none⟩))) ∧ DChg B b w (w.setCell ⟨b, 0, none⟩ (.pointer (some ⟨b, 0, none⟩))) ∧ (w.setCell ⟨b, 0, none⟩ (.pointer (some ⟨b, 0, none⟩))).heap.size = w.heap.size from
   ⟨⟨Blk.setAt h1 0 _, by rw [Array.size_setIfInBounds]; exact h2, h3, .inr h2', v, h5', h6.kept (row := some b) ⟨rfl, rfl, rfl, by simp [World.setCell], fun k _ hk => Below.heap_setCell _ _ _ _ (fun e => hk (by simp [e]))⟩ (Or.inr hne)⟩, .set w 0 _, World.size_setCell ..⟩)
  clear hj hjs h6 h5' h2' h5 h4
  go_enter Tryz.func108, Tryz.ntmps108
  go_wp2
  go_end0
  exact ⟨rfl, HF.out⟩
 ·have hset : cs.setIfInBounds 0 (.pointer (some ⟨b, 0, none⟩)) = cs := by
   apply Array.ext_getElem?
   intro i
   by_cases e : i = 0
   ·subst e; rw [h2', h4]
   ·rw [Array.getElem?_setIfInBounds_ne (fun h => e h.symm)]
  have HF := hid_mk (show DataAt B b (cs.setIfInBounds 0 (.pointer (some ⟨b, 0, none⟩))) bs w ∧ DChg B b w w ∧ w.heap.size = w.heap.size by
   rw [hset]; exact ⟨⟨h1, h2, h3, .inr h4, v, h5, h6⟩, .refl _ _ _, rfl⟩)
  have h0 : w.cell? ⟨b, 0, none⟩ = some (.pointer (some ⟨b, 0, none⟩)) := by rw [cell_of_row w b 0 _ _ _ h1]; exact h4
  obtain ⟨j, hj, _⟩ := Option.map_eq_some_iff.1 sizeBuilder
  have k1 := Lib.run_neq_ptr_same (P := Tryz.prog) w ⟨b, 0, none⟩ Tryz.underlying76 hj
  clear hj h6 h5' h2' h5 h4 hset
  go_enter Tryz.func108, Tryz.ntmps108
  go_wp2
  go_end0
  exact ⟨rfl, HF.out.1, HF.out.2.1, rfl⟩
theorem DChg.grownF {B b n : Nat} {v : Value} {xs : List Value} {w w' : World} (hr : w.ownsRowF B 5 1 v n xs) (hg : w.grownBy w' v.ownBlock) : DChg B b w w' :=
 ⟨hg.os, hg.tape, hg.output, hg.size, fun k o hk _ h3 => by
  refine (hg.block k (Array.getElem?_eq_some_iff.1 hk).1 (fun e => ?_)).trans hk
  rcases hr.2 with ⟨rfl, _⟩ | ⟨g, cap, cur, fz, rfl, hB, hgg, _⟩
  ·cases e
  ·have : k = g := by simpa [Value.ownBlock] using e
   subst this
   rcases h3 with h3 | h3
   ·omega
   ·rw [hk] at hgg
    injection hgg with hgg
    exact h3 _ _ hgg⟩
set_option maxHeartbeats 2000000 in
set_option maxRecDepth 100000 in
theorem writeString_at {B b : Nat} {cs : Array Value} {bs : List UInt8} {w : World} (s : List UInt8) (h : DataAt B b cs bs w) (hlen : bs.length + s.length ≤ 1000000000) :
 Calls Tryz.prog 97 #[.pointer (some ⟨b, 0, none⟩), .string (strOf s)] w fun e w' => e = .returned (.tuple #[.int .i64 s.length, .nilIface]) ∧ ∃ cs', DataAt B b cs' (bs ++ s) w' ∧ cs'[2]? = cs[2]? ∧ cs'[2]? = cs[2]? ∧ DChg B b w w' := by
 obtain ⟨i0, hi, hz0, hz1, hz2⟩ := info_parts infoByte
 have HI := hid_mk (And.intro hi (And.intro hz0 (And.intro hz1 hz2)))
 have hss := size_strOf s
 have hcc := hid_mk (copyCheck_at h)
 have hB0 := hid_mk (show B ≤ w.heap.size by have := (Array.getElem?_eq_some_iff.1 h.1).1; have := h.2.2.1; omega)
 clear h hi hz0 hz1 hz2
 go_enter Tryz.func97, Tryz.ntmps97
 go_wp2_with fail
 (with_reducible refine hcc.out.mono ?_)
 rintro e w1 ⟨rfl, hd, hch, hsz⟩
 clear hcc
 obtain ⟨cs1, hcs1⟩ : ∃ cs1, cs1 = cs.setIfInBounds 0 (.pointer (some ⟨b, 0, none⟩)) := ⟨_, rfl⟩
 have e0 : cs1[2]? = cs[2]? := by rw [hcs1]; exact Array.getElem?_setIfInBounds_ne (by decide)
 have e1 : cs1[2]? = cs[2]? := by rw [hcs1]; exact Array.getElem?_setIfInBounds_ne (by decide)
 rw [← hcs1] at hd
 obtain ⟨h1, h2, h3, h4, v, h5, h6⟩ := hd
 have hne : v.ownBlock ≠ some b := Lib.ownBlock_neF h6 h1 (by decide)
 have c3 : w1.cell? ⟨b, 1, none⟩ = some v := by rw [cell_of_row w1 b 1 _ _ _ h1]; exact h5
 have H := hid_mk (And.intro h1 (And.intro h2 (And.intro h3 (And.intro h4 (And.intro h6 (And.intro hne (And.intro hch (And.intro e0 e1))))))))
 have hs3 : 1 < cs1.size := by omega
 have HS := hid_mk (And.intro hsz hs3)
 clear hcs1 h1 h2 h3 h4 h5 h6 hne hch e0 e1 hsz hs3
 go_wp2_with (at_builtin; refine Classical.byContradiction fun hno => ?_)
 refine hno ?_
 clear hno
 obtain ⟨h1, h2, h3, h4, h6, hne, hch, e0, e1⟩ := H.out
 obtain ⟨hi, hz0, hz1, hz2⟩ := HI.out
 refine Lib.wpList_append_own_stringF _ rfl (.tmp 12) (.tmp 13) _ _ rfl B 5 i0 Tryz.underlying42 Tryz.underlying9 hi hz0 hz1 hz2 v bs.length (Lib.byteCells bs) rfl h6 (strOf s) rfl (by unfold maxLen; omega) (by omega) (by have := hB0.out; have := HS.out.1; omega) ?_
 intro v' w2 hown1 hgrow _
 have hcs : Lib.byteCells bs ++ Lib.strCells (strOf s) = Lib.byteCells (bs ++ s) := by
  rw [Lib.byteCells_append]
  rfl
 rw [hcs, hss, ← List.length_append] at hown1
 have hbl : b < w1.heap.size := (Array.getElem?_eq_some_iff.1 h1).1
 have hb2 : w2.heap[b]? = some (.cells cs1 80 (0, 0)) := (hgrow.block b hbl (fun e => hne e.symm)).trans h1
 have d1 : w2.cell? ⟨b, 1, none⟩ = some v := by rw [cell_of_row w2 b 1 _ _ _ hb2, ← h5_of c3 h1]
 have f1 : w2.frozen? ⟨b, 1, none⟩ = false := Lib.frozen_of_heap hb2 _
 have hne2 : v'.ownBlock ≠ some b := Lib.ownBlock_neF hown1 hb2 (by decide)
 have HF := hid_mk (show ∃ cs', DataAt B b cs' (bs ++ s) (w2.setCell ⟨b, 1, none⟩ v') ∧ cs'[2]? = cs[2]? ∧ cs'[2]? = cs[2]? ∧ DChg B b w (w2.setCell ⟨b, 1, none⟩ v') from by
  refine ⟨cs1.setIfInBounds 1 v', ⟨Blk.setAt hb2 1 _, by rw [Array.size_setIfInBounds]; exact h2, h3, ?_, v', Array.getElem?_setIfInBounds_self_of_lt HS.out.2, ?_⟩, ?_, ?_, (hch.trans (.grownF h6 hgrow)).trans (.set w2 1 _)⟩
  ·rw [Array.getElem?_setIfInBounds_ne (by decide)]; exact h4
  ·exact hown1.kept (row := some b) ⟨rfl, rfl, rfl, by simp [World.setCell], fun k _ hk => Below.heap_setCell _ _ _ _ (fun e => hk (by simp [e]))⟩ (Or.inr hne2)
  ·rw [Array.getElem?_setIfInBounds_ne (by decide)]; exact e0
  ·rw [Array.getElem?_setIfInBounds_ne (by decide)]; exact e1)
 obtain ⟨gv, cap, hv⟩ : ∃ g cap, v' = .slice g (bs ++ s).length cap := by
  rcases hown1.2 with ⟨hv, h0⟩ | ⟨g, cap, cur, fz, hv, _⟩
  ·exact ⟨none, 0, by rw [hv, h0]⟩
  ·exact ⟨_, cap, hv⟩
 clear h1 h2 h3 h4 h6 hne hch e0 e1 hi hz0 hz1 hz2 hown1 hgrow hb2 hne2 hcs
 rw [hv] at HF ⊢
 clear hv
 rw [List.length_append] at HF ⊢
 go_wp2
 go_ret2
 exact ⟨rfl, HF.out⟩
theorem freeze_other (w : World) (g n k : Nat) (h : k ≠ g) : (w.freeze ⟨g, 0, none⟩ n).heap[k]? = w.heap[k]? := by
 unfold World.freeze
 split
 ·rfl
 ·show (w.heap.modify g _)[k]? = _
  rw [Array.getElem?_modify, if_neg (fun e => h e.symm)]
theorem DChg.freeze {B b g n : Nat} {cs : Array Value} {fr : Nat × Nat} {w0 w : World} (h : DChg B b w0 w) (hB : B ≤ g) (hg : w0.heap[g]? = some (.cells cs 5 fr)) : DChg B b w0 (w.freeze ⟨g, 0, none⟩ n) := by
 have hb := Lib.below_freeze (Below.refl g w) (p := ⟨g, 0, none⟩) (Nat.le_refl _) n
 refine ⟨hb.os.trans h.os, hb.tape.trans h.tape, hb.output.trans h.output, Nat.le_trans h.size hb.size, fun k o hk hne h3 => ?_⟩
 have hkg : k ≠ g := by
  rintro rfl
  rcases h3 with h3 | h3
  ·omega
  ·rw [hk] at hg
   injection hg with hg
   exact h3 _ _ hg
 have := h.blocks k o hk hne h3
 rw [← this]
 exact freeze_other w g n k hkg
set_option maxHeartbeats 2000000 in
set_option maxRecDepth 100000 in
theorem string_at {B b : Nat} {cs : Array Value} {bs : List UInt8} {w : World} (h : DataAt B b cs bs w) (h0 : bs ≠ []) :
 Calls Tryz.prog 55 #[.pointer (some ⟨b, 0, none⟩)] w fun e w' => e = .returned (.string (strOf bs)) ∧ w'.heap[b]? = some (.cells cs 80 (0, 0)) ∧ DChg B b w w' := by
 obtain ⟨h1, h2, h3, h4, v, h5, hown⟩ := h
 have hne : v.ownBlock ≠ some b := Lib.ownBlock_neF hown h1 (by decide)
 have hl0 : bs.length ≠ 0 := by simpa using h0
 obtain ⟨g, cap, cur, fz, rfl, hbg, hg, hfz, hnc, hcm, hcs, htake⟩ : ∃ g cap cur fz, v = .slice (some ⟨g, 0, none⟩) bs.length cap ∧ B ≤ g ∧ w.heap[g]? = some (.cells cur 5 fz) ∧ fz.2 ≤ bs.length * 1 ∧ bs.length ≤ cap ∧ cap ≤ maxLen ∧ cur.size = cap * 1 ∧ cur.toList.take (bs.length * 1) = Lib.byteCells bs := by
  rcases hown.2 with ⟨_, hz⟩ | ⟨g, cap, cur, fz, hv, r⟩
  ·exact absurd hz hl0
  ·exact ⟨g, cap, cur, fz, hv, r⟩
 have c1 : w.drew.cell? ⟨b, 1, none⟩ = some (.slice (some ⟨g, 0, none⟩) bs.length cap) := by
  have : w.drew.heap[b]? = some (.cells cs 80 (0, 0)) := h1
  rw [cell_of_row _ b 1 _ _ _ this]; exact h5
 have hSD : (Builtin.unsafeSliceData_ #[42] 130 #[.slice (some ⟨g, 0, none⟩) bs.length cap]).run Tryz.prog w.drew = .ok (.pointer (some ⟨g, 0, none⟩)) w.drew :=
  Lib.run_unsafeSliceData_row _ _ _ _ _ _ (by omega)
 have hUS : (Builtin.unsafeString_ #[130, 3] 9 #[.pointer (some ⟨g, 0, none⟩), .int .i64 bs.length]).run Tryz.prog w.drew = .ok (.string (strOf bs)) (w.drew.freeze ⟨g, 0, none⟩ bs.length) := by
  refine Lib.run_unsafeString_row w.drew 130 3 9 5 Tryz.underlying130 (by kernel_rfl) g cur.size (by have hg' : w.drew.heap[g]? = some (.cells cur 5 fz) := hg; simp [World.shape?, hg']) bs h0 (by omega) (by unfold maxLen at hcm; omega) ?_
  intro j x hx
  exact hown.cells (g := g) rfl j (.int .u8 x.toNat) (by simp [Lib.byteCells, hx])
 have hgb : g ≠ b := by
  rintro rfl
  exact hne rfl
 have HF := hid_mk (show (w.drew.freeze ⟨g, 0, none⟩ bs.length).heap[b]? = some (.cells cs 80 (0, 0)) ∧ DChg B b w (w.drew.freeze ⟨g, 0, none⟩ bs.length) from
  ⟨(freeze_other w.drew g _ b (fun e => hgb e.symm)).trans h1, (DChg.refl B b w).drew.freeze hbg hg⟩)
 clear hown hg hfz hcs htake h4 hne hl0
 go_enter Tryz.func55, Tryz.ntmps55
 have mixed : Tryz.prog.follows Departure.mixedOrders = true := by kernel_rfl
 go_wp2
 go_region_o
 all_goals (go_wp2; go_ret; exact ⟨rfl, HF.out⟩)
set_option maxHeartbeats 1000000 in
theorem len_at {B b : Nat} {cs : Array Value} {bs : List UInt8} {w : World} (h : DataAt B b cs bs w) :
 Calls Tryz.prog 162 #[.pointer (some ⟨b, 0, none⟩)] w fun e w' => e = .returned (.int .i64 (bs.length : Int)) ∧ w' = w := by
 obtain ⟨h1, h2, h3, h4, v, h5, h6⟩ := h
 have c1 : w.cell? ⟨b, 1, none⟩ = some v := by rw [cell_of_row w b 1 _ _ _ h1]; exact h5
 obtain ⟨gv, cap, hv⟩ : ∃ g cap, v = .slice g bs.length cap := by
  rcases h6.2 with ⟨hv, h0⟩ | ⟨g, cap, cur, fz, hv, _⟩
  ·exact ⟨none, 0, by rw [hv, h0]⟩
  ·exact ⟨_, cap, hv⟩
 rw [hv] at c1
 clear h1 h2 h3 h4 h5 h6 hv
 go_enter Tryz.func162, Tryz.ntmps162
 go_wp2_with fail
 go_ret
 exact ⟨rfl, rfl⟩
end Go.Proofs.YtlcijlklbabajaaGreatDoor.R.Pg
namespace Go.Proofs.YtlcijlklbabajaaGreatDoor.R.Pg
open Go.RowKit
/-- A page, plain: what it holds, and whether it is full. -/
abbrev Pst := List UInt8 × Bool
def tk (st : Pst) (s : List UInt8) : Pst := (st.1, st.2 || decide (65536 < st.1.length + s.length))
def wr1 (st : Pst) (s : List UInt8) : Pst := if (tk st s).2 then tk st s else (st.1 ++ s, false)
def wrL (st : Pst) (l : List (List UInt8)) : Pst := l.foldl wr1 st
def wrE (v : Bool) (st : Pst) (s : List UInt8) : Pst := if (tk st s).2 then tk st s else wr1 (tk st s) (escL v s)
/-- A page as it lies. -/
def PageM (B b : Nat) (st : Pst) (w : World) : Prop := ∃ cs, DataAt B b cs st.1 w ∧ cs[2]? = some (.bool st.2) ∧ st.1.length ≤ 65536
theorem PageM.cell {B b : Nat} {st : Pst} {w : World} (h : PageM B b st w) : w.cell? ⟨b, 2, none⟩ = some (.bool st.2) := by
 obtain ⟨cs, h1, h2, _⟩ := h
 rw [cell_of_row w b 2 _ _ _ h1.1]; exact h2
theorem PageM.frozen {B b : Nat} {st : Pst} {w : World} (h : PageM B b st w) (j : Nat) : w.frozen? ⟨b, j, none⟩ = false := by
 obtain ⟨cs, h1, _⟩ := h
 exact Lib.frozen_of_heap h1.1 _
theorem PageM.fill {B b : Nat} {st : Pst} {w : World} (h : PageM B b st w) (f : Bool) : PageM B b (st.1, f) (w.setCell ⟨b, 2, none⟩ (.bool f)) := by
 obtain ⟨cs, ⟨h1, h2, h3, h4, v, h5, h6⟩, h7, h8⟩ := h
 have hne : v.ownBlock ≠ some b := Lib.ownBlock_neF h6 h1 (by decide)
 refine ⟨cs.setIfInBounds 2 (.bool f), ⟨Blk.setAt h1 2 _, by rw [Array.size_setIfInBounds]; exact h2, h3, ?_, v, ?_, ?_⟩, ?_, h8⟩
 ·rw [Array.getElem?_setIfInBounds_ne (by decide)]; exact h4
 ·rw [Array.getElem?_setIfInBounds_ne (by decide)]; exact h5
 ·exact h6.kept (row := some b) ⟨rfl, rfl, rfl, by simp [World.setCell], fun k _ hk => Below.heap_setCell _ _ _ _ (fun e => hk (by simp [e]))⟩ (Or.inr hne)
 ·exact Array.getElem?_setIfInBounds_self_of_lt (by omega)
set_option maxHeartbeats 1000000 in
theorem takes_any {B b : Nat} (st : Pst) (s : List UInt8) (w : World) (h : PageM B b st w) :
 Calls Tryz.prog 136 #[.pointer (some ⟨b, 0, none⟩), .string (strOf s)] w fun e w' => e = .returned (.bool (!(tk st s).2)) ∧ PageM B b (tk st s) w' ∧ DChg B b w w' := by
 have H := hid_mk h
 have hss := size_strOf s
 have c2 := h.cell
 have f2 := h.frozen 2
 have hbs := h.choose_spec.2.2
 have hln := hid_mk (len_at h.choose_spec.1)
 obtain ⟨T, hT⟩ : ∃ T, T = tk st s := ⟨_, rfl⟩
 have HT := hid_mk (show T = (st.1, st.2 || decide (65536 < st.1.length + s.length)) from hT)
 rw [← hT]
 clear hT h
 by_cases hb : 65536 < st.1.length + s.length
 ·have hbi : 65536 - (st.1.length : Int) < (s.length : Int) := by omega
  have HF := hid_mk (And.intro (H.out.fill true) (DChg.set (B := B) w 2 (.bool true) (b := b)))
  have HTT := hid_mk (show T = (st.1, true) by rw [HT.out, decide_eq_true hb, Bool.or_true])
  clear hb
  go_enter Tryz.func136, Tryz.ntmps136
  go_wp2_with fail
  with_reducible refine hln.out.mono ?_
  rintro e1 w1 ⟨rfl, hw1⟩
  subst hw1
  go_wp2_with fail
  go_ret
  rw [HTT.out]
  exact ⟨rfl, HF.out⟩
 ·have hbi : ¬ 65536 - (st.1.length : Int) < (s.length : Int) := by omega
  have HTT := hid_mk (show T = (st.1, st.2) by rw [HT.out, decide_eq_false hb, Bool.or_false])
  clear hb
  go_enter Tryz.func136, Tryz.ntmps136
  go_wp2_with fail
  with_reducible refine hln.out.mono ?_
  rintro e1 w1 ⟨rfl, hw1⟩
  subst hw1
  go_wp2_with fail
  go_ret
  rw [HTT.out]
  exact ⟨rfl, H.out, .refl _ _ _⟩
/-- Parts as they lie: a row of strings of its own. -/
def Strs (g : Nat) (l : List (List UInt8)) (w : World) : Prop := ∃ fr, w.heap[g]? = some (.cells (l.map fun s => Value.string (strOf s)).toArray 9 fr)
theorem Strs.chg {B b g : Nat} {l : List (List UInt8)} {st : Pst} {w w' : World} (h : Strs g l w) (hp : PageM B b st w) (hc : DChg B b w w') : Strs g l w' := by
 obtain ⟨fr, h⟩ := h
 obtain ⟨cs, h1, _⟩ := hp
 refine ⟨fr, hc.blocks g _ h (fun e => ?_) (.inr fun cs fr e => ?_)⟩
 ·subst e
  rw [h1.1] at h
  injection h with h
  injection h with _ h2
  exact absurd h2 (by decide)
 ·injection e with _ h2
  exact absurd h2 (by decide)
theorem Strs.cell {g : Nat} {l : List (List UInt8)} {w : World} (h : Strs g l w) (j : Nat) (hj : j < l.length) : w.cell? ⟨g, j, none⟩ = some (.string (strOf l[j])) := by
 obtain ⟨fr, h⟩ := h
 rw [cell_of_row w g j _ _ _ h]
 simp [List.getElem?_eq_getElem hj]
set_option maxHeartbeats 2000000 in
set_option maxRecDepth 100000 in
theorem write_any {B b g c : Nat} (st : Pst) (l : List (List UInt8)) (w : World) (h : PageM B b st w) (hl : Strs g l w) (hn : l.length ≤ 1000) :
 Calls Tryz.prog 94 #[.pointer (some ⟨b, 0, none⟩), .slice (some ⟨g, 0, none⟩) l.length c] w fun e w' => e = .returned (.tuple #[]) ∧ PageM B b (wrL st l) w' ∧ DChg B b w w' := by
 have H0 := hid_mk (And.intro h hl)
 obtain ⟨n, hnn⟩ : ∃ n, n = l.length := ⟨_, rfl⟩
 have HN := hid_mk hnn
 rw [← hnn] at hn ⊢
 clear h hl hnn
 go_enter Tryz.func94, Tryz.ntmps94
 go_wp2_with fail
 go_loopw [8] (fun vk wr => ∃ k : Nat, vk = .int .i64 k ∧ k ≤ n ∧ Hid (PageM B b (wrL st (l.take k)) wr ∧ Strs g l wr ∧ DChg B b w wr)) (fun vk _ => n - (intOf vk).toNat)
 case atStart => exact ⟨0, rfl, Nat.zero_le _, hid_mk ⟨by rw [List.take_zero]; exact H0.out.1, H0.out.2, .refl _ _ _⟩⟩
 case round =>
  obtain ⟨k, rfl, hk, HW⟩ := hrel
  by_cases hkn : k < n
  ·have hkl : k < l.length := by rw [← HN.out]; exact hkn
   have hki : (k : Int) < (n : Int) := by omega
   have c1 := HW.out.2.1.cell k hkl
   have HX := hid_mk (show wrL st (l.take (k + 1)) = wr1 (wrL st (l.take k)) l[k] by
    unfold wrL
    rw [List.take_succ_eq_append_getElem hkl, List.foldl_append]
    rfl)
   generalize l[k] = s at *
   obtain ⟨st2, hst⟩ : ∃ st2, st2 = wrL st (l.take k) := ⟨_, rfl⟩
   rw [← hst] at HW HX
   have htk := hid_mk (takes_any st2 s wr HW.out.1)
   obtain ⟨T, hT⟩ : ∃ T, T = tk st2 s := ⟨_, rfl⟩
   rw [← hT] at htk
   have HT := hid_mk hT
   clear hst hT
   go_wp2_with fail
   with_reducible refine htk.out.mono ?_
   rintro e1 w1 ⟨rfl, hp1, hd1⟩
   have H1 := hid_mk (And.intro hp1 (And.intro (HW.out.2.1.chg HW.out.1 hd1) (HW.out.2.2.trans hd1)))
   clear hp1 hd1 htk HW
   cases hf : T.2 with
   | true =>
     have HP := hid_mk (show PageM B b (wrL st (l.take (k + 1))) w1 by
      rw [HX.out]; unfold wr1; rw [← HT.out, hf, if_pos rfl]; exact H1.out.1)
     clear hf
     go_wp2_with fail
     go_roundw
     case rel => exact ⟨k + 1, by go_num, by omega, hid_mk ⟨HP.out, H1.out.2⟩⟩
     case measure => simp [intOf]; omega
   | false =>
     have HP := hid_mk (show wrL st (l.take (k + 1)) = (st2.1 ++ s, false) by
      rw [HX.out]; unfold wr1; rw [← HT.out, hf, if_neg (by simp)])
     have h65 : st2.1.length + s.length ≤ 65536 := by
      have := hf
      rw [HT.out] at this
      unfold tk at this
      simp only [Bool.or_eq_false_iff, decide_eq_false_iff_not] at this
      have := this.2
      omega
     have hT1 : T.1 = st2.1 := by rw [HT.out]; rfl
     obtain ⟨cs, hda, hc2, hle⟩ := H1.out.1
     rw [hT1] at hda
     have hws := hid_mk (writeString_at s hda (by omega))
     have H65 := hid_mk h65
     have HC := hid_mk hc2
     rw [hf] at HC
     clear hf hda hc2 hle hT1 h65
     go_wp2_with fail
     with_reducible refine hws.out.mono ?_
     rintro e2 w2 ⟨rfl, cs', hd2, _, hc2, hch⟩
     have HP2 := hid_mk (show PageM B b (wrL st (l.take (k + 1))) w2 by
      rw [HP.out]
      exact ⟨cs', hd2, hc2.trans HC.out, by rw [List.length_append]; exact H65.out⟩)
     have H2 := hid_mk (And.intro (H1.out.2.1.chg H1.out.1 hch) (H1.out.2.2.trans hch))
     clear hd2 hc2 hch hws
     go_wp2_with fail
     go_roundw
     case rel => exact ⟨k + 1, by go_num, by omega, hid_mk ⟨HP2.out, H2.out⟩⟩
     case measure => simp [intOf]; omega
  ·have hki : ¬ (k : Int) < (n : Int) := by omega
   have HF := hid_mk (show PageM B b (wrL st l) wr ∧ DChg B b w wr by
    have := HW.out
    rw [List.take_of_length_le (by rw [← HN.out]; omega)] at this
    exact ⟨this.1, this.2.2⟩)
   clear HW
   go_wp2_with fail
   go_end0
   exact ⟨rfl, HF.out⟩
theorem write_n {B b g c : Nat} (n : Nat) (st : Pst) (l : List (List UInt8)) (w : World) (h : PageM B b st w) (hl : Strs g l w) (hn : l.length ≤ 1000) (hnl : n = l.length) :
 Calls Tryz.prog 94 #[.pointer (some ⟨b, 0, none⟩), .slice (some ⟨g, 0, none⟩) n c] w fun e w' => e = .returned (.tuple #[]) ∧ PageM B b (wrL st l) w' ∧ DChg B b w w' := by
 subst hnl
 exact write_any st l w h hl hn
end Go.Proofs.YtlcijlklbabajaaGreatDoor.R.Pg
namespace Go.Proofs.YtlcijlklbabajaaGreatDoor.R.Pg
open Go.RowKit
theorem own_belowF {w w' : World} {base n : Nat} {v : Value} {xs : List Value} (h : w.ownsRowF base 5 1 v n xs) (hb : Below w.heap.size w w') : w'.ownsRowF base 5 1 v n xs := by
 refine ⟨h.1, ?_⟩
 rcases h.2 with h2 | ⟨g, cap, cur, fz, h1, h2, h3, h4⟩
 ·exact .inl h2
 ·exact .inr ⟨g, cap, cur, fz, h1, h2, (hb.block g (Array.getElem?_eq_some_iff.1 h3).1).trans h3, h4⟩
theorem DataAt.below {B b : Nat} {cs : Array Value} {bs : List UInt8} {w w' : World} (h : DataAt B b cs bs w) (hb : Below w.heap.size w w') : DataAt B b cs bs w' := by
 obtain ⟨h1, h2, h3, h4, v, h5, h6⟩ := h
 exact ⟨(hb.block b (Array.getElem?_eq_some_iff.1 h1).1).trans h1, h2, h3, h4, v, h5, own_belowF h6 hb⟩
theorem PageM.below {B b : Nat} {st : Pst} {w w' : World} (h : PageM B b st w) (hb : Below w.heap.size w w') : PageM B b st w' := by
 obtain ⟨cs, h1, h2, h3⟩ := h
 exact ⟨cs, h1.below hb, h2, h3⟩
theorem strs_new (w : World) (l : List (List UInt8)) (C : Array Value) (fr : Nat × Nat) (hC : C.toList = l.map fun s => Value.string (strOf s)) : Strs w.heap.size l (w.alloc (.cells C 9 fr)) := by
 refine ⟨fr, ?_⟩
 rw [← hC, Array.toArray_toList]
 exact heap_alloc_new w _
theorem wrL_one (st : Pst) (s : List UInt8) : wrL st [s] = wr1 st s := rfl
set_option maxHeartbeats 2000000 in
set_option maxRecDepth 100000 in
theorem writeEscaped_any {B b : Nat} (v : Bool) (f : Nat) (st : Pst) (s : ByteArray) (w : World) (h : PageM B b st w)
 (hent : ∀ args w, (callFunc f args).run Tryz.prog w = .ok (.enter f args) w)
 (hcall : ∀ w, Calls Tryz.prog f #[.string s] w fun e w' => e = .returned (.string (strOf (escL v (sl s)))) ∧ Below w.heap.size w w') :
 Calls Tryz.prog 91 #[.pointer (some ⟨b, 0, none⟩), .string s, .func (.func f) #[] #[]] w fun e w' => e = .returned (.tuple #[]) ∧ PageM B b (wrE v st (sl s)) w' ∧ DChg B b w w' := by
 have htk := hid_mk (takes_any st (sl s) w h)
 rw [strOf_sl] at htk
 obtain ⟨T, hT⟩ : ∃ T, T = tk st (sl s) := ⟨_, rfl⟩
 have HE := hid_mk (show wrE v st (sl s) = if T.2 then T else wr1 T (escL v (sl s)) by unfold wrE; rw [← hT])
 obtain ⟨F, hF⟩ : ∃ F, F = wrE v st (sl s) := ⟨_, rfl⟩
 rw [← hT] at htk
 rw [← hF] at HE ⊢
 have HC := hid_mk hcall
 generalize escL v (sl s) = x at *
 clear hT hF hcall h
 go_enter Tryz.func91, Tryz.ntmps91
 go_wp2_with fail
 with_reducible refine htk.out.mono ?_
 rintro e1 w1 ⟨rfl, hp1, hd1⟩
 have H1 := hid_mk (And.intro hp1 hd1)
 clear hp1 hd1 htk
 cases hf : T.2 with
 | true =>
   have HP := hid_mk (show F = T by rw [HE.out, hf, if_pos rfl])
   clear hf
   go_wp2_with fail
   go_end0
   rw [HP.out]
   exact ⟨rfl, H1.out⟩
 | false =>
   have HP := hid_mk (show F = wr1 T x by rw [HE.out, hf, if_neg (by simp)])
   clear hf
   go_wp2_with fail
   with_reducible refine (HC.out w1).mono ?_
   rintro e2 w2 ⟨rfl, hb2⟩
   have H2 := hid_mk (And.intro (H1.out.1.below hb2) (H1.out.2.trans (.of hb2)))
   clear hb2
   obtain ⟨C, hC⟩ : ∃ C : Array Value, C = #[.string (strOf x)] := ⟨_, rfl⟩
   have HCC := hid_mk hC.symm
   have hb3 : ∀ fr, Below w2.heap.size w2 (w2.alloc (.cells C 9 fr)) := fun fr => (Below.refl _ _).alloc (Nat.le_refl _) _
   have H3 := hid_mk (fun fr => write_n (c := 1) (g := w2.heap.size) 1 T [x] (w2.alloc (.cells C 9 fr)) (H2.out.1.below (hb3 fr)) (strs_new w2 [x] C fr (by rw [hC]; rfl)) (by simp) rfl)
   have H4 := hid_mk (fun fr => H2.out.2.trans (DChg.of (B := B) (b := b) (hb3 fr)))
   clear hb3 hC
   go_wp2_with fail
   rw [HCC.out]
   with_reducible refine (H3.out _).mono ?_
   rintro e3 w3 ⟨rfl, hp3, hd3⟩
   have H5 := hid_mk (And.intro hp3 ((H4.out _).trans hd3))
   clear hp3 hd3
   go_wp2_with fail
   go_end0
   rw [HP.out, ← wrL_one]
   exact ⟨rfl, H5.out⟩
set_option maxHeartbeats 1000000 in
theorem voidS_any (s : ByteArray) (hs : s.size ≤ 1000000000) (w : World) :
 Calls Tryz.prog 93 #[.string s] w fun e w' => e = .returned (.bool (kindL (sl s) == 7 || kindL (sl s) == 8)) ∧ Below w.heap.size w w' := by
 have hk := hid_mk (kind_any s w hs)
 generalize kindL (sl s) = k at *
 obtain ⟨R, hR⟩ : ∃ R, R = (k == 7 || k == 8) := ⟨_, rfl⟩
 rw [← hR]
 have q7 : ((k : Int) == 7) = (k == 7) := by rw [Bool.eq_iff_iff]; simp; omega
 have q8 : ((k : Int) == 8) = (k == 8) := by rw [Bool.eq_iff_iff]; simp; omega
 generalize (k == 7) = a7 at *
 generalize (k == 8) = a8 at *
 have HR := hid_mk hR
 clear hR
 go_enter Tryz.func93, Tryz.ntmps93
 go_wp2_with fail
 with_reducible refine hk.out.mono ?_
 rintro e1 w1 ⟨rfl, hb⟩
 cases a7 <;> cases a8
 all_goals
  go_wp2_with fail
  go_ret
  rw [HR.out]
  exact ⟨rfl, hb⟩
end Go.Proofs.YtlcijlklbabajaaGreatDoor.R.Pg
namespace Go.Proofs.YtlcijlklbabajaaGreatDoor.R.Pg
open Go.RowKit
def attrP (st : Pst) (a : List UInt8 × List UInt8) : Pst := wrL (wrE true (wrL st [[32], a.1, [61, 34]]) a.2) [[34]]
def startP (st : Pst) (name : List UInt8) (l : List (List UInt8 × List UInt8)) : Pst := wrL (l.foldl attrP (wrL st [[60], name])) [[62]]
theorem DChg.low {B b : Nat} {w w' : World} (h : DChg B b w w') (hb : B ≤ b) (hB : B ≤ w.heap.size) : Below B w w' :=
 ⟨h.os, h.tape, h.output, h.size, fun k hk => by
  have hk' : k < w.heap.size := by omega
  have := h.blocks k _ (Array.getElem?_eq_getElem hk') (by omega) (.inl hk)
  rw [this, Array.getElem?_eq_getElem hk']⟩
theorem PageM.at {B b : Nat} {st : Pst} {w : World} (h : PageM B b st w) : B ≤ b ∧ b < w.heap.size := by
 obtain ⟨cs, h1, _⟩ := h
 exact ⟨h1.2.2.1, (Array.getElem?_eq_some_iff.1 h1.1).1⟩
theorem write_new {B b c : Nat} (n : Nat) (st : Pst) (l : List (List UInt8)) (C : Array Value) (hC : C.toList = l.map fun s => Value.string (strOf s)) (w : World) (fr : Nat × Nat) (h : PageM B b st w) (hn : l.length ≤ 1000) (hnl : n = l.length) :
 Calls Tryz.prog 94 #[.pointer (some ⟨b, 0, none⟩), .slice (some ⟨w.heap.size, 0, none⟩) n c] (w.alloc (.cells C 9 fr)) fun e w' => e = .returned (.tuple #[]) ∧ PageM B b (wrL st l) w' ∧ DChg B b w w' := by
 have hb : Below w.heap.size w (w.alloc (.cells C 9 fr)) := (Below.refl _ _).alloc (Nat.le_refl _) _
 refine (write_n n st l _ (h.below hb) (strs_new w l C fr hC) hn hnl).mono ?_
 rintro e w' ⟨rfl, h1, h2⟩
 exact ⟨rfl, h1, (DChg.of hb).trans h2⟩
set_option maxHeartbeats 4000000 in
set_option maxRecDepth 100000 in
theorem writeStart_any {B b : Nat} (st : Pst) (kv dv uv xv : Value) (name : List UInt8) (l : List (List UInt8 × List UInt8)) (a : Option Addr) (c : Nat) (w0 w : World) (hB : B = w0.heap.size) (hw : Below B w0 w) (hr : HasRow w0 a (l.flatMap atF)) (hl : l.length ≤ 1000000) (hs : ∀ p ∈ l, p.2.length ≤ 1000000000000) (h : PageM B b st w) :
 Calls Tryz.prog 92 #[.pointer (some ⟨b, 0, none⟩), .agg #[kv, .string (strOf name), .slice a l.length c, dv, uv, xv]] w fun e w' => e = .returned (.tuple #[]) ∧ PageM B b (startP st name l) w' ∧ DChg B b w w' := by
 have HS := hid_mk hs
 have HR := hid_mk (And.intro hB (And.intro hw hr))
 have H := hid_mk h
 obtain ⟨n, hn⟩ : ∃ n, n = l.length := ⟨_, rfl⟩
 have HN := hid_mk hn
 rw [← hn] at hl ⊢
 clear hs hB hw hr h hn
 go_enter Tryz.func92, Tryz.ntmps92
 go_wp2_with fail
 obtain ⟨W1, hW1⟩ : ∃ W1, W1 = w.alloc (.cells #[kv, .string (strOf name), .slice a n c, dv, uv, xv] 38) := ⟨_, rfl⟩
 have hb1 : Below w.heap.size w W1 := by rw [hW1]; exact (Below.refl _ _).alloc (Nat.le_refl _) _
 have hz1 : W1.heap.size = w.heap.size + 1 := by rw [hW1]; exact Array.size_push _
 have hblk : W1.heap[w.heap.size]? = some (.cells #[kv, .string (strOf name), .slice a n c, dv, uv, xv] 38 (0, 0)) := by rw [hW1]; exact heap_alloc_new w _
 have hp1 := H.out.below hb1
 have hc1 := write_new (c := 2) 2 st [[60], name] #[.string ⟨#[60]⟩, .string (strOf name)] rfl W1 (0, 0) hp1 (by simp) rfl
 rw [hz1] at hc1
 have HB1 := hid_mk (And.intro hb1 (And.intro hblk hp1.at))
 rw [← hW1]
 have HC1 := hid_mk hc1
 clear hb1 hz1 hblk hp1 hc1 hW1
 with_reducible refine HC1.out.mono ?_
 rintro e2 w2 ⟨rfl, hp2, hd2⟩
 have c2 : w2.cell? ⟨w.heap.size, 2, none⟩ = some (.slice a n c) := by
  have hk := hd2.blocks w.heap.size _ HB1.out.2.1 (by have := H.out.at.2; omega) (.inr fun cs fr e => by injection e with _ h2; exact absurd h2 (by decide))
  rw [cell_of_row w2 w.heap.size 2 _ _ _ hk]
  rfl
 have H2 := hid_mk (And.intro hp2 ((DChg.of (B := B) (b := b) HB1.out.1).trans hd2))
 clear hp2 hd2 HC1 HB1
 have HBW := hid_mk (show B ≤ w.heap.size by rw [HR.out.1]; exact HR.out.2.1.size)
 go_wp2_with fail
 go_loopw [14] (fun vk wr => ∃ k : Nat, vk = .int .i64 k ∧ k ≤ n ∧ Hid (PageM B b ((l.take k).foldl attrP (wrL st [[60], name])) wr ∧ DChg B b w wr)) (fun vk _ => n - (intOf vk).toNat)
 case atStart => exact ⟨0, rfl, Nat.zero_le _, hid_mk ⟨by rw [List.take_zero]; exact H2.out.1, H2.out.2⟩⟩
 case round =>
  obtain ⟨k, rfl, hk, HW⟩ := hrel
  by_cases hkn : k < n
  ·have hkl : k < l.length := by rw [← HN.out]; exact hkn
   have hki : (k : Int) < (n : Int) := by omega
   have hbw : Below w0.heap.size w0 wr := by
    have := HR.out.2.1.trans (HW.out.2.low H.out.at.1 HBW.out)
    rwa [HR.out.1] at this
   obtain ⟨x, hx, hxl, d0, d1⟩ := (HR.out.2.2.below hbw).at2 hkl
   subst hx
   have HX := hid_mk (show (l.take (k + 1)).foldl attrP (wrL st [[60], name]) = attrP ((l.take k).foldl attrP (wrL st [[60], name])) l[k] by
    rw [List.take_succ_eq_append_getElem hkl, List.foldl_append]
    rfl)
   have hts := HS.out l[k] (List.getElem_mem hkl)
   generalize l[k] = t at *
   obtain ⟨st2, hst⟩ : ∃ st2, st2 = (l.take k).foldl attrP (wrL st [[60], name]) := ⟨_, rfl⟩
   rw [← hst] at HW HX
   have d2 : wr.cell? ⟨(x.add (k * 2)).block, (x.add (k * 2)).off + 1, none⟩ = some (.string (strOf t.2)) := by rw [← show (x.add (k * 2)).add 1 = ⟨(x.add (k * 2)).block, (x.add (k * 2)).off + 1, none⟩ from rfl, Addr.add_add]; exact d1
   clear hst hbw hxl
   go_wp2_with fail
   obtain ⟨wa, hwa⟩ : ∃ wa, wa = wr.alloc (.cells #[.string (strOf t.1), .string (strOf t.2)] 40) := ⟨_, rfl⟩
   have hba : Below wr.heap.size wr wa := by rw [hwa]; exact (Below.refl _ _).alloc (Nat.le_refl _) _
   have hza : wa.heap.size = wr.heap.size + 1 := by rw [hwa]; exact Array.size_push _
   have hblk : wa.heap[wr.heap.size]? = some (.cells #[.string (strOf t.1), .string (strOf t.2)] 40 (0, 0)) := by rw [hwa]; exact heap_alloc_new wr _
   have hpa := HW.out.1.below hba
   have hc3 := write_new (c := 3) 3 st2 [[32], t.1, [61, 34]] #[.string ⟨#[32]⟩, .string (strOf t.1), .string ⟨#[61, 34]⟩] rfl wa (0, 0) hpa (by simp) rfl
   rw [hza] at hc3
   have HBA := hid_mk (And.intro hba (And.intro hblk HW.out.1.at.2))
   rw [← hwa]
   have HC3 := hid_mk hc3
   clear hba hza hblk hpa hc3 hwa
   with_reducible refine HC3.out.mono ?_
   rintro e3 w3 ⟨rfl, hp3, hd3⟩
   have c3 : w3.cell? ⟨wr.heap.size, 1, none⟩ = some (.string (strOf t.2)) := by
    have hk := hd3.blocks wr.heap.size _ HBA.out.2.1 (by have := HBA.out.2.2; omega) (.inr fun cs fr e => by injection e with _ h2; exact absurd h2 (by decide))
    rw [cell_of_row w3 wr.heap.size 1 _ _ _ hk]
    rfl
   have H3 := hid_mk (And.intro hp3 (HW.out.2.trans ((DChg.of (B := B) (b := b) HBA.out.1).trans hd3)))
   have hwe := writeEscaped_any true 33 _ (strOf t.2) w3 H3.out.1 (fun args w' => by kernel_rfl) (fun w' => escapeValue_any (strOf t.2) (by rw [size_strOf]; exact hts) w')
   rw [sl_strOf] at hwe
   have HWE := hid_mk hwe
   clear hwe hp3 hd3 HC3 HBA hts
   go_wp2_with fail
   with_reducible refine HWE.out.mono ?_
   rintro e4 w4 ⟨rfl, hp4, hd4⟩
   have H4 := hid_mk (And.intro hp4 (H3.out.2.trans hd4))
   have HC5 := hid_mk (write_new (c := 1) 1 _ [[34]] #[.string ⟨#[34]⟩] rfl w4 (0, 0) H4.out.1 (by simp) rfl)
   clear hp4 hd4 HWE
   go_wp2_with fail
   with_reducible refine HC5.out.mono ?_
   rintro e5 w5 ⟨rfl, hp5, hd5⟩
   have H5 := hid_mk (show PageM B b ((l.take (k + 1)).foldl attrP (wrL st [[60], name])) w5 ∧ DChg B b w w5 from ⟨by rw [HX.out]; exact hp5, H4.out.2.trans hd5⟩)
   clear hp5 hd5 HC5
   go_wp2_with fail
   go_roundw
   case rel => exact ⟨k + 1, by go_num, by omega, H5⟩
   case measure => simp [intOf]; omega
  ·have hki : ¬ (k : Int) < (n : Int) := by omega
   have HF := hid_mk (show PageM B b (l.foldl attrP (wrL st [[60], name])) wr ∧ DChg B b w wr by
    have := HW.out
    rwa [List.take_of_length_le (by rw [← HN.out]; omega)] at this)
   have HC := hid_mk (write_new (c := 1) 1 _ [[62]] #[.string ⟨#[62]⟩] rfl wr (0, 0) HF.out.1 (by simp) rfl)
   clear HW
   go_wp2_with fail
   with_reducible refine HC.out.mono ?_
   rintro e3 w3 ⟨rfl, hp3, hd3⟩
   have HG := hid_mk (And.intro hp3 (HF.out.2.trans hd3))
   clear hp3 hd3
   go_wp2_with fail
   go_end0
   exact ⟨rfl, HG.out⟩
end Go.Proofs.YtlcijlklbabajaaGreatDoor.R.Pg
