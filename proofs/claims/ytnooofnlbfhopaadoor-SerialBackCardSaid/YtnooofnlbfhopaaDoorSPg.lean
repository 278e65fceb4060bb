/-
  A strings.Builder within package serial's page: copyCheck, WriteString, String, Len. Condition: the lengths are bounded.
-/
import Derived.Test.YtnooofnlbfhopaaDoorSEsc
import Derived.Test.YtnooofnlbfhopaaDoorRSt
import Derived.Shelf.Strings.BuilderF
import Derived.Deep.QuietTactic
import Derived.BigQuiet
namespace Go.Proofs.YtnooofnlbfhopaaDoor.Pg
open Go.RowKit
theorem liesBd : liesAt Tryd.prog Tryd.prog.depth 61 (3 / Tryd.prog.cellsOf 61) 0 46 1 = true := by kernel_rfl
/-- The bytes that page b of package tree holds: cells 0 and 1. -/
def DataAt (B b : Nat) (cs : Array Value) (bs : List UInt8) (w : World) : Prop :=
  w.heap[b]? = some (.cells cs 61 (0, 0)) ∧ cs.size = 3 ∧ B ≤ b ∧ (cs[0]? = some (.pointer none) ∨ cs[0]? = some (.pointer (some ⟨b, 0, none⟩))) ∧ ∃ v, cs[1]? = some v ∧ w.ownsRowF B 5 1 v bs.length (Lib.byteCells bs)
/-- Behind what a text builder's methods do: nothing has turned but block b, and rows of bytes from B on. -/
structure DChg (B b : Nat) (w w' : World) : Prop where
  os : w'.os = w.os
  tape : w'.tape = w.tape
  output : w'.output = w.output
  size : w.heap.size ≤ w'.heap.size
  blocks : ∀ k o, w.heap[k]? = some o → k ≠ b → (k < B ∨ ∀ cs fr, o ≠ .cells cs 5 fr) → w'.heap[k]? = some o
theorem DChg.of {B b : Nat} {w w' : World} (h : Below w.heap.size w w') : DChg B b w w' :=
  ⟨h.os, h.tape, h.output, h.size, fun k _ hk _ _ => (h.block k (Array.getElem?_eq_some_iff.1 hk).1).trans hk⟩
theorem DChg.refl (B b : Nat) (w : World) : DChg B b w w := .of (Below.refl _ _)
theorem DChg.trans {B b : Nat} {x y z : World} (h : DChg B b x y) (k : DChg B b y z) : DChg B b x z :=
  ⟨k.os.trans h.os, k.tape.trans h.tape, k.output.trans h.output, Nat.le_trans h.size k.size, fun j o h1 h2 h3 => k.blocks j o (h.blocks j o h1 h2 h3) h2 h3⟩
theorem DChg.set {B b : Nat} (w : World) (q : Nat) (v : Value) : DChg B b w (w.setCell ⟨b, q, none⟩ v) :=
  ⟨rfl, rfl, rfl, by rw [World.size_setCell]; exact Nat.le_refl _, fun _ _ hk hne _ => (Below.heap_setCell _ _ _ _ hne).trans hk⟩
theorem DChg.drew {B b : Nat} {w w' : World} (h : DChg B b w w') : DChg B b w w'.drew := ⟨h.os, h.tape, h.output, h.size, h.blocks⟩
theorem h5_of {b j : Nat} {cs : Array Value} {T : TypeId} {v : Value} {w : World} (hc : w.cell? ⟨b, j, none⟩ = some v) (h : w.heap[b]? = some (.cells cs T (0, 0))) : some v = cs[j]? := by
  rw [← hc, cell_of_row w b j _ _ _ h]
/-- copyCheck: the builder knows itself from then on. -/
theorem copyCheck_at {B b : Nat} {cs : Array Value} {bs : List UInt8} {w : World} (h : DataAt B b cs bs w) :
    Calls Tryd.prog 31 #[.pointer (some ⟨b, 0, none⟩)] w fun e w' => e = .returned (.tuple #[]) ∧ DataAt B b (cs.setIfInBounds 0 (.pointer (some ⟨b, 0, none⟩))) bs w' ∧ DChg B b w w' ∧ w'.heap.size = w.heap.size := by
  obtain ⟨h1, h2, h3, h4, v, h5, h6⟩ := h
  have hne : v.ownBlock ≠ some b := Lib.ownBlock_neF h6 h1 (by decide)
  have h5' : (cs.setIfInBounds 0 (.pointer (some ⟨b, 0, none⟩)))[1]? = some v := by rw [Array.getElem?_setIfInBounds_ne (by decide)]; exact h5
  have h2' : (cs.setIfInBounds 0 (.pointer (some ⟨b, 0, none⟩)))[0]? = some (.pointer (some ⟨b, 0, none⟩)) := Array.getElem?_setIfInBounds_self_of_lt (by omega)
  rcases h4 with h4 | h4
  · obtain ⟨j, hj, hjs⟩ := Option.map_eq_some_iff.1 sizeBuilder
    have hsh : w.shape? b = some (61, 3) := by simp [World.shape?, h1, h2]
    have h0 : w.cell? ⟨b, 0, none⟩ = some (.pointer none) := by rw [cell_of_row w b 0 _ _ _ h1]; exact h4
    have hfz : w.frozen? ⟨b, 0, none⟩ = false := Lib.frozen_of_heap h1 _
    have k1 := Lib.run_to_unsafe (P := Tryd.prog) w ⟨b, 0, none⟩ Tryd.underlying44 Tryd.underlying75 hj (by rw [hjs]; decide) hsh (show 0 < 3 by decide)
    have k3 := Lib.run_from_unsafe (P := Tryd.prog) w ⟨b, 0, none⟩ Tryd.underlying75 Tryd.underlying44 hj hsh liesBd
    have k2 := run_callFunc_extern (args := #[.pointer (some ⟨b, 0, none⟩)]) (w := w) Tryd.func44 (by kernel_rfl) (by kernel_rfl) (by kernel_rfl) (e := Extern.AbiNoEscape.same) (by kernel_rfl)
    rw [Lib.run_noEscape] at k2
    simp only [Result.andThen] at k2
    have HF := hid_mk (show DataAt B b (cs.setIfInBounds 0 (.pointer (some ⟨b, 0, none⟩))) bs (w.setCell ⟨b, 0, none⟩ (.pointer (some ⟨b, 0, none⟩))) ∧ DChg B b w (w.setCell ⟨b, 0, none⟩ (.pointer (some ⟨b, 0, none⟩))) ∧ (w.setCell ⟨b, 0, none⟩ (.pointer (some ⟨b, 0, none⟩))).heap.size = w.heap.size from
      ⟨⟨Blk.setAt h1 0 _, by rw [Array.size_setIfInBounds]; exact h2, h3, .inr h2', v, h5', h6.kept (row := some b) ⟨rfl, rfl, rfl, by simp [World.setCell], fun k _ hk => Below.heap_setCell _ _ _ _ (fun e => hk (by simp [e]))⟩ (Or.inr hne)⟩, .set w 0 _, World.size_setCell ..⟩)
    clear hj hjs h6 h5' h2' h5 h4
    go_enter Tryd.func31, Tryd.ntmps31
    go_wp2
    go_end0
    exact ⟨rfl, HF.out⟩
  · have hset : cs.setIfInBounds 0 (.pointer (some ⟨b, 0, none⟩)) = cs := by
      apply Array.ext_getElem?
      intro i
      by_cases e : i = 0
      · subst e; rw [h2', h4]
      · rw [Array.getElem?_setIfInBounds_ne (fun h => e h.symm)]
    have HF := hid_mk (show DataAt B b (cs.setIfInBounds 0 (.pointer (some ⟨b, 0, none⟩))) bs w ∧ DChg B b w w ∧ w.heap.size = w.heap.size by
      rw [hset]; exact ⟨⟨h1, h2, h3, .inr h4, v, h5, h6⟩, .refl _ _ _, rfl⟩)
    have h0 : w.cell? ⟨b, 0, none⟩ = some (.pointer (some ⟨b, 0, none⟩)) := by rw [cell_of_row w b 0 _ _ _ h1]; exact h4
    obtain ⟨j, hj, _⟩ := Option.map_eq_some_iff.1 sizeBuilder
    have k1 := Lib.run_neq_ptr_same (P := Tryd.prog) w ⟨b, 0, none⟩ Tryd.underlying44 hj
    clear hj h6 h5' h2' h5 h4 hset
    go_enter Tryd.func31, Tryd.ntmps31
    go_wp2
    go_end0
    exact ⟨rfl, HF.out.1, HF.out.2.1, rfl⟩
theorem DChg.grownF {B b n : Nat} {v : Value} {xs : List Value} {w w' : World} (hr : w.ownsRowF B 5 1 v n xs) (hg : w.grownBy w' v.ownBlock) : DChg B b w w' :=
  ⟨hg.os, hg.tape, hg.output, hg.size, fun k o hk _ h3 => by
    refine (hg.block k (Array.getElem?_eq_some_iff.1 hk).1 (fun e => ?_)).trans hk
    rcases hr.2 with ⟨rfl, _⟩ | ⟨g, cap, cur, fz, rfl, hB, hgg, _⟩
    · cases e
    · have : k = g := by simpa [Value.ownBlock] using e
      subst this
      rcases h3 with h3 | h3
      · omega
      · rw [hk] at hgg
        injection hgg with hgg
        exact h3 _ _ hgg⟩
set_option maxHeartbeats 2000000 in
set_option maxRecDepth 100000 in
theorem writeString_at {B b : Nat} {cs : Array Value} {bs : List UInt8} {w : World} (s : List UInt8) (h : DataAt B b cs bs w) (hlen : bs.length + s.length ≤ 1000000000) :
    Calls Tryd.prog 20 #[.pointer (some ⟨b, 0, none⟩), .string (strOf s)] w fun e w' => e = .returned (.tuple #[.int .i64 s.length, .nilIface]) ∧ ∃ cs', DataAt B b cs' (bs ++ s) w' ∧ cs'[2]? = cs[2]? ∧ cs'[2]? = cs[2]? ∧ DChg B b w w' := by
  obtain ⟨i0, hi, hz0, hz1, hz2⟩ := info_parts infoByte
  have HI := hid_mk (And.intro hi (And.intro hz0 (And.intro hz1 hz2)))
  have hss := size_strOf s
  have hcc := hid_mk (copyCheck_at h)
  have hB0 := hid_mk (show B ≤ w.heap.size by have := (Array.getElem?_eq_some_iff.1 h.1).1; have := h.2.2.1; omega)
  clear h hi hz0 hz1 hz2
  go_enter Tryd.func20, Tryd.ntmps20
  go_wp2_with fail
  (with_reducible refine hcc.out.mono ?_)
  rintro e w1 ⟨rfl, hd, hch, hsz⟩
  clear hcc
  obtain ⟨cs1, hcs1⟩ : ∃ cs1, cs1 = cs.setIfInBounds 0 (.pointer (some ⟨b, 0, none⟩)) := ⟨_, rfl⟩
  have e0 : cs1[2]? = cs[2]? := by rw [hcs1]; exact Array.getElem?_setIfInBounds_ne (by decide)
  have e1 : cs1[2]? = cs[2]? := by rw [hcs1]; exact Array.getElem?_setIfInBounds_ne (by decide)
  rw [← hcs1] at hd
  obtain ⟨h1, h2, h3, h4, v, h5, h6⟩ := hd
  have hne : v.ownBlock ≠ some b := Lib.ownBlock_neF h6 h1 (by decide)
  have c3 : w1.cell? ⟨b, 1, none⟩ = some v := by rw [cell_of_row w1 b 1 _ _ _ h1]; exact h5
  have H := hid_mk (And.intro h1 (And.intro h2 (And.intro h3 (And.intro h4 (And.intro h6 (And.intro hne (And.intro hch (And.intro e0 e1))))))))
  have hs3 : 1 < cs1.size := by omega
  have HS := hid_mk (And.intro hsz hs3)
  clear hcs1 h1 h2 h3 h4 h5 h6 hne hch e0 e1 hsz hs3
  go_wp2_with (at_builtin; refine Classical.byContradiction fun hno => ?_)
  refine hno ?_
  clear hno
  obtain ⟨h1, h2, h3, h4, h6, hne, hch, e0, e1⟩ := H.out
  obtain ⟨hi, hz0, hz1, hz2⟩ := HI.out
  refine Lib.wpList_append_own_stringF _ rfl (.tmp 12) (.tmp 13) _ _ rfl B 5 i0 Tryd.underlying29 Tryd.underlying9 hi hz0 hz1 hz2 v bs.length (Lib.byteCells bs) rfl h6 (strOf s) rfl (by unfold maxLen; omega) (by omega) (by have := hB0.out; have := HS.out.1; omega) ?_
  intro v' w2 hown1 hgrow _
  have hcs : Lib.byteCells bs ++ Lib.strCells (strOf s) = Lib.byteCells (bs ++ s) := by
    rw [Lib.byteCells_append]
    rfl
  rw [hcs, hss, ← List.length_append] at hown1
  have hbl : b < w1.heap.size := (Array.getElem?_eq_some_iff.1 h1).1
  have hb2 : w2.heap[b]? = some (.cells cs1 61 (0, 0)) := (hgrow.block b hbl (fun e => hne e.symm)).trans h1
  have d1 : w2.cell? ⟨b, 1, none⟩ = some v := by rw [cell_of_row w2 b 1 _ _ _ hb2, ← h5_of c3 h1]
  have f1 : w2.frozen? ⟨b, 1, none⟩ = false := Lib.frozen_of_heap hb2 _
  have hne2 : v'.ownBlock ≠ some b := Lib.ownBlock_neF hown1 hb2 (by decide)
  have HF := hid_mk (show ∃ cs', DataAt B b cs' (bs ++ s) (w2.setCell ⟨b, 1, none⟩ v') ∧ cs'[2]? = cs[2]? ∧ cs'[2]? = cs[2]? ∧ DChg B b w (w2.setCell ⟨b, 1, none⟩ v') from by
    refine ⟨cs1.setIfInBounds 1 v', ⟨Blk.setAt hb2 1 _, by rw [Array.size_setIfInBounds]; exact h2, h3, ?_, v', Array.getElem?_setIfInBounds_self_of_lt HS.out.2, ?_⟩, ?_, ?_, (hch.trans (.grownF h6 hgrow)).trans (.set w2 1 _)⟩
    · rw [Array.getElem?_setIfInBounds_ne (by decide)]; exact h4
    · exact hown1.kept (row := some b) ⟨rfl, rfl, rfl, by simp [World.setCell], fun k _ hk => Below.heap_setCell _ _ _ _ (fun e => hk (by simp [e]))⟩ (Or.inr hne2)
    · rw [Array.getElem?_setIfInBounds_ne (by decide)]; exact e0
    · rw [Array.getElem?_setIfInBounds_ne (by decide)]; exact e1)
  obtain ⟨gv, cap, hv⟩ : ∃ g cap, v' = .slice g (bs ++ s).length cap := by
    rcases hown1.2 with ⟨hv, h0⟩ | ⟨g, cap, cur, fz, hv, _⟩
    · exact ⟨none, 0, by rw [hv, h0]⟩
    · exact ⟨_, cap, hv⟩
  clear h1 h2 h3 h4 h6 hne hch e0 e1 hi hz0 hz1 hz2 hown1 hgrow hb2 hne2 hcs
  rw [hv] at HF ⊢
  clear hv
  rw [List.length_append] at HF ⊢
  go_wp2
  go_ret2
  exact ⟨rfl, HF.out⟩
theorem freeze_other (w : World) (g n k : Nat) (h : k ≠ g) : (w.freeze ⟨g, 0, none⟩ n).heap[k]? = w.heap[k]? := by
  unfold World.freeze
  split
  · rfl
  · show (w.heap.modify g _)[k]? = _
    rw [Array.getElem?_modify, if_neg (fun e => h e.symm)]
theorem DChg.freeze {B b g n : Nat} {cs : Array Value} {fr : Nat × Nat} {w0 w : World} (h : DChg B b w0 w) (hB : B ≤ g) (hg : w0.heap[g]? = some (.cells cs 5 fr)) : DChg B b w0 (w.freeze ⟨g, 0, none⟩ n) := by
  have hb := Lib.below_freeze (Below.refl g w) (p := ⟨g, 0, none⟩) (Nat.le_refl _) n
  refine ⟨hb.os.trans h.os, hb.tape.trans h.tape, hb.output.trans h.output, Nat.le_trans h.size hb.size, fun k o hk hne h3 => ?_⟩
  have hkg : k ≠ g := by
    rintro rfl
    rcases h3 with h3 | h3
    · omega
    · rw [hk] at hg
      injection hg with hg
      exact h3 _ _ hg
  have := h.blocks k o hk hne h3
  rw [← this]
  exact freeze_other w g n k hkg
set_option maxHeartbeats 2000000 in
set_option maxRecDepth 100000 in
theorem string_at {B b : Nat} {cs : Array Value} {bs : List UInt8} {w : World} (h : DataAt B b cs bs w) (h0 : bs ≠ []) :
    Calls Tryd.prog 23 #[.pointer (some ⟨b, 0, none⟩)] w fun e w' => e = .returned (.string (strOf bs)) ∧ w'.heap[b]? = some (.cells cs 61 (0, 0)) ∧ DChg B b w w' := by
  obtain ⟨h1, h2, h3, h4, v, h5, hown⟩ := h
  have hne : v.ownBlock ≠ some b := Lib.ownBlock_neF hown h1 (by decide)
  have hl0 : bs.length ≠ 0 := by simpa using h0
  obtain ⟨g, cap, cur, fz, rfl, hbg, hg, hfz, hnc, hcm, hcs, htake⟩ : ∃ g cap cur fz, v = .slice (some ⟨g, 0, none⟩) bs.length cap ∧ B ≤ g ∧ w.heap[g]? = some (.cells cur 5 fz) ∧ fz.2 ≤ bs.length * 1 ∧ bs.length ≤ cap ∧ cap ≤ maxLen ∧ cur.size = cap * 1 ∧ cur.toList.take (bs.length * 1) = Lib.byteCells bs := by
    rcases hown.2 with ⟨_, hz⟩ | ⟨g, cap, cur, fz, hv, r⟩
    · exact absurd hz hl0
    · exact ⟨g, cap, cur, fz, hv, r⟩
  have c1 : w.drew.cell? ⟨b, 1, none⟩ = some (.slice (some ⟨g, 0, none⟩) bs.length cap) := by
    have : w.drew.heap[b]? = some (.cells cs 61 (0, 0)) := h1
    rw [cell_of_row _ b 1 _ _ _ this]; exact h5
  have hSD : (Builtin.unsafeSliceData_ #[29] 67 #[.slice (some ⟨g, 0, none⟩) bs.length cap]).run Tryd.prog w.drew = .ok (.pointer (some ⟨g, 0, none⟩)) w.drew :=
    Lib.run_unsafeSliceData_row _ _ _ _ _ _ (by omega)
  have hUS : (Builtin.unsafeString_ #[67, 3] 9 #[.pointer (some ⟨g, 0, none⟩), .int .i64 bs.length]).run Tryd.prog w.drew = .ok (.string (strOf bs)) (w.drew.freeze ⟨g, 0, none⟩ bs.length) := by
    refine Lib.run_unsafeString_row w.drew 67 3 9 5 Tryd.underlying67 (by kernel_rfl) g cur.size (by have hg' : w.drew.heap[g]? = some (.cells cur 5 fz) := hg; simp [World.shape?, hg']) bs h0 (by omega) (by unfold maxLen at hcm; omega) ?_
    intro j x hx
    exact hown.cells (g := g) rfl j (.int .u8 x.toNat) (by simp [Lib.byteCells, hx])
  have hgb : g ≠ b := by
    rintro rfl
    exact hne rfl
  have HF := hid_mk (show (w.drew.freeze ⟨g, 0, none⟩ bs.length).heap[b]? = some (.cells cs 61 (0, 0)) ∧ DChg B b w (w.drew.freeze ⟨g, 0, none⟩ bs.length) from
    ⟨(freeze_other w.drew g _ b (fun e => hgb e.symm)).trans h1, (DChg.refl B b w).drew.freeze hbg hg⟩)
  clear hown hg hfz hcs htake h4 hne hl0
  go_enter Tryd.func23, Tryd.ntmps23
  have mixed : Tryd.prog.follows Departure.mixedOrders = true := by kernel_rfl
  go_wp2
  go_region_o
  all_goals (go_wp2; go_ret; exact ⟨rfl, HF.out⟩)
set_option maxHeartbeats 1000000 in
theorem len_at {B b : Nat} {cs : Array Value} {bs : List UInt8} {w : World} (h : DataAt B b cs bs w) :
    Calls Tryd.prog 73 #[.pointer (some ⟨b, 0, none⟩)] w fun e w' => e = .returned (.int .i64 (bs.length : Int)) ∧ w' = w := by
  obtain ⟨h1, h2, h3, h4, v, h5, h6⟩ := h
  have c1 : w.cell? ⟨b, 1, none⟩ = some v := by rw [cell_of_row w b 1 _ _ _ h1]; exact h5
  obtain ⟨gv, cap, hv⟩ : ∃ g cap, v = .slice g bs.length cap := by
    rcases h6.2 with ⟨hv, h0⟩ | ⟨g, cap, cur, fz, hv, _⟩
    · exact ⟨none, 0, by rw [hv, h0]⟩
    · exact ⟨_, cap, hv⟩
  rw [hv] at c1
  clear h1 h2 h3 h4 h5 h6 hv
  go_enter Tryd.func73, Tryd.ntmps73
  go_wp2_with fail
  go_ret
  exact ⟨rfl, rfl⟩
end Go.Proofs.YtnooofnlbfhopaaDoor.Pg
