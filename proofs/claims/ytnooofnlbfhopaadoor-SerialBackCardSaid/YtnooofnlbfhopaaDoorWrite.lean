/-
  strings.Builder's methods at this translation: copyCheck, WriteString, over a builder that the call itself has made. Condition: the lengths are bounded.
-/
import Derived.Test.YtnooofnlbfhopaaDoorWords
import Derived.Test.YtnooofnlbfhopaaDoorShelf
import Derived.Shelf.Strings.BuilderK
namespace Go.Proofs.YtnooofnlbfhopaaDoor
open Go.RowKit
theorem sizeBuilder : (Tryd.prog.info? 46).map (·.size) = some 2 := by kernel_rfl
theorem liesBuilder : liesAt Tryd.prog Tryd.prog.depth 46 (2 / Tryd.prog.cellsOf 46) 0 46 1 = true := by kernel_rfl
set_option maxHeartbeats 2000000 in
theorem copyCheck_fresh (b : Nat) (w : World) (h0 : w.cell? ⟨b, 0, none⟩ = some (.pointer none)) (hsh : w.shape? b = some (46, 2)) (hfz : w.frozen? ⟨b, 0, none⟩ = false) :
    Calls Tryd.prog 31 #[.pointer (some ⟨b, 0, none⟩)] w fun e w' => e = .returned (.tuple #[]) ∧ w' = w.setCell ⟨b, 0, none⟩ (.pointer (some ⟨b, 0, none⟩)) := by
  obtain ⟨j, hj, hjs⟩ := Option.map_eq_some_iff.1 sizeBuilder
  have k1 := Lib.run_to_unsafe (P := Tryd.prog) w ⟨b, 0, none⟩ Tryd.underlying44 Tryd.underlying75 hj (by rw [hjs]; decide) hsh (Nat.zero_lt_succ 1)
  have k3 := Lib.run_from_unsafe (P := Tryd.prog) w ⟨b, 0, none⟩ Tryd.underlying75 Tryd.underlying44 hj hsh liesBuilder
  have k2 := run_callFunc_extern (args := #[.pointer (some ⟨b, 0, none⟩)]) (w := w) Tryd.func44 (by kernel_rfl) (by kernel_rfl) (by kernel_rfl) (e := Extern.AbiNoEscape.same) (by kernel_rfl)
  rw [Lib.run_noEscape] at k2
  simp only [Result.andThen] at k2
  clear hj hjs
  go_enter Tryd.func31, Tryd.ntmps31
  go_wp2
  go_end0
  exact ⟨rfl, rfl⟩
set_option maxHeartbeats 2000000 in
theorem copyCheck_used (b : Nat) (w : World) (h0 : w.cell? ⟨b, 0, none⟩ = some (.pointer (some ⟨b, 0, none⟩))) :
    Calls Tryd.prog 31 #[.pointer (some ⟨b, 0, none⟩)] w fun e w' => e = .returned (.tuple #[]) ∧ w' = w := by
  obtain ⟨j, hj, _⟩ := Option.map_eq_some_iff.1 sizeBuilder
  have k1 := Lib.run_neq_ptr_same (P := Tryd.prog) w ⟨b, 0, none⟩ Tryd.underlying44 hj
  clear hj
  go_enter Tryd.func31, Tryd.ntmps31
  go_wp2
  go_end0
  exact ⟨rfl, rfl⟩
theorem copyCheck_any (B b : Nat) (bs : List Value) (w : World) (h : Lib.IsBuilderF 46 5 B b bs w) :
    Calls Tryd.prog 31 #[.pointer (some ⟨b, 0, none⟩)] w fun e w' => e = .returned (.tuple #[]) ∧ (Lib.BuilderAtF 46 5 B b (.pointer (some ⟨b, 0, none⟩)) bs w' ∧ Below B w w' ∧ Lib.OthersKept 5 (some b) w w') := by
  rcases h with h | h
  · refine (copyCheck_fresh b w h.cell0 h.shape h.frozen0).mono ?_
    rintro e w' ⟨rfl, rfl⟩
    exact ⟨rfl, h.used _, (Below.refl B w).setCell (p := ⟨b, 0, none⟩) h.1 _, (Lib.OthersKept.refl _ _ w).setCell ⟨b, 0, none⟩ rfl _⟩
  · refine (copyCheck_used b w h.cell0).mono ?_
    rintro e w' ⟨rfl, rfl⟩
    exact ⟨rfl, h, Below.refl B _, Lib.OthersKept.refl _ _ _⟩
/-- What is grown behind leaves a builder as it is. -/
theorem builder_below {B b : Nat} {bs : List Value} {w w' : World} (h : Lib.IsBuilderF 46 5 B b bs w) (hb : Below w.heap.size w w') : Lib.IsBuilderF 46 5 B b bs w' := by
  have one : ∀ p, Lib.BuilderAtF 46 5 B b p bs w → Lib.BuilderAtF 46 5 B b p bs w' := by
    rintro p ⟨hB, v, h1, ⟨h2, h3⟩, h4⟩
    refine ⟨hB, v, ?_, ⟨h2, ?_⟩, h4⟩
    · rw [hb.block b (Array.getElem?_eq_some_iff.1 h1).1]
      exact h1
    · rcases h3 with hn | ⟨g, cap, cur, fz, rfl, hg, hgg, rest⟩
      · exact .inl hn
      · exact .inr ⟨g, cap, cur, fz, rfl, hg, by rw [hb.block g (Array.getElem?_eq_some_iff.1 hgg).1]; exact hgg, rest⟩
  exact h.elim (fun h => .inl (one _ h)) (fun h => .inr (one _ h))
/-- A builder just made. -/
theorem builder_new (w : World) (fr : Nat × Nat) (hfr : fr = (0, 0)) : Lib.IsBuilderF 46 5 w.heap.size w.heap.size (Lib.byteCells []) (w.alloc (.cells #[.pointer none, .slice none 0 0] 46 fr)) := by
  subst hfr
  exact .inl ⟨Nat.le_refl _, .slice none 0 0, heap_alloc_new w _, ⟨rfl, .inl ⟨rfl, rfl⟩⟩, by simp [Value.ownBlock]⟩
theorem neB5 : (46 : Nat) ≠ 5 := by decide
set_option maxHeartbeats 2000000 in
theorem writeString_any (B b : Nat) (bs : List UInt8) (s : List UInt8) (w : World) (h : Lib.IsBuilderF 46 5 B b (Lib.byteCells bs) w) (hlen : bs.length + s.length ≤ 140737488355328) (hBw : B ≤ w.heap.size) :
    Calls Tryd.prog 20 #[.pointer (some ⟨b, 0, none⟩), .string (strOf s)] w fun e w' => e = .returned (.tuple #[.int .i64 s.length, .nilIface]) ∧ (Lib.IsBuilderF 46 5 B b (Lib.byteCells (bs ++ s)) w' ∧ Below B w w' ∧ Lib.OthersKept 5 (some b) w w') := by
  obtain ⟨i0, hi, hz0, hz1, hz2⟩ := info_parts infoByte
  have hls := Lib.byteCells_length bs
  have hss := size_strOf s
  go_enter Tryd.func20, Tryd.ntmps20
  go_wp2_with (go_at_call 31; refine (copyCheck_any B b _ _ h).mono ?_; rintro e w1 ⟨rfl, hb⟩; refine Classical.byContradiction fun hno => ?_)
  refine hno ?_
  clear hno
  obtain ⟨h1, hbel, hoth⟩ := hb
  obtain ⟨hB, v, hbk, hown, hne⟩ := h1
  rw [hls] at hown
  have hlt : b < w1.heap.size := (Array.getElem?_eq_some_iff.1 hbk).1
  have c0 : w1.cell? ⟨b, 0, none⟩ = some (.pointer (some ⟨b, 0, none⟩)) := by rw [Lib.cell_of_heap hbk]; rfl
  have c1 : w1.cell? ⟨b, 1, none⟩ = some v := by rw [Lib.cell_of_heap hbk]; rfl
  have HH := hid_mk (And.intro hbk (And.intro hown (And.intro hbel hoth)))
  clear hbk hown hbel hoth
  go_wp2_with (at_builtin; refine Classical.byContradiction fun hno => ?_)
  refine hno ?_
  clear hno
  obtain ⟨hbk, hown, hbel, hoth⟩ := HH.out
  refine Lib.wpList_append_own_stringF _ rfl (.tmp 12) (.tmp 13) _ _ rfl B 5 i0 Tryd.underlying29 Tryd.underlying9 hi hz0 hz1 hz2 v bs.length (Lib.byteCells bs) rfl hown (strOf s) rfl (by unfold maxLen; omega) (by omega) (by have := hbel.size; omega) ?_
  intro v' w2 hown1 hgrow _
  have hcs : Lib.byteCells bs ++ Lib.strCells (strOf s) = Lib.byteCells (bs ++ s) := by
    rw [Lib.byteCells_append]
    rfl
  rw [hcs, hss, ← List.length_append] at hown1
  have hb2 : w2.heap[b]? = some (.cells #[.pointer (some ⟨b, 0, none⟩), v] 46 (0, 0)) := by
    rw [hgrow.block b hlt (fun e => hne e.symm)]
    exact hbk
  have d0 : w2.cell? ⟨b, 0, none⟩ = some (.pointer (some ⟨b, 0, none⟩)) := by rw [Lib.cell_of_heap hb2]; rfl
  have d1 : w2.cell? ⟨b, 1, none⟩ = some v := by rw [Lib.cell_of_heap hb2]; rfl
  have f1 : w2.frozen? ⟨b, 1, none⟩ = false := Lib.frozen_of_heap hb2 1
  obtain ⟨g, cap, hv⟩ : ∃ g cap, v' = .slice g (bs ++ s).length cap := by
    rcases hown1.2 with ⟨hv, h0⟩ | ⟨g, cap, cur, fz, hv, _⟩
    · exact ⟨none, 0, by rw [hv, h0]⟩
    · exact ⟨_, cap, hv⟩
  have hfin := hid_mk (show Lib.IsBuilderF 46 5 B b (Lib.byteCells (bs ++ s)) (w2.setCell ⟨b, 1, none⟩ v') ∧ Below B w (w2.setCell ⟨b, 1, none⟩ v') ∧ Lib.OthersKept 5 (some b) w (w2.setCell ⟨b, 1, none⟩ v') from by
    refine ⟨.inr ?_, ?_, (hoth.grown hgrow (Lib.ownsRowF_kind hown)).setCell ⟨b, 1, none⟩ rfl _⟩
    · exact Lib.BuilderAtF.put (T := 46) (e := 5) hB hb2 (bs' := Lib.byteCells (bs ++ s)) (by rw [Lib.byteCells_length]; exact hown1) neB5
    · exact (hbel.grown hgrow (by have := hbel.size; omega) (fun k hk => (hown.lt k hk).1)).setCell (p := ⟨b, 1, none⟩) hB _)
  clear HH hbk hown hbel hoth hown1 hgrow hb2 hi hz0 hz1 hz2 hcs hls
  clear i0
  rw [hv] at hfin ⊢
  clear hv
  rw [List.length_append] at hfin ⊢
  go_wp2
  go_ret2
  exact ⟨rfl, hfin.out⟩
theorem writeBytes_any (B b : Nat) (bs : List UInt8) (x : ByteArray) (w : World) (h : Lib.IsBuilderF 46 5 B b (Lib.byteCells bs) w) (hlen : bs.length + x.size ≤ 140737488355328) (hBw : B ≤ w.heap.size) :
    Calls Tryd.prog 20 #[.pointer (some ⟨b, 0, none⟩), .string x] w fun e w' => e = .returned (.tuple #[.int .i64 (sl x).length, .nilIface]) ∧ (Lib.IsBuilderF 46 5 B b (Lib.byteCells (bs ++ sl x)) w' ∧ Below B w w' ∧ Lib.OthersKept 5 (some b) w w') := by
  have h1 := writeString_any B b bs (sl x) w h (by rw [len_sl]; exact hlen) hBw
  rw [strOf_sl] at h1
  exact h1
end Go.Proofs.YtnooofnlbfhopaaDoor
