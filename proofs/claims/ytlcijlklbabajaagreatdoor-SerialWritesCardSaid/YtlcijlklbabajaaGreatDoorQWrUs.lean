/-
  strings.Builder's methods at this translation: copyCheck, WriteString, over a builder that the call itself has made. Condition: the lengths are bounded.
-/
import Derived.Test.YtlcijlklbabajaaGreatDoorQWords
import Derived.Test.YtlcijlklbabajaaGreatDoorQShelf
import Derived.Shelf.Strings.BuilderK
namespace Go.Proofs.YtlcijlklbabajaaGreatDoor
open Go.RowKit
theorem sizeBuilder : (Tryz.prog.info? 78).map (·.size) = some 2 := by kernel_rfl
theorem liesBuilder : liesAt Tryz.prog Tryz.prog.depth 78 (2 / Tryz.prog.cellsOf 78) 0 78 1 = true := by kernel_rfl
set_option maxHeartbeats 2000000 in
theorem copyCheck_fresh (b : Nat) (w : World) (h0 : w.cell? ⟨b, 0, none⟩ = some (.pointer none)) (hsh : w.shape? b = some (78, 2)) (hfz : w.frozen? ⟨b, 0, none⟩ = false) :
 Calls Tryz.prog 108 #[.pointer (some ⟨b, 0, none⟩)] w fun e w' => e = .returned (.tuple #[]) ∧ w' = w.setCell ⟨b, 0, none⟩ (.pointer (some ⟨b, 0, none⟩)) := by
 obtain ⟨j, hj, hjs⟩ := Option.map_eq_some_iff.1 sizeBuilder
 have k1 := Lib.run_to_unsafe (P := Tryz.prog) w ⟨b, 0, none⟩ Tryz.underlying76 Tryz.underlying151 hj (by rw [hjs]; decide) hsh (Nat.zero_lt_succ 1)
 have k3 := Lib.run_from_unsafe (P := Tryz.prog) w ⟨b, 0, none⟩ Tryz.underlying151 Tryz.underlying76 hj hsh liesBuilder
 have k2 := run_callFunc_extern (args := #[.pointer (some ⟨b, 0, none⟩)]) (w := w) Tryz.func140 (by kernel_rfl) (by kernel_rfl) (by kernel_rfl) (e := Extern.AbiNoEscape.same) (by kernel_rfl)
 rw [Lib.run_noEscape] at k2
 simp only [Result.andThen] at k2
 clear hj hjs
 go_enter Tryz.func108, Tryz.ntmps108
 go_wp2
 go_end0
 exact ⟨rfl, rfl⟩
set_option maxHeartbeats 2000000 in
theorem copyCheck_used (b : Nat) (w : World) (h0 : w.cell? ⟨b, 0, none⟩ = some (.pointer (some ⟨b, 0, none⟩))) :
 Calls Tryz.prog 108 #[.pointer (some ⟨b, 0, none⟩)] w fun e w' => e = .returned (.tuple #[]) ∧ w' = w := by
 obtain ⟨j, hj, _⟩ := Option.map_eq_some_iff.1 sizeBuilder
 have k1 := Lib.run_neq_ptr_same (P := Tryz.prog) w ⟨b, 0, none⟩ Tryz.underlying76 hj
 clear hj
 go_enter Tryz.func108, Tryz.ntmps108
 go_wp2
 go_end0
 exact ⟨rfl, rfl⟩
theorem copyCheck_any (B b : Nat) (bs : List Value) (w : World) (h : Lib.IsBuilderF 78 5 B b bs w) :
 Calls Tryz.prog 108 #[.pointer (some ⟨b, 0, none⟩)] w fun e w' => e = .returned (.tuple #[]) ∧ (Lib.BuilderAtF 78 5 B b (.pointer (some ⟨b, 0, none⟩)) bs w' ∧ Below B w w' ∧ Lib.OthersKept 5 (some b) w w') := by
 rcases h with h | h
 ·refine (copyCheck_fresh b w h.cell0 h.shape h.frozen0).mono ?_
  rintro e w' ⟨rfl, rfl⟩
  exact ⟨rfl, h.used _, (Below.refl B w).setCell (p := ⟨b, 0, none⟩) h.1 _, (Lib.OthersKept.refl _ _ w).setCell ⟨b, 0, none⟩ rfl _⟩
 ·refine (copyCheck_used b w h.cell0).mono ?_
  rintro e w' ⟨rfl, rfl⟩
  exact ⟨rfl, h, Below.refl B _, Lib.OthersKept.refl _ _ _⟩
/-- What is grown behind leaves a builder as it is. -/
theorem builder_below {B b : Nat} {bs : List Value} {w w' : World} (h : Lib.IsBuilderF 78 5 B b bs w) (hb : Below w.heap.size w w') : Lib.IsBuilderF 78 5 B b bs w' := by
 have one : ∀ p, Lib.BuilderAtF 78 5 B b p bs w → Lib.BuilderAtF 78 5 B b p bs w' := by
  rintro p ⟨hB, v, h1, ⟨h2, h3⟩, h4⟩
  refine ⟨hB, v, ?_, ⟨h2, ?_⟩, h4⟩
  ·rw [hb.block b (Array.getElem?_eq_some_iff.1 h1).1]
   exact h1
  ·rcases h3 with hn | ⟨g, cap, cur, fz, rfl, hg, hgg, rest⟩
   ·exact .inl hn
   ·exact .inr ⟨g, cap, cur, fz, rfl, hg, by rw [hb.block g (Array.getElem?_eq_some_iff.1 hgg).1]; exact hgg, rest⟩
 exact h.elim (fun h => .inl (one _ h)) (fun h => .inr (one _ h))
/-- A builder just made. -/
theorem builder_new (w : World) (fr : Nat × Nat) (hfr : fr = (0, 0)) : Lib.IsBuilderF 78 5 w.heap.size w.heap.size (Lib.byteCells []) (w.alloc (.cells #[.pointer none, .slice none 0 0] 78 fr)) := by
 subst hfr
 exact .inl ⟨Nat.le_refl _, .slice none 0 0, heap_alloc_new w _, ⟨rfl, .inl ⟨rfl, rfl⟩⟩, by simp [Value.ownBlock]⟩
theorem neB5 : (78 : Nat) ≠ 5 := by decide
set_option maxHeartbeats 2000000 in
theorem writeString_any (B b : Nat) (bs : List UInt8) (s : List UInt8) (w : World) (h : Lib.IsBuilderF 78 5 B b (Lib.byteCells bs) w) (hlen : bs.length + s.length ≤ 140737488355328) (hBw : B ≤ w.heap.size) :
 Calls Tryz.prog 97 #[.pointer (some ⟨b, 0, none⟩), .string (strOf s)] w fun e w' => e = .returned (.tuple #[.int .i64 s.length, .nilIface]) ∧ (Lib.IsBuilderF 78 5 B b (Lib.byteCells (bs ++ s)) w' ∧ Below B w w' ∧ Lib.OthersKept 5 (some b) w w') := by
 obtain ⟨i0, hi, hz0, hz1, hz2⟩ := info_parts infoByte
 have hls := Lib.byteCells_length bs
 have hss := size_strOf s
 go_enter Tryz.func97, Tryz.ntmps97
 go_wp2_with (go_at_call 108; refine (copyCheck_any B b _ _ h).mono ?_; rintro e w1 ⟨rfl, hb⟩; refine Classical.byContradiction fun hno => ?_)
 refine hno ?_
 clear hno
 obtain ⟨h1, hbel, hoth⟩ := hb
 obtain ⟨hB, v, hbk, hown, hne⟩ := h1
 rw [hls] at hown
 have hlt : b < w1.heap.size := (Array.getElem?_eq_some_iff.1 hbk).1
 have c0 : w1.cell? ⟨b, 0, none⟩ = some (.pointer (some ⟨b, 0, none⟩)) := by rw [Lib.cell_of_heap hbk]; rfl
 have c1 : w1.cell? ⟨b, 1, none⟩ = some v := by rw [Lib.cell_of_heap hbk]; rfl
 have HH := hid_mk (And.intro hbk (And.intro hown (And.intro hbel hoth)))
 clear hbk hown hbel hoth
 go_wp2_with (at_builtin; refine Classical.byContradiction fun hno => ?_)
 refine hno ?_
 clear hno
 obtain ⟨hbk, hown, hbel, hoth⟩ := HH.out
 refine Lib.wpList_append_own_stringF _ rfl (.tmp 12) (.tmp 13) _ _ rfl B 5 i0 Tryz.underlying42 Tryz.underlying9 hi hz0 hz1 hz2 v bs.length (Lib.byteCells bs) rfl hown (strOf s) rfl (by unfold maxLen; omega) (by omega) (by have := hbel.size; omega) ?_
 intro v' w2 hown1 hgrow _
 have hcs : Lib.byteCells bs ++ Lib.strCells (strOf s) = Lib.byteCells (bs ++ s) := by
  rw [Lib.byteCells_append]
  rfl
 rw [hcs, hss, ← List.length_append] at hown1
 have hb2 : w2.heap[b]? = some (.cells #[.pointer (some ⟨b, 0, none⟩), v] 78 (0, 0)) := by
  rw [hgrow.block b hlt (fun e => hne e.symm)]
  exact hbk
 have d0 : w2.cell? ⟨b, 0, none⟩ = some (.pointer (some ⟨b, 0, none⟩)) := by rw [Lib.cell_of_heap hb2]; rfl
 have d1 : w2.cell? ⟨b, 1, none⟩ = some v := by rw [Lib.cell_of_heap hb2]; rfl
 have f1 : w2.frozen? ⟨b, 1, none⟩ = false := Lib.frozen_of_heap hb2 1
 obtain ⟨g, cap, hv⟩ : ∃ g cap, v' = .slice g (bs ++ s).length cap := by
  rcases hown1.2 with ⟨hv, h0⟩ | ⟨g, cap, cur, fz, hv, _⟩
  ·exact ⟨none, 0, by rw [hv, h0]⟩
  ·exact ⟨_, cap, hv⟩
 have hfin := hid_mk (show Lib.IsBuilderF 78 5 B b (Lib.byteCells (bs ++ s)) (w2.setCell ⟨b, 1, none⟩ v') ∧ Below B w (w2.setCell ⟨b, 1, none⟩ v') ∧ Lib.OthersKept 5 (some b) w (w2.setCell ⟨b, 1, none⟩ v') from by
  refine ⟨.inr ?_, ?_, (hoth.grown hgrow (Lib.ownsRowF_kind hown)).setCell ⟨b, 1, none⟩ rfl _⟩
  ·exact Lib.BuilderAtF.put (T := 78) (e := 5) hB hb2 (bs' := Lib.byteCells (bs ++ s)) (by rw [Lib.byteCells_length]; exact hown1) neB5
  ·exact (hbel.grown hgrow (by have := hbel.size; omega) (fun k hk => (hown.lt k hk).1)).setCell (p := ⟨b, 1, none⟩) hB _)
 clear HH hbk hown hbel hoth hown1 hgrow hb2 hi hz0 hz1 hz2 hcs hls
 clear i0
 rw [hv] at hfin ⊢
 clear hv
 rw [List.length_append] at hfin ⊢
 go_wp2
 go_ret2
 exact ⟨rfl, hfin.out⟩
theorem writeBytes_any (B b : Nat) (bs : List UInt8) (x : ByteArray) (w : World) (h : Lib.IsBuilderF 78 5 B b (Lib.byteCells bs) w) (hlen : bs.length + x.size ≤ 140737488355328) (hBw : B ≤ w.heap.size) :
 Calls Tryz.prog 97 #[.pointer (some ⟨b, 0, none⟩), .string x] w fun e w' => e = .returned (.tuple #[.int .i64 (sl x).length, .nilIface]) ∧ (Lib.IsBuilderF 78 5 B b (Lib.byteCells (bs ++ sl x)) w' ∧ Below B w w' ∧ Lib.OthersKept 5 (some b) w w') := by
 have h1 := writeString_any B b bs (sl x) w h (by rw [len_sl]; exact hlen) hBw
 rw [strOf_sl] at h1
 exact h1
end Go.Proofs.YtlcijlklbabajaaGreatDoor
namespace Go.Proofs.YtlcijlklbabajaaGreatDoor
open Go.RowKit
theorem string_any (a : Option Addr) (cap : Nat) (rs : List Int) (w : World) (h : HasRunes w a rs) :
 Calls Tryz.prog 164 #[.slice a rs.length cap] w fun e w' => e = .returned (.string (strOf (encL rs))) ∧ w' = w := by
 have hcv := runes_conv w a cap rs h
 go_enter Tryz.func164, Tryz.ntmps164
 go_wp2
 go_ret
 exact ⟨rfl, rfl⟩
/-- One character as a text. -/
theorem string_one (w : World) (r : Int) (fr : Nat × Nat) :
 Calls Tryz.prog 164 #[.slice (some ⟨w.heap.size, 0, none⟩) 1 1] (w.alloc (.cells #[.int .i32 r] 21 fr)) fun e w' => e = .returned (.string (strOf (Lib.encodeRune r))) ∧ w.alloc (.cells #[.int .i32 r] 21 fr) = w' := by
 refine (string_any (some ⟨w.heap.size, 0, none⟩) 1 [r] _ (has_new_runes w [r] _ _ rfl)).mono ?_
 rintro e w' ⟨rfl, rfl⟩
 refine ⟨?_, rfl⟩
 unfold encL
 rw [List.flatMap_cons, List.flatMap_nil, List.append_nil]
end Go.Proofs.YtlcijlklbabajaaGreatDoor
