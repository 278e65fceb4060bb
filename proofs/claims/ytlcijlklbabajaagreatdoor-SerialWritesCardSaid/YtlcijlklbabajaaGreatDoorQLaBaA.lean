/-
  A table of rows of plain values, as a datum, tells its cells: an array of structs whose fields are one cell each. Conditions: on the types' layout.
-/
import Derived.Test.YtlcijlklbabajaaGreatDoorQFlEx
import Derived.ChangeArms
import Derived.OpenShut
import Derived.Test.YtlcijlklbabajaaGreatDoorQPlNum
import Derived.Test.YtlcijlklbabajaaGreatDoorRows
import Derived.Test.YtlcijlklbabajaaGreatDoorCards
import Derived.Test.YtlcijlklbabajaaGreatDoorTie
import Derived.Test.YtlcijlklbabajaaGreatDoorQShelf
import Derived.SevenTiedAt
import Derived.ProofKit
import Derived.LaidMore
import Derived.Stop.Joined
import Derived.Lay
import Derived.Deep.DeepHandedRow
import Derived.Test.YtlcijlklbabajaaGreatDoorQRR12
import Derived.Lib.LaidU8T
namespace Go.Proofs.YtlcijlklbabajaaGreatDoor
def litVal : Lit → Value
 | .int k n => .int k n
 | .bool b => .bool b
 | .string l => .string ⟨l.toArray⟩
 | .float k b => .float k b
 | .nil => undef
section
variable {H : Type} {enc : TypeId × Value → H} {P : Program} {w : World} {base : Nat} {sp : Nat → Bool} {held : Bool} {fuel : Nat} {t : TypeId}
theorem leaf_of_trod {c : Value} {l : Lit} {q : List MemPlace} (h : DataW.trod enc P w base sp held fuel t [c] = some (.lit l, q)) : c = litVal l := by
 cases fuel with
 | zero => simp [DataW.trod] at h
 | succ m =>
   unfold DataW.trod at h
   split at h <;> simp_all [litVal]
   all_goals
    first
     | (obtain ⟨rfl, _⟩ := h; rfl)
     | (obtain ⟨_, rfl, _⟩ := h; rfl)
     | (obtain ⟨_, rfl, _⟩ := h; simp)
     | (exfalso; simp [Option.bind_eq_some_iff, Option.map_eq_some_iff] at h; done)
     | (exfalso; split at h <;> simp_all [Option.bind_eq_some_iff, Option.map_eq_some_iff]; done)
     | (exfalso; split at h <;> (try split at h) <;> simp_all [Option.bind_eq_some_iff, Option.map_eq_some_iff] <;> (try (obtain ⟨_, _, h⟩ := h; split at h <;> simp_all)); done)
end
end Go.Proofs.YtlcijlklbabajaaGreatDoor
namespace Go.Proofs.YtlcijlklbabajaaGreatDoor
open Go.ChangeShapes Go.WideShapes Go.ChangeAt Go.RowKit
theorem own : ownKnob Tryz.prog.godebug = none := by kernel_rfl
theorem gRepl : Tryz.prog.globalNamed "selvedge/charref.replaced" = some 3 := by kernel_rfl
theorem tRepl : (Tryz.prog.globals[3]?).map (·.type) = some 210 := by kernel_rfl
def laidAll : List (String × DataW Unit) := [("unicode/utf8.acceptRanges", Rows.laid_unicode_utf8_acceptRanges), ("selvedge/charref.replaced", Rows.laid_selvedge_charref_replaced), ("unicode/utf8.first", Rows.laid_unicode_utf8_first)]
section
variable {H : Type} {enc : TypeId × Value → H} {P : Program} {w : World} {base : Nat} {sp : Nat → Bool} {held : Bool} {fuel : Nat} {t : TypeId}
/-- An array of one-cell values: the datum tells the cells. -/
theorem cells_of_lits {cs : List Value} {p : List MemPlace} {n : Nat} {e : TypeId} {ls : List Lit} (ht : P.underlying t = some (.array n e)) (hce : P.cellsOf e = 1) (hct : P.cellsOf t = n)
 (h : DataW.trod enc P w base sp held fuel t cs = some (.agg (ls.map .lit), p)) : cs = ls.map litVal := by
 obtain ⟨xs, k, rfl, hx, hl, hxn, hel⟩ := DataW.trod_array ht h
 simp only [Prod.mk.injEq, DataW.agg.injEq] at hx
 have hn : ls.length = n := by
  have := congrArg List.length hx.1
  simp only [List.length_map] at this
  omega
 apply List.ext_getElem?
 intro i
 by_cases hi : i < n
 ·have h1 := hel i hi
  have hxi : i < xs.length := by omega
  rw [hce, List.getElem?_eq_getElem hxi, Nat.mul_one] at h1
  have h2 : xs[i].1 = .lit (ls[i]'(by omega)) := by
   have := congrArg (fun l => l[i]?) hx.1
   simp only [List.getElem?_map, List.getElem?_eq_getElem hxi, List.getElem?_eq_getElem (show i < ls.length by omega), Option.map_some, Option.some.injEq] at this
   exact this.symm
  have hci : i < cs.length := by rw [hl, hct]; omega
  rw [List.drop_eq_getElem_cons hci] at h1
  have h6 : ((cs[i]'hci) :: cs.drop (i + 1)).take 1 = [cs[i]'hci] := rfl
  rw [h6] at h1
  have h7 : DataW.trod enc P w base sp held k e [cs[i]'hci] = some (.lit (ls[i]'(by omega)), xs[i].2) := by rw [h1, ← h2]
  rw [List.getElem?_eq_getElem hci, List.getElem?_map, List.getElem?_eq_getElem (show i < ls.length by omega), leaf_of_trod h7]
  rfl
 ·rw [List.getElem?_eq_none (by rw [hl, hct]; omega), List.getElem?_eq_none (by rw [List.length_map]; omega)]
end
theorem max_of_shape {W : World} (h : W.ShapedOpen Tryz.prog) : ∃ m : Int, W.cell? ⟨0, 0, none⟩ = some (.int .i64 m) := Tryz.laysM144.s1_3 W h
theorem tab_of_laid {W : World} (h : laidMetH Tryz.prog laidAll W) (hs : W.ShapedOpen Tryz.prog) : Tab W := by
 refine ⟨?_, max_of_shape hs⟩
 rw [MakeChecks.laidMetH_plain _ _ _ (by kernel_rfl)] at h
 obtain ⟨ps, ⟨_, _, _, _, _, _, _, _, _, _, ⟨g0, t0, cs0, f0, p0, q0, hg0, ht0, hv0, hd0, _, _⟩, _⟩, _⟩ := h
 obtain rfl := Option.some.inj (gRepl.symm.trans hg0)
 obtain rfl := Option.some.inj (tRepl.symm.trans ht0)
 have hc := cells_of_lits (n := 32) (ls := replT.map fun (r : Nat) => .int .i32 (r : Int)) Tryz.underlying210 (by kernel_rfl) (by kernel_rfl) hd0
 have e : cs0 = replCells := by
  apply Array.ext'
  rw [hc]
  unfold replCells
  rw [List.map_map]
  rfl
 subst e
 unfold World.var? at hv0
 rw [hg0] at hv0
 simp only [Option.bind_some] at hv0
 cases hh : W.heap[3]? with
 | none => rw [hh] at hv0; cases hv0
 | some o =>
   rw [hh] at hv0
   cases o with
   | cells cs T fr =>
     simp only [Option.some.injEq] at hv0
     subst hv0
     exact ⟨T, fr, rfl⟩
   | _ => cases hv0
theorem door_met (os : Os) (args : Array Value) : laidMetH Tryz.prog laidAll ((World.laidAll Tryz.prog os laidAll).forCall (fun _ _ => 0) ⟨#[], args, []⟩).memory := by
 rw [MakeChecks.laidMetH_plain _ _ _ (by kernel_rfl)]
 exact laidMet_laidAll _ (by kernel_rfl) (by kernel_rfl)
end Go.Proofs.YtlcijlklbabajaaGreatDoor
namespace Go.Proofs.YtlcijlklbabajaaGreatDoor
open Go.ChangeShapes Go.WideShapes Go.ChangeAt Go.RowKit Go.Lib
set_option maxRecDepth 100000 in
theorem tabB_of_laid {W : World} (h : laidMetH Tryz.prog laidAll W) (hs : W.ShapedOpen Tryz.prog) : R.TabV W ∧ Tab W := by
 refine ⟨?_, tab_of_laid h hs⟩
 rw [MakeChecks.laidMetH_plain _ _ _ (by kernel_rfl)] at h
 exact utf8Tabs_of_readsT (U8Types.of196 Tryz.lays196) ⟨by kernel_rfl, by kernel_rfl, by kernel_rfl, by kernel_rfl, by kernel_rfl, by kernel_rfl, by kernel_rfl⟩ (laidMet.reads h (List.mem_cons_of_mem _ (List.mem_cons_of_mem _ (List.mem_cons_self ..)))) (laidMet.reads h (List.mem_cons_self ..))
end Go.Proofs.YtlcijlklbabajaaGreatDoor
