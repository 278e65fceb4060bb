/-
  The table of pairs as the row lists it is the table that the walks ask for. Condition: the row's own.
-/
import Derived.Test.YtjoncbhjodkpeaaDoorLaws
import Derived.Test.YtjoncbhjodkpeaaDoorLaid
import Derived.Test.YtjoncbhjodkpeaaDoorRows
import Derived.Test.YtjoncbhjodkpeaaDoorCards
import Derived.Test.YtjoncbhjodkpeaaDoorTie
import Derived.SevenTiedAt
import Derived.ProofKit
import Derived.LaidMore
import Derived.Stop.Joined
namespace Go.Proofs.YtjoncbhjodkpeaaDoor
open Go.ChangeShapes Go.WideShapes Go.ChangeAt Go.RowKit
theorem own : ownKnob Tryd.prog.godebug = none := by kernel_rfl
theorem gPairs : Tryd.prog.globalNamed "selvedge/props.pairs" = some 0 := by kernel_rfl
theorem tPairs : (Tryd.prog.globals[0]?).map (·.type) = some 48 := by kernel_rfl
def laidAll : List (String × DataW Unit) := [("selvedge/props.pairs", Rows.laid_selvedge_props_pairs)]
/-- The door's own heap meets the condition. -/
theorem door_met (os : Os) (args : Array Value) : laidMetH Tryd.prog laidAll ((World.doorLaid Tryd.prog 44 os).forCall (fun _ _ => 0) ⟨#[], args, []⟩).memory :=
  laidMetH_of_parts3 (fuel := 8) (laidMet_of_run' 8 (by kernel_rfl) (by kernel_rfl)) (by kernel_rfl) (by kernel_rfl)
theorem fieldsPair : ∃ fs, Tryd.prog.underlying 47 = some (.struct fs) ∧ fs.size = 3 ∧ ∀ (i : Nat) (f : Field), fs[i]? = some f → f.offset = i ∧ Tryd.prog.cellsOf f.type = 1 := by
  refine ⟨_, Tryd.underlying47, rfl, fun i f h => ?_⟩
  match i, h with
  | 0, h => simp at h; subst h; exact ⟨rfl, by kernel_rfl⟩
  | 1, h => simp at h; subst h; exact ⟨rfl, by kernel_rfl⟩
  | 2, h => simp at h; subst h; exact ⟨rfl, by kernel_rfl⟩
  | n + 3, h => simp at h
theorem tab_of_laid {W : World} (h : laidMetH Tryd.prog laidAll W) : Tab W := by
  rw [MakeChecks.laidMetH_plain _ _ _ (by kernel_rfl)] at h
  obtain ⟨ps, ⟨g0, t0, cs0, f0, p0, q0, hg0, ht0, hv0, hd0, _, _⟩, _⟩ := h
  obtain rfl := Option.some.inj (gPairs.symm.trans hg0)
  obtain rfl := Option.some.inj (tPairs.symm.trans ht0)
  obtain ⟨fs, hfs, hs3, hof⟩ := fieldsPair
  have hc := cells_of_rows (rows := pairsT.map fun t => [.int .i32 t.1, .int .i32 t.2.1, .bool t.2.2]) (n := 30) (m := 3) Tryd.underlying48 hfs (by kernel_rfl) (by kernel_rfl) (by omega) hs3 hof
    (fun r hr => by obtain ⟨t, _, rfl⟩ := List.mem_map.1 hr; rfl) hd0
  have e : cs0 = pairCells := by
    apply Array.ext'
    rw [hc]
    unfold pairCells
    simp only [List.flatMap_map]
    rfl
  subst e
  unfold World.var? at hv0
  rw [hg0] at hv0
  simp only [Option.bind_some] at hv0
  cases hh : W.heap[0]? with
  | none => rw [hh] at hv0; cases hv0
  | some o =>
    rw [hh] at hv0
    cases o with
    | cells cs T fr =>
      simp only [Option.some.injEq] at hv0
      subst hv0
      exact ⟨T, fr, hh⟩
    | _ => cases hv0
end Go.Proofs.YtjoncbhjodkpeaaDoor
