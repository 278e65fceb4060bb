/-
  The variables that the rows of layer 6 list, and what the walks ask of them. Condition: the row's own.
-/
import Derived.Test.YtnooofnlbfhopaaDoorRRt1
import Derived.Test.YtnooofnlbfhopaaDoorLaid
import Derived.Test.YtnooofnlbfhopaaDoorRows
import Derived.Test.YtnooofnlbfhopaaDoorCards
import Derived.Test.YtnooofnlbfhopaaDoorTie
import Derived.Test.YtnooofnlbfhopaaDoorShelf
import Derived.SevenTiedAt
import Derived.ProofKit
import Derived.LaidMore
import Derived.Stop.Joined
import Derived.Lay
import Derived.Deep.DeepHandedRow
import Derived.Lib.LaidU8T
namespace Go.Proofs.YtnooofnlbfhopaaDoor
open Go.ChangeShapes Go.WideShapes Go.ChangeAt Go.RowKit Go.Lib
theorem own : ownKnob Tryd.prog.godebug = none := by kernel_rfl
def laidE : List (String × DataW Unit) := [("unicode/utf8.acceptRanges", Rows.laid_unicode_utf8_acceptRanges), ("unicode/utf8.first", Rows.laid_unicode_utf8_first)]
set_option maxRecDepth 100000 in
theorem tabE_of_laid {W : World} (h : laidMetH Tryd.prog laidE W) (_ : W.ShapedOpen Tryd.prog) : TabV W := by
  rw [MakeChecks.laidMetH_plain _ _ _ (by kernel_rfl)] at h
  exact utf8Tabs_of_readsT (U8Types.of196 Tryd.lays196) ⟨by kernel_rfl, by kernel_rfl, by kernel_rfl, by kernel_rfl, by kernel_rfl, by kernel_rfl, by kernel_rfl⟩ (laidMet.reads h (List.mem_cons_of_mem _ (List.mem_cons_self ..))) (laidMet.reads h (List.mem_cons_self ..))
theorem doorE_met (os : Os) (args : Array Value) : laidMetH Tryd.prog laidE ((World.laidAll Tryd.prog os laidE).forCall (fun _ _ => 0) ⟨#[], args, []⟩).memory := by
  rw [MakeChecks.laidMetH_plain _ _ _ (by kernel_rfl)]
  exact laidMet_laidAll _ (by kernel_rfl) (by kernel_rfl)
end Go.Proofs.YtnooofnlbfhopaaDoor
