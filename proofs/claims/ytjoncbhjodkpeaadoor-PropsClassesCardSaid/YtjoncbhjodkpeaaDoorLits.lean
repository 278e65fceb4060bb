/-
  The functions that tell a table: Ranges, Brackets: what each hands back, and that it makes one new block. No condition.
-/
import Derived.Test.YtjoncbhjodkpeaaDoorProg
import Derived.Test.YtjoncbhjodkpeaaDoorPlain
import Derived.Test.YtjoncbhjodkpeaaDoorExec
namespace Go.Proofs.YtjoncbhjodkpeaaDoor
open Go.RowKit
theorem brackets_any (w : World) :
    Calls Tryd.prog 24 #[] w fun e w' => e = .returned (.slice (some ⟨w.heap.size, 0, none⟩) 23 23) ∧ w' = w.alloc (.cells bracketCells 53) :=
  calls_exec Tryd.func24 rfl (by kernel_rfl)
theorem ranges_any (w : World) :
    Calls Tryd.prog 9 #[] w fun e w' => e = .returned (.slice (some ⟨w.heap.size, 0, none⟩) 146 146) ∧ w' = w.alloc (.cells spanCells 26) :=
  calls_exec Tryd.func9 rfl (by kernel_rfl)
end Go.Proofs.YtjoncbhjodkpeaaDoor
