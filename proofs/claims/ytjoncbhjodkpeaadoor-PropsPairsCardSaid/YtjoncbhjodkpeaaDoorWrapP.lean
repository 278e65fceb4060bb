/-
  The law about pairs, in the form in which the closing text takes it. The table of pairs lies in the first package-level variable: a condition.
-/
import Derived.Test.YtjoncbhjodkpeaaDoorPairs
import Derived.OpenShut
namespace Go.Proofs.YtjoncbhjodkpeaaDoor
theorem pairs_w (r : Int) (w : World) (_ : (Lit.int .i32 r).wf = true) (hg : Tab w) : Calls Tryd.prog 6 #[.int .i32 r] w fun e w' => e = .returned (.bool true) ∧ Next w w' := pairs_law r w hg
end Go.Proofs.YtjoncbhjodkpeaaDoor
