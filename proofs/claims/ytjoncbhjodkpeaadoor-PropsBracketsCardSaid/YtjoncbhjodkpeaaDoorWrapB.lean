/-
  The law about brackets, in the form in which the closing text takes it. The table of pairs lies in the first package-level variable: a condition.
-/
import Derived.Test.YtjoncbhjodkpeaaDoorLaws
import Derived.OpenShut
namespace Go.Proofs.YtjoncbhjodkpeaaDoor
theorem brackets_w (r : Int) (w : World) (_ : (Lit.int .i32 r).wf = true) (hg : Tab w) : Calls Tryd.prog 4 #[.int .i32 r] w fun e w' => e = .returned (.bool true) ∧ Next w w' := brackets_law r w hg
end Go.Proofs.YtjoncbhjodkpeaaDoor
