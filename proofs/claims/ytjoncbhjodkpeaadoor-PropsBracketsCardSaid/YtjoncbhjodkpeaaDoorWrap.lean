/-
  The laws of layer 1, in the form in which the closing texts take them. The table of pairs lies in the first package-level variable: a condition.
-/
import Derived.Test.YtjoncbhjodkpeaaDoorLaws
import Derived.Test.YtjoncbhjodkpeaaDoorPairs
import Derived.Test.YtjoncbhjodkpeaaDoorKnown
import Derived.Test.YtjoncbhjodkpeaaDoorAscii
import Derived.OpenShut
namespace Go.Proofs.YtjoncbhjodkpeaaDoor
theorem brackets_w (r : Int) (w : World) (_ : (Lit.int .i32 r).wf = true) (hg : Tab w) : Calls Tryd.prog 4 #[.int .i32 r] w fun e w' => e = .returned (.bool true) ∧ Next w w' := brackets_law r w hg
theorem pairs_w (r : Int) (w : World) (_ : (Lit.int .i32 r).wf = true) (hg : Tab w) : Calls Tryd.prog 6 #[.int .i32 r] w fun e w' => e = .returned (.bool true) ∧ Next w w' := pairs_law r w hg
theorem ascii_w (c : Int) (w : World) (hc : (Lit.int .u8 c).wf = true) (hg : Tab w) : Calls Tryd.prog 7 #[.int .u8 c] w fun e w' => e = .returned (.bool true) ∧ Next w w' := ascii_law c (bounds_u8 hc).1 (bounds_u8 hc).2 w hg
end Go.Proofs.YtjoncbhjodkpeaaDoor
