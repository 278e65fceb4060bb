/-
  The law about ASCII, in the form in which the closing text takes it. The table of pairs lies in the first package-level variable: a condition.
-/
import Derived.Test.YtjoncbhjodkpeaaDoorAscii
import Derived.OpenShut
namespace Go.Proofs.YtjoncbhjodkpeaaDoor
theorem ascii_w (c : Int) (w : World) (hc : (Lit.int .u8 c).wf = true) (hg : Tab w) : Calls Tryd.prog 7 #[.int .u8 c] w fun e w' => e = .returned (.bool true) ∧ Next w w' := ascii_law c (bounds_u8 hc).1 (bounds_u8 hc).2 w hg
end Go.Proofs.YtjoncbhjodkpeaaDoor
