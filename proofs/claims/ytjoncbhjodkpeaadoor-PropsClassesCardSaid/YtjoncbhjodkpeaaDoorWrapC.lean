/-
  The law about classes, in the form in which the closing text takes it. The table of pairs lies in the first package-level variable: a condition.
-/
import Derived.Test.YtjoncbhjodkpeaaDoorClasses
import Derived.OpenShut
namespace Go.Proofs.YtjoncbhjodkpeaaDoor
theorem classes_w (r q : Int) (w : World) (hr : (Lit.int .i32 r).wf = true) (hq : (Lit.int .u8 q).wf = true) (hg : Tab w) : Calls Tryd.prog 3 #[.int .i32 r, .int .u8 q] w fun e w' => e = .returned (.bool true) ∧ Next w w' := classes_law r q (bounds_i32 hr).1 (bounds_i32 hr).2 (bounds_u8 hq).1 (bounds_u8 hq).2 w hg
end Go.Proofs.YtjoncbhjodkpeaaDoor
