/-
  The reference's number: a reference by number, behind &#. Condition: the text's length is bounded.
-/
import Derived.Test.YtakakaenlfilmaaGreatDoorRNumA
import Derived.Test.YtakakaenlfilmaaGreatDoorRNumB
import Derived.Test.YtakakaenlfilmaaGreatDoorRNumC
namespace Go.Proofs.YtakakaenlfilmaaGreatDoor
open Go.RowKit
theorem number_any (s : ByteArray) (hs : s.size ≤ 9223372036854775000) (w : World) :
    Calls Tryz.prog 76 #[.string s] w fun e w' => e = .returned (resV (numR (sl s))) ∧ Below w.heap.size w w' := by
  by_cases h1 : atL (sl s) 0 = 120
  · exact number_lx s hs w h1
  by_cases h2 : atL (sl s) 0 = 88
  · exact number_ux s hs w h2
  · exact number_dec s hs w (fun h => h.elim h1 h2)
end Go.Proofs.YtakakaenlfilmaaGreatDoor
