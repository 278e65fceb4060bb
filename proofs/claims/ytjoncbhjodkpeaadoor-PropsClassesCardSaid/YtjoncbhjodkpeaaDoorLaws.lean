/-
  The laws of layer 1 about one character: Mirrors, Brackets, Pairs: each returns true. The table of pairs lies in the first package-level variable: a condition.
-/
import Derived.Test.YtjoncbhjodkpeaaDoorWorks
namespace Go.Proofs.YtjoncbhjodkpeaaDoor
open Go.RowKit
set_option maxHeartbeats 1000000 in
theorem mirrors_law (r : Int) (w : World) (hg : Tab w) : Calls Tryd.prog 5 #[.int .i32 r] w fun e w' => e = .returned (.bool true) ∧ Next w w' := by
  obtain ⟨m, ok, hm⟩ : ∃ m ok, mirL r pairsT = (m, ok) := ⟨_, _, rfl⟩
  obtain ⟨s, hs⟩ : ∃ s, spaceB r = s := ⟨_, rfl⟩
  have HM : Hid _ := hm
  have HS : Hid _ := hs
  clear hm hs
  go_enter Tryd.func5, Tryd.ntmps5
  go_wp2_with fail
  refine (mirror_eq HM.out w hg).mono ?_
  rintro e w1 ⟨rfl, n1⟩
  go_wp2_with fail
  refine (refMirror_eq HM.out w1 n1.2).mono ?_
  rintro e w2 ⟨rfl, n2⟩
  go_wp2_with fail
  refine (space_eq HS.out w2).mono ?_
  rintro e w3 ⟨rfl, rfl⟩
  go_wp2_with fail
  refine (refSpace_eq HS.out w2).mono ?_
  rintro e w3 ⟨rfl, rfl⟩
  go_wp2_with fail
  refine (works_any w2 n2.2).mono ?_
  rintro e w3 ⟨rfl, n3⟩
  go_wp2
  go_ret
  exact ⟨rfl, (n1.trans n2).trans n3⟩
set_option maxHeartbeats 1000000 in
theorem brackets_law (r : Int) (w : World) (hg : Tab w) : Calls Tryd.prog 4 #[.int .i32 r] w fun e w' => e = .returned (.bool true) ∧ Next w w' := by
  obtain ⟨a, o, k, hm⟩ : ∃ a o k, brL r pairsT = (a, o, k) := ⟨_, _, _, rfl⟩
  have HM : Hid _ := hm
  clear hm
  go_enter Tryd.func4, Tryd.ntmps4
  go_wp2_with fail
  refine (bracket_eq HM.out w hg).mono ?_
  rintro e w1 ⟨rfl, n1⟩
  go_wp2_with fail
  refine (refBracket_eq HM.out w1 n1.2).mono ?_
  rintro e w2 ⟨rfl, n2⟩
  go_wp2_with fail
  refine (works_any w2 n2.2).mono ?_
  rintro e w3 ⟨rfl, n3⟩
  go_wp2
  go_ret
  exact ⟨rfl, (n1.trans n2).trans n3⟩
end Go.Proofs.YtjoncbhjodkpeaaDoor
