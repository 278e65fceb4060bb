/-
  Space; the contracts of layer 1 with the table carried on; works. The table of pairs lies in the first package-level variable: a condition.
-/
import Derived.Test.YtjoncbhjodkpeaaDoorMath
import Derived.Test.YtjoncbhjodkpeaaDoorClass
namespace Go.Proofs.YtjoncbhjodkpeaaDoor
open Go.RowKit
theorem beqd (a b : Int) : (a == b) = decide (a = b) := by rw [Bool.eq_iff_iff]; simp
theorem space_ref (r : Int) (w : World) :
    Calls Tryd.prog 18 #[.int .i32 r] w fun e w' => e = .returned (.bool (spaceB r)) ∧ w' = w := by
  go_enter Tryd.func18, Tryd.ntmps18
  go_wp2
  all_goals
    go_ret
    exact ⟨by simp [spaceB, beqd, *], rfl⟩
theorem space_any (r : Int) (w : World) :
    Calls Tryd.prog 17 #[.int .i32 r] w fun e w' => e = .returned (.bool (spaceB r)) ∧ w' = w := by
  go_enter Tryd.func17, Tryd.ntmps17
  go_wp2
  all_goals
    go_ret
    refine ⟨?_, rfl⟩
    simp_all [spaceB]
def Tab (w : World) : Prop := ∃ (T : TypeId) (fr : Nat × Nat), w.heap[0]? = some (.cells pairCells T fr)
theorem Tab.below {w w' : World} (h : Tab w) (hb : Below w.heap.size w w') : Tab w' := by
  obtain ⟨T, fr, h⟩ := h
  have h0 : 0 < w.heap.size := (Array.getElem?_eq_some_iff.1 h).1
  exact ⟨T, fr, (hb.block 0 h0).trans h⟩
/-- What is grown behind a call: nothing that was there is written, and the table is there still. -/
def Next (w w' : World) : Prop := Below w.heap.size w w' ∧ Tab w'
theorem Next.trans {a b c : World} (h : Next a b) (k : Next b c) : Next a c := ⟨h.1.trans (k.1.mono h.1.size), k.2⟩
theorem mirror_eq {r m : Int} {ok : Bool} (h : mirL r pairsT = (m, ok)) (w : World) (hg : Tab w) :
    Calls Tryd.prog 15 #[.int .i32 r] w fun e w' => e = .returned (.tuple #[.int .i32 m, .bool ok]) ∧ Next w w' :=
  let ⟨T, fr, h0⟩ := hg
  (mirror_any r w T fr h0).mono fun e w' ⟨he, hb⟩ => ⟨by rw [he, h], hb, hg.below hb⟩
theorem refMirror_eq {r m : Int} {ok : Bool} (h : mirL r pairsT = (m, ok)) (w : World) (hg : Tab w) :
    Calls Tryd.prog 16 #[.int .i32 r] w fun e w' => e = .returned (.tuple #[.int .i32 m, .bool ok]) ∧ Next w w' :=
  (refMirror_any r w).mono fun e w' ⟨he, hb⟩ => ⟨by rw [he, mir_same, h], hb, hg.below hb⟩
theorem bracket_eq {r a : Int} {o k : Bool} (h : brL r pairsT = (a, o, k)) (w : World) (hg : Tab w) :
    Calls Tryd.prog 13 #[.int .i32 r] w fun e w' => e = .returned (.tuple #[.int .i32 a, .bool o, .bool k]) ∧ Next w w' :=
  let ⟨T, fr, h0⟩ := hg
  (bracket_any r w T fr h0).mono fun e w' ⟨he, hb⟩ => ⟨by rw [he, h], hb, hg.below hb⟩
theorem refBracket_eq {r a : Int} {o k : Bool} (h : brL r pairsT = (a, o, k)) (w : World) (hg : Tab w) :
    Calls Tryd.prog 14 #[.int .i32 r] w fun e w' => e = .returned (.tuple #[.int .i32 a, .bool o, .bool k]) ∧ Next w w' :=
  (refBracket_any r w).mono fun e w' ⟨he, hb⟩ => ⟨by rw [he, br_same, h], hb, hg.below hb⟩
theorem class_eq {r c : Int} (h : cls r = c) (w : World) (hg : Tab w) :
    Calls Tryd.prog 10 #[.int .i32 r] w fun e w' => e = .returned (.int .u8 c) ∧ Next w w' :=
  (class_any r w).mono fun e w' ⟨he, hb⟩ => ⟨by rw [he, h], hb, hg.below hb⟩
theorem refClass_eq {r c : Int} (h : cls r = c) (w : World) (hg : Tab w) :
    Calls Tryd.prog 11 #[.int .i32 r] w fun e w' => e = .returned (.int .u8 c) ∧ Next w w' :=
  (refClass_any r w).mono fun e w' ⟨he, hb⟩ => ⟨by rw [he, h], hb, hg.below hb⟩
theorem space_eq {r : Int} {s : Bool} (h : spaceB r = s) (w : World) : Calls Tryd.prog 17 #[.int .i32 r] w fun e w' => e = .returned (.bool s) ∧ w = w' :=
  (space_any r w).mono fun e w' ⟨he, hb⟩ => ⟨by rw [he, h], hb.symm⟩
theorem refSpace_eq {r : Int} {s : Bool} (h : spaceB r = s) (w : World) : Calls Tryd.prog 18 #[.int .i32 r] w fun e w' => e = .returned (.bool s) ∧ w = w' :=
  (space_ref r w).mono fun e w' ⟨he, hb⟩ => ⟨by rw [he, h], hb.symm⟩
set_option maxHeartbeats 1000000 in
theorem works_any (w : World) (hg : Tab w) : Calls Tryd.prog 12 #[] w fun e w' => e = .returned (.bool true) ∧ Next w w' := by
  go_enter Tryd.func12, Tryd.ntmps12
  go_wp2_with fail
  refine (bracket_eq (by decide +kernel : brL 40 pairsT = (41, true, true)) w hg).mono ?_
  rintro e w1 ⟨rfl, n1⟩
  go_wp2_with fail
  refine (mirror_eq (by decide +kernel : mirL 60 pairsT = (62, true)) w1 n1.2).mono ?_
  rintro e w2 ⟨rfl, n2⟩
  go_wp2_with fail
  refine (class_eq (by decide +kernel : cls 1488 = 2) w2 n2.2).mono ?_
  rintro e w3 ⟨rfl, n3⟩
  go_wp2_with fail
  refine (class_eq (by decide +kernel : cls 49 = 4) w3 n3.2).mono ?_
  rintro e w4 ⟨rfl, n4⟩
  go_wp2_with fail
  refine (space_eq (by decide : spaceB 32 = true) w4).mono ?_
  rintro e w5 ⟨rfl, rfl⟩
  go_wp2_with fail
  refine (space_eq (by decide : spaceB 120 = false) w4).mono ?_
  rintro e w5 ⟨rfl, rfl⟩
  go_wp2
  go_ret
  exact ⟨rfl, ((n1.trans n2).trans n3).trans n4⟩
end Go.Proofs.YtjoncbhjodkpeaaDoor
