/-
  The reference's Find: the reference with which a text begins. Condition: the text's length is bounded.
-/
import Derived.Test.YtflgiejnklbjnaaDoorRNum
import Derived.Test.YtflgiejnklbjnaaDoorRFindN
namespace Go.Proofs.YtflgiejnklbjnaaDoor
open Go.RowKit
set_option maxHeartbeats 1000000 in
set_option maxRecDepth 100000 in
theorem refFind_any (s : ByteArray) (hs : s.size ≤ 9223372036854775000) (attr : Bool) (w : World) :
    Calls Tryd.prog 13 #[.string s, .bool attr] w fun e w' => e = .returned (resV (findL (sl s) attr)) ∧ Below w.heap.size w w' := by
  have hp1 := hid_mk (begins_any s [38] w)
  rw [take_one] at hp1
  by_cases c0 : atL (sl s) 0 = 38
  · by_cases c1 : atL (sl s) 1 = 35
    · have hp2 := hid_mk (begins_any s [38, 35] w)
      rw [take_two, decide_eq_true ⟨c0, c1⟩] at hp2
      rw [decide_eq_true c0] at hp1
      have hs2 := atL_pos (l := sl s) (k := 1) (by omega)
      rw [len_sl] at hs2
      have hs2' : (2 : Int) ≤ (s.size : Int) := by omega
      have hes : (s.extract 2 s.size).size ≤ 9223372036854775000 := by rw [size_extract]; omega
      have hnu := hid_mk (number_any (s.extract 2 s.size) hes w)
      rw [sl_extract] at hnu
      have hv := hid_mk (show findL (sl s) attr = (numR ((sl s).drop 2)).map fun p => (p.1, p.2 + 2) by unfold findL; rw [if_pos c0, if_pos c1, numR_find])
      clear c0 c1 hes
      cases hq : numR ((sl s).drop 2) with
      | none =>
        rw [hq] at hnu hv
        simp only [resV, Option.map_none] at hnu hv
        clear hq
        go_enter Tryd.func13, Tryd.ntmps13
        go_wp2_with fail
        refine hp1.out.mono ?_
        rintro e w' ⟨rfl, rfl⟩
        go_wp2_with fail
        refine hp2.out.mono ?_
        rintro e w' ⟨rfl, rfl⟩
        go_wp2_with fail
        ((with_reducible refine hnu.out.mono ?_); skip)
        rintro e w1 ⟨rfl, hb⟩
        have HB := hid_mk hb
        clear hb
        go_wp2
        go_ret3
        rw [hv.out]
        exact ⟨rfl, HB.out⟩
      | some p =>
        rw [hq] at hnu hv
        obtain ⟨r, n⟩ := p
        simp only [resV, Option.map_some] at hnu hv
        have hn : n ≤ s.size := by
          have h1 := hv.out
          have := (findL_le h1).2.1
          rw [len_sl] at this
          simp only at this
          omega
        clear hq
        go_enter Tryd.func13, Tryd.ntmps13
        go_wp2_with fail
        refine hp1.out.mono ?_
        rintro e w' ⟨rfl, rfl⟩
        go_wp2_with fail
        refine hp2.out.mono ?_
        rintro e w' ⟨rfl, rfl⟩
        go_wp2_with fail
        ((with_reducible refine hnu.out.mono ?_); skip)
        rintro e w1 ⟨rfl, hb⟩
        have HB := hid_mk hb
        clear hb
        go_wp2
        go_ret3
        rw [hv.out]
        exact ⟨rfl, HB.out⟩
    · cases hm : sl s with
      | nil => rw [hm] at c0; cases c0
      | cons c m =>
        have hc : c = 38 := by
          rw [hm] at c0
          exact UInt8.toNat_inj.1 c0
        rw [hc] at hm
        have := refFindName_any s hs attr w m hm c1
        rw [hm] at this
        rw [hc]
        exact this
  · rw [decide_eq_false c0] at hp1
    have hv := hid_mk (show findL (sl s) attr = none by unfold findL; rw [if_neg c0])
    clear c0
    go_enter Tryd.func13, Tryd.ntmps13
    go_wp2_with fail
    refine hp1.out.mono ?_
    rintro e w' ⟨rfl, rfl⟩
    go_wp2
    go_ret3
    rw [hv.out]
    exact ⟨rfl, Below.refl _ _⟩
end Go.Proofs.YtflgiejnklbjnaaDoor
