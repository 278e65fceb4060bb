/-
  The law of layer 5 about kinds: it returns true for every name. Condition: the world holds what Tab says.
-/
import Derived.Test.YtfjhljhgmbhklaaGreatDoorTrWorks
import Derived.Test.YtfjhljhgmbhklaaGreatDoorKRef
namespace Go.Proofs.YtfjhljhgmbhklaaGreatDoor
open Go.RowKit
set_option maxHeartbeats 4000000 in
set_option maxRecDepth 100000 in
theorem treeKinds_w (s : ByteArray) (w : World) (hT : Tab w) :
    Calls Tryz.prog 6 #[.string s] w fun e w' => e = .returned (.bool true) ∧ Next w w' := by
  have HT := hid_mk hT
  have hwo := hid_mk (fun w hT => works_any w hT)
  clear hT
  by_cases hbig : 100 < s.size
  · have hb1 : decide (100 < s.size) = true := decide_eq_true hbig
    have hb2 : decide ((100 : Int) < (s.size : Int)) = true := decide_eq_true (by omega)
    clear hbig
    have hw0 := hid_mk (hwo.out w HT.out)
    go_enter Tryz.func6, Tryz.ntmps6
    go_wp2_with fail
    (with_reducible refine hw0.out.mono ?_)
    rintro e w1 ⟨rfl, hn1⟩
    have H1 := hid_mk hn1
    clear hn1
    go_wp2_with fail
    go_ret
    exact ⟨rfl, H1.out⟩
  · have hb1 : decide (100 < s.size) = false := decide_eq_false hbig
    have hb2 : decide ((100 : Int) < (s.size : Int)) = false := decide_eq_false (by omega)
    have hk := hid_mk (kind_any s w (by omega))
    have hr := hid_mk (fun w => refKind_any s w)
    clear hbig
    obtain ⟨K, hK⟩ : ∃ K, K = kindL (sl s) := ⟨_, rfl⟩
    rw [← hK] at hk hr
    clear hK
    go_enter Tryz.func6, Tryz.ntmps6
    go_wp2_with fail
    (with_reducible refine hk.out.mono ?_)
    rintro e w1 ⟨rfl, hb⟩
    have H1 := hid_mk (Next.of HT.out hb)
    have hw1 := hid_mk (hwo.out w1 H1.out.2)
    clear hb hk
    go_wp2_with fail
    (with_reducible refine (hr.out _).mono ?_)
    rintro e w2 ⟨rfl, rfl⟩
    go_wp2_with fail
    (with_reducible refine hw1.out.mono ?_)
    rintro e w3 ⟨rfl, hn3⟩
    have H3 := hid_mk (H1.out.trans hn3)
    clear hn3
    go_wp2_with fail
    go_ret
    exact ⟨rfl, H3.out⟩
theorem treeKinds_c (s : ByteArray) (w : World) {c : Prop} (_ : c) (hT : Tab w) :
    Calls Tryz.prog 6 #[.string s] w fun e w' => e = .returned (.bool true) ∧ Next w w' := treeKinds_w s w hT
end Go.Proofs.YtfjhljhgmbhklaaGreatDoor
