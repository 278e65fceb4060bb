/-
  TreeRight: of any nodes program and document tell the same. Condition: what is read is within the reach; the world holds the tables.
-/
import Derived.Test.YtlcijlklbabajaaGreatDoorTrRfE
import Derived.Test.YtlcijlklbabajaaGreatDoorKOpen
import Derived.Test.YtlcijlklbabajaaGreatDoorTrWT
namespace Go.Proofs.YtlcijlklbabajaaGreatDoor
open Go.RowKit R
set_option maxHeartbeats 2000000 in
set_option maxRecDepth 100000 in
theorem treeRight_w (a : Option Addr) (c : Nat) (ns : List NxM) (w : World) (hV : R.TabV w) (hT : Tab w) (h : HasTree w a ns) (hb : ∀ p ∈ ns, SmallN reachBytes p.1) :
    Calls Tryz.prog 5 #[.slice a ns.length c] w fun e w' => e = .returned (.bool true) ∧ Below w.heap.size w w' := by
  have hwk := hid_mk (fun w' (hb' : Below w.heap.size w w') => works_any w' (hT.below hb'))
  obtain ⟨m, hm⟩ : ∃ m, m = ns.length := ⟨_, rfl⟩
  by_cases hbig : 400 < m
  · have hb2 : (400 : Int) < (m : Int) := by omega
    rw [← hm]
    clear h hb hV hT hm hbig
    go_enter Tryz.func5, Tryz.ntmps5
    go_wp2_with fail
    (with_reducible refine (hwk.out _ (Below.refl _ _)).mono ?_)
    rintro e w1 ⟨rfl, hn⟩
    go_wp2_with fail
    go_ret
    exact ⟨rfl, hn.1⟩
  have hb2 : ¬ (400 : Int) < (m : Int) := by omega
  have hsz := hid_mk (size_any 20000 (Nat.le_refl _) a c ns w h (by omega) (fun p hp => by
    have hre : reachBytes ≤ 140737488355328 := by decide
    obtain ⟨s1, s2, s3, s4, s5⟩ := hb p hp
    exact ⟨by omega, by omega, by omega, by omega, fun x hx => by have := s5 x hx; omega⟩))
  rw [show ((20000 : Nat) : Int) = 20000 from rfl] at hsz
  have HOK := hid_mk (show (∀ p ∈ ns, SmallN 20000 p.1) → ∀ p ∈ ns, NxOk p.1 ∧ p.1.kids.length ≤ 1000000000 ∧ p.1.attrs.length ≤ 1000000000 from fun hs p hp => by
    obtain ⟨s1, s2, s3, s4, s5⟩ := hs p hp
    exact ⟨⟨by omega, by omega, fun x hx => by have := s5 x hx; omega⟩, by omega, by omega⟩)
  have HR := hid_mk (fun (hs : ∀ p ∈ ns, SmallN 20000 p.1) (w' : World) (hb' : Below w.heap.size w w') => right_any a c ns w' (hV.below hb') (h.below hb') (by omega) (fun p hp => ⟨(HOK.out hs p hp).1, (HOK.out hs p hp).2.1⟩))
  have HRR := hid_mk (fun (hs : ∀ p ∈ ns, SmallN 20000 p.1) (w' : World) (hb' : Below w.heap.size w w') => rRight_any a c ns w' (h.below hb') (by omega) (HOK.out hs))
  rw [← hm] at hsz HR HRR ⊢
  generalize rightN (ns.map (·.1)) = G at *
  clear h hb hV hT hm hbig HOK
  go_enter Tryz.func5, Tryz.ntmps5
  go_wp2_with fail
  with_reducible refine hsz.out.mono ?_
  rintro e w1 ⟨⟨r, rfl, hr⟩, hb1⟩
  have HSM := hid_mk hr
  clear hr
  by_cases hrl : 20000 < r
  · have hr2 : (20000 : Int) < (r : Int) := by omega
    go_wp2_with fail
    (with_reducible refine (hwk.out _ hb1).mono ?_)
    rintro e w2 ⟨rfl, hn⟩
    go_wp2_with fail
    go_ret
    exact ⟨rfl, hb1.trans (hn.1.mono hb1.size)⟩
  · have hr2 : ¬ (20000 : Int) < (r : Int) := by omega
    have HS := hid_mk (HSM.out (by omega))
    go_wp2_with fail
    with_reducible refine (HR.out HS.out _ hb1).mono ?_
    rintro e w2 ⟨rfl, hb2'⟩
    have hb12 := hb1.trans (hb2'.mono hb1.size)
    go_wp2_with fail
    with_reducible refine (HRR.out HS.out _ hb12).mono ?_
    rintro e w3 ⟨rfl, hb3⟩
    have hb13 := hb12.trans (hb3.mono hb12.size)
    have hq : ((G : Int) == (G : Int)) = true := beq_self_eq_true _
    go_wp2_with fail
    (with_reducible refine (hwk.out _ hb13).mono ?_)
    rintro e w4 ⟨rfl, hn⟩
    go_wp2_with fail
    go_ret
    exact ⟨rfl, hb13.trans (hn.1.mono hb13.size)⟩
end Go.Proofs.YtlcijlklbabajaaGreatDoor
