/-
  Package serial's Serialize. Conditions: sizes are bounded; the world holds Go's own tables.
-/
import Derived.Test.YtnooofnlbfhopaaDoorSStr
import Derived.Test.YtnooofnlbfhopaaDoorSUp
import Derived.Test.YtnooofnlbfhopaaDoorRRt7
namespace Go.Proofs.YtnooofnlbfhopaaDoor.Pg
open Go.RowKit
def pageX (ts : List Nx) : Pst := nodeF ts ts.length ([], false) 0
def serialX (ts : List Nx) : List UInt8 × Nat := if rightX ts then (if (pageX ts).2 then ([], 3) else ((pageX ts).1, 0)) else ([], 53)
theorem page_new (w : World) : PageM w.heap.size w.heap.size ([], false) (w.alloc (.cells #[.pointer none, .slice none 0 0, .bool false] 61 (0, 0))) :=
  ⟨_, ⟨heap_alloc_new w _, rfl, Nat.le_refl _, .inl rfl, .slice none 0 0, rfl, ⟨rfl, .inl ⟨rfl, rfl⟩⟩⟩, rfl, Nat.zero_le _⟩
set_option maxHeartbeats 2000000 in
set_option maxRecDepth 100000 in
theorem serialize_any (a : Option Addr) (c : Nat) (ns : List NxM) (w : World) (hT : TabV w) (h : HasTree w a ns) (hl : ns.length ≤ 1000000000) (hok : ∀ p ∈ ns, NxOk p.1 ∧ p.1.kids.length ≤ 1000000000 ∧ p.1.attrs.length ≤ 1000000) :
    Calls Tryd.prog 17 #[.slice a ns.length c] w fun e w' => e = .returned (.tuple #[.string (strOf (serialX (ns.map (·.1))).1), .int .i64 ((serialX (ns.map (·.1))).2 : Int)]) ∧ Below w.heap.size w w' := by
  have hr := hid_mk (right_any a c ns w hT h hl (fun p hp => ⟨(hok p hp).1, (hok p hp).2.1⟩))
  obtain ⟨R, hR⟩ : ∃ R, R = rightX (ns.map (·.1)) := ⟨_, rfl⟩
  obtain ⟨Z, hZ⟩ : ∃ Z, Z = serialX (ns.map (·.1)) := ⟨_, rfl⟩
  have HZ := hid_mk (show Z = if R then (if (pageX (ns.map (·.1))).2 then ([], 3) else ((pageX (ns.map (·.1))).1, 0)) else ([], 53) by rw [hZ, hR]; rfl)
  unfold rightN at hr
  rw [← hR] at hr
  rw [← hZ]
  have H := hid_mk (And.intro h (And.intro hok hR))
  clear hZ hT h hl hok hR
  cases R with
  | false =>
    have hF : Z = ([], 53) := HZ.out
    have HF := hid_mk hF
    clear hF
    go_enter Tryd.func17, Tryd.ntmps17
    go_wp2_with fail
    with_reducible refine hr.out.mono ?_
    rintro e1 w1 ⟨rfl, hb1⟩
    go_wp2_with fail
    go_ret2
    rw [HF.out]
    exact ⟨rfl, hb1⟩
  | true =>
    have hne : 0 < ns.length := by
      cases ns with
      | nil => exact absurd H.out.2.2 (by decide)
      | cons => simp
    obtain ⟨x, hx, hxx⟩ := H.out.1.cell hne
    clear hxx
    subst hx
    have HOK := hid_mk (show TreeOk ns from ⟨fun p hp => (H.out.2.1 p hp).1, fun p hp => (H.out.2.1 p hp).2.1, fun p hp => (H.out.2.1 p hp).2.2, fun i hi k hk => by
      have := kids_up (t := ns.map (·.1)) H.out.2.2.symm (u := i) (by rw [List.length_map]; exact hi) k (by
        unfold kidsAt
        rw [List.getD_eq_getElem?_getD, List.getElem?_map, List.getElem?_eq_getElem hi]
        exact hk)
      rw [List.length_map] at this
      exact this⟩)
    have HNE := hid_mk hne
    have HP := hid_mk (show pageX (ns.map (·.1)) = nodeF (ns.map (·.1)) ns.length ([], false) 0 by unfold pageX; rw [List.length_map])
    obtain ⟨P, hP⟩ : ∃ P, P = pageX (ns.map (·.1)) := ⟨_, rfl⟩
    rw [← hP] at HZ HP
    clear hP hne
    go_enter Tryd.func17, Tryd.ntmps17
    go_wp2_with fail
    with_reducible refine hr.out.mono ?_
    rintro e1 w1 ⟨rfl, hb1⟩
    have HW := hid_mk (writeTree_any (c := c) rfl (H.out.1.below hb1) HOK.out HNE.out ([], false) _ (page_new w1) ((Below.refl _ _).alloc (Nat.le_refl _) _))
    have HB1 := hid_mk hb1
    clear hb1
    go_wp2_with fail
    with_reducible refine HW.out.mono ?_
    rintro e2 w2 ⟨rfl, hp2, hd2⟩
    rw [← HP.out] at hp2
    have c2 := hp2.cell
    have hb2 : Below w1.heap.size w1 w2 := ((Below.refl _ _).alloc (Nat.le_refl _) _).trans (hd2.low (Nat.le_refl _) (by rw [show (w1.alloc _).heap.size = _ from Array.size_push _]; exact Nat.le_succ _))
    have HB2 := hid_mk (HB1.out.trans (hb2.mono HB1.out.size))
    have HP2 := hid_mk hp2
    have HSZ := hid_mk (show w.heap.size ≤ w1.heap.size from HB1.out.size)
    clear hp2 hd2 hb2
    cases hf : P.2 with
    | true =>
      have hF : Z = ([], 3) := by rw [HZ.out, hf]; rfl
      have HF := hid_mk hF
      rw [hf] at c2
      clear hF hf
      go_wp2_with fail
      go_ret2
      rw [HF.out]
      exact ⟨rfl, HB2.out⟩
    | false =>
      have hF : Z = (P.1, 0) := by rw [HZ.out, hf]; rfl
      have HF := hid_mk hF
      rw [hf] at c2
      have HS := hid_mk (string_page HP2.out)
      clear hF hf
      go_wp2_with fail
      with_reducible refine HS.out.mono ?_
      rintro e3 w3 ⟨rfl, hd3⟩
      have hb3 := hd3.low (Nat.le_refl _) (Nat.le_of_lt HP2.out.at.2)
      have HB3 := hid_mk (HB2.out.trans (hb3.mono HSZ.out))
      clear hd3 hb3
      go_wp2_with fail
      go_ret2
      rw [HF.out]
      exact ⟨rfl, HB3.out⟩
end Go.Proofs.YtnooofnlbfhopaaDoor.Pg
