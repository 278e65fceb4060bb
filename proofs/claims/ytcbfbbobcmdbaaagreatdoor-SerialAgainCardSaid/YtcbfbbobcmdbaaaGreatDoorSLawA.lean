/-
  The law of layer 6 about what was parsed and is serialized: it returns true for all bytes. Condition: the world holds what TabV and Tab say.
-/
import Derived.Test.YtcbfbbobcmdbaaaGreatDoorLpAll
import Derived.Test.YtcbfbbobcmdbaaaGreatDoorSameT
import Derived.Test.YtcbfbbobcmdbaaaGreatDoorTrWT
import Derived.Test.YtcbfbbobcmdbaaaGreatDoorSSW
import Derived.Deep.QuietTactic
import Derived.BigQuiet
import Derived.IntWalk
namespace Go.Proofs.YtcbfbbobcmdbaaaGreatDoor
open Go.RowKit
theorem own_has {w : World} {base n size : Nat} {e : TypeId} {v : Value} {xs : List Value} (h : w.ownsRow base e size v n xs) : ∃ a c, v = .slice a n c ∧ n ≤ c ∧ R.HasRow w a xs := by
  have hx := h.1
  rcases h.2 with ⟨rfl, h0⟩ | ⟨g, cap, cur, rfl, h2, h3, h4, h5, h6, h7⟩
  · refine ⟨none, 0, by rw [h0], by omega, .inl (List.eq_nil_of_length_eq_zero ?_)⟩
    rw [hx, h0, Nat.zero_mul]
  · refine ⟨_, cap, rfl, h4, .inr ⟨⟨g, 0, none⟩, rfl, (Array.getElem?_eq_some_iff.1 h3).1, fun j u hu => ?_⟩⟩
    have hj := (List.getElem?_eq_some_iff.1 hu).1
    rw [addr_add0, cell_of_row w g _ _ _ _ h3, ← Array.getElem?_toList]
    rw [← h7, List.getElem?_take] at hu
    split at hu
    · exact hu
    · cases hu
def nxOf (p : NdM) : R.NxM := (toX p.1, p.2.1, p.2.2)
theorem tree_has {B : Nat} {v : Value} {ns : List NdM} {w : World} (h : TreeRow B v ns w) : ∃ a c, v = .slice a (ns.map nxOf).length c ∧ R.HasTree w a (ns.map nxOf) := by
  obtain ⟨a, c, h1, _, h3⟩ := own_has h.row
  refine ⟨a, c, by rw [List.length_map]; exact h1, ?_, ?_, ?_⟩
  · rw [List.flatMap_map]
    exact h3
  · intro p hp
    obtain ⟨q, hq, rfl⟩ := List.mem_map.1 hp
    exact own_has (h.attrs q hq)
  · intro p hp
    obtain ⟨q, hq, rfl⟩ := List.mem_map.1 hp
    obtain ⟨a, c, k1, _, k3⟩ := own_has (h.kids q hq)
    refine ⟨a, c, ?_, ?_⟩
    · show q.2.2 = .slice a (q.1.kids.map fun (k : Nat) => (k : Int)).length c
      rw [List.length_map]
      exact k1
    · show R.HasRow w a ((q.1.kids.map fun (k : Nat) => (k : Int)).map (Value.int .i64))
      rw [List.map_map]
      exact k3
set_option maxHeartbeats 8000000 in
set_option maxRecDepth 100000 in
theorem serialAgain_w (a : Option Addr) (cap : Nat) (bs : List UInt8) (w : World) (hT : R.TabV w ∧ Tab w) (h : HasBytes w a bs) :
    Calls Tryz.prog 9 #[.slice a bs.length cap] w fun e w' => e = .returned (.bool true) ∧ Below w.heap.size w w' := by
  have hwo := hid_mk (fun w' (hb : Below w.heap.size w w') => R.Pg.works_any w' (hT.1.below hb))
  have HT := hid_mk (fun w' (hb : Below w.heap.size w w') => hT.2.below hb)
  have HV := hid_mk (fun w' (hb : Below w.heap.size w w') => hT.1.below hb)
  by_cases h1 : 5000 < bs.length
  · have q1 : decide (5000 < (bs.length : Int)) = true := by simp; omega
    have q2 : decide (5000 < bs.length) = true := by simp; omega
    have hw0 := hid_mk (hwo.out w (Below.refl _ _))
    clear hT h1 HT HV h hwo
    go_enter Tryz.func9, Tryz.ntmps9
    go_wp2_with fail
    (with_reducible refine hw0.out.mono ?_)
    rintro e w1 ⟨rfl, hb1⟩
    have H1 := hid_mk hb1
    clear hb1
    go_wp2_with fail
    go_ret
    exact ⟨rfl, H1.out⟩
  have q1 : decide (5000 < (bs.length : Int)) = false := by simp; omega
  have q2 : decide (5000 < bs.length) = false := by simp; omega
  have hpa := hid_mk (parse_any a cap bs w hT.2 (by omega) h)
  obtain ⟨n, hn⟩ : ∃ n, n = bs.length := ⟨_, rfl⟩
  rw [← hn] at q1 q2 hpa ⊢
  have HN := hid_mk hn
  have hn2 : n ≤ 5000 := by omega
  clear hT h hn h1
  go_enter Tryz.func9, Tryz.ntmps9
  go_wp2_with fail
  (with_reducible refine hpa.out.mono ?_)
  rintro e w1 ⟨v, ns, rfl, hns, htr, hn1⟩
  have H1 := hid_mk hn1.1
  clear hn1 hpa
  by_cases he : (parseL bs).1 = 0
  · have hpz := parse_zero bs he
    have hsz := parse_size hpz (by have := HN.out; omega)
    obtain ⟨s1, s2, s3⟩ := serial_again hpz (by have := HN.out; omega)
    rw [hpz]
    simp only
    rw [show ((0 : Nat) : Int) = 0 from rfl]
    obtain ⟨ta, tc, hv, hth⟩ := tree_has htr
    have hmp : (ns.map nxOf).map (·.1) = (parseL bs).2.2.map toX := by
      rw [hns, List.map_map, List.map_map]
      rfl
    rw [hns] at hsz
    rw [List.length_map] at hsz
    have hser := R.Pg.serialize_any ta tc (ns.map nxOf) w1 (HV.out w1 H1.out) hth (by rw [List.length_map]; omega) (fun p hp => by
      obtain ⟨q, hq, rfl⟩ := List.mem_map.1 hp
      obtain ⟨z1, z2, z3, z4, z5⟩ := hsz.2.2 q.1 (List.mem_map.2 ⟨q, hq, rfl⟩)
      refine ⟨⟨?_, ?_, fun x hx => ?_⟩, ?_, ?_⟩
      · show q.1.name.length ≤ _; omega
      · show q.1.data.length ≤ _; omega
      · have := z5 x hx; omega
      · show (q.1.kids.map fun (k : Nat) => (k : Int)).length ≤ _; rw [List.length_map]; omega
      · show q.1.attrs.length ≤ _; omega)
    rw [hmp, s1, List.length_map] at hser
    rw [List.length_map] at hv
    subst hv
    have HSER := hid_mk hser
    have hpt := hid_mk (fun w hT => parse_text (R.Pg.serialX ((parseL bs).2.2.map toX)).1 (by omega) w hT)
    have HS2 := hid_mk s2
    have HTR := hid_mk htr
    have HNS := hid_mk hns
    have HSZ := hid_mk hsz
    generalize R.Pg.serialX ((parseL bs).2.2.map toX) = SX at *
    clear hpz he hns hsz s1 s2 hth hmp hser htr
    go_wp2_with fail
    (with_reducible refine HSER.out.mono ?_)
    rintro e w2 ⟨rfl, hb2⟩
    have H2 := hid_mk (H1.out.trans (hb2.mono H1.out.size))
    have HTR2 := hid_mk (HTR.out.below hb2)
    obtain ⟨gc, w3, hcv, hn3, hpa⟩ := hpt.out w2 (HT.out _ H2.out)
    have H3 := hid_mk (H2.out.trans (hn3.1.mono H2.out.size))
    have HTR3 := hid_mk (HTR2.out.below hn3.1)
    have HPA := hid_mk hpa
    generalize SX.1.length = SL at *
    generalize strOf SX.1 = SS at *
    clear hb2 HTR HTR2 H1 H2 hpt hn3 hpa HSER
    rw [show ((0 : Nat) : Int) = 0 from rfl]
    go_wp2_with fail
    (with_reducible refine HPA.out.mono ?_)
    rintro e w4 ⟨v2, ns2, rfl, hns2, htr2, hn4⟩
    rw [HS2.out] at hns2 ⊢
    simp only at hns2 ⊢
    rw [show ((0 : Nat) : Int) = 0 from rfl]
    have H4 := hid_mk (H3.out.trans (hn4.1.mono H3.out.size))
    have hst := hid_mk (sameTree_q w4 (HTR3.out.below hn4.1) htr2 (by rw [← HNS.out, hns2]) HSZ.out.2.1 (by have := HSZ.out.1; omega) (fun p hp => by
      have := HSZ.out.2.2 p.1 (List.mem_map.2 ⟨p, hp, rfl⟩)
      omega))
    clear hns2 htr2 hn4 HPA hcv HTR3 H3 HS2
    go_wp2_with fail
    (with_reducible refine hst.out.mono ?_)
    rintro e w5 ⟨rfl, hb5⟩
    have H5 := hid_mk (H4.out.trans (hb5.mono H4.out.size))
    have hw5 := hid_mk (hwo.out w5 H5.out)
    clear hb5 H4 hst
    go_wp2_with fail
    (with_reducible refine hw5.out.mono ?_)
    rintro e w6 ⟨rfl, hb6⟩
    have H6 := hid_mk (H5.out.trans (hb6.mono H5.out.size))
    clear hb6 H5
    go_wp2_with fail
    go_ret
    exact ⟨rfl, H6.out⟩
  · have hne : (((parseL bs).1 : Int) == 0) = false := beq_false_of_ne (by omega)
    have hne2 : (((parseL bs).1 : Int) != 0) = true := by rw [bne, hne]; rfl
    have hw1 := hid_mk (hwo.out w1 H1.out)
    clear hns htr
    generalize (parseL bs).1 = E1 at *
    generalize (parseL bs).2.1 = E2 at *
    clear he
    go_wp2_with fail
    (with_reducible refine hw1.out.mono ?_)
    rintro e w2 ⟨rfl, hb2⟩
    have H2 := hid_mk (H1.out.trans (hb2.mono H1.out.size))
    clear hb2
    go_wp2_with fail
    go_ret
    exact ⟨rfl, H2.out⟩
end Go.Proofs.YtcbfbbobcmdbaaaGreatDoor
