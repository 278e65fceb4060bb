/-
  A tree of Parse's own, as any tree lies. No condition.
-/
import Derived.Test.YtlcijlklbabajaaGreatDoorQLpAll
import Derived.Test.YtlcijlklbabajaaGreatDoorQSRf3
import Derived.Test.YtlcijlklbabajaaGreatDoorQTrDE
import Derived.Test.YtlcijlklbabajaaGreatDoorQSameH
import Derived.Test.YtlcijlklbabajaaGreatDoorQTrWT
import Derived.Test.YtlcijlklbabajaaGreatDoorQKSO
import Derived.IntWalk
namespace Go.Proofs.YtlcijlklbabajaaGreatDoor
open Go.RowKit
theorem own_has {w : World} {base n size : Nat} {e : TypeId} {v : Value} {xs : List Value} (h : w.ownsRow base e size v n xs) : ∃ a c, v = .slice a n c ∧ n ≤ c ∧ R.HasRow w a xs := by
 have hx := h.1
 rcases h.2 with ⟨rfl, h0⟩ | ⟨g, cap, cur, rfl, h2, h3, h4, h5, h6, h7⟩
 ·refine ⟨none, 0, by rw [h0], by omega, .inl (List.eq_nil_of_length_eq_zero ?_)⟩
  rw [hx, h0, Nat.zero_mul]
 ·refine ⟨_, cap, rfl, h4, .inr ⟨⟨g, 0, none⟩, rfl, (Array.getElem?_eq_some_iff.1 h3).1, fun j u hu => ?_⟩⟩
  have hj := (List.getElem?_eq_some_iff.1 hu).1
  rw [addr_add0, cell_of_row w g _ _ _ _ h3, ← Array.getElem?_toList]
  rw [← h7, List.getElem?_take] at hu
  split at hu
  ·exact hu
  ·cases hu
def nxOf (p : NdM) : R.NxM := (toX p.1, p.2.1, p.2.2)
theorem tree_has {B : Nat} {v : Value} {ns : List NdM} {w : World} (h : TreeRow B v ns w) : ∃ a c, v = .slice a (ns.map nxOf).length c ∧ R.HasTree w a (ns.map nxOf) := by
 obtain ⟨a, c, h1, _, h3⟩ := own_has h.row
 refine ⟨a, c, by rw [List.length_map]; exact h1, ?_, ?_, ?_⟩
 ·rw [List.flatMap_map]
  exact h3
 ·intro p hp
  obtain ⟨q, hq, rfl⟩ := List.mem_map.1 hp
  exact own_has (h.attrs q hq)
 ·intro p hp
  obtain ⟨q, hq, rfl⟩ := List.mem_map.1 hp
  obtain ⟨a, c, k1, _, k3⟩ := own_has (h.kids q hq)
  refine ⟨a, c, ?_, ?_⟩
  ·show q.2.2 = .slice a (q.1.kids.map fun (k : Nat) => (k : Int)).length c
   rw [List.length_map]
   exact k1
  ·show R.HasRow w a ((q.1.kids.map fun (k : Nat) => (k : Int)).map (Value.int .i64))
   rw [List.map_map]
   exact k3
end Go.Proofs.YtlcijlklbabajaaGreatDoor
/-
  The document's Serialize, and the law of layer 6 that any tree has its document, which is parsed as the same tree. Condition: what is read is within the reach; the world holds what TabV and Tab say.
-/
namespace Go.Proofs.YtlcijlklbabajaaGreatDoor
open Go.RowKit R
set_option maxHeartbeats 4000000 in
set_option maxRecDepth 100000 in
theorem rSerialize_any (a : Option Addr) (c : Nat) (ns : List NxM) (w : World) (h : HasTree w a ns) (hl : ns.length ≤ 400) (hs : ∀ p ∈ ns, SmallN 20000 p.1) :
 Calls Tryz.prog 29 #[.slice a ns.length c] w fun e w' => e = .returned (.tuple #[.string (strOf (R.Pg.serialX (ns.map (·.1))).1), .int .i64 ((R.Pg.serialX (ns.map (·.1))).2 : Int)]) ∧ Below w.heap.size w w' := by
 have hok : ∀ p ∈ ns, NxOk p.1 ∧ p.1.kids.length ≤ 1000000000 ∧ p.1.attrs.length ≤ 1000000000 := fun p hp => by
  obtain ⟨s1, s2, s3, s4, s5⟩ := hs p hp
  exact ⟨⟨by omega, by omega, fun x hx => by have := s5 x hx; omega⟩, by omega, by omega⟩
 have hr := rRight_any a c ns w h (by omega) hok
 have hz := serial_ref (ns.map (·.1))
 obtain ⟨Z, hZ⟩ : ∃ Z, Z = R.Pg.serialX (ns.map (·.1)) := ⟨_, rfl⟩
 rw [← hZ] at hz ⊢
 clear hZ
 unfold rightN at hr
 by_cases hrx : rightX (ns.map (·.1)) = true
 ·rw [if_pos hrx] at hr hz
  rw [show ((0 : Nat) : Int) = 0 from rfl] at hr
  have hpos : 0 < ns.length := by
   cases ns with
   | nil => cases hrx
   | cons p q => exact Nat.succ_pos _
  have hgetn : ∀ j (hj : j < ns.length), (ns.map (·.1)).getD j nxD = (ns[j]).1 := fun j hj => by
   rw [List.getD_eq_getElem?_getD, List.getElem?_map, List.getElem?_eq_getElem hj]; rfl
  have hka : ∀ j (hj : j < ns.length), R.kidsAt (ns.map (·.1)) j = (ns[j]).1.kids := fun j hj => by
   show ((ns.map (·.1)).getD j nxD).kids = _
   rw [hgetn j hj]
  have hno : NodeOk ns := ⟨hs, fun i hi h2 => by
   rw [← hka i hi]
   exact right_text hrx (by rw [List.length_map]; exact hi) (by show ((ns.map (·.1)).getD i nxD).kind = 2; rw [hgetn i hi]; exact h2), fun i hi z hz2 => by
   rw [← hka i hi] at hz2
   obtain ⟨k, k1, k2, k3⟩ := right_kid hrx (by rw [List.length_map]; exact hi) hz2
   exact ⟨k, k1, k2, by rwa [List.length_map] at k3⟩⟩
  have hdl := doc_len hrx (fun n hn => by
   obtain ⟨p, hp, rfl⟩ := List.mem_map.1 hn
   exact hs p hp) (by rw [List.length_map]; exact hl)
  rw [List.length_map] at hdl hz
  obtain ⟨x, hx, hx1, hx2⟩ := h.cell hpos
  clear hx1 hx2
  subst hx
  have hnd := hid_mk (fun w' (hb : Below w.heap.size w w') => rNode_any (x := x) (c := c) hno hl ns.length 0 hpos (by omega) (by omega) w' (h.below hb))
  rw [show ((0 : Nat) : Int) = 0 from rfl] at hnd
  have hr := hid_mk hr
  obtain ⟨m, hm⟩ : ∃ m, m = ns.length := ⟨_, rfl⟩
  rw [← hm] at hr hnd hz hdl ⊢
  generalize docS (ns.map (·.1)) m 0 = D at *
  have hds : (strOf D).size = D.length := size_strOf _
  clear hs hok hrx hpos hgetn hka hno hl h hm
  go_enter Tryz.func29, Tryz.ntmps29
  go_wp2_with fail
  with_reducible refine hr.out.mono ?_
  rintro e w1 ⟨rfl, hb1⟩
  go_wp2_with fail
  with_reducible refine (hnd.out _ hb1).mono ?_
  rintro e w2 ⟨rfl, hb2⟩
  have HB := hid_mk (hb1.trans (hb2.mono hb1.size))
  clear hb1 hb2 hnd hr
  by_cases hbig : 65536 < D.length
  ·have HZ := hid_mk (show Z = ([], 3) by rw [hz, if_pos hbig])
   have hb2 : (65536 : Int) < ((strOf D).size : Int) := by omega
   clear hz hbig hds
   generalize strOf D = SD at *
   go_wp2_with fail
   go_ret2
   rw [HZ.out]
   exact ⟨rfl, HB.out⟩
  ·have HZ := hid_mk (show Z = (D, 0) by rw [hz, if_neg hbig])
   have hb2 : ¬ (65536 : Int) < ((strOf D).size : Int) := by omega
   clear hz hbig hds
   generalize hsd : strOf D = SD at *
   have HSD := hid_mk hsd
   clear hsd
   go_wp2_with fail
   go_ret2
   rw [HZ.out, ← HSD.out]
   exact ⟨rfl, HB.out⟩
 ·rw [if_neg hrx] at hr hz
  have HZ := hid_mk hz
  have hr := hid_mk hr
  obtain ⟨m, hm⟩ : ∃ m, m = ns.length := ⟨_, rfl⟩
  rw [← hm] at hr ⊢
  rw [show ((53 : Nat) : Int) = 53 from rfl] at hr
  clear hs hok hrx hl h hm hz
  go_enter Tryz.func29, Tryz.ntmps29
  go_wp2_with fail
  with_reducible refine hr.out.mono ?_
  rintro e w1 ⟨rfl, hb1⟩
  go_wp2_with fail
  go_ret2
  rw [HZ.out]
  exact ⟨rfl, hb1⟩
set_option maxHeartbeats 8000000 in
set_option maxRecDepth 100000 in
theorem serialWrites_w (a : Option Addr) (c : Nat) (ns : List NxM) (w : World) (hT : R.TabV w ∧ Tab w) (h : HasTree w a ns) (hb : ∀ p ∈ ns, SmallN reachBytes p.1) :
 Calls Tryz.prog 8 #[.slice a ns.length c] w fun e w' => e = .returned (.bool true) ∧ Below w.heap.size w w' := by
 have hwo := hid_mk (fun w' (hb : Below w.heap.size w w') => R.Pg.works_any w' (hT.1.below hb))
 have HT := hid_mk (fun w' (hb : Below w.heap.size w w') => hT.2.below hb)
 obtain ⟨m, hm⟩ : ∃ m, m = ns.length := ⟨_, rfl⟩
 by_cases hbig : 400 < m
 ·have hb2 : (400 : Int) < (m : Int) := by omega
  rw [← hm]
  clear h hb hT hm hbig HT
  go_enter Tryz.func8, Tryz.ntmps8
  go_wp2_with fail
  (with_reducible refine (hwo.out _ (Below.refl _ _)).mono ?_)
  rintro e w1 ⟨rfl, hn⟩
  go_wp2_with fail
  go_ret
  exact ⟨rfl, hn⟩
 have hb2 : ¬ (400 : Int) < (m : Int) := by omega
 have hsz := hid_mk (size_any 10000 (by omega) a c ns w h (by omega) (fun p hp => by
  have hre : reachBytes ≤ 140737488355328 := by decide
  obtain ⟨s1, s2, s3, s4, s5⟩ := hb p hp
  exact ⟨by omega, by omega, by omega, by omega, fun x hx => by have := s5 x hx; omega⟩))
 rw [show ((10000 : Nat) : Int) = 10000 from rfl] at hsz
 have HSM0 := hid_mk (show (∀ p ∈ ns, SmallN 10000 p.1) → ∀ p ∈ ns, SmallN 20000 p.1 from fun hs p hp => by
  obtain ⟨s1, s2, s3, s4, s5⟩ := hs p hp
  exact ⟨by omega, by omega, by omega, by omega, fun x hx => by have := s5 x hx; omega⟩)
 have HS := hid_mk (fun (hs : ∀ p ∈ ns, SmallN 10000 p.1) (w' : World) (hb' : Below w.heap.size w w') => R.Pg.serialize_any a c ns w' (hT.1.below hb') (h.below hb') (by omega) (fun p hp => by
  obtain ⟨s1, s2, s3, s4, s5⟩ := hs p hp
  exact ⟨⟨by omega, by omega, fun x hx => by have := s5 x hx; omega⟩, by omega, by omega⟩))
 have HRS := hid_mk (fun (hs : ∀ p ∈ ns, SmallN 10000 p.1) (w' : World) (hb' : Below w.heap.size w w') => rSerialize_any a c ns w' (h.below hb') (by omega) (HSM0.out hs))
 have HH := hid_mk h
 have HL := hid_mk hm
 have hm4 : m ≤ 400 := by omega
 rw [← hm] at hsz HS HRS ⊢
 obtain ⟨ts, hts⟩ : ∃ ts, ts = ns.map (·.1) := ⟨_, rfl⟩
 have HTS := hid_mk hts
 rw [← hts] at HS HRS
 have HPS := hid_mk (fun (D : List UInt8) (e : R.Pg.serialX ts = (D, 0)) => parse_serial e)
 have HDL := hid_mk (fun (D : List UInt8) (e : R.Pg.serialX ts = (D, 0)) => (serial_doc e).2.2)
 obtain ⟨SX, hSX⟩ : ∃ SX, SX = R.Pg.serialX ts := ⟨_, rfl⟩
 rw [← hSX] at HS HRS HPS HDL
 clear hb hT hbig h hm hts hSX
 go_enter Tryz.func8, Tryz.ntmps8
 go_wp2_with fail
 with_reducible refine hsz.out.mono ?_
 rintro e w1 ⟨⟨r, rfl, hr⟩, hb1⟩
 have HSM := hid_mk hr
 clear hr
 by_cases hrl : 10000 < r
 ·have hr2 : (10000 : Int) < (r : Int) := by omega
  go_wp2_with fail
  (with_reducible refine (hwo.out _ hb1).mono ?_)
  rintro e w2 ⟨rfl, hn⟩
  go_wp2_with fail
  go_ret
  exact ⟨rfl, hb1.trans (hn.mono hb1.size)⟩
 have hr2 : ¬ (10000 : Int) < (r : Int) := by omega
 have HSA := hid_mk (HSM.out (by omega))
 go_wp2_with fail
 with_reducible refine (HS.out HSA.out _ hb1).mono ?_
 rintro e w2 ⟨rfl, hb2'⟩
 have hb12 := hb1.trans (hb2'.mono hb1.size)
 go_wp2_with fail
 with_reducible refine (HRS.out HSA.out _ hb12).mono ?_
 rintro e w3 ⟨rfl, hb3⟩
 have H3 := hid_mk (hb12.trans (hb3.mono hb12.size))
 clear hb12 hb2' hb1 hb3 HS HRS hsz
 obtain ⟨D, E⟩ := SX
 simp only at HPS HDL ⊢
 have x1 : ((strOf D).toList == (strOf D).toList) = true := beq_self_eq_true _
 have x1' : ((strOf D).toList != (strOf D).toList) = false := by rw [bne, x1]; rfl
 have x2 : ((E : Int) == (E : Int)) = true := beq_self_eq_true _
 have x2' : ((E : Int) != (E : Int)) = false := by rw [bne, x2]; rfl
 by_cases hE : E = 0
 ·subst hE
  obtain ⟨nb, hnb, hnbx⟩ := HPS.out D rfl
  have hdl := HDL.out D rfl
  rw [show ((0 : Nat) : Int) = 0 from rfl]
  clear x2 x2'
  obtain ⟨gc, w4, hcv, hn4, hpa⟩ := parse_text D (by omega) w3 (HT.out _ H3.out)
  have H4 := hid_mk (H3.out.trans (hn4.1.mono H3.out.size))
  have HPA := hid_mk hpa
  have HNB := hid_mk hnb
  have HNX := hid_mk hnbx
  clear hn4 hpa hnb hnbx HPS HDL H3 hdl
  generalize D.length = SL at *
  generalize hSS : strOf D = SS at *
  clear hSS
  go_wp2_with fail
  (with_reducible refine HPA.out.mono ?_)
  rintro e w5 ⟨v2, ns2, rfl, hns2, htr2, hn5⟩
  rw [HNB.out] at hns2 ⊢
  simp only at hns2 ⊢
  rw [show ((0 : Nat) : Int) = 0 from rfl]
  have H5 := hid_mk (H4.out.trans (hn5.1.mono H4.out.size))
  obtain ⟨ta, tc, hv, hth⟩ := tree_has htr2
  have hmp : (ns2.map nxOf).map (·.1) = ns.map (·.1) := by
   rw [← HTS.out, ← HNX.out, hns2, List.map_map, List.map_map]
   rfl
  have hlen : (ns2.map nxOf).length = m := by
   have := congrArg List.length hmp
   rwa [List.length_map (f := fun p : NxM => p.1), List.length_map (f := fun p : NxM => p.1), ← HL.out] at this
  have hpos : 0 < (ns2.map nxOf).length := by
   have h1 := parse_right HNB.out
   rw [hns2] at h1
   cases ns2 with
   | nil => cases h1
   | cons p q => exact Nat.succ_pos _
  have hst := hid_mk (sameTree_h ta a tc c (ns2.map nxOf) ns w5 hth (HH.out.below H5.out) hmp hpos (by omega) (fun p hp => by
   have hpm : p.1 ∈ ns.map (·.1) := by rw [← hmp]; exact List.mem_map.2 ⟨p, hp, rfl⟩
   obtain ⟨q, hq, hqe⟩ := List.mem_map.1 hpm
   obtain ⟨s1, s2, s3, s4, s5⟩ := HSA.out q hq
   rw [hqe] at s3 s4
   omega))
  rw [← HL.out] at hst
  rw [hlen] at hst hv
  clear hns2 htr2 hn5 HPA hcv hth hmp hlen hpos
  subst hv
  go_wp2_with fail
  (with_reducible refine hst.out.mono ?_)
  rintro e w6 ⟨rfl, hb6⟩
  have H6 := hid_mk (H5.out.trans (hb6.mono H5.out.size))
  clear hb6 hst
  go_wp2_with fail
  (with_reducible refine (hwo.out _ H6.out).mono ?_)
  rintro e w7 ⟨rfl, hb7⟩
  have H7 := hid_mk (H6.out.trans (hb7.mono H6.out.size))
  clear hb7
  go_wp2_with fail
  go_ret
  exact ⟨rfl, H7.out⟩
 ·have hne : ((E : Int) == 0) = false := beq_false_of_ne (by omega)
  have hne2 : ((E : Int) != 0) = true := by rw [bne, hne]; rfl
  clear hE HPS HDL
  generalize strOf D = SD at *
  go_wp2_with fail
  (with_reducible refine (hwo.out _ H3.out).mono ?_)
  rintro e w4 ⟨rfl, hb4⟩
  have H4 := hid_mk (H3.out.trans (hb4.mono H3.out.size))
  clear hb4
  go_wp2_with fail
  go_ret
  exact ⟨rfl, H4.out⟩
end Go.Proofs.YtlcijlklbabajaaGreatDoor
