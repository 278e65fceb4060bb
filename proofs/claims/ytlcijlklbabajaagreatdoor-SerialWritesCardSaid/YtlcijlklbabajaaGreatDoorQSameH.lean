/-
  SameTree, of two trees that are the same, as they lie: it only draws. Conditions: their numbers are bounded.
-/
import Derived.Test.YtlcijlklbabajaaGreatDoorQRR45
import Derived.Test.YtlcijlklbabajaaGreatDoorQTNTA
import Derived.Deep.QuietTactic
import Derived.BigQuiet
namespace Go.Proofs.YtlcijlklbabajaaGreatDoor
open Go.RowKit R
set_option maxHeartbeats 4000000 in
set_option maxRecDepth 100000 in
theorem sameAttrs_h (a1 a2 : Option Addr) (c1 c2 : Nat) (l : List (List UInt8 × List UInt8)) (w : World) (h1 : HasRow w a1 (l.flatMap atF)) (h2 : HasRow w a2 (l.flatMap atF)) (hl : l.length ≤ 1000000) :
 Calls Tryz.prog 26 #[.slice a1 l.length c1, .slice a2 l.length c2] w fun e w' => e = .returned (.bool true) ∧ ∃ m, w' = w.drewN m := by
 obtain ⟨n, hn⟩ : ∃ n, n = l.length := ⟨_, rfl⟩
 have HN := hid_mk hn
 have H1 := hid_mk h1
 have H2 := hid_mk h2
 obtain ⟨i0, hi, hz0, hz1, hz2⟩ := info_parts infoAttr
 have HI := hid_mk (And.intro hi (And.intro hz0 (And.intro hz1 hz2)))
 rw [← hn] at hl ⊢
 clear hn h1 h2 hi hz0 hz1 hz2
 go_enter Tryz.func26, Tryz.ntmps26
 go_wp2_with fail
 go_loopw [5] (fun i wr => ∃ k : Nat, k ≤ n ∧ i = .int .i64 k ∧ Hid (∃ m, wr = w.drewN m)) (fun i _ => n - (intOf i).toNat)
 case atStart => exact ⟨0, Nat.zero_le _, rfl, hid_mk ⟨0, rfl⟩⟩
 case round =>
  obtain ⟨k, hk, rfl, HW⟩ := hrel
  by_cases hlt : k < n
  ·have hlti : (k : Int) < (n : Int) := by omega
   have hkl : k < l.length := by rw [← HN.out]; exact hlt
   have hbl : Below w.heap.size w wr := by
    obtain ⟨m, hm⟩ := HW.out
    rw [hm]
    exact below_drewN (Below.refl _ _) m
   obtain ⟨x1, hg1, _, d1, e1⟩ := (H1.out.below hbl).at2 hkl
   obtain ⟨x2, hg2, _, d3, e2⟩ := (H2.out.below hbl).at2 hkl
   subst hg1 hg2
   have d2 : wr.cell? ⟨(x1.add (k * 2)).block, (x1.add (k * 2)).off + 1, none⟩ = some (.string (strOf l[k].2)) := by
    rw [← e1, ← Addr.add_add x1 (k * 2) 1]
    conv => rhs; unfold Addr.add
    rw [if_neg (by omega)]
    rfl
   have d4 : wr.cell? ⟨(x2.add (k * 2)).block, (x2.add (k * 2)).off + 1, none⟩ = some (.string (strOf l[k].2)) := by
    rw [← e2, ← Addr.add_add x2 (k * 2) 1]
    conv => rhs; unfold Addr.add
    rw [if_neg (by omega)]
    rfl
   clear e1 e2
   obtain ⟨x, hx⟩ : ∃ x, x = strOf l[k].1 := ⟨_, rfl⟩
   obtain ⟨y, hy⟩ : ∃ y, y = strOf l[k].2 := ⟨_, rfl⟩
   rw [← hx] at d1 d3
   rw [← hy] at d2 d4
   clear hx hy hkl hbl
   go_wp2_with fail
   obtain ⟨hi, hz0, hz1, hz2⟩ := HI.out
   have hx0 : (x.toList == x.toList) = true := beq_self_eq_true _
   have hy0 : (y.toList == y.toList) = true := beq_self_eq_true _
   go_quiet (fail)
   have HD := hid_mk (show ∃ m, wr.drewN nq = w.drewN m by
    obtain ⟨m, hm⟩ := HW.out
    exact ⟨m + nq, by rw [hm, World.drewN_drewN]⟩)
   clear hi hz0 hz1 hz2
   go_wp2_with fail
   go_roundw
   case rel => exact ⟨k + 1, by omega, by go_num, HD⟩
   case measure => simp [intOf]; omega
  ·have hlti : ¬ (k : Int) < (n : Int) := by omega
   go_wp2_with fail
   go_ret
   exact ⟨rfl, HW.out⟩
set_option maxHeartbeats 4000000 in
set_option maxRecDepth 100000 in
theorem sameInts_h (a1 a2 : Option Addr) (c1 c2 : Nat) (l : List Int) (w : World) (h1 : HasRow w a1 (l.map (Value.int .i64))) (h2 : HasRow w a2 (l.map (Value.int .i64))) (hl : l.length ≤ 1000000) :
 Calls Tryz.prog 41 #[.slice a1 l.length c1, .slice a2 l.length c2] w fun e w' => e = .returned (.bool true) ∧ ∃ m, w' = w.drewN m := by
 obtain ⟨n, hn⟩ : ∃ n, n = l.length := ⟨_, rfl⟩
 have HN := hid_mk hn
 have H1 := hid_mk h1
 have H2 := hid_mk h2
 rw [← hn] at hl ⊢
 clear hn h1 h2
 go_enter Tryz.func41, Tryz.ntmps41
 go_wp2_with fail
 go_loopw [5] (fun i wr => ∃ k : Nat, k ≤ n ∧ i = .int .i64 k ∧ Hid (∃ m, wr = w.drewN m)) (fun i _ => n - (intOf i).toNat)
 case atStart => exact ⟨0, Nat.zero_le _, rfl, hid_mk ⟨0, rfl⟩⟩
 case round =>
  obtain ⟨k, hk, rfl, HW⟩ := hrel
  by_cases hlt : k < n
  ·have hlti : (k : Int) < (n : Int) := by omega
   have hkl : k < l.length := by rw [← HN.out]; exact hlt
   have hbl : Below w.heap.size w wr := by
    obtain ⟨m, hm⟩ := HW.out
    rw [hm]
    exact below_drewN (Below.refl _ _) m
   obtain ⟨x1, hg1, _, d1⟩ := (H1.out.below hbl).ints hkl
   obtain ⟨x2, hg2, _, d2⟩ := (H2.out.below hbl).ints hkl
   subst hg1 hg2
   generalize l[k] = z at *
   have x0 : (z == z) = true := beq_self_eq_true _
   have x0' : (z != z) = false := by rw [bne, x0]; rfl
   clear hkl hbl
   go_wp2_with fail
   go_quiet (fail)
   have HD := hid_mk (show ∃ m, wr.drewN nq = w.drewN m by
    obtain ⟨m, hm⟩ := HW.out
    exact ⟨m + nq, by rw [hm, World.drewN_drewN]⟩)
   go_wp2_with fail
   go_roundw
   case rel => exact ⟨k + 1, by omega, by go_num, HD⟩
   case measure => simp [intOf]; omega
  ·have hlti : ¬ (k : Int) < (n : Int) := by omega
   go_wp2_with fail
   go_ret
   exact ⟨rfl, HW.out⟩
set_option maxHeartbeats 8000000 in
set_option maxRecDepth 100000 in
theorem sameTree_h (a1 a2 : Option Addr) (c1 c2 : Nat) (ns1 ns2 : List NxM) (w : World) (h1 : HasTree w a1 ns1) (h2 : HasTree w a2 ns2) (he : ns1.map (·.1) = ns2.map (·.1)) (hpos : 0 < ns1.length) (hl : ns1.length ≤ 20000) (hat : ∀ p ∈ ns1, p.1.attrs.length ≤ 1000000 ∧ p.1.kids.length ≤ 1000000) :
 Calls Tryz.prog 16 #[.slice a1 ns1.length c1, .slice a2 ns2.length c2] w fun e w' => e = .returned (.bool true) ∧ Below w.heap.size w w' := by
 have hlen : ns2.length = ns1.length := by
  have := congrArg List.length he
  rwa [List.length_map, List.length_map, eq_comm] at this
 obtain ⟨x1, hv1, hj1, hj2⟩ := h1.cell hpos
 obtain ⟨x2, hv2, hj3, hj4⟩ := h2.cell (show 0 < ns2.length by omega)
 clear hj1 hj2 hj3 hj4
 subst hv1 hv2
 rw [hlen]
 obtain ⟨n, hn⟩ : ∃ n, n = ns1.length := ⟨_, rfl⟩
 have HN := hid_mk hn
 have HL := hid_mk hlen
 have HE := hid_mk he
 have H1 := hid_mk h1
 have H2 := hid_mk h2
 have HAT := hid_mk hat
 rw [← hn] at hl ⊢
 clear hn hlen he h1 h2 hat hpos
 go_enter Tryz.func16, Tryz.ntmps16
 go_wp2_with fail
 go_loopw [5] (fun i wr => ∃ k : Nat, k ≤ n ∧ i = .int .i64 k ∧ Hid (∃ m, wr = w.drewN m)) (fun i _ => n - (intOf i).toNat)
 case atStart => exact ⟨0, Nat.zero_le _, rfl, hid_mk ⟨0, rfl⟩⟩
 case round =>
  obtain ⟨k, hk, rfl, HW⟩ := hrel
  by_cases hlt : k < n
  ·have hlti : (k : Int) < (n : Int) := by omega
   have hk0 : (0 : Int) ≤ (k : Int) := by omega
   have hk1 : k < ns1.length := by rw [← HN.out]; exact hlt
   have hk2 : k < ns2.length := by rw [HL.out]; exact hk1
   have hy : ns2[k].1 = ns1[k].1 := by
    have : (ns1.map (·.1))[k]? = (ns2.map (·.1))[k]? := by rw [HE.out]
    rw [List.getElem?_map, List.getElem?_map, List.getElem?_eq_getElem hk1, List.getElem?_eq_getElem hk2] at this
    injection this with this
    exact this.symm
   have hbel : ∀ m, Below w.heap.size w (wr.drewN m) := fun m => by
    obtain ⟨m', hm⟩ := HW.out
    rw [hm]
    exact below_drewN (below_drewN (Below.refl _ _) m') m
   have hb0 : Below w.heap.size w wr := hbel 0
   have ht1 := H1.out.below hb0
   have ht2 := H2.out.below hb0
   obtain ⟨t0, t1, t2, t3, t4, t5⟩ := ht1.six hk1
   obtain ⟨u0, u1, u2, u3, u4, u5⟩ := ht2.six hk2
   obtain ⟨a1, p1, he1, hle1, ha1⟩ := H1.out.attrs ns1[k] (List.getElem_mem _)
   obtain ⟨a2, p2, he2, hle2, ha2⟩ := H2.out.attrs ns2[k] (List.getElem_mem _)
   obtain ⟨b1, q1, hf1, hb1⟩ := H1.out.kids ns1[k] (List.getElem_mem _)
   obtain ⟨b2, q2, hf2, hb2⟩ := H2.out.kids ns2[k] (List.getElem_mem _)
   rw [he1] at t2
   rw [hf1] at t5
   rw [he2] at u2
   rw [hf2] at u5
   rw [hy] at u0 u1 u2 u3 u4 u5 ha2 hb2
   have hbd := HAT.out ns1[k] (List.getElem_mem _)
   have hsa := hid_mk (fun m => sameAttrs_h a1 a2 p1 p2 ns1[k].1.attrs (wr.drewN m) (ha1.below (hbel m)) (ha2.below (hbel m)) hbd.1)
   have hsi := hid_mk (fun m => sameInts_h b1 b2 q1 q2 ns1[k].1.kids (wr.drewN m) (hb1.below (hbel m)) (hb2.below (hbel m)) hbd.2)
   clear hle1 hle2 ha1 ha2 he1 he2 hf1 hf2 hb1 hb2 hy hk2 hbd hbel hb0 ht1 ht2
   generalize ns1[k].1.attrs.length = AL at *
   generalize ns1[k].1.attrs = AT at *
   generalize ns1[k].1.kids.length = KL at *
   generalize ns1[k].1.kids = KT at *
   generalize strOf ns1[k].1.name = NM at *
   generalize strOf ns1[k].1.data = DT at *
   generalize ns1[k].1.kind = KD at *
   generalize ns1[k].1.up = UP at *
   clear hk1
   have x0 : ((KD : Int) == (KD : Int)) = true := beq_self_eq_true _
   have x0' : ((KD : Int) != (KD : Int)) = false := by rw [bne, x0]; rfl
   have x1 : (NM.toList == NM.toList) = true := beq_self_eq_true _
   have x1' : (NM.toList != NM.toList) = false := by rw [bne, x1]; rfl
   have x2 : (DT.toList == DT.toList) = true := beq_self_eq_true _
   have x2' : (DT.toList != DT.toList) = false := by rw [bne, x2]; rfl
   have x3 : (UP == UP) = true := beq_self_eq_true _
   have x3' : (UP != UP) = false := by rw [bne, x3]; rfl
   go_wp2_with fail
   go_quiet (first
    | (go_at_call 41; with_reducible exact Calls.quiet_of (hsi.out _))
    | (go_at_call 26; with_reducible exact Calls.quiet_of (hsa.out _)))
   have HD := hid_mk (show ∃ m, wr.drewN nq = w.drewN m by
    obtain ⟨m, hm⟩ := HW.out
    exact ⟨m + nq, by rw [hm, World.drewN_drewN]⟩)
   go_wp2_with fail
   go_roundw
   case rel => exact ⟨k + 1, by omega, by go_num, HD⟩
   case measure => simp [intOf]; omega
  ·have hlti : ¬ (k : Int) < (n : Int) := by omega
   go_wp2_with fail
   go_ret
   refine ⟨rfl, ?_⟩
   obtain ⟨m, hm⟩ := HW.out
   rw [hm]
   exact below_drewN (Below.refl _ _) m
end Go.Proofs.YtlcijlklbabajaaGreatDoor
