/-
  The kit's Size: where it tells a small number all is small. Conditions: rows take no more than an address space.
-/
import Derived.Test.YtlcijlklbabajaaGreatDoorQRR67
import Derived.Deep.SlicePairs
import Derived.ChangeSlices
namespace Go.Proofs.YtlcijlklbabajaaGreatDoor
open Go.RowKit R
def SmallN (top : Nat) (n : Nx) : Prop := n.name.length ≤ top ∧ n.data.length ≤ top ∧ n.kids.length ≤ top ∧ n.attrs.length ≤ top ∧ ∀ a ∈ n.attrs, a.1.length ≤ top ∧ a.2.length ≤ top
set_option maxHeartbeats 8000000 in
set_option maxRecDepth 100000 in
theorem size_any (top : Nat) (htop : top ≤ 20000) (a : Option Addr) (c : Nat) (ns : List NxM) (w : World) (h : HasTree w a ns) (hl : ns.length ≤ 400) (hb : ∀ p ∈ ns, SmallN 140737488355328 p.1) :
 Calls Tryz.prog 20 #[.slice a ns.length c, .int .i64 (top : Int)] w fun e w' => (∃ r : Nat, e = .returned (.int .i64 (r : Int)) ∧ (r ≤ top → ∀ p ∈ ns, SmallN top p.1)) ∧ Below w.heap.size w w' := by
 by_cases h0 : ns.length = 0
 ·have hnil : ns = [] := List.eq_nil_of_length_eq_zero h0
  have HF := hid_mk (show ∀ p ∈ ns, SmallN top p.1 by rw [hnil]; intro p hp; cases hp)
  rw [h0]
  clear h h0 hnil hb hl
  have ht2 : ((top : Int) + 1) ≤ 20001 := by omega
  have ht0 : (0 : Int) ≤ (top : Int) + 1 := by omega
  have hz : ¬ (top : Int) + 1 < 0 := by omega
  go_enter Tryz.func20, Tryz.ntmps20
  go_wp2_with fail
  go_loopw [5, 6] (fun vn vi wr => vn = .int .i64 0 ∧ vi = .int .i64 0 ∧ Hid (Below w.heap.size w wr)) (fun _ vi _ => 0)
  case atStart => exact ⟨rfl, rfl, hid_mk (Below.refl _ _)⟩
  case round =>
   obtain ⟨rfl, rfl, hI⟩ := hrel
   go_wp2_with fail
   go_ret
   exact ⟨⟨0, by simp; omega, fun _ => HF.out⟩, hI.out⟩
 have hpos : 0 < ns.length := by omega
 obtain ⟨x, hx, hxx, hxy⟩ := h.cell hpos
 clear hxx hxy
 subst hx
 obtain ⟨m, hm⟩ : ∃ m, m = ns.length := ⟨_, rfl⟩
 have HM := hid_mk hm
 have H := hid_mk h
 have HB := hid_mk hb
 have hti : (top : Int) ≤ 20000 := by omega
 rw [← hm]
 have hm4 : m ≤ 400 := by omega
 clear h hb hl hm h0 hpos
 go_enter Tryz.func20, Tryz.ntmps20
 go_wp2_with fail
 go_loopw [5, 6] (fun vn vi wr => ∃ n i : Nat, i ≤ m ∧ n ≤ 600000000000000 ∧ vn = .int .i64 (n : Int) ∧ vi = .int .i64 (i : Int) ∧ Hid ((n ≤ top → ∀ j (hj : j < ns.length), j < i → SmallN top (ns[j]).1) ∧ Below w.heap.size w wr)) (fun _ vi _ => m - (intOf vi).toNat)
 case atStart => exact ⟨m, 0, Nat.zero_le _, by omega, rfl, rfl, hid_mk ⟨fun _ j hj hj0 => by omega, Below.refl _ _⟩⟩
 case round =>
  obtain ⟨n, i, hi, hn, rfl, rfl, hI⟩ := hrel
  generalize wr = wo at *
  by_cases hnt : n ≤ top
  ·have hnti : (n : Int) ≤ (top : Int) := by omega
   by_cases hlt : i < m
   ·have hlti : (i : Int) < (m : Int) := by omega
    have hi0 : (0 : Int) ≤ (i : Int) := by omega
    have hil : i < ns.length := by rw [← HM.out]; exact hlt
    have htree := H.out.below hI.out.2
    obtain ⟨n0, n1, n2, n3, n4, n5⟩ := htree.six hil
    have hat0 := htree.attrs _ (List.getElem_mem hil)
    have hki0 := htree.kids _ (List.getElem_mem hil)
    obtain ⟨b1, b2, b3, b4, b5⟩ := HB.out _ (List.getElem_mem hil)
    obtain ⟨aa, ac, hav, _, harow⟩ := hat0
    obtain ⟨ka, kc, hkv, _⟩ := hki0
    rw [hav] at n2
    rw [hkv] at n5
    have HGET := hid_mk (show ∀ tp, SmallN tp (ns[i]).1 ↔ ((ns[i]).1.name.length ≤ tp ∧ (ns[i]).1.data.length ≤ tp ∧ (ns[i]).1.kids.length ≤ tp ∧ (ns[i]).1.attrs.length ≤ tp ∧ ∀ a ∈ (ns[i]).1.attrs, a.1.length ≤ tp ∧ a.2.length ≤ tp) from fun _ => Iff.rfl)
    have HPREV := hid_mk (hI.out.1 hnt)
    have HBW := hid_mk hI.out.2
    have HTR := hid_mk (show ∀ w', Below wo.heap.size wo w' → w'.cell? ⟨(x.add (i * 6)).block, (x.add (i * 6)).off + 2, none⟩ = some (.slice aa (ns[i]).1.attrs.length ac) ∧ HasRow w' aa ((ns[i]).1.attrs.flatMap atF) from fun w' hb' => by
     have h2 := htree.below hb'
     refine ⟨?_, harow.below hb'⟩
     have := (h2.six hil).2.2.1
     rw [hav] at this
     exact this)
    clear hI n0 n4 hav hkv harow htree
    have s1 : (strOf (ns[i]).1.name).size = (ns[i]).1.name.length := size_strOf _
    have s3 : (strOf (ns[i]).1.data).size = (ns[i]).1.data.length := size_strOf _
    generalize strOf (ns[i]).1.name = sn at *
    generalize strOf (ns[i]).1.data = sd at *
    generalize (ns[i]).1.name.length = l1 at *
    generalize (ns[i]).1.data.length = l2 at *
    generalize (ns[i]).1.kids.length = l3 at *
    obtain ⟨ats, hats⟩ : ∃ ats, ats = (ns[i]).1.attrs := ⟨_, rfl⟩
    rw [← hats] at n2 HGET HTR b4 b5
    obtain ⟨l4, hl4⟩ : ∃ l4, l4 = ats.length := ⟨_, rfl⟩
    have HL4 := hid_mk hl4
    rw [← hl4] at n2 HTR b4
    have HB5 := hid_mk b5
    clear hats b5 hl4
    have s1' : (sn.size : Int) ≤ 140737488355328 := by omega
    have s3' : (sd.size : Int) ≤ 140737488355328 := by omega
    have b3' : (l3 : Int) ≤ 140737488355328 := by omega
    have b4' : (l4 : Int) ≤ 140737488355328 := by omega
    have hnb : (n : Int) ≤ 20000 := by omega
    go_wp2_with fail
    go_quiet (fail)
    have HD := hid_mk (below_drewR (Below.refl wo.heap.size wo) nq)
    go_wp2_with fail
    have HLE := hid_mk (show ∀ n2 : Nat, (n2 : Int) = (n : Int) + (sn.size : Int) + (sd.size : Int) + (l3 : Int) + (l4 : Int) → n2 ≤ 600000000000000 ∧ (n2 ≤ top → l1 ≤ top ∧ l2 ≤ top ∧ l3 ≤ top ∧ l4 ≤ top) from fun n2 h2 => ⟨by omega, fun h3 => ⟨by omega, by omega, by omega, by omega⟩⟩)
    have HTOP := hid_mk (And.intro htop hnt)
    go_loopw [5, 7] (fun vn vk wr => ∃ nn k : Nat, k ≤ l4 ∧ nn ≤ 600000000000000 ∧ vn = .int .i64 (nn : Int) ∧ vk = .int .i64 (k : Int) ∧ Hid ((nn ≤ top → l1 ≤ top ∧ l2 ≤ top ∧ l3 ≤ top ∧ l4 ≤ top ∧ ∀ j (hj : j < ats.length), j < k → (ats[j]).1.length ≤ top ∧ (ats[j]).2.length ≤ top) ∧ Below wo.heap.size wo wr)) (fun _ vk _ => l4 - (intOf vk).toNat)
    case atStart => exact ⟨n + sn.size + sd.size + l3 + l4, 0, Nat.zero_le _, (HLE.out _ (by omega)).1, by first | rfl | (congr 1; omega), rfl, hid_mk ⟨fun h2 => by
     obtain ⟨e1, e2, e3, e4⟩ := (HLE.out _ (by omega)).2 h2
     exact ⟨e1, e2, e3, e4, fun j hj hj0 => by omega⟩, HD.out⟩⟩
    case round =>
     obtain ⟨nn, k, hk, hn2, rfl, rfl, hJ⟩ := hrel
     generalize wr = wq at *
     have r2 := (HTR.out _ hJ.out.2).1
     by_cases hkl : k < l4
     ·have hkli : (k : Int) < (l4 : Int) := by omega
      have hk0 : (0 : Int) ≤ (k : Int) := by omega
      by_cases hnt2 : nn ≤ top
      ·have hnti2 : (nn : Int) ≤ (top : Int) := by omega
       have hka : k < ats.length := by rw [← HL4.out]; exact hkl
       obtain ⟨y, hy, _, y1, y2⟩ := (HTR.out _ hJ.out.2).2.at2 hka
       subst hy
       have y2' : wq.cell? ⟨(y.add (k * 2)).block, (y.add (k * 2)).off + 1, none⟩ = some (.string (strOf ats[k].2)) := by
        rw [← y2, ← Addr.add_add y (k * 2) 1]
        conv => rhs; unfold Addr.add
        rw [if_neg (by omega)]
        rfl
       obtain ⟨z1, z2⟩ := HB5.out _ (List.getElem_mem hka)
       have t1 : (strOf ats[k].1).size = ats[k].1.length := size_strOf _
       have t2 : (strOf ats[k].2).size = ats[k].2.length := size_strOf _
       obtain ⟨g1, hg1⟩ : ∃ g, g = ats[k].1.length := ⟨_, rfl⟩
       obtain ⟨g2, hg2⟩ : ∃ g, g = ats[k].2.length := ⟨_, rfl⟩
       have HSTEP := hid_mk (show ∀ n3 : Nat, (n3 : Int) = (nn : Int) + (g1 : Int) + (g2 : Int) → n3 ≤ 600000000000000 ∧ (n3 ≤ top → l1 ≤ top ∧ l2 ≤ top ∧ l3 ≤ top ∧ l4 ≤ top ∧ ∀ j (hj : j < ats.length), j < k + 1 → (ats[j]).1.length ≤ top ∧ (ats[j]).2.length ≤ top) from fun n3 h3 => by
        rw [← hg1] at z1
        rw [← hg2] at z2
        refine ⟨by omega, fun h4 => ?_⟩
        obtain ⟨e1, e2, e3, e4, e5⟩ := hJ.out.1 hnt2
        refine ⟨e1, e2, e3, e4, fun j hj hjk => ?_⟩
        by_cases e : j = k
        ·subst e
         exact ⟨by omega, by omega⟩
        ·exact e5 j hj (by omega))
       rw [← hg1] at t1 z1
       rw [← hg2] at t2 z2
       have t1' : ((strOf ats[k].1).size : Int) = (g1 : Int) := by omega
       have t2' : ((strOf ats[k].2).size : Int) = (g2 : Int) := by omega
       generalize strOf ats[k].1 = st1 at *
       generalize strOf ats[k].2 = st2 at *
       have z1' : (g1 : Int) ≤ 140737488355328 := by omega
       have z2' : (g2 : Int) ≤ 140737488355328 := by omega
       have hnb2 : (nn : Int) ≤ 20000 := by omega
       have HW := hid_mk hJ.out.2
       clear hJ hg1 hg2 y2
       go_wp2_with fail
       go_quiet (fail)
       have HD2 := hid_mk (below_drewR HW.out nq)
       go_wp2_with fail
       go_roundw
       case rel => exact ⟨nn + g1 + g2, k + 1, by omega, (HSTEP.out _ (by omega)).1, by first | rfl | (congr 1; omega), by go_num, hid_mk ⟨(HSTEP.out _ (by omega)).2, HD2.out⟩⟩
       case measure => simp [intOf]; omega
      ·have hnti2 : ¬ (nn : Int) ≤ (top : Int) := by omega
       have HW := hid_mk (HBW.out.trans (hJ.out.2.mono HBW.out.size))
       clear hJ
       go_wp2_with fail
       go_roundw
       case rel => exact ⟨nn, i + 1, by omega, hn2, rfl, by go_num, hid_mk ⟨fun h2 => absurd h2 hnt2, HW.out⟩⟩
       case measure => simp [intOf]; omega
     ·have hkli : ¬ (k : Int) < (l4 : Int) := by omega
      have HW := hid_mk (HBW.out.trans (hJ.out.2.mono HBW.out.size))
      have HN := hid_mk (show nn ≤ top → ∀ j (hj : j < ns.length), j < i + 1 → SmallN top (ns[j]).1 from fun h2 j hj hji => by
       by_cases e : j = i
       ·subst e
        rw [HGET.out]
        obtain ⟨e1, e2, e3, e4, e5⟩ := hJ.out.1 h2
        refine ⟨e1, e2, e3, by rw [← HL4.out]; exact e4, fun q hq => ?_⟩
        obtain ⟨q', hq', rfl⟩ := List.getElem_of_mem hq
        exact e5 q' hq' (by rw [HL4.out] at hkl; omega)
       ·exact HPREV.out j hj (by omega))
      clear hJ
      go_wp2_with fail
      go_roundw
      case rel => exact ⟨nn, i + 1, by omega, hn2, rfl, by go_num, hid_mk ⟨HN.out, HW.out⟩⟩
      case measure => simp [intOf]; omega
   ·have hlti : ¬ (i : Int) < (m : Int) := by omega
    have HALL := hid_mk (show ∀ p ∈ ns, SmallN top p.1 from fun p hp => by
     obtain ⟨j, hj, rfl⟩ := List.getElem_of_mem hp
     exact hI.out.1 hnt j hj (by have := HM.out; omega))
    have HW := hid_mk hI.out.2
    have hmin : ¬ (top : Int) + 1 < (n : Int) := by omega
    have hti2 : ((top : Int) + 1) ≤ 20001 := by omega
    have ht0 : (0 : Int) ≤ (top : Int) + 1 := by omega
    clear hI
    go_wp2_with fail
    go_ret
    exact ⟨⟨n, by simp; omega, fun _ => fun p1 p2 p3 hp => HALL.out _ hp⟩, HW.out⟩
  ·have hnti : ¬ (n : Int) ≤ (top : Int) := by omega
   have hmin : ¬ (n : Int) < (top : Int) + 1 := by omega
   have hti2 : ((top : Int) + 1) ≤ 20001 := by omega
   have ht0 : (0 : Int) ≤ (top : Int) + 1 := by omega
   have HW := hid_mk hI.out.2
   clear hI
   by_cases hlt : i < m
   ·have hlti : (i : Int) < (m : Int) := by omega
    go_wp2_with fail
    go_ret
    exact ⟨⟨top + 1, by simp; omega, fun h2 => by omega⟩, HW.out⟩
   ·have hlti : ¬ (i : Int) < (m : Int) := by omega
    go_wp2_with fail
    go_ret
    exact ⟨⟨top + 1, by simp; omega, fun h2 => by omega⟩, HW.out⟩
end Go.Proofs.YtlcijlklbabajaaGreatDoor
/-
  A tree that is handed in, opened: what lies there, and how large each part is. Condition: what is read weighs no more than the reach.
-/
namespace Go.Proofs.YtlcijlklbabajaaGreatDoor
open Go.RowKit Go.ChangeShapes Go.WideShapes Go.Deep R
section
variable {H : Type} {enc : TypeId × Value → H} {W : World} {base : Nat} {sp : Nat → Bool} {hd : Bool}
theorem weights_mem {P : Program} {e : TypeId} {n : Nat} {d : DataW H} : ∀ {l : List (DataW H)}, d ∈ l → n ∈ d.weights P e → n ∈ DataW.weightsAll P e l
 | a :: r, hd, hn => by
   unfold DataW.weightsAll
   rw [List.mem_append]
   rcases List.mem_cons.1 hd with rfl | h
   ·exact .inl hn
   ·exact .inr (weights_mem h hn)
theorem weights_slice {P : Program} {t e : TypeId} (ht : P.underlying t = some (.slice e)) (elems spare : List (DataW H)) : (DataW.slice elems spare).weights P t = (elems.length + spare.length) * P.bytesOf e :: (DataW.weightsAll P e elems ++ DataW.weightsAll P e spare) := by
 unfold DataW.weights
 rw [ht]
theorem weights_agg {P : Program} {t : TypeId} {fs : Array Field} (ht : P.underlying t = some (.struct fs)) (l : List (DataW H)) : (DataW.agg l).weights P t = DataW.weightsEach P (fs.toList.map (·.type)) l := by
 unfold DataW.weights
 rw [ht]
theorem weights_cons {P : Program} (t : TypeId) (ts : List TypeId) (d : DataW H) (l : List (DataW H)) : DataW.weightsEach P (t :: ts) (d :: l) = d.weights P t ++ DataW.weightsEach P ts l := by
 conv => lhs; unfold DataW.weightsEach
theorem weights_str {P : Program} (t : TypeId) (l : List UInt8) : (DataW.lit (.string l) : DataW H).weights P t = [l.length] := by unfold DataW.weights; rfl
theorem row_fam {α : Type} (F : α → List Value) (n : Nat) (hn : 0 < n) (hF : ∀ x, (F x).length = n) (a : Addr) (len : Nat) (q : Nat → α) (w : World) (h : ∀ i, i < len → ∀ j, j < n → w.cell? (a.add (i * n + j)) = (F (q i))[j]?) : HasRow w (some a) (((List.range len).map q).flatMap F) := by
 by_cases h0 : len = 0
 ·subst h0; exact .inl rfl
 ·refine .inr ⟨a, rfl, ?_, fun j u hu => ?_⟩
  ·have h1 := h 0 (by omega) 0 hn
   rw [List.getElem?_eq_getElem (by rw [hF]; exact hn)] at h1
   have h2 := Lib.lt_of_cell h1
   rwa [addrBlock] at h2
  ·have hjl : j < len * n := by
    have := (List.getElem?_eq_some_iff.1 hu).1
    rw [flat_length F n hF, List.length_map, List.length_range] at this; exact this
   have hk : j / n < len := Nat.div_lt_of_lt_mul (by rw [Nat.mul_comm]; exact hjl)
   have hjm := Nat.mod_lt j hn
   have e : j = j / n * n + j % n := by rw [Nat.mul_comm]; exact (Nat.div_add_mod j n).symm
   rw [e] at hu ⊢
   rw [flat_get F n hF _ _ _ (by simpa using hk) hjm] at hu
   rw [h _ hk _ hjm, ← hu]
   simp
theorem six_of {α : Type} : ∀ {l : List α}, l.length = 6 → ∃ a b c d e f, l = [a, b, c, d, e, f]
 | [a, b, c, d, e, f], _ => ⟨a, b, c, d, e, f, rfl⟩
theorem open_attrs {fuel : Nat} {cs : List Value} {y : DataW H × List MemPlace} (h : DataW.trod enc Tryz.prog W base sp hd fuel 23 cs = some y) (hw : ∀ n ∈ y.1.weights Tryz.prog 23, n ≤ reachBytes) :
 ∃ (v : Value) (l : List (List UInt8 × List UInt8)), cs = [v] ∧ HasAt W v l ∧ l.length ≤ reachBytes ∧ ∀ a ∈ l, a.1.length ≤ reachBytes ∧ a.2.length ≤ reachBytes := by
 rcases open_slice_pairs Tryz.underlying23 Tryz.underlying40 (by kernel_rfl) rfl rfl (by kernel_rfl) (by kernel_rfl) h with ⟨rfl, _⟩ | ⟨a, len, cap, m, n, V0, V1, D0, D1, P0, P1, rfl, hb, hl, hm, hmm, rfl, hx⟩
 ·exact ⟨_, [], rfl, ⟨none, 0, rfl, Nat.le_refl _, .inl rfl⟩, Nat.zero_le _, fun a ha => by cases ha⟩
 have hlm : len ≤ m := by rw [hmm]; split <;> omega
 have each : ∀ i, i < len → ∃ q : List UInt8 × List UInt8, V0 i = .string (strOf q.1) ∧ V1 i = .string (strOf q.2) ∧ D0 i = .lit (.string q.1) ∧ D1 i = .lit (.string q.2) := fun i hi => by
  obtain ⟨_, _, t0, t1⟩ := hx i (by omega)
  obtain ⟨s0, e0, e0', _⟩ := DataW.trod_string Tryz.underlying9 t0
  obtain ⟨s1, e1, e1', _⟩ := DataW.trod_string Tryz.underlying9 t1
  simp only [List.cons.injEq, and_true, Prod.mk.injEq] at e0 e1 e0' e1'
  exact ⟨(sl s0, sl s1), by rw [e0, strOf_sl], by rw [e1, strOf_sl], e0'.1, e1'.1⟩
 obtain ⟨q, hq⟩ := choose_lt each
 rw [weights_slice Tryz.underlying23] at hw
 have hlen : len ≤ reachBytes := by
  have h1 := hw _ (List.mem_cons_self ..)
  rw [List.length_map, List.length_range] at h1
  have h2 : 0 < Tryz.prog.bytesOf 40 := by rw [show Tryz.prog.bytesOf 40 = 32 by kernel_rfl]; omega
  exact Nat.le_trans (Nat.le_trans (Nat.le_add_right _ _) (Nat.le_mul_of_pos_right _ h2)) h1
 have hsz : ∀ i, i < len → (q i).1.length ≤ reachBytes ∧ (q i).2.length ≤ reachBytes := fun i hi => by
  obtain ⟨_, _, d0, d1⟩ := hq i hi
  have hmem : (DataW.agg [D0 i, D1 i] : DataW H) ∈ (List.range len).map fun i => DataW.agg [D0 i, D1 i] := List.mem_map.2 ⟨i, List.mem_range.2 hi, rfl⟩
  have hall : ∀ n ∈ (DataW.agg [D0 i, D1 i] : DataW H).weights Tryz.prog 40, n ≤ reachBytes := fun n hn => hw n (List.mem_cons_of_mem _ (List.mem_append_left _ (weights_mem hmem hn)))
  rw [weights_agg Tryz.underlying40, d0, d1] at hall
  simp only [List.map_cons, weights_cons, weights_str] at hall
  exact ⟨hall _ (by simp), hall _ (by simp)⟩
 refine ⟨_, (List.range len).map q, rfl, ⟨some a, cap, by simp, by simpa using hl, row_fam atF 2 (by omega) (fun _ => rfl) a len q W (fun i hi j hj => ?_)⟩, by simpa using hlen, fun z hz => ?_⟩
 ·obtain ⟨c0, c1, _, _⟩ := hx i (by omega)
  obtain ⟨e0, e1, _, _⟩ := hq i hi
  rcases j with _ | _ | j
  ·rw [Nat.add_zero, c0, e0]; rfl
  ·rw [c1, e1]; rfl
  ·omega
 ·obtain ⟨i, hi, rfl⟩ := List.mem_map.1 hz
  exact hsz i (List.mem_range.1 hi)
theorem open_kids {fuel : Nat} {cs : List Value} {y : DataW H × List MemPlace} (h : DataW.trod enc Tryz.prog W base sp hd fuel 36 cs = some y) (hw : ∀ n ∈ y.1.weights Tryz.prog 36, n ≤ reachBytes) :
 ∃ (v : Value) (l : List Int), cs = [v] ∧ HasInts W v l ∧ l.length ≤ reachBytes := by
 rcases open_ints Tryz.underlying36 Tryz.underlying3 (by kernel_rfl) h with ⟨rfl, _⟩ | ⟨a, len, cap, zs, rfl, hb, hl, hm, hz, rfl, hcell, _⟩
 ·exact ⟨_, [], rfl, ⟨none, 0, rfl, .inl rfl⟩, Nat.zero_le _⟩
 have hlz : len ≤ zs.length := by rw [hz]; split <;> omega
 rw [weights_slice Tryz.underlying36] at hw
 have hlen : len ≤ reachBytes := by
  have h1 := hw _ (List.mem_cons_self ..)
  have h2 : 0 < Tryz.prog.bytesOf 3 := by rw [show Tryz.prog.bytesOf 3 = 8 by kernel_rfl]; omega
  have h3 : len ≤ (lits .i64 (zs.take len) : List (DataW H)).length := by unfold lits; rw [List.length_map, List.length_take]; omega
  exact Nat.le_trans (Nat.le_trans (Nat.le_trans h3 (Nat.le_add_right _ _)) (Nat.le_mul_of_pos_right _ h2)) h1
 have hll : (zs.take len).length = len := by rw [List.length_take]; omega
 refine ⟨_, zs.take len, rfl, ⟨some a, cap, by rw [hll], ?_⟩, by rw [hll]; exact hlen⟩
 by_cases h0 : len = 0
 ·subst h0; exact .inl rfl
 ·refine .inr ⟨a, rfl, ?_, fun j u hu => ?_⟩
  ·have h1 := hcell 0 (by omega)
   have h2 := Lib.lt_of_cell h1
   rwa [addrBlock] at h2
  ·rw [List.getElem?_map, Option.map_eq_some_iff] at hu
   obtain ⟨z, hz1, rfl⟩ := hu
   have hj := (List.getElem?_eq_some_iff.1 hz1).1
   rw [hll] at hj
   rw [hcell j (by omega)]
   rw [List.getElem?_take, if_pos hj] at hz1
   rw [List.getD_eq_getElem?_getD, hz1]
   rfl
theorem open_nodes {fuel : Nat} {cs : List Value} {y : DataW H × List MemPlace} (h : DataW.trod enc Tryz.prog W base sp hd fuel 28 cs = some y) (hw : ∀ n ∈ y.1.weights Tryz.prog 28, n ≤ reachBytes) :
 ∃ (a : Option Addr) (c : Nat) (ns : List NxM), cs = [.slice a ns.length c] ∧ HasTree W a ns ∧ ns.length ≤ reachBytes ∧ ∀ p ∈ ns, SmallN reachBytes p.1 := by
 rcases open_slice Tryz.underlying28 h with ⟨rfl, _⟩ | ⟨a, len, cap, m, n, D, Pl, rfl, hb, hl, hm, hmm, rfl, hx⟩
 ·exact ⟨none, 0, [], rfl, ⟨.inl rfl, fun p hp => (by cases hp), fun p hp => (by cases hp)⟩, Nat.zero_le _, fun p hp => (by cases hp)⟩
 have hlm : len ≤ m := by rw [hmm]; split <;> omega
 have hc6 : Tryz.prog.cellsOf 38 = 6 := by kernel_rfl
 rw [weights_slice Tryz.underlying28] at hw
 have hlen : len ≤ reachBytes := by
  have h1 := hw _ (List.mem_cons_self ..)
  rw [List.length_map, List.length_range] at h1
  have h2 : 0 < Tryz.prog.bytesOf 38 := by rw [show Tryz.prog.bytesOf 38 = 96 by kernel_rfl]; omega
  exact Nat.le_trans (Nat.le_trans (Nat.le_add_right _ _) (Nat.le_mul_of_pos_right _ h2)) h1
 have each : ∀ i, i < len → ∃ p : NxM, (∀ j, j < 6 → W.cell? (a.add (i * 6 + j)) = (nxF p)[j]?) ∧ HasAt W p.2.1 p.1.attrs ∧ HasInts W p.2.2 p.1.kids ∧ SmallN reachBytes p.1 := fun i hi => by
  obtain ⟨cs', h1, h2⟩ := hx i (by omega)
  rw [hc6] at h1
  obtain ⟨_, hcl, hcell⟩ := World.cells?_some h1
  obtain ⟨xs, k, hk, hxy, _, hxl, hf⟩ := DataW.trod_struct Tryz.underlying38 h2
  have hmem : D i ∈ (List.range len).map D := List.mem_map.2 ⟨i, List.mem_range.2 hi, rfl⟩
  have hall : ∀ n ∈ (D i).weights Tryz.prog 38, n ≤ reachBytes := fun n hn => hw n (List.mem_cons_of_mem _ (List.mem_append_left _ (weights_mem hmem hn)))
  simp only [Prod.mk.injEq] at hxy
  rw [hxy.1, weights_agg Tryz.underlying38] at hall
  obtain ⟨y0, y1, y2, y3, y4, y5, rfl⟩ := six_of (show xs.length = 6 from hxl)
  obtain ⟨v0, v1, v2, v3, v4, v5, rfl⟩ := six_of hcl
  simp only [List.map_cons, weights_cons] at hall
  have g0 := hf 0 _ rfl
  have g1 := hf 1 _ rfl
  have g2 := hf 2 _ rfl
  have g3 := hf 3 _ rfl
  have g4 := hf 4 _ rfl
  have g5 := hf 5 _ rfl
  simp [show Tryz.prog.cellsOf 5 = 1 by kernel_rfl, show Tryz.prog.cellsOf 9 = 1 by kernel_rfl, show Tryz.prog.cellsOf 23 = 1 by kernel_rfl, show Tryz.prog.cellsOf 3 = 1 by kernel_rfl, show Tryz.prog.cellsOf 36 = 1 by kernel_rfl] at g0 g1 g2 g3 g4 g5
  obtain ⟨kd, e0, _, hwf⟩ := DataW.trod_int Tryz.underlying5 g0
  obtain ⟨s1, e1, f1, _⟩ := DataW.trod_string Tryz.underlying9 g1
  obtain ⟨at2, l2, e2, hat, hal, has⟩ := open_attrs g2 (fun n hn => hall n (by simp [hn]))
  obtain ⟨s3, e3, f3, _⟩ := DataW.trod_string Tryz.underlying9 g3
  obtain ⟨up, e4, _, _⟩ := DataW.trod_int Tryz.underlying3 g4
  obtain ⟨ki5, l5, e5, hki, hkl⟩ := open_kids g5 (fun n hn => hall n (by simp [hn]))
  simp only [List.cons.injEq, and_true] at e0 e1 e2 e3 e4 e5
  rw [f1, f3, weights_str, weights_str] at hall
  have hk0 : (kd.toNat : Int) = kd := by
   simp only [Lit.wf, IntKind.min, IntKind.max, IntKind.signed, IntKind.bits, Bool.and_eq_true] at hwf
   exact Int.toNat_of_nonneg (by simpa using hwf.1)
  refine ⟨(⟨kd.toNat, sl s1, l2, sl s3, up, l5⟩, at2, ki5), fun j hj => ?_, hat, hki, ?_⟩
  ·have := hcell j hj
   rw [add_add] at this
   rw [this, e0, e1, e2, e3, e4, e5]
   unfold nxF
   rw [strOf_sl, strOf_sl, hk0]
  ·exact ⟨hall _ (by simp [sl]), hall _ (by simp [sl]), hkl, hal, has⟩
 haveI : Inhabited NxM := ⟨(nxD, .bool false, .bool false)⟩
 obtain ⟨q, hq⟩ := choose_lt each
 have hlq : ((List.range len).map q).length = len := by simp
 refine ⟨some a, cap, (List.range len).map q, by rw [hlq], ⟨row_fam nxF 6 (by omega) (fun _ => rfl) a len q W (fun i hi j hj => (hq i hi).1 j hj), fun p hp => ?_, fun p hp => ?_⟩, by rw [hlq]; exact hlen, fun p hp => ?_⟩
 ·obtain ⟨i, hi, rfl⟩ := List.mem_map.1 hp
  exact (hq i (List.mem_range.1 hi)).2.1
 ·obtain ⟨i, hi, rfl⟩ := List.mem_map.1 hp
  exact (hq i (List.mem_range.1 hi)).2.2.1
 ·obtain ⟨i, hi, rfl⟩ := List.mem_map.1 hp
  exact (hq i (List.mem_range.1 hi)).2.2.2
end
end Go.Proofs.YtlcijlklbabajaaGreatDoor
