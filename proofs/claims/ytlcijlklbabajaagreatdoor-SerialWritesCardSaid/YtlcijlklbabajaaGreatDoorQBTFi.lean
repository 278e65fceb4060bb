/-
  Package tree's text. Condition: the nodes' number is bounded, and what a text's data come to.
-/
import Derived.Test.YtlcijlklbabajaaGreatDoorQBAddA
import Derived.Deep.RegionHeld3
import Derived.Deep.DeepCutAuto
import Derived.Test.YtlcijlklbabajaaGreatDoorQBStC
namespace Go.Proofs.YtlcijlklbabajaaGreatDoor
open Go.RowKit
theorem BdM.dchg {B b : Nat} {ns : List NdM} {st : List Opn} {bs bs' : List UInt8} {cs cs' : Array Value} {tv : Value} {w w' : World} (hd : DataAt B b cs bs w) (h0 : cs[0]? = some tv) (ht : TreeRow B tv ns w) (hs : StackAt B b 1 cs 94 st w) (hpos : 0 < ns.length) (hd' : DataAt B b cs' bs' w') (e0 : cs'[0]? = cs[0]?) (e1 : cs'[1]? = cs[1]?) (hc : DChg B b w w') : BdM B b ns st bs' w' :=
 ⟨cs', tv, hd', e0.trans h0, ht.dchg hd.1 hc, hs.dchg hc hd'.1 e1, hpos⟩
def textPost (B b : Nat) (ns : List NdM) (st : List Opn) (bs d : List UInt8) (p : NdM) (w : World) (e : Ending) (w' : World) : Prop :=
 if d = [] then e = .returned (.int .i64 0) ∧ Below w.heap.size w w'
 else if p.1.kind = 2 ∧ p.1.up = ((topO st).node : Int) then e = .returned (.int .i64 0) ∧ Below B w w' ∧ BdM B b ns st (bs ++ d) w'
 else if 16384 ≤ ns.length then e = .returned (.int .i64 3) ∧ Below w.heap.size w w'
 else e = .returned (.int .i64 0) ∧ Below B w w' ∧ ∃ kv, BdM B b (kidN (endNs ns bs p) (topO st).node kv ns.length ++ [(⟨2, [], [], [], ((topO st).node : Int), []⟩, .slice none 0 0, .slice none 0 0)]) st d w'
set_option maxHeartbeats 4000000 in
set_option maxRecDepth 100000 in
theorem btext_any {B b g cap : Nat} {cs : Array Value} {ns : List NdM} {st : List Opn} {bs : List UInt8} {w : World} (h : BdU B b cs g cap ns st bs w) (hn : ns.length ≤ 16384) (p : NdM) (hp : ns[ns.length - 1]? = some p) (h2 : p.1.kind = 2 → bs ≠ []) (h2n : p.1.kind ≠ 2 → bs = []) (hst : st.length ≤ 10000) (hup : (topO st).node < ns.length) (hks : ∀ q ∈ ns, q.1.kids.length ≤ 16384)
 (d : List UInt8) (hsm : bs.length + d.length ≤ 1000000000) (hB : B ≤ w.heap.size) :
 Calls Tryz.prog 63 #[.pointer (some ⟨b, 0, none⟩), .string (strOf d)] w (textPost B b ns st bs d p w) := by
 obtain ⟨sd, hsd⟩ : ∃ s, s = strOf d := ⟨_, rfl⟩
 by_cases hd0 : d = []
 ·subst hd0
  unfold textPost
  simp only [if_pos]
  rw [show strOf [] = ⟨#[]⟩ from rfl]
  go_enter Tryz.func63, Tryz.ntmps63
  go_wp2_with fail
  go_ret
  exact ⟨rfl, Below.refl _ _⟩
 ·have hse : (strOf d).toList.isEmpty = false := not_empty (by
   rw [size_strOf]
   exact List.length_pos_iff.2 hd0)
  have hse0 : (⟨#[]⟩ : ByteArray).toList = [] := by rw [Lib.toList_data]
  rw [← hsd] at hse ⊢
  have HS := hid_mk hsd
  obtain ⟨hd, htv, htr, hsk, hpos⟩ := h
  obtain ⟨g', cap', cur, hv, hBg, hg, hgz, hcap, hc⟩ := htr.look hpos
  injection hv with hv _ hvc
  injection hv with hv
  injection hv with hv
  subst hv hvc
  have hl : ns.length - 1 < ns.length := by omega
  have hpe : ns[ns.length - 1] = p := by
   rw [List.getElem?_eq_getElem hl] at hp
   injection hp
  have c0 : w.cell? ⟨b, 0, none⟩ = some (.slice (some ⟨g, 0, none⟩) ns.length cap) := by rw [cell_of_row w b 0 _ _ _ hd.1]; exact htv
  have k0 := hc (ns.length - 1) hl 0 (by decide)
  have k1 := hc (ns.length - 1) hl 1 (by decide)
  have k2 := hc (ns.length - 1) hl 2 (by decide)
  have k3 := hc (ns.length - 1) hl 3 (by decide)
  have k4 := hc (ns.length - 1) hl 4 (by decide)
  have k5 := hc (ns.length - 1) hl 5 (by decide)
  have hmem : p ∈ ns := List.mem_of_getElem? hp
  obtain ⟨aa, ac, hav⟩ := own_slice (htr.attrs p hmem)
  obtain ⟨ka, kc, hkv⟩ := own_slice (htr.kids p hmem)
  rw [hpe] at k0 k1 k2 k3 k4 k5
  have k0 : w.cell? ⟨g, (ns.length - 1) * 6, none⟩ = some (.int .u8 (p.1.kind : Int)) := k0
  have k1 : w.cell? ⟨g, (ns.length - 1) * 6 + 1, none⟩ = some (.string (strOf p.1.name)) := k1
  have k2 : w.cell? ⟨g, (ns.length - 1) * 6 + 2, none⟩ = some (.slice aa p.1.attrs.length ac) := by rw [k2]; exact congrArg some hav
  have k3 : w.cell? ⟨g, (ns.length - 1) * 6 + 3, none⟩ = some (.string (strOf p.1.data)) := k3
  have k4 : w.cell? ⟨g, (ns.length - 1) * 6 + 4, none⟩ = some (.int .i64 p.1.up) := k4
  have k5 : w.cell? ⟨g, (ns.length - 1) * 6 + 5, none⟩ = some (.slice ka p.1.kids.length kc) := by rw [k5]; exact congrArg some hkv
  obtain ⟨n, hnn⟩ : ∃ n, n = ns.length := ⟨_, rfl⟩
  have H := hid_mk (And.intro (show BdU B b cs g cap ns st bs w from ⟨hd, htv, htr, hsk, hpos⟩) (And.intro hp (And.intro h2 (And.intro h2n (And.intro hst (And.intro hup (And.intro hks (And.intro hsm (And.intro hd0 (And.intro hBg hn))))))))))
  rw [← hnn] at c0 k0 k1 k2 k3 k4 k5 hpos hn
  have ha : IntKind.i64.wrap ((n : Int) - 1) = (n : Int) - 1 := IntWalk.i64_in _ (by omega)
  have i0 : (0 : Int) ≤ (n : Int) - 1 := by omega
  have i1 : (1 : Int) ≤ (n : Int) := by omega
  have i3 : ((n : Int) - 1).toNat = n - 1 := by omega
  have i4 : (n : Int) - 1 < (n : Int) := by omega
  generalize p.1.attrs.length = al at k2
  generalize p.1.kids.length = kl at k5
  have hbl : b < w.heap.size := (Array.getElem?_eq_some_iff.1 hd.1).1
  have hgl : g < w.heap.size := (Array.getElem?_eq_some_iff.1 hg).1
  have HN := hid_mk hnn
  clear hd htv htr hsk hp h2 h2n hst hup hks hsm hd0 hBg hgz hcap hc hl hpe hmem hav hkv hg hnn hsd
  go_enter Tryz.func63, Tryz.ntmps63
  go_upto_region 3 with fail
  go_cut [5] from 9 to 20 (fun s5 wx => s5 = .pointer (some ⟨w.heap.size, 0, none⟩) ∧ wx = (w.alloc (.cells #[.int .u8 (p.1.kind : Int), .string (strOf p.1.name), .slice aa al ac, .string (strOf p.1.data), .int .i64 p.1.up, .slice ka kl kc] 38 (0, 0))).drew)
  case first =>
   go_region_law (fail)
   all_goals
    go_wp2_with fail
    go_meet
    exact ⟨rfl, rfl⟩
  case rest =>
   obtain ⟨rfl, hw1⟩ := hcut
   clear k0 k1 k2 k3 k4 k5 c0 ha i0 i1 i3 i4
   obtain ⟨hbu, hp, h2, h2n, hst, hup, hks, hsm, hd0, hBg, hn0⟩ := H.out
   obtain ⟨hd, htv, htr, ⟨s1, s2, s3, sv, s4, s5⟩, hpos2⟩ := hbu
   have hal : Below w.heap.size w wc := by rw [hw1]; exact ((Below.refl _ _).alloc (Nat.le_refl _) _).drew
   have hL : wc.heap[w.heap.size]? = some (.cells #[.int .u8 (p.1.kind : Int), .string (strOf p.1.name), .slice aa al ac, .string (strOf p.1.data), .int .i64 p.1.up, .slice ka kl kc] 38 (0, 0)) := by rw [hw1]; exact heap_alloc_new w _
   have hbc : wc.heap[b]? = some (.cells cs 94 (0, 0)) := (hal.block b hbl).trans s1
   have l0 : wc.cell? ⟨w.heap.size, 0, none⟩ = some (.int .u8 (p.1.kind : Int)) := by rw [cell_of_row wc _ 0 _ _ _ hL]; rfl
   have l4 : wc.cell? ⟨w.heap.size, 4, none⟩ = some (.int .i64 p.1.up) := by rw [cell_of_row wc _ 4 _ _ _ hL]; rfl
   have lb : wc.cell? ⟨b, 1, none⟩ = some sv := by rw [cell_of_row wc b 1 _ _ _ hbc]; exact s4
   have hkeep := hid_mk (show ∀ w', Below wc.heap.size wc w' → w'.cell? ⟨w.heap.size, 0, none⟩ = some (.int .u8 (p.1.kind : Int)) ∧ w'.cell? ⟨w.heap.size, 4, none⟩ = some (.int .i64 p.1.up) ∧ w'.cell? ⟨b, 1, none⟩ = some sv ∧ Below wc.heap.size wc w' from by
    intro w' hb'
    refine ⟨?_, ?_, ?_, hb'⟩
    ·rw [cell_of_row w' _ 0 _ _ _ ((hb'.block _ (Array.getElem?_eq_some_iff.1 hL).1).trans hL)]; rfl
    ·rw [cell_of_row w' _ 4 _ _ _ ((hb'.block _ (Array.getElem?_eq_some_iff.1 hL).1).trans hL)]; rfl
    ·rw [cell_of_row w' b 1 _ _ _ ((hb'.block _ (Array.getElem?_eq_some_iff.1 hbc).1).trans hbc)]; exact s4)
   have htop := hid_mk (show ∀ w', Below wc.heap.size wc w' → Calls Tryz.prog 100 #[sv] w' fun e w2 => e = .returned (opA (topO st)) ∧ Below w'.heap.size w' w2 from fun w' hb' => top_any B sv st w' ((s5.below hal).below hb') (by omega))
   obtain ⟨o, ho⟩ : ∃ o, o = topO st := ⟨_, rfl⟩
   rw [← ho] at htop
   unfold opA at htop
   have HO := hid_mk ho
   have HA := hid_mk hal
   have hfd := opField0 o
   clear hp h2 h2n hst hup hks hsm hd0 hBg hn0 hd htv htr s1 s2 s3 s4 s5 hal hL hbc hw1 hpos2 ho
   go_upto_region 4 with fail
   go_cut [34] from 21 to 34 (fun s34 wx => s34 = .bool (!(decide (p.1.kind = 2) && decide (p.1.up = (o.node : Int)))) ∧ Below w.heap.size w wx)
   case first =>
    by_cases hk : p.1.kind = 2
    ·rw [hk] at l0 hkeep
     have l0 : wc.cell? ⟨w.heap.size, 0, none⟩ = some (.int .u8 2) := l0
     have hkeep : Hid (∀ w', Below wc.heap.size wc w' → w'.cell? ⟨w.heap.size, 0, none⟩ = some (.int .u8 2) ∧ w'.cell? ⟨w.heap.size, 4, none⟩ = some (.int .i64 p.1.up) ∧ w'.cell? ⟨b, 1, none⟩ = some sv ∧ Below wc.heap.size wc w') := hkeep
     have HK := hid_mk hk
     clear hk
     go_region_held3 (fun w' => w'.cell? ⟨w.heap.size, 0, none⟩ = some (.int .u8 2) ∧ w'.cell? ⟨w.heap.size, 4, none⟩ = some (.int .i64 p.1.up) ∧ w'.cell? ⟨b, 1, none⟩ = some sv ∧ Below wc.heap.size wc w')
      (first
       | exact hkeep.out _ (below_drewN (Below.refl _ _) 1)
       | (go_split_ands; exact hkeep.out _ ((‹Below wc.heap.size wc _›).trans (nA.mono (‹Below wc.heap.size wc _›).size))))
      (first
       | (go_at_call 100; go_split_ands; (with_reducible refine (htop.out _ (by assumption)).mono ?_); rintro e w3 ⟨rfl, nA⟩))
     all_goals
      go_split_ands
      go_wp2_with fail
      go_meet
      refine ⟨?_, HA.out.trans ((‹Below wc.heap.size wc w3›).mono HA.out.size)⟩
      rw [HK.out]
      by_cases hu : p.1.up = (o.node : Int) <;> simp [hu]
    ·have hq : ((p.1.kind : Int) == 2) = false := beq_false_of_ne (by omega)
     have hqn : ((p.1.kind : Int) != 2) = true := by rw [bne, hq]; rfl
     have HK := hid_mk hk
     clear hk
     go_quiet (fail)
     go_wp2_with fail
     go_meet
     refine ⟨?_, HA.out.trans (below_drewN ((Below.refl _ _).mono HA.out.size) nq)⟩
     rw [decide_eq_false HK.out]
     rfl
   case rest =>
    obtain ⟨rfl, hb4⟩ := hcut
    clear l0 l4 lb hkeep htop hfd
    obtain ⟨hbu, hp, h2, h2n, hst, hup, hks, hsm, hd0, hBg, hn0⟩ := H.out
    have hbu4 := hbu.below hb4
    by_cases hsame : p.1.kind = 2 ∧ p.1.up = (o.node : Int)
    ·rw [HO.out] at hsame
     have HP := hid_mk (And.intro hd0 hsame)
     rw [← HO.out] at hsame
     rw [decide_eq_true hsame.1, decide_eq_true hsame.2]
     have hw := hid_mk (writeString_at d hbu4.1 hsm)
     have HB4 := hid_mk (And.intro hbu4 (And.intro hb4 hB))
     clear hbu hp h2 h2n hst hup hks hsm hd0 hBg hn0 hbu4 hb4 hsame hB
     go_wp2_with fail
     rw [HS.out]
     (with_reducible refine hw.out.mono ?_)
     rintro e w5 ⟨rfl, cs5, hd5, e0, e1, hch⟩
     obtain ⟨⟨hd, htv, htr, hsk, hps⟩, hb4, hB⟩ := HB4.out
     have HF := hid_mk (show Below B w w5 ∧ BdM B b ns st (bs ++ d) w5 from
      ⟨(hb4.mono hB).trans (hch.low hd.2.2.1 (by have := hb4.size; omega)), BdM.dchg hd htv htr hsk hps hd5 e0 e1 hch⟩)
     clear hd htv htr hsk hps hb4 hB hd5 e0 e1 hch
     go_wp2_with fail
     go_ret
     unfold textPost
     rw [if_neg HP.out.1, if_pos HP.out.2]
     exact ⟨rfl, HF.out⟩
    ·have hnb : (decide (p.1.kind = 2) && decide (p.1.up = (o.node : Int))) = false := by
      rw [Bool.and_eq_false_iff]
      by_cases hk : p.1.kind = 2
      ·exact .inr (decide_eq_false (fun e => hsame ⟨hk, e⟩))
      ·exact .inl (decide_eq_false hk)
     rw [HO.out] at hsame
     have HP := hid_mk (And.intro hd0 hsame)
     rw [hnb]
     have hadd := hid_mk (add_any hbu4 hn0 p hp h2 hst hup hks 2 [] [] [] (.slice none 0 0) 0 (World.ownsRow_nil _ _ _ _) (by have := hb4.size; omega))
     unfold nodeA at hadd
     rw [show ((2 : Nat) : Int) = 2 from rfl, show strOf [] = ⟨#[]⟩ from rfl] at hadd
     have HB4 := hid_mk (And.intro hb4 (And.intro hB (And.intro h2n hsm)))
     clear hbu hp h2 h2n hst hup hks hsm hd0 hBg hn0 hbu4 hb4 hsame hB hnb
     go_wp2_with fail
     (with_reducible refine hadd.out.mono ?_)
     intro e w5 hpost
     by_cases hlim : 16384 ≤ ns.length
     ·rw [if_pos hlim] at hpost
      obtain ⟨rfl, hb5⟩ := hpost
      have HF := hid_mk (show Below w.heap.size w w5 from HB4.out.1.trans (hb5.mono HB4.out.1.size))
      clear hb5
      go_wp2_with fail
      go_ret
      unfold textPost
      rw [if_neg HP.out.1, if_neg HP.out.2, if_pos hlim]
      exact ⟨rfl, HF.out⟩
     ·rw [if_neg hlim] at hpost
      obtain ⟨rfl, hb5, _, kv, cs5, tv, hd5, htv5, htr5, hsk5, hps5⟩ := hpost
      have hes : endBs bs p = [] := by
       unfold endBs
       split
       ·rfl
       ·exact HB4.out.2.2.1 (by assumption)
      rw [hes] at hd5
      have hw := hid_mk (writeString_at d hd5 (by have := HB4.out.2.2.2; simp only [List.length_nil]; omega))
      have H5 := hid_mk (And.intro hb5 (And.intro hd5 (And.intro htv5 (And.intro htr5 (And.intro hsk5 hps5)))))
      have HL := hid_mk hlim
      clear hb5 hd5 htv5 htr5 hsk5 hps5 hes hlim
      go_wp2_with fail
      rw [HS.out]
      (with_reducible refine hw.out.mono ?_)
      rintro e w6 ⟨rfl, cs6, hd6, e0, e1, hch⟩
      obtain ⟨hb5, hd5, htv5, htr5, hsk5, hps5⟩ := H5.out
      have HF := hid_mk (show Below B w w6 ∧ ∃ kv, BdM B b (kidN (endNs ns bs p) (topO st).node kv ns.length ++ [(⟨2, [], [], [], ((topO st).node : Int), []⟩, .slice none 0 0, .slice none 0 0)]) st d w6 from
       ⟨((HB4.out.1.mono HB4.out.2.1).trans hb5).trans (hch.low hd5.2.2.1 (by have := hd5.2.2.1; have := (Array.getElem?_eq_some_iff.1 hd5.1).1; omega)), kv, BdM.dchg hd5 htv5 htr5 hsk5 hps5 hd6 e0 e1 hch⟩)
      clear hb5 hd5 htv5 htr5 hsk5 hps5 hd6 e0 e1 hch
      go_wp2_with fail
      go_ret
      unfold textPost
      rw [if_neg HP.out.1, if_neg HP.out.2, if_neg HL.out]
      exact ⟨rfl, HF.out⟩
end Go.Proofs.YtlcijlklbabajaaGreatDoor
namespace Go.Proofs.YtlcijlklbabajaaGreatDoor
open Go.RowKit
set_option maxHeartbeats 2000000 in
set_option maxRecDepth 100000 in
theorem cloneAttrs_go (g cap : Nat) (l : List Atr) (w : World) (h : HasAttrs w (some ⟨g, 0, none⟩) l) (hl : l.length ≤ 100000) (hs : ∀ a ∈ l, a.1.length ≤ 1000000000 ∧ a.2.length ≤ 1000000000) :
 Calls Tryz.prog 104 #[.slice (some ⟨g, 0, none⟩) l.length cap] w fun e w' => ∃ v, e = .returned v ∧ AtRow w.heap.size v l w' ∧ Below w.heap.size w w' := by
 obtain ⟨i0, hi, hz0, hz1, hz2⟩ := info_parts infoAttr
 have HI := hid_mk (And.intro hi (And.intro hz0 (And.intro hz1 hz2)))
 obtain ⟨n, hn⟩ : ∃ n, n = l.length := ⟨_, rfl⟩
 rw [← hn] at hl ⊢
 have HN := hid_mk hn
 have HH := hid_mk h
 have HS := hid_mk hs
 clear hn h hs hi hz0 hz1 hz2
 go_enter Tryz.func104, Tryz.ntmps104
 go_wp2_with fail
 go_loopw [3, 8] (fun c i wr => ∃ k : Nat, k ≤ n ∧ i = .int .i64 k ∧ Hid (AtRow w.heap.size c (l.take k) wr) ∧ Hid (Below w.heap.size w wr)) (fun _ i _ => n - (intOf i).toNat)
 case atStart => exact ⟨0, Nat.zero_le _, rfl, hid_mk (World.ownsRow_nil _ _ _ _), hid_mk (Below.refl _ _)⟩
 case round =>
  obtain ⟨k, hk, rfl, hR, hW⟩ := hrel
  generalize wr = wo at *
  by_cases hlt : k < n
  ·rcases HH.out.below hW.out with ⟨hx, _⟩ | ⟨g', hg, hgl, hcell⟩
   ·cases hx
   ·obtain rfl : g = g' := by injection hg with hg; injection hg
    have hkl : k < l.length := by rw [← HN.out]; exact hlt
    have hc := hcell k hkl
    obtain ⟨e0, e1⟩ := hc
    have hsz := HS.out _ (List.getElem_mem hkl)
    obtain ⟨a, ha⟩ : ∃ a, a = l[k] := ⟨_, rfl⟩
    rw [← ha] at e0 e1 hsz
    have htk : l.take (k + 1) = l.take k ++ [a] := by rw [List.take_add_one, List.getElem?_eq_getElem hkl, ← ha]; rfl
    have HT := hid_mk htk
    obtain ⟨ca, cc, hca⟩ := own_slice hR.out
    have hlen : (l.take k).length = k := by rw [List.length_take]; omega
    rw [hlen] at hca
    have HZ := hid_mk (And.intro hsz hlen)
    obtain ⟨wl, hwl⟩ : ∃ wl, wl = wo.alloc (.cells #[.string (strOf a.1), .string (strOf a.2)] 40 (0, 0)) := ⟨_, rfl⟩
    have hol : Below wo.heap.size wo wl := by rw [hwl]; exact (Below.refl _ _).alloc (Nat.le_refl _) _
    have hL : wl.heap[wo.heap.size]? = some (.cells #[.string (strOf a.1), .string (strOf a.2)] 40 (0, 0)) := by rw [hwl]; exact heap_alloc_new wo _
    have hkeep := hid_mk (show ∀ w', Below wl.heap.size wl w' → w'.cell? ⟨wo.heap.size, 0, none⟩ = some (.string (strOf a.1)) ∧ w'.cell? ⟨wo.heap.size, 1, none⟩ = some (.string (strOf a.2)) ∧ Below wl.heap.size wl w' from by
     intro w' hb'
     have hL' := (hb'.block _ (Array.getElem?_eq_some_iff.1 hL).1).trans hL
     refine ⟨?_, ?_, hb'⟩
     ·rw [cell_of_row w' _ 0 _ _ _ hL']; rfl
     ·rw [cell_of_row w' _ 1 _ _ _ hL']; rfl)
    have hRl : AtRow w.heap.size (.slice ca k cc) (l.take k) wl := by rw [← hca]; exact hR.out.below hol
    have HRL := hid_mk (And.intro hRl (And.intro (hW.out.trans (hol.mono hW.out.size)) hW.out.size))
    have HWL := hid_mk hwl.symm
    rw [hca]
    have hkc : (k : Int) < (n : Int) := by omega
    have cl1 := hid_mk (fun w => clone_any (strOf a.1) w (by rw [size_strOf]; exact HZ.out.1.1))
    have cl2 := hid_mk (fun w => clone_any (strOf a.2) w (by rw [size_strOf]; exact HZ.out.1.2))
    have hcl0 := hkeep.out wl (Below.refl _ _)
    obtain ⟨m0, m1, _⟩ := hcl0
    clear hcell hsz ha htk hca hlen hwl hol hL hRl hR
    go_wp2_with fail
    rw [HWL.out]
    go_region_law
     (first
      | (obtain ⟨hi, hz0, hz1, hz2⟩ := HI.out
         obtain ⟨hRl, hwwl, hwsz⟩ := HRL.out
         obtain ⟨w5, hw5⟩ : ∃ w5, w5 = wB.alloc (.cells #[.string (strOf a.1), .string (strOf a.2)] 40 (0, 0)) := ⟨_, rfl⟩
         have b5 : Below wl.heap.size wl w5 := by rw [hw5]; exact bB.trans (((Below.refl _ _).alloc (Nat.le_refl _) _).mono bB.size)
         have hnew5 : w5.heap[wB.heap.size]? = some (.cells #[.string (strOf a.1), .string (strOf a.2)] 40 (0, 0)) := by rw [hw5]; exact heap_alloc_new wB _
         have hown5 : w5.ownsRow w.heap.size 40 2 (.slice ca k cc) k (atCells (l.take k)) := by
          have := hRl.below b5
          unfold AtRow at this
          rw [HZ.out.2] at this
          exact this
         have h5s : w.heap.size ≤ w5.heap.size := Nat.le_trans hwwl.size b5.size
         rw [← hw5]
         refine step_append_lies w5 rfl (.tmp 12) (.tmp 20) 23 rfl w.heap.size 40 i0 _ 2 32 Tryz.underlying23 hi hz0 hz1 hz2 rfl (by decide) _ k (atCells (l.take k)) rfl hown5 ⟨wB.heap.size, 0, none⟩ 1 1 [.string (strOf a.1), .string (strOf a.2)] rfl rfl (World.news_of_block hnew5) (by
          intro u hu
          simp only [List.mem_cons, List.not_mem_nil, or_false] at hu
          rcases hu with rfl | rfl <;> rfl) (by decide) (by unfold maxLen; omega) (by omega) h5s _ rfl ?_
         intro g6 cap6 w6 hown6 hgrow6 _ _
         have HE := hid_mk (show AtRow w.heap.size (.slice (some ⟨g6, 0, none⟩) (k + 1) cap6) (l.take (k + 1)) w6 from by
          unfold AtRow
          rw [HT.out, List.length_append, HZ.out.2, ← atCells_snoc]
          exact hown6)
         have HE2 := hid_mk (show Below w.heap.size w w6 from (hwwl.trans (b5.mono hwwl.size)).trans (grown_low hgrow6 (fun q hq => own_base hown5 q hq) h5s))
         clear hi hz0 hz1 hz2 hRl hwwl hwsz hw5 b5 hnew5 hown5 h5s hown6 hgrow6)
      | (go_simp
         go_at_call 103
         (with_reducible refine (cl1.out _).mono ?_)
         rintro e wA ⟨rfl, nA⟩
         have bA : Below wl.heap.size wl wA := ⟨nA.os, nA.tape, nA.output, nA.size, nA.block⟩
         obtain ⟨x0, x1, _⟩ := hkeep.out wA bA
         clear nA)
      | (go_simp
         go_at_call 103
         (with_reducible refine (cl2.out _).mono ?_)
         rintro e wB ⟨rfl, nB⟩
         have bB : Below wl.heap.size wl wB := bA.trans (nB.mono bA.size)
         obtain ⟨y0, y1, _⟩ := hkeep.out wB bB
         clear nB))
    all_goals
     go_wp2_with fail
     go_roundw
     case rel => exact ⟨k + 1, by omega, rfl, HE, HE2⟩
     case measure => simp [intOf]; omega
  ·have hin : ¬ (k : Int) < (n : Int) := by omega
   have hkn : k = n := by omega
   have HF := hid_mk (show AtRow w.heap.size _ l wo ∧ Below w.heap.size w wo from ⟨by have := hR.out; rw [hkn, HN.out, List.take_length] at this; exact this, hW.out⟩)
   clear hR hW
   go_wp2_with fail
   go_ret
   exact ⟨_, rfl, HF.out⟩
set_option maxHeartbeats 1000000 in
theorem cloneAttrs_nil (c : Nat) (w : World) :
 Calls Tryz.prog 104 #[.slice none 0 c] w fun e w' => e = .returned (.slice none 0 0) ∧ Below w.heap.size w w' := by
 go_enter Tryz.func104, Tryz.ntmps104
 go_wp2_with fail
 refine wp_loop_rounds 1 ?_
 rw [rounds_succ]
 go_wp2_with fail
 go_ret
 exact ⟨rfl, Below.refl _ _⟩
theorem cloneAttrs_any {B : Nat} {v : Value} {l : List Atr} {w : World} (h : AtRow B v l w) (hl : l.length ≤ 100000) (hs : ∀ a ∈ l, a.1.length ≤ 1000000000 ∧ a.2.length ≤ 1000000000) :
 Calls Tryz.prog 104 #[v] w fun e w' => ∃ v', e = .returned v' ∧ AtRow w.heap.size v' l w' ∧ Below w.heap.size w w' := by
 obtain ⟨a, c, rfl, ha⟩ := own_attrs h
 rcases ha with ⟨rfl, rfl⟩ | ⟨g, rfl, hgl, hc⟩
 ·refine (cloneAttrs_nil c w).mono ?_
  rintro e w' ⟨rfl, hb⟩
  exact ⟨_, rfl, World.ownsRow_nil _ _ _ _, hb⟩
 ·exact cloneAttrs_go g c l w (.inr ⟨g, rfl, hgl, hc⟩) hl hs
end Go.Proofs.YtlcijlklbabajaaGreatDoor
namespace Go.Proofs.YtlcijlklbabajaaGreatDoor
open Go.RowKit
theorem BdU.stpost {B b g cap : Nat} {cs : Array Value} {ns : List NdM} {st st' : List Opn} {bs : List UInt8} {w w' : World} (h : BdU B b cs g cap ns st bs w) (hp : StPost B b 1 cs 94 st' w w') (hB : B ≤ w.heap.size) : (∃ cs', BdU B b cs' g cap ns st' bs w') ∧ Below B w w' := by
 obtain ⟨⟨h1, h2, h3, h4, v, h5, h6⟩, htv, htr, _, hpos⟩ := h
 obtain ⟨cs', hs', hbut, hch⟩ := hp
 refine ⟨⟨cs', ⟨hs'.1, hbut.1.trans h2, h3, ?_, v, (hbut.2 3 (by decide)).trans h5, own_blocksF h6 (fun q cq fr hq => hch.blocks q _ hq (fun e => ?_) (.inr fun c2 f2 e => ?_))⟩, (hbut.2 0 (by decide)).trans htv, htr.schg h1 hch, hs', hpos⟩, hch.low h3 hB⟩
 ·rw [hbut.2 2 (by decide)]
  exact h4
 ·subst e
  rw [h1] at hq
  injection hq with hq
  injection hq with _ hq _
  exact absurd hq (by decide)
 ·injection e with _ e _
  exact absurd e (by decide)
def bendPost (B b g cap : Nat) (ns : List NdM) (st : List Opn) (bs : List UInt8) (nm : List UInt8) (w : World) (e : Ending) (w' : World) : Prop :=
 Below B w w' ∧ if kindL nm = 0 then e = .returned (.int .i64 50)
 else match closeE nm st with
  | some st' => e = .returned (.int .i64 0) ∧ ∃ cs', BdU B b cs' g cap ns st' bs w'
  | none => e = .returned (.int .i64 51)
set_option maxHeartbeats 2000000 in
set_option maxRecDepth 100000 in
theorem bend_any (hK : KindC) {B b g cap : Nat} {cs : Array Value} {ns : List NdM} {st : List Opn} {bs : List UInt8} {w : World} (h : BdU B b cs g cap ns st bs w) (nm : ByteArray) (hst : st.length ≤ 10000) (hs : nm.size ≤ 1000000000) (hne : sl nm ≠ []) (hB : B ≤ w.heap.size) :
 Calls Tryz.prog 65 #[.pointer (some ⟨b, 0, none⟩), .string nm] w (bendPost B b g cap ns st bs (sl nm) w) := by
 have hk := hid_mk (hK nm w hs)
 have hce := hid_mk (fun w' (hb : Below w.heap.size w w') => closeForEnd_st hK nm (h.below hb).2.2.2.1 hst hs hne)
 have H := hid_mk (And.intro h hB)
 obtain ⟨k, hkk⟩ : ∃ k, k = kindL (sl nm) := ⟨_, rfl⟩
 rw [← hkk] at hk
 have HKK := hid_mk hkk
 clear h hB hkk hs hne
 go_enter Tryz.func65, Tryz.ntmps65
 go_wp2_with fail
 (with_reducible refine hk.out.mono ?_)
 rintro e w1 ⟨rfl, hb1⟩
 have H1 := hid_mk hb1
 clear hb1
 by_cases hk0 : k = 0
 ·have hq : ((k : Int) == 0) = true := by rw [hk0]; rfl
  have hqn : (k == 0) = true := by rw [hk0]; rfl
  have HK0 := hid_mk hk0
  clear hk0
  go_wp2_with fail
  go_ret
  refine ⟨H1.out.mono H.out.2, ?_⟩
  rw [if_pos (HKK.out.symm.trans HK0.out)]
  rfl
 ·have hq : ((k : Int) == 0) = false := beq_false_of_ne (by omega)
  have hqn : (k == 0) = false := beq_false_of_ne hk0
  have HK0 := hid_mk hk0
  clear hk0
  go_wp2_with fail
  (with_reducible refine (hce.out _ H1.out).mono ?_)
  intro e w2 hp
  unfold EndPost at hp
  cases hc : closeE (sl nm) st with
  | some st' =>
    rw [hc] at hp
    obtain ⟨rfl, hp⟩ := hp
    have HF := hid_mk ((H.out.1.below H1.out).stpost hp (Nat.le_trans H.out.2 H1.out.size))
    have HC := hid_mk hc
    clear hp hc
    go_wp2_with fail
    go_ret
    refine ⟨(H1.out.mono H.out.2).trans HF.out.2, ?_⟩
    rw [if_neg (fun e => HK0.out (HKK.out.trans e)), HC.out]
    exact ⟨rfl, HF.out.1⟩
  | none =>
    rw [hc] at hp
    obtain ⟨rfl, st', hp⟩ := hp
    have HF := hid_mk ((H.out.1.below H1.out).stpost hp (Nat.le_trans H.out.2 H1.out.size))
    have HC := hid_mk hc
    clear hp hc
    go_wp2_with fail
    go_ret
    refine ⟨(H1.out.mono H.out.2).trans HF.out.2, ?_⟩
    rw [if_neg (fun e => HK0.out (HKK.out.trans e)), HC.out]
    rfl
set_option maxHeartbeats 2000000 in
set_option maxRecDepth 100000 in
theorem finish_any {B b g cap : Nat} {cs : Array Value} {ns : List NdM} {st : List Opn} {bs : List UInt8} {w : World} (h : BdU B b cs g cap ns st bs w) (hn : ns.length ≤ 1000000) (p : NdM) (hp : ns[ns.length - 1]? = some p) (h2 : p.1.kind = 2 → bs ≠ []) :
 Calls Tryz.prog 37 #[.pointer (some ⟨b, 0, none⟩)] w fun e w' => e = .returned (.slice (some ⟨g, 0, none⟩) ns.length cap) ∧ Below B w w' ∧ TreeRow B (.slice (some ⟨g, 0, none⟩) ns.length cap) (endNs ns bs p) w' := by
 have he := hid_mk (endText_any h hn p hp h2)
 obtain ⟨n, hnn⟩ : ∃ n, n = ns.length := ⟨_, rfl⟩
 rw [← hnn]
 have HN := hid_mk hnn
 clear h hn hp h2 hnn
 go_enter Tryz.func37, Tryz.ntmps37
 go_wp2_with fail
 (with_reducible refine he.out.mono ?_)
 rintro e w1 ⟨rfl, hlow, hke, hif⟩
 have hx : ∃ cs1, BdU B b cs1 g cap (endNs ns bs p) st (endBs bs p) w1 := by
  unfold endNs endBs
  by_cases hk : p.1.kind = 2
  ·rw [if_pos hk] at hif
   rw [if_pos hk, if_pos hk]
   exact hif
  ·rw [if_neg hk] at hif
   rw [if_neg hk, if_neg hk]
   exact ⟨cs, hif⟩
 obtain ⟨cs1, hd, htv, htr, _⟩ := hx
 rw [endNs_length, ← HN.out] at htv htr
 have c0 : w1.cell? ⟨b, 0, none⟩ = some (.slice (some ⟨g, 0, none⟩) n cap) := by rw [cell_of_row w1 b 0 _ _ _ hd.1]; exact htv
 have HF := hid_mk (And.intro hlow htr)
 clear hlow hke hif hd htv htr
 go_wp2_with fail
 go_ret
 exact ⟨rfl, HF.out⟩
end Go.Proofs.YtlcijlklbabajaaGreatDoor
namespace Go.Proofs.YtlcijlklbabajaaGreatDoor
open Go.RowKit
theorem newStack_any (w : World) :
 Calls Tryz.prog 62 #[] w fun e w' => e = .returned (.slice (some ⟨w.heap.size, 0, none⟩) 1 1) ∧ w' = w.alloc (.cells #[.int .i64 0, .string ⟨#[]⟩, .int .u8 0] 119 (0, 0)) := by
 go_enter Tryz.func62, Tryz.ntmps62
 go_wp2_with fail
 go_ret
 exact ⟨rfl, rfl⟩
theorem own_fresh {w : World} {base size g : Nat} {e : TypeId} {cs : Array Value} (h : w.heap[g]? = some (.cells cs e (0, 0))) (hb : base ≤ g) (hs : cs.size = size) : w.ownsRow base e size (.slice (some ⟨g, 0, none⟩) 1 1) 1 cs.toList := by
 refine ⟨by simp [hs], .inr ⟨g, 1, cs, rfl, hb, h, Nat.le_refl _, by unfold maxLen; omega, by omega, ?_⟩⟩
 rw [List.take_of_length_le (by simp [hs])]
set_option maxHeartbeats 1000000 in
set_option maxRecDepth 100000 in
theorem newBuilder_any (w : World) :
 Calls Tryz.prog 35 #[] w fun e w' => ∃ b g cs, e = .returned (.pointer (some ⟨b, 0, none⟩)) ∧ Below w.heap.size w w' ∧ BdU w.heap.size b cs g 1 [(⟨0, [], [], [], -1, []⟩, .slice none 0 0, .slice none 0 0)] [] [] w' := by
 go_enter Tryz.func35, Tryz.ntmps35
 go_wp2_with fail
 (with_reducible refine (newStack_any _).mono ?_)
 rintro e w1 ⟨rfl, rfl⟩
 go_wp2_with fail
 go_ret
 generalize hO1 : Obj.cells #[.int .u8 0, .string ⟨#[]⟩, .slice none 0 0, .string ⟨#[]⟩, .int .i64 (-1), .slice none 0 0] 38 (0, 0) = O1
 generalize hO2 : Obj.cells #[.int .i64 0, .string ⟨#[]⟩, .int .u8 0] 119 (0, 0) = O2
 generalize hO3 : Obj.cells #[.slice (some ⟨w.heap.size, 0, none⟩) 1 1, .slice (some ⟨w.heap.size + 1, 0, none⟩) 1 1, .pointer none, .slice none 0 0] 94 (0, 0) = O3
 obtain ⟨w1, h1⟩ : ∃ w1, w1 = w.alloc O1 := ⟨_, rfl⟩
 rw [← h1]
 obtain ⟨w2, h2⟩ : ∃ w2, w2 = w1.alloc O2 := ⟨_, rfl⟩
 rw [← h2]
 obtain ⟨w3, h3⟩ : ∃ w3, w3 = w2.alloc O3 := ⟨_, rfl⟩
 rw [← h3]
 have s1 : w1.heap.size = w.heap.size + 1 := by rw [h1]; simp
 have s2 : w2.heap.size = w.heap.size + 1 + 1 := by rw [h2, ← s1]; simp
 have b1 : Below w.heap.size w w1 := by rw [h1]; exact (Below.refl _ _).alloc (Nat.le_refl _) _
 have b2 : Below w1.heap.size w1 w2 := by rw [h2]; exact (Below.refl _ _).alloc (Nat.le_refl _) _
 have b3 : Below w2.heap.size w2 w3 := by rw [h3]; exact (Below.refl _ _).alloc (Nat.le_refl _) _
 have n1 : w1.heap[w.heap.size]? = some O1 := by rw [h1]; exact heap_alloc_new w O1
 have n2 : w2.heap[w.heap.size + 1]? = some O2 := by rw [h2, ← s1]; exact heap_alloc_new w1 O2
 have n3 : w3.heap[w.heap.size + 1 + 1]? = some O3 := by rw [h3, ← s2]; exact heap_alloc_new w2 O3
 have n2' : w3.heap[w.heap.size + 1]? = some O2 := (b3.block _ (by omega)).trans n2
 have n1' : w3.heap[w.heap.size]? = some O1 := (b3.block _ (by omega)).trans ((b2.block _ (by omega)).trans n1)
 rw [← hO1] at n1'
 rw [← hO2] at n2'
 rw [← hO3] at n3
 refine ⟨w.heap.size + 1 + 1, w.heap.size, _, rfl, b1.trans ((b2.mono b1.size).trans (b3.mono (Nat.le_trans b1.size b2.size))), ⟨n3, rfl, by omega, .inl rfl, _, rfl, ⟨rfl, .inl ⟨rfl, rfl⟩⟩⟩, rfl, ⟨?_, ?_, ?_, ?_⟩, ⟨n3, by decide, by omega, _, rfl, ?_⟩, by decide⟩
 ·exact own_fresh n1' (Nat.le_refl _) rfl
 ·intro p hp
  rw [List.mem_singleton.1 hp]
  exact World.ownsRow_nil _ _ _ _
 ·intro p hp
  rw [List.mem_singleton.1 hp]
  exact World.ownsRow_nil _ _ _ _
 ·exact List.pairwise_singleton ..
 ·exact own_fresh n2' (by omega) rfl
end Go.Proofs.YtlcijlklbabajaaGreatDoor
