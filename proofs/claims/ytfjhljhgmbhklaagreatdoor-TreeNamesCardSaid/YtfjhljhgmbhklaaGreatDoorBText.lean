/-
  Package tree's text. Condition: the nodes' number is bounded, and what a text's data come to.
-/
import Derived.Test.YtfjhljhgmbhklaaGreatDoorBAddA
import Derived.Deep.RegionHeld3
import Derived.Deep.DeepCutAuto
namespace Go.Proofs.YtfjhljhgmbhklaaGreatDoor
open Go.RowKit
theorem BdM.dchg {B b : Nat} {ns : List NdM} {st : List Opn} {bs bs' : List UInt8} {cs cs' : Array Value} {tv : Value} {w w' : World} (hd : DataAt B b cs bs w) (h0 : cs[0]? = some tv) (ht : TreeRow B tv ns w) (hs : StackAt B b 1 cs 89 st w) (hpos : 0 < ns.length) (hd' : DataAt B b cs' bs' w') (e0 : cs'[0]? = cs[0]?) (e1 : cs'[1]? = cs[1]?) (hc : DChg B b w w') : BdM B b ns st bs' w' :=
  ⟨cs', tv, hd', e0.trans h0, ht.dchg hd.1 hc, hs.dchg hc hd'.1 e1, hpos⟩
def textPost (B b : Nat) (ns : List NdM) (st : List Opn) (bs d : List UInt8) (p : NdM) (w : World) (e : Ending) (w' : World) : Prop :=
  if d = [] then e = .returned (.int .i64 0) ∧ Below w.heap.size w w'
  else if p.1.kind = 2 ∧ p.1.up = ((topO st).node : Int) then e = .returned (.int .i64 0) ∧ Below B w w' ∧ BdM B b ns st (bs ++ d) w'
  else if 16384 ≤ ns.length then e = .returned (.int .i64 3) ∧ Below w.heap.size w w'
  else e = .returned (.int .i64 0) ∧ Below B w w' ∧ ∃ kv, BdM B b (kidN (endNs ns bs p) (topO st).node kv ns.length ++ [(⟨2, [], [], [], ((topO st).node : Int), []⟩, .slice none 0 0, .slice none 0 0)]) st d w'
set_option maxHeartbeats 4000000 in
set_option maxRecDepth 100000 in
theorem btext_any {B b g cap : Nat} {cs : Array Value} {ns : List NdM} {st : List Opn} {bs : List UInt8} {w : World} (h : BdU B b cs g cap ns st bs w) (hn : ns.length ≤ 16384) (p : NdM) (hp : ns[ns.length - 1]? = some p) (h2 : p.1.kind = 2 → bs ≠ []) (h2n : p.1.kind ≠ 2 → bs = []) (hst : st.length ≤ 10000) (hup : (topO st).node < ns.length) (hks : ∀ q ∈ ns, q.1.kids.length ≤ 16384)
    (d : List UInt8) (hsm : bs.length + d.length ≤ 1000000000) (hB : B ≤ w.heap.size) :
    Calls Tryz.prog 52 #[.pointer (some ⟨b, 0, none⟩), .string (strOf d)] w (textPost B b ns st bs d p w) := by
  obtain ⟨sd, hsd⟩ : ∃ s, s = strOf d := ⟨_, rfl⟩
  by_cases hd0 : d = []
  · subst hd0
    unfold textPost
    simp only [if_pos]
    rw [show strOf [] = ⟨#[]⟩ from rfl]
    go_enter Tryz.func52, Tryz.ntmps52
    go_wp2_with fail
    go_ret
    exact ⟨rfl, Below.refl _ _⟩
  · have hse : (strOf d).toList.isEmpty = false := not_empty (by
      rw [size_strOf]
      exact List.length_pos_iff.2 hd0)
    have hse0 : (⟨#[]⟩ : ByteArray).toList = [] := by rw [Lib.toList_data]
    rw [← hsd] at hse ⊢
    have HS := hid_mk hsd
    obtain ⟨hd, htv, htr, hsk, hpos⟩ := h
    obtain ⟨g', cap', cur, hv, hBg, hg, hgz, hcap, hc⟩ := htr.look hpos
    injection hv with hv _ hvc
    injection hv with hv
    injection hv with hv
    subst hv hvc
    have hl : ns.length - 1 < ns.length := by omega
    have hpe : ns[ns.length - 1] = p := by
      rw [List.getElem?_eq_getElem hl] at hp
      injection hp
    have c0 : w.cell? ⟨b, 0, none⟩ = some (.slice (some ⟨g, 0, none⟩) ns.length cap) := by rw [cell_of_row w b 0 _ _ _ hd.1]; exact htv
    have k0 := hc (ns.length - 1) hl 0 (by decide)
    have k1 := hc (ns.length - 1) hl 1 (by decide)
    have k2 := hc (ns.length - 1) hl 2 (by decide)
    have k3 := hc (ns.length - 1) hl 3 (by decide)
    have k4 := hc (ns.length - 1) hl 4 (by decide)
    have k5 := hc (ns.length - 1) hl 5 (by decide)
    have hmem : p ∈ ns := List.mem_of_getElem? hp
    obtain ⟨aa, ac, hav⟩ := own_slice (htr.attrs p hmem)
    obtain ⟨ka, kc, hkv⟩ := own_slice (htr.kids p hmem)
    rw [hpe] at k0 k1 k2 k3 k4 k5
    have k0 : w.cell? ⟨g, (ns.length - 1) * 6, none⟩ = some (.int .u8 (p.1.kind : Int)) := k0
    have k1 : w.cell? ⟨g, (ns.length - 1) * 6 + 1, none⟩ = some (.string (strOf p.1.name)) := k1
    have k2 : w.cell? ⟨g, (ns.length - 1) * 6 + 2, none⟩ = some (.slice aa p.1.attrs.length ac) := by rw [k2]; exact congrArg some hav
    have k3 : w.cell? ⟨g, (ns.length - 1) * 6 + 3, none⟩ = some (.string (strOf p.1.data)) := k3
    have k4 : w.cell? ⟨g, (ns.length - 1) * 6 + 4, none⟩ = some (.int .i64 p.1.up) := k4
    have k5 : w.cell? ⟨g, (ns.length - 1) * 6 + 5, none⟩ = some (.slice ka p.1.kids.length kc) := by rw [k5]; exact congrArg some hkv
    obtain ⟨n, hnn⟩ : ∃ n, n = ns.length := ⟨_, rfl⟩
    have H := hid_mk (And.intro (show BdU B b cs g cap ns st bs w from ⟨hd, htv, htr, hsk, hpos⟩) (And.intro hp (And.intro h2 (And.intro h2n (And.intro hst (And.intro hup (And.intro hks (And.intro hsm (And.intro hd0 (And.intro hBg hn))))))))))
    rw [← hnn] at c0 k0 k1 k2 k3 k4 k5 hpos hn
    have ha : IntKind.i64.wrap ((n : Int) - 1) = (n : Int) - 1 := IntWalk.i64_in _ (by omega)
    have i0 : (0 : Int) ≤ (n : Int) - 1 := by omega
    have i1 : (1 : Int) ≤ (n : Int) := by omega
    have i3 : ((n : Int) - 1).toNat = n - 1 := by omega
    have i4 : (n : Int) - 1 < (n : Int) := by omega
    generalize p.1.attrs.length = al at k2
    generalize p.1.kids.length = kl at k5
    have hbl : b < w.heap.size := (Array.getElem?_eq_some_iff.1 hd.1).1
    have hgl : g < w.heap.size := (Array.getElem?_eq_some_iff.1 hg).1
    have HN := hid_mk hnn
    clear hd htv htr hsk hp h2 h2n hst hup hks hsm hd0 hBg hgz hcap hc hl hpe hmem hav hkv hg hnn hsd
    go_enter Tryz.func52, Tryz.ntmps52
    go_upto_region 3 with fail
    go_cut [5] from 9 to 20 (fun s5 wx => s5 = .pointer (some ⟨w.heap.size, 0, none⟩) ∧ wx = (w.alloc (.cells #[.int .u8 (p.1.kind : Int), .string (strOf p.1.name), .slice aa al ac, .string (strOf p.1.data), .int .i64 p.1.up, .slice ka kl kc] 38 (0, 0))).drew)
    case first =>
      go_region_law (fail)
      all_goals
        go_wp2_with fail
        go_meet
        exact ⟨rfl, rfl⟩
    case rest =>
      obtain ⟨rfl, hw1⟩ := hcut
      clear k0 k1 k2 k3 k4 k5 c0 ha i0 i1 i3 i4
      obtain ⟨hbu, hp, h2, h2n, hst, hup, hks, hsm, hd0, hBg, hn0⟩ := H.out
      obtain ⟨hd, htv, htr, ⟨s1, s2, s3, sv, s4, s5⟩, hpos2⟩ := hbu
      have hal : Below w.heap.size w wc := by rw [hw1]; exact ((Below.refl _ _).alloc (Nat.le_refl _) _).drew
      have hL : wc.heap[w.heap.size]? = some (.cells #[.int .u8 (p.1.kind : Int), .string (strOf p.1.name), .slice aa al ac, .string (strOf p.1.data), .int .i64 p.1.up, .slice ka kl kc] 38 (0, 0)) := by rw [hw1]; exact heap_alloc_new w _
      have hbc : wc.heap[b]? = some (.cells cs 89 (0, 0)) := (hal.block b hbl).trans s1
      have l0 : wc.cell? ⟨w.heap.size, 0, none⟩ = some (.int .u8 (p.1.kind : Int)) := by rw [cell_of_row wc _ 0 _ _ _ hL]; rfl
      have l4 : wc.cell? ⟨w.heap.size, 4, none⟩ = some (.int .i64 p.1.up) := by rw [cell_of_row wc _ 4 _ _ _ hL]; rfl
      have lb : wc.cell? ⟨b, 1, none⟩ = some sv := by rw [cell_of_row wc b 1 _ _ _ hbc]; exact s4
      have hkeep := hid_mk (show ∀ w', Below wc.heap.size wc w' → w'.cell? ⟨w.heap.size, 0, none⟩ = some (.int .u8 (p.1.kind : Int)) ∧ w'.cell? ⟨w.heap.size, 4, none⟩ = some (.int .i64 p.1.up) ∧ w'.cell? ⟨b, 1, none⟩ = some sv ∧ Below wc.heap.size wc w' from by
        intro w' hb'
        refine ⟨?_, ?_, ?_, hb'⟩
        · rw [cell_of_row w' _ 0 _ _ _ ((hb'.block _ (Array.getElem?_eq_some_iff.1 hL).1).trans hL)]; rfl
        · rw [cell_of_row w' _ 4 _ _ _ ((hb'.block _ (Array.getElem?_eq_some_iff.1 hL).1).trans hL)]; rfl
        · rw [cell_of_row w' b 1 _ _ _ ((hb'.block _ (Array.getElem?_eq_some_iff.1 hbc).1).trans hbc)]; exact s4)
      have htop := hid_mk (show ∀ w', Below wc.heap.size wc w' → Calls Tryz.prog 80 #[sv] w' fun e w2 => e = .returned (opA (topO st)) ∧ Below w'.heap.size w' w2 from fun w' hb' => top_any B sv st w' ((s5.below hal).below hb') (by omega))
      obtain ⟨o, ho⟩ : ∃ o, o = topO st := ⟨_, rfl⟩
      rw [← ho] at htop
      unfold opA at htop
      have HO := hid_mk ho
      have HA := hid_mk hal
      have hfd := opField0 o
      clear hp h2 h2n hst hup hks hsm hd0 hBg hn0 hd htv htr s1 s2 s3 s4 s5 hal hL hbc hw1 hpos2 ho
      go_upto_region 4 with fail
      go_cut [34] from 21 to 34 (fun s34 wx => s34 = .bool (!(decide (p.1.kind = 2) && decide (p.1.up = (o.node : Int)))) ∧ Below w.heap.size w wx)
      case first =>
        by_cases hk : p.1.kind = 2
        · rw [hk] at l0 hkeep
          have l0 : wc.cell? ⟨w.heap.size, 0, none⟩ = some (.int .u8 2) := l0
          have hkeep : Hid (∀ w', Below wc.heap.size wc w' → w'.cell? ⟨w.heap.size, 0, none⟩ = some (.int .u8 2) ∧ w'.cell? ⟨w.heap.size, 4, none⟩ = some (.int .i64 p.1.up) ∧ w'.cell? ⟨b, 1, none⟩ = some sv ∧ Below wc.heap.size wc w') := hkeep
          have HK := hid_mk hk
          clear hk
          go_region_held3 (fun w' => w'.cell? ⟨w.heap.size, 0, none⟩ = some (.int .u8 2) ∧ w'.cell? ⟨w.heap.size, 4, none⟩ = some (.int .i64 p.1.up) ∧ w'.cell? ⟨b, 1, none⟩ = some sv ∧ Below wc.heap.size wc w')
            (first
              | exact hkeep.out _ (below_drewN (Below.refl _ _) 1)
              | (go_split_ands; exact hkeep.out _ ((‹Below wc.heap.size wc _›).trans (nA.mono (‹Below wc.heap.size wc _›).size))))
            (first
              | (go_at_call 80; go_split_ands; (with_reducible refine (htop.out _ (by assumption)).mono ?_); rintro e w3 ⟨rfl, nA⟩))
          all_goals
            go_split_ands
            go_wp2_with fail
            go_meet
            refine ⟨?_, HA.out.trans ((‹Below wc.heap.size wc w3›).mono HA.out.size)⟩
            rw [HK.out]
            by_cases hu : p.1.up = (o.node : Int) <;> simp [hu]
        · have hq : ((p.1.kind : Int) == 2) = false := beq_false_of_ne (by omega)
          have hqn : ((p.1.kind : Int) != 2) = true := by rw [bne, hq]; rfl
          have HK := hid_mk hk
          clear hk
          go_quiet (fail)
          go_wp2_with fail
          go_meet
          refine ⟨?_, HA.out.trans (below_drewN ((Below.refl _ _).mono HA.out.size) nq)⟩
          rw [decide_eq_false HK.out]
          rfl
      case rest =>
        obtain ⟨rfl, hb4⟩ := hcut
        clear l0 l4 lb hkeep htop hfd
        obtain ⟨hbu, hp, h2, h2n, hst, hup, hks, hsm, hd0, hBg, hn0⟩ := H.out
        have hbu4 := hbu.below hb4
        by_cases hsame : p.1.kind = 2 ∧ p.1.up = (o.node : Int)
        · rw [HO.out] at hsame
          have HP := hid_mk (And.intro hd0 hsame)
          rw [← HO.out] at hsame
          rw [decide_eq_true hsame.1, decide_eq_true hsame.2]
          have hw := hid_mk (writeString_at d hbu4.1 hsm)
          have HB4 := hid_mk (And.intro hbu4 (And.intro hb4 hB))
          clear hbu hp h2 h2n hst hup hks hsm hd0 hBg hn0 hbu4 hb4 hsame hB
          go_wp2_with fail
          rw [HS.out]
          (with_reducible refine hw.out.mono ?_)
          rintro e w5 ⟨rfl, cs5, hd5, e0, e1, hch⟩
          obtain ⟨⟨hd, htv, htr, hsk, hps⟩, hb4, hB⟩ := HB4.out
          have HF := hid_mk (show Below B w w5 ∧ BdM B b ns st (bs ++ d) w5 from
            ⟨(hb4.mono hB).trans (hch.low hd.2.2.1 (by have := hb4.size; omega)), BdM.dchg hd htv htr hsk hps hd5 e0 e1 hch⟩)
          clear hd htv htr hsk hps hb4 hB hd5 e0 e1 hch
          go_wp2_with fail
          go_ret
          unfold textPost
          rw [if_neg HP.out.1, if_pos HP.out.2]
          exact ⟨rfl, HF.out⟩
        · have hnb : (decide (p.1.kind = 2) && decide (p.1.up = (o.node : Int))) = false := by
            rw [Bool.and_eq_false_iff]
            by_cases hk : p.1.kind = 2
            · exact .inr (decide_eq_false (fun e => hsame ⟨hk, e⟩))
            · exact .inl (decide_eq_false hk)
          rw [HO.out] at hsame
          have HP := hid_mk (And.intro hd0 hsame)
          rw [hnb]
          have hadd := hid_mk (add_any hbu4 hn0 p hp h2 hst hup hks 2 [] [] [] (.slice none 0 0) 0 (World.ownsRow_nil _ _ _ _) (by have := hb4.size; omega))
          unfold nodeA at hadd
          rw [show ((2 : Nat) : Int) = 2 from rfl, show strOf [] = ⟨#[]⟩ from rfl] at hadd
          have HB4 := hid_mk (And.intro hb4 (And.intro hB (And.intro h2n hsm)))
          clear hbu hp h2 h2n hst hup hks hsm hd0 hBg hn0 hbu4 hb4 hsame hB hnb
          go_wp2_with fail
          (with_reducible refine hadd.out.mono ?_)
          intro e w5 hpost
          by_cases hlim : 16384 ≤ ns.length
          · rw [if_pos hlim] at hpost
            obtain ⟨rfl, hb5⟩ := hpost
            have HF := hid_mk (show Below w.heap.size w w5 from HB4.out.1.trans (hb5.mono HB4.out.1.size))
            clear hb5
            go_wp2_with fail
            go_ret
            unfold textPost
            rw [if_neg HP.out.1, if_neg HP.out.2, if_pos hlim]
            exact ⟨rfl, HF.out⟩
          · rw [if_neg hlim] at hpost
            obtain ⟨rfl, hb5, _, kv, cs5, tv, hd5, htv5, htr5, hsk5, hps5⟩ := hpost
            have hes : endBs bs p = [] := by
              unfold endBs
              split
              · rfl
              · exact HB4.out.2.2.1 (by assumption)
            rw [hes] at hd5
            have hw := hid_mk (writeString_at d hd5 (by have := HB4.out.2.2.2; simp only [List.length_nil]; omega))
            have H5 := hid_mk (And.intro hb5 (And.intro hd5 (And.intro htv5 (And.intro htr5 (And.intro hsk5 hps5)))))
            have HL := hid_mk hlim
            clear hb5 hd5 htv5 htr5 hsk5 hps5 hes hlim
            go_wp2_with fail
            rw [HS.out]
            (with_reducible refine hw.out.mono ?_)
            rintro e w6 ⟨rfl, cs6, hd6, e0, e1, hch⟩
            obtain ⟨hb5, hd5, htv5, htr5, hsk5, hps5⟩ := H5.out
            have HF := hid_mk (show Below B w w6 ∧ ∃ kv, BdM B b (kidN (endNs ns bs p) (topO st).node kv ns.length ++ [(⟨2, [], [], [], ((topO st).node : Int), []⟩, .slice none 0 0, .slice none 0 0)]) st d w6 from
              ⟨((HB4.out.1.mono HB4.out.2.1).trans hb5).trans (hch.low hd5.2.2.1 (by have := hd5.2.2.1; have := (Array.getElem?_eq_some_iff.1 hd5.1).1; omega)), kv, BdM.dchg hd5 htv5 htr5 hsk5 hps5 hd6 e0 e1 hch⟩)
            clear hb5 hd5 htv5 htr5 hsk5 hps5 hd6 e0 e1 hch
            go_wp2_with fail
            go_ret
            unfold textPost
            rw [if_neg HP.out.1, if_neg HP.out.2, if_neg HL.out]
            exact ⟨rfl, HF.out⟩
end Go.Proofs.YtfjhljhgmbhklaaGreatDoor
