/-
  Package tree's Parse. Conditions: the bytes' number is bounded; the world holds what Tab says.
-/
import Derived.Test.YtlcijlklbabajaaGreatDoorQBSBB
import Derived.Test.YtlcijlklbabajaaGreatDoorQUDec
namespace Go.Proofs.YtlcijlklbabajaaGreatDoor
open Go.RowKit
/-- What Parse answers: the error, the place, the tree. -/
def parseL (bs : List UInt8) : Nat × Nat × List Nd :=
 if 65536 < bs.length then (3, 0, [])
 else if (tokensL (U.decT bs)).1 = 0 then buildL (tokensL (U.decT bs)).2.2 else ((tokensL (U.decT bs)).1, (tokensL (U.decT bs)).2.1, [])
def ParsePost (bs : List UInt8) (w : World) (e : Ending) (w' : World) : Prop :=
 ∃ v ns, e = .returned (.tuple #[v, .int .i64 ((parseL bs).1 : Int), .int .i64 ((parseL bs).2.1 : Int)]) ∧ (parseL bs).2.2 = ns.map (·.1) ∧ TreeRow w.heap.size v ns w' ∧ Next w w'
theorem tok_ok (l : List UInt8) : ∀ t ∈ (tokensL l).2.2, TokOk t := by
 intro t ht
 have hr := (tokensL_right l).each t ht
 have hs := (tokensL_size l).2 t ht
 have ha := (tokensL_len l).2 t ht
 refine ⟨by omega, fun h2 => hr.named.2 (by omega), by have := hr.few; omega, fun a h => ?_⟩
 have := ha a h
 omega
theorem TreeRow.mono {B B' : Nat} {v : Value} {ns : List NdM} {w : World} (h : TreeRow B v ns w) (hb : B' ≤ B) : TreeRow B' v ns w :=
 ⟨own_mono h.row hb, fun p hp => own_mono (h.attrs p hp) hb, fun p hp => own_mono (h.kids p hp) hb, h.apart⟩
set_option maxHeartbeats 4000000 in
set_option maxRecDepth 100000 in
theorem parse_any (a : Option Addr) (cap : Nat) (bs : List UInt8) (w : World) (hT : Tab w) (hl : bs.length ≤ 100000000) (h : HasBytes w a bs) :
 Calls Tryz.prog 17 #[.slice a bs.length cap] w (ParsePost bs w) := by
 have hde := hid_mk (U.decode_any a cap bs w hl h)
 have HT := hid_mk hT
 obtain ⟨G, hG⟩ : ∃ G, G = parseL bs := ⟨_, rfl⟩
 have HG := hid_mk hG
 have hdl := U.decT_len bs
 clear h hT hG
 by_cases hbig : 65536 < bs.length
 ·have ho : U.decOut bs = ([], 3) := by unfold U.decOut; rw [if_pos hbig]
  rw [ho] at hde
  have HF := hid_mk (show parseL bs = (3, 0, []) by unfold parseL; rw [if_pos hbig])
  clear ho
  go_enter Tryz.func17, Tryz.ntmps17
  go_wp2_with fail
  (with_reducible refine hde.out.mono ?_)
  rintro e w1 ⟨rfl, hb⟩
  have H1 := hid_mk (Next.of HT.out hb)
  clear hb
  go_wp2_with fail
  go_ret3
  exact ⟨_, [], by rw [HF.out]; rfl, by rw [HF.out]; rfl, .nil _ _, H1.out⟩
 ·have ho : U.decOut bs = (U.decT bs, 0) := by unfold U.decOut; rw [if_neg hbig]; rfl
  rw [ho] at hde
  obtain ⟨T, hTT⟩ : ∃ T, T = U.decT bs := ⟨_, rfl⟩
  rw [← hTT] at hde hdl
  have HF := hid_mk (show parseL bs = if (tokensL T).1 = 0 then buildL (tokensL T).2.2 else ((tokensL T).1, (tokensL T).2.1, []) by unfold parseL; rw [if_neg hbig, ← hTT])
  have hto := hid_mk (fun w hT => tokens_any (strOf T) w hT (by rw [size_strOf]; omega))
  rw [sl_strOf] at hto
  have hst := hid_mk (show (U.strOf T) = strOf T from rfl)
  clear ho hTT
  go_enter Tryz.func17, Tryz.ntmps17
  go_wp2_with fail
  (with_reducible refine hde.out.mono ?_)
  rintro e w1 ⟨rfl, hb⟩
  have H1 := hid_mk (Next.of HT.out hb)
  clear hb hde
  simp only
  rw [hst.out]
  have hto2 := hid_mk (hto.out w1 H1.out.2)
  go_wp2_with fail
  (with_reducible refine hto2.out.mono ?_)
  rintro e w2 ⟨v, ps, rfl, hps, hrow, hn⟩
  have H2 := hid_mk (And.intro (H1.out.trans hn) hrow)
  have HP := hid_mk hps
  clear hps hrow hn hto hto2
  obtain ⟨r, hr⟩ : ∃ r, r = (tokensL T).1 := ⟨_, rfl⟩
  rw [← hr] at HF ⊢
  clear hr
  by_cases hr0 : r = 0
  ·have hq1 : ((r : Int) == 0) = true := by rw [hr0]; rfl
   have hq2 : ((r : Int) != 0) = false := by rw [bne, hq1]; rfl
   have HF2 := hid_mk (HF.out.trans (if_pos hr0))
   have hbu := hid_mk (build_any H2.out.2 (by have := congrArg List.length HP.out; rw [List.length_map] at this; have h2 := (tokensL_size T).1; omega) (fun p hp => tok_ok T _ (by rw [HP.out]; exact List.mem_map.2 ⟨p, hp, rfl⟩)) (by rw [← HP.out]; have := (tokensL_len T).1; omega))
   rw [← HP.out] at hbu
   clear hr0
   obtain ⟨va, vc, hv⟩ := own_slice H2.out.2.1
   subst hv
   go_wp2_with fail
   (with_reducible refine hbu.out.mono ?_)
   rintro e w3 ⟨v3, ns, rfl, hns, htr, hb3⟩
   have H3 := hid_mk (show TreeRow w.heap.size v3 ns w3 ∧ Next w w3 from ⟨htr.mono H2.out.1.1.size, H2.out.1.trans (Next.of H2.out.1.2 hb3)⟩)
   have HN := hid_mk hns
   clear hns htr hb3 hbu
   go_wp2_with fail
   go_ret3
   exact ⟨_, ns, by rw [HF2.out]; rfl, by rw [HF2.out]; exact HN.out, H3.out⟩
  ·have hq1 : ((r : Int) == 0) = false := beq_false_of_ne (by omega)
   have hq2 : ((r : Int) != 0) = true := by rw [bne, hq1]; rfl
   have HF2 := hid_mk (HF.out.trans (if_neg hr0))
   clear hr0
   go_wp2_with fail
   go_ret3
   exact ⟨_, [], by rw [HF2.out]; rfl, by rw [HF2.out]; rfl, .nil _ _, H2.out.1⟩
end Go.Proofs.YtlcijlklbabajaaGreatDoor
