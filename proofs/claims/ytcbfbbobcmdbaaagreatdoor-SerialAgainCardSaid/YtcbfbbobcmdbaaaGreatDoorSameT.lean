/-
  SameInts and SameTree, of two rows of the same numbers, of two trees of the same nodes: they only draw. Conditions: the numbers of nodes, of children and of attributes are bounded.
-/
import Derived.Test.YtcbfbbobcmdbaaaGreatDoorTSameQ
import Derived.Test.YtcbfbbobcmdbaaaGreatDoorBParse
import Derived.Deep.QuietTactic
import Derived.BigQuiet
namespace Go.Proofs.YtcbfbbobcmdbaaaGreatDoor
open Go.RowKit
def HasI (w : World) (a : Option Addr) (l : List Nat) : Prop := l = [] ∨ ∃ g, a = some ⟨g, 0, none⟩ ∧ ∀ k (h : k < l.length), w.cell? ⟨g, k, none⟩ = some (.int .i64 (l[k] : Int))
theorem own_ints2 {w : World} {base : Nat} {v : Value} {l : List Nat} (h : w.ownsRow base 3 1 v l.length (kidF l)) : ∃ a cap, v = .slice a l.length cap ∧ HasI w a l := by
  rcases h.2 with ⟨rfl, h0⟩ | ⟨g, cap, cur, rfl, h2, h3, h4, h5, h6, h7⟩
  · exact ⟨none, 0, by rw [h0], .inl (List.eq_nil_of_length_eq_zero h0)⟩
  · refine ⟨_, cap, rfl, .inr ⟨g, rfl, fun k hk => ?_⟩⟩
    rw [cell_of_row w g _ _ _ _ h3]
    have hlt : k < l.length * 1 := by omega
    have : (cur.toList.take (l.length * 1))[k]? = (kidF l)[k]? := by rw [h7]
    rw [List.getElem?_take, if_pos hlt, Array.getElem?_toList] at this
    rw [this]
    unfold kidF
    rw [List.getElem?_map, List.getElem?_eq_getElem hk]
    rfl
set_option maxHeartbeats 4000000 in
set_option maxRecDepth 100000 in
theorem sameInts_q (a1 a2 : Option Addr) (c1 c2 : Nat) (l : List Nat) (w : World) (h1 : HasI w a1 l) (h2 : HasI w a2 l) (hl : l.length ≤ 1000000) :
    Calls Tryz.prog 41 #[.slice a1 l.length c1, .slice a2 l.length c2] w fun e w' => e = .returned (.bool true) ∧ ∃ m, w' = w.drewN m := by
  obtain ⟨n, hn⟩ : ∃ n, n = l.length := ⟨_, rfl⟩
  have HN := hid_mk hn
  have H1 := hid_mk h1
  have H2 := hid_mk h2
  rw [← hn] at hl ⊢
  clear hn h1 h2
  go_enter Tryz.func41, Tryz.ntmps41
  go_wp2_with fail
  go_loopw [5] (fun i wr => ∃ k : Nat, k ≤ n ∧ i = .int .i64 k ∧ Hid (∃ m, wr = w.drewN m)) (fun i _ => n - (intOf i).toNat)
  case atStart => exact ⟨0, Nat.zero_le _, rfl, hid_mk ⟨0, rfl⟩⟩
  case round =>
    obtain ⟨k, hk, rfl, HW⟩ := hrel
    by_cases hlt : k < n
    · have hlti : (k : Int) < (n : Int) := by omega
      have hkl : k < l.length := by rw [← HN.out]; exact hlt
      rcases H1.out with hx | ⟨g1, hg1, hc1⟩
      · rw [hx] at hkl; simp at hkl
      rcases H2.out with hx | ⟨g2, hg2, hc2⟩
      · rw [hx] at hkl; simp at hkl
      subst hg1 hg2
      have d1 : wr.cell? ⟨g1, k, none⟩ = some (.int .i64 (l[k] : Int)) := by
        obtain ⟨m, hm⟩ := HW.out
        rw [hm]
        exact hc1 k hkl
      have d2 : wr.cell? ⟨g2, k, none⟩ = some (.int .i64 (l[k] : Int)) := by
        obtain ⟨m, hm⟩ := HW.out
        rw [hm]
        exact hc2 k hkl
      generalize l[k] = z at *
      have x0 : ((z : Int) == (z : Int)) = true := beq_self_eq_true _
      have x0' : ((z : Int) != (z : Int)) = false := by rw [bne, x0]; rfl
      clear hc1 hc2 hkl
      go_wp2_with fail
      go_quiet (fail)
      have HD := hid_mk (show ∃ m, wr.drewN nq = w.drewN m by
        obtain ⟨m, hm⟩ := HW.out
        exact ⟨m + nq, by rw [hm, World.drewN_drewN]⟩)
      go_wp2_with fail
      go_roundw
      case rel => exact ⟨k + 1, by omega, by go_num, HD⟩
      case measure => simp [intOf]; omega
    · have hlti : ¬ (k : Int) < (n : Int) := by omega
      go_wp2_with fail
      go_ret
      exact ⟨rfl, HW.out⟩
set_option maxHeartbeats 8000000 in
set_option maxRecDepth 100000 in
theorem sameTree_q {B1 B2 : Nat} {v1 v2 : Value} {ns1 ns2 : List NdM} (w : World) (h1 : TreeRow B1 v1 ns1 w) (h2 : TreeRow B2 v2 ns2 w) (he : ns1.map (·.1) = ns2.map (·.1)) (hpos : 0 < ns1.length) (hl : ns1.length ≤ 20000) (hat : ∀ p ∈ ns1, p.1.attrs.length ≤ 1000000 ∧ p.1.kids.length ≤ 1000000) :
    Calls Tryz.prog 16 #[v1, v2] w fun e w' => e = .returned (.bool true) ∧ Below w.heap.size w w' := by
  have hlen : ns2.length = ns1.length := by
    have := congrArg List.length he
    rwa [List.length_map, List.length_map, eq_comm] at this
  obtain ⟨g1, c1, cur1, hv1, _, _, _, _, hc1⟩ := h1.look hpos
  obtain ⟨g2, c2, cur2, hv2, _, _, _, _, hc2⟩ := h2.look (by omega)
  subst hv1 hv2
  rw [hlen]
  obtain ⟨n, hn⟩ : ∃ n, n = ns1.length := ⟨_, rfl⟩
  have HN := hid_mk hn
  have HL := hid_mk hlen
  have HE := hid_mk he
  have HC1 := hid_mk hc1
  have HC2 := hid_mk hc2
  have H1 := hid_mk h1
  have H2 := hid_mk h2
  have HAT := hid_mk hat
  rw [← hn] at hl ⊢
  clear hn hlen he hc1 hc2 h1 h2 hat hpos
  go_enter Tryz.func16, Tryz.ntmps16
  go_wp2_with fail
  go_loopw [5] (fun i wr => ∃ k : Nat, k ≤ n ∧ i = .int .i64 k ∧ Hid (∃ m, wr = w.drewN m)) (fun i _ => n - (intOf i).toNat)
  case atStart => exact ⟨0, Nat.zero_le _, rfl, hid_mk ⟨0, rfl⟩⟩
  case round =>
    obtain ⟨k, hk, rfl, HW⟩ := hrel
    by_cases hlt : k < n
    · have hlti : (k : Int) < (n : Int) := by omega
      have hk0 : (0 : Int) ≤ (k : Int) := by omega
      have hk1 : k < ns1.length := by rw [← HN.out]; exact hlt
      have hk2 : k < ns2.length := by rw [HL.out]; exact hk1
      have hy : ns2[k].1 = ns1[k].1 := by
        have : (ns1.map (·.1))[k]? = (ns2.map (·.1))[k]? := by rw [HE.out]
        rw [List.getElem?_map, List.getElem?_map, List.getElem?_eq_getElem hk1, List.getElem?_eq_getElem hk2] at this
        injection this with this
        exact this.symm
      have tc : ∀ j u, j < 6 → (ndF ns1[k])[j]? = some u → wr.cell? ⟨g1, k * 6 + j, none⟩ = some u := fun j u hj hu => by
        obtain ⟨m, hm⟩ := HW.out
        rw [hm]
        exact (HC1.out k hk1 j hj).trans hu
      have uc : ∀ j u, j < 6 → (ndF ns2[k])[j]? = some u → wr.cell? ⟨g2, k * 6 + j, none⟩ = some u := fun j u hj hu => by
        obtain ⟨m, hm⟩ := HW.out
        rw [hm]
        exact (HC2.out k hk2 j hj).trans hu
      obtain ⟨a1, p1, he1, ha1⟩ := own_attrs (H1.out.attrs ns1[k] (List.getElem_mem _))
      obtain ⟨a2, p2, he2, ha2⟩ := own_attrs (H2.out.attrs ns2[k] (List.getElem_mem _))
      obtain ⟨b1, q1, hf1, hb1⟩ := own_ints2 (H1.out.kids ns1[k] (List.getElem_mem _))
      obtain ⟨b2, q2, hf2, hb2⟩ := own_ints2 (H2.out.kids ns2[k] (List.getElem_mem _))
      rw [hy] at he2 ha2 hf2 hb2
      have hbd := HAT.out ns1[k] (List.getElem_mem _)
      have t0 := tc 0 (.int .u8 (ns1[k].1.kind : Int)) (by decide) rfl
      have t1 := tc 1 (.string (strOf ns1[k].1.name)) (by decide) rfl
      have t2 := tc 2 (.slice a1 ns1[k].1.attrs.length p1) (by decide) (by rw [← he1]; rfl)
      have t3 := tc 3 (.string (strOf ns1[k].1.data)) (by decide) rfl
      have t4 := tc 4 (.int .i64 ns1[k].1.up) (by decide) rfl
      have t5 := tc 5 (.slice b1 ns1[k].1.kids.length q1) (by decide) (by rw [← hf1]; rfl)
      have u0 := uc 0 (.int .u8 (ns1[k].1.kind : Int)) (by decide) (by simp only [ndF]; rw [hy]; rfl)
      have u1 := uc 1 (.string (strOf ns1[k].1.name)) (by decide) (by simp only [ndF]; rw [hy]; rfl)
      have u2 := uc 2 (.slice a2 ns1[k].1.attrs.length p2) (by decide) (by rw [← he2]; rfl)
      have u3 := uc 3 (.string (strOf ns1[k].1.data)) (by decide) (by simp only [ndF]; rw [hy]; rfl)
      have u4 := uc 4 (.int .i64 ns1[k].1.up) (by decide) (by simp only [ndF]; rw [hy]; rfl)
      have u5 := uc 5 (.slice b2 ns1[k].1.kids.length q2) (by decide) (by rw [← hf2]; rfl)
      have hbel : ∀ m, Below w.heap.size w (wr.drewN m) := fun m => by
        obtain ⟨m', hm⟩ := HW.out
        rw [hm]
        exact below_drewN (below_drewN (Below.refl _ _) m') m
      have hHI : ∀ {a : Option Addr} {l : List Nat} m, HasI w a l → HasI (wr.drewN m) a l := fun m h => by
        obtain ⟨m', hm⟩ := HW.out
        rcases h with h | ⟨g, e, hc⟩
        · exact .inl h
        · exact .inr ⟨g, e, fun k hk => by rw [hm]; exact hc k hk⟩
      have hsa := hid_mk (fun m => sameAttrs_q a1 a2 p1 p2 ns1[k].1.attrs (wr.drewN m) (ha1.below (hbel m)) (ha2.below (hbel m)) hbd.1)
      have hsi := hid_mk (fun m => sameInts_q b1 b2 q1 q2 ns1[k].1.kids (wr.drewN m) (hHI m hb1) (hHI m hb2) hbd.2)
      clear tc uc ha1 ha2 he1 he2 hf1 hf2 hb1 hb2 hy hk2 hbd hbel hHI
      generalize ns1[k].1.attrs.length = AL at *
      generalize ns1[k].1.attrs = AT at *
      generalize ns1[k].1.kids.length = KL at *
      generalize ns1[k].1.kids = KT at *
      generalize strOf ns1[k].1.name = NM at *
      generalize strOf ns1[k].1.data = DT at *
      generalize ns1[k].1.kind = KD at *
      generalize ns1[k].1.up = UP at *
      clear hk1
      have x0 : ((KD : Int) == (KD : Int)) = true := beq_self_eq_true _
      have x0' : ((KD : Int) != (KD : Int)) = false := by rw [bne, x0]; rfl
      have x1 : (NM.toList == NM.toList) = true := beq_self_eq_true _
      have x1' : (NM.toList != NM.toList) = false := by rw [bne, x1]; rfl
      have x2 : (DT.toList == DT.toList) = true := beq_self_eq_true _
      have x2' : (DT.toList != DT.toList) = false := by rw [bne, x2]; rfl
      have x3 : (UP == UP) = true := beq_self_eq_true _
      have x3' : (UP != UP) = false := by rw [bne, x3]; rfl
      rw [Nat.add_zero] at t0 u0
      go_wp2_with fail
      go_quiet (first
        | (go_at_call 41; with_reducible exact Calls.quiet_of (hsi.out _))
        | (go_at_call 26; with_reducible exact Calls.quiet_of (hsa.out _)))
      have HD := hid_mk (show ∃ m, wr.drewN nq = w.drewN m by
        obtain ⟨m, hm⟩ := HW.out
        exact ⟨m + nq, by rw [hm, World.drewN_drewN]⟩)
      go_wp2_with fail
      go_roundw
      case rel => exact ⟨k + 1, by omega, by go_num, HD⟩
      case measure => simp [intOf]; omega
    · have hlti : ¬ (k : Int) < (n : Int) := by omega
      go_wp2_with fail
      go_ret
      refine ⟨rfl, ?_⟩
      obtain ⟨m, hm⟩ := HW.out
      rw [hm]
      exact below_drewN (Below.refl _ _) m
end Go.Proofs.YtcbfbbobcmdbaaaGreatDoor
