/-
  right, of the laws of layer 4: true of the tokens of any text. Condition: the world holds what Tab says.
-/
import Derived.Test.YtakakaenlfilmaaGreatDoorTRegA
import Derived.Deep.QuietTactic
import Derived.BigQuiet
import Derived.Deep.RegionHeld3
namespace Go.Proofs.YtakakaenlfilmaaGreatDoor
open Go.RowKit
set_option maxHeartbeats 16000000 in
set_option maxRecDepth 100000 in
theorem right_go (B g c : Nat) (ps : List (Tk × Value)) (w : World) (hrow : TokRow B (.slice (some ⟨g, 0, none⟩) ps.length c) ps w) (hR : RightL (ps.map (·.1))) (hl : ps.length ≤ 1000000) (hnm : ∀ p ∈ ps, p.1.name.length ≤ 1000000000) :
    Calls Tryz.prog 14 #[.slice (some ⟨g, 0, none⟩) ps.length c] w fun e w' => e = .returned (.bool true) ∧ Below w.heap.size w w' := by
  obtain ⟨n, hn⟩ : ∃ n, n = ps.length := ⟨_, rfl⟩
  have HN := hid_mk hn
  have HR := hid_mk (And.intro hrow hR)
  rw [← hn] at hl ⊢
  clear hrow hR hn
  go_enter Tryz.func14, Tryz.ntmps14
  go_wp2_with fail
  go_loopw [3] (fun i wr => ∃ k : Nat, k ≤ n ∧ i = .int .i64 k ∧ Hid (Below w.heap.size w wr)) (fun i _ => n - (intOf i).toNat)
  case atStart => exact ⟨0, Nat.zero_le _, rfl, hid_mk (Below.refl _ _)⟩
  case round =>
    obtain ⟨k, hk, rfl, HW⟩ := hrel
    by_cases hlt : k < n
    · have hlti : (k : Int) < (n : Int) := by omega
      have hkp : k < ps.length := by rw [← HN.out]; exact hlt
      obtain ⟨p, hp⟩ : ∃ p, p = ps[k]'hkp := ⟨_, rfl⟩
      obtain ⟨t, v⟩ := p
      have hcs := fun j hj => HR.out.1.below HW.out |>.cells (by exact k) hkp j hj
      rw [← hp] at hcs
      have hpm : (t, v) ∈ ps := by rw [hp]; exact List.getElem_mem hkp
      have hnl := hnm (t, v) hpm
      have hRt := HR.out.2.each t (List.mem_map.2 ⟨_, hpm, rfl⟩)
      have hAt := (HR.out.1.2 (t, v) hpm).below HW.out
      obtain ⟨va, vc, hv, hat⟩ := own_attrs hAt
      simp only at hv
      subst hv
      obtain ⟨K, nm, at1, sf, dt⟩ := t
      have e0 : wr.cell? ⟨g, k * 5, none⟩ = some (.int .u8 (K : Int)) := hcs 0 (by decide)
      have e1 : wr.cell? ⟨g, k * 5 + 1, none⟩ = some (.string (strOf nm)) := hcs 1 (by decide)
      have e2 : wr.cell? ⟨g, k * 5 + 2, none⟩ = some (.slice va at1.length vc) := hcs 2 (by decide)
      have e3 : wr.cell? ⟨g, k * 5 + 3, none⟩ = some (.bool sf) := hcs 3 (by decide)
      have e4 : wr.cell? ⟨g, k * 5 + 4, none⟩ = some (.string (strOf dt)) := hcs 4 (by decide)
      obtain ⟨ln, hln⟩ : ∃ ln, ln = at1.length := ⟨_, rfl⟩
      rw [← hln] at e2
      have HLN := hid_mk hln
      have HRT := hid_mk hRt
      have HAT := hid_mk hat
      have HKP := hid_mk hp
      clear hcs hpm hAt hat hRt hln hp
      have HSM := hid_mk (fun w => rSmall_any (strOf nm) w (by rw [size_strOf]; exact hnl))
      rw [sl_strOf, HRT.out.small] at HSM
      obtain ⟨h, hh⟩ : ∃ h, h = wr.heap.size := ⟨_, rfl⟩
      obtain ⟨wx, hwx⟩ : ∃ wx, wx = wr.alloc (.cells #[.int .u8 (K : Int), .string (strOf nm), .slice va ln vc, .bool sf, .string (strOf dt)] 33) := ⟨_, rfl⟩
      have hblk : Blk h (.cells #[.int .u8 (K : Int), .string (strOf nm), .slice va ln vc, .bool sf, .string (strOf dt)] 33 (0, 0)) wx := by rw [hwx, hh]; exact Blk.new _ _
      have hbx : Below w.heap.size w wx := by rw [hwx]; exact HW.out.alloc HW.out.size _
      have hgs : g < wr.heap.size := World.block_lt_of_cell? wr _ e0
      obtain ⟨pk, hpk⟩ : ∃ pk : Nat, wx.cell? ⟨g, (k - 1) * 5, none⟩ = some (.int .u8 (pk : Int)) ∧ (0 < k → K = 3 → pk ≠ 3) := by
        have hk1 : k - 1 < ps.length := by omega
        have hc1 := (HR.out.1.below HW.out).cells (k - 1) hk1 0 (by decide)
        refine ⟨(ps[k - 1]'hk1).1.kind, ?_, fun h0 h3 => ?_⟩
        · rw [hwx, World.cell?_alloc_lt _ _ _ hgs]
          exact hc1
        · have := HR.out.2.texts (k - 1) (by rw [List.length_map]; omega)
          have e1 : ((ps.map (·.1)).getD (k - 1 + 1) .none).kind = K := by
            rw [show k - 1 + 1 = k by omega, List.getD_eq_getElem?_getD, List.getElem?_map, List.getElem?_eq_getElem hkp, ← HKP.out]
            rfl
          have e2 : ((ps.map (·.1)).getD (k - 1) .none).kind = (ps[k - 1]'hk1).1.kind := by
            rw [List.getD_eq_getElem?_getD, List.getElem?_map, List.getElem?_eq_getElem hk1]
            rfl
          rw [e1, e2] at this
          exact this h3
      have HX := hid_mk (And.intro hblk (And.intro hbx hpk.1))
      have HATX := hid_mk (HAT.out.below (w' := wx) (by rw [hwx]; exact (Below.refl _ _).alloc (Nat.le_refl _) _))
      have HPK := hid_mk hpk.2
      have hkeep := hid_mk (show ∀ wa wb : World, (wa.cell? ⟨h, 0, none⟩ = some (.int .u8 (K : Int)) ∧ wa.cell? ⟨h, 1, none⟩ = some (.string (strOf nm)) ∧ wa.cell? ⟨h, 2, none⟩ = some (.slice va ln vc) ∧ wa.cell? ⟨h, 3, none⟩ = some (.bool sf) ∧ wa.cell? ⟨g, (k - 1) * 5, none⟩ = some (.int .u8 (pk : Int)) ∧ Below wx.heap.size wx wa) → Below wa.heap.size wa wb →
          (wb.cell? ⟨h, 0, none⟩ = some (.int .u8 (K : Int)) ∧ wb.cell? ⟨h, 1, none⟩ = some (.string (strOf nm)) ∧ wb.cell? ⟨h, 2, none⟩ = some (.slice va ln vc) ∧ wb.cell? ⟨h, 3, none⟩ = some (.bool sf) ∧ wb.cell? ⟨g, (k - 1) * 5, none⟩ = some (.int .u8 (pk : Int)) ∧ Below wx.heap.size wx wb) from
        fun wa wb ⟨s0, s1, s2, s3, s4, s5⟩ hb => ⟨below_cell hb s0, below_cell hb s1, below_cell hb s2, below_cell hb s3, below_cell hb s4, s5.trans (hb.mono s5.size)⟩)
      have c1 := HX.out.1.cell 0
      go_wp2_with fail
      rw [← hwx, ← hh]
      clear hwx hblk hbx hpk e0 e1 e2 e3 e4 hgs c1 hh
      have a1 : ¬ (K : Int) < 1 := by have := HRT.out.lo; simp only at this; omega
      have a2 : ¬ (5 : Int) < (K : Int) := by have := HRT.out.hi; simp only at this; omega
      obtain ⟨nb, hnb⟩ : ∃ nb, nb = decide ((K : Int) ≤ 2) := ⟨_, rfl⟩
      have a3 : decide ((K : Int) ≤ 2) = nb := hnb.symm
      have a4 : (strOf nm).toList.isEmpty = !nb := by
        rw [toList_strOf, hnb]
        have := HRT.out.named
        simp only at this
        cases nm with
        | nil =>
          have hk2 : ¬ K ≤ 2 := fun h => this.2 h rfl
          rw [decide_eq_false (by omega)]
          rfl
        | cons _ _ =>
          have hk2 : K ≤ 2 := this.1 (by simp)
          rw [decide_eq_true (by omega)]
          rfl
      have a5 : ¬ (16 : Int) < (ln : Int) := by have := HRT.out.few; simp only at this; rw [HLN.out]; omega
      have a6 : K ≠ 1 → ln = 0 ∧ sf = false := fun h => by
        have := HRT.out.only h
        simp only at this
        exact ⟨by rw [HLN.out, this.1]; rfl, this.2⟩
      have hsub : IntKind.i64.wrap ((k : Int) - 1) = (k : Int) - 1 := IntWalk.i64_in _ (by omega)
      have htn : ((k : Int) - 1).toNat = k - 1 := by omega
      have v0 := HX.out.1.cell 0
      have v1 := HX.out.1.cell 1
      have v2 := HX.out.1.cell 2
      have v3 := HX.out.1.cell 3
      have v4 := HX.out.2.2
      have hcase : ∃ b1 b2 b3 : Bool, decide ((0 : Int) < (k : Int)) = b1 ∧ ((K : Int) == 3) = b2 ∧ ((K : Int) != 1) = b3 ∧ (b1 = true → b2 = true → ((pk : Int) == 3) = false) ∧ (b3 = true → ln = 0 ∧ sf = false) ∧ (b2 = true → b3 = true) := by
        refine ⟨_, _, _, rfl, rfl, rfl, fun h1 h2 => ?_, fun h3 => ?_, fun h2 => ?_⟩
        · have h1' : 0 < k := by have := of_decide_eq_true h1; omega
          have h2' : K = 3 := by have := beq_iff_eq.1 h2; omega
          exact beq_false_of_ne (by have := HPK.out h1' h2'; omega)
        · exact a6 (fun e => by rw [e] at h3; revert h3; decide)
        · have h2' : K = 3 := by have := beq_iff_eq.1 h2; omega
          rw [h2']
          decide
      obtain ⟨b1, b2, b3, q1, q2, q3, q4, q5, q6⟩ := hcase
      clear a6
      refine right_reg _ g n c k h K pk ln (strOf nm) va vc sf nb b1 b2 b3 wx _ _ _ _ _ _ _ _ _ _ _ _ _ _ _ _ _ _ _ _ _ _ _ _ _ _ _ _ _ _ _ _ _ _ _ _ _ _ _ _ _ _ _ _ _ _ _ _ _ _ _ _ _ _ _ _ _ _ _ _ _ _ _ _ _ _ _ _ _ _ _ _ _ _ _ _ _ _ _ _ _ _ _ _ _ _ _ _ _ _ _ _ _ _ _ _ _ _ _ _ _ _ _ (hid_mk fun c ⟨t, d⟩ ⟨t', d'⟩ w hd h => by cases hd; exact h) a1 a2 a3 a4 a5 hlt (by omega) q1 q2 q3 q4 q5 q6 HSM v0 v1 v2 v3 v4 ?_
      have hl16 : ln ≤ 16 := by omega
      intro w9 v17 v18 v19 v20 v21 v22 v23 v24 v25 v26 v27 v28 v29 v30 v31 v32 v33 v34 v35 v36 v37 v38 v39 v40 v41 v42 v43 v44 v45 v46 v47 v48 v49 v50 v51 v52 v53 v54 v55 v56 v57 v58 v59 v60 v61 v62 v63 v64 v65 v66 v67 v68 v69 v70 v71 v72 v73 v74 v75 v76 v77 v78 v79 hS9
      clear a1 a2 a3 a4 a5 hsub htn q1 q2 q3 q4 q5 q6 v0 v1 v2 v3 v4
      have HS9 := hid_mk hS9
      clear hS9
      go_wp2_with fail
      have HAP := hid_mk HRT.out.apart
      clear HAT HRT HKP HSM HPK hkeep
      go_loopw [5] (fun i wr => ∃ k2 : Nat, k2 ≤ ln ∧ i = .int .i64 k2 ∧ Hid (Below wx.heap.size wx wr)) (fun i _ => ln - (intOf i).toNat)
      case atStart => exact ⟨0, Nat.zero_le _, rfl, hid_mk HS9.out.2.2.2.2.2⟩
      case round =>
        obtain ⟨k2, hk2, rfl, HW2⟩ := hrel
        have e2 : wr.cell? ⟨h, 2, none⟩ = some (.slice va ln vc) := below_cell HW2.out (HX.out.1.cell 2)
        by_cases hkl : k2 < ln
        · have hkli : (k2 : Int) < (ln : Int) := by omega
          go_wp2_with fail
          clear e2
          go_loopw [6] (fun i wr => ∃ j : Nat, j ≤ k2 ∧ i = .int .i64 j ∧ Hid (Below wx.heap.size wx wr)) (fun i _ => k2 - (intOf i).toNat)
          case atStart => exact ⟨0, Nat.zero_le _, rfl, HW2⟩
          case round =>
            obtain ⟨j, hj, rfl, HW3⟩ := hrel
            by_cases hjl : j < k2
            · have hjli : (j : Int) < (k2 : Int) := by omega
              have hjln : (j : Int) < (ln : Int) := by omega
              have e2 : wr.cell? ⟨h, 2, none⟩ = some (.slice va ln vc) := below_cell HW3.out (HX.out.1.cell 2)
              rcases HATX.out.below (w' := wr) HW3.out with ⟨_, hx⟩ | ⟨g2, hg2, _, hcell⟩
              · exfalso
                have := HLN.out
                rw [hx] at this
                simp at this
                omega
              · subst hg2
                have hk' : k2 < at1.length := by rw [← HLN.out]; exact hkl
                have hj' : j < at1.length := by omega
                have d1 := (hcell j hj').1
                have d2 := (hcell k2 hk').1
                obtain ⟨n1, hn1⟩ : ∃ x, x = at1[j].1 := ⟨_, rfl⟩
                obtain ⟨n2, hn2⟩ : ∃ x, x = at1[k2].1 := ⟨_, rfl⟩
                rw [← hn1] at d1
                rw [← hn2] at d2
                have hne : ((strOf n1).toList == (strOf n2).toList) = false := by
                  rw [toList_strOf, toList_strOf]
                  refine beq_false_of_ne fun e => ?_
                  have := HAP.out j k2 hjl hk'
                  simp only [List.getD_eq_getElem?_getD, List.getElem?_eq_getElem hk', List.getElem?_eq_getElem hj', Option.getD_some] at this
                  exact this (by rw [← hn1, ← hn2]; exact e)
                clear hcell hn1 hn2 hk' hj'
                go_wp2_with fail
                go_quiet (fail)
                have HD := hid_mk (show Below wx.heap.size wx (wr.drewN nq) from below_drewN HW3.out _)
                go_wp2_with fail
                go_roundw
                case rel => exact ⟨j + 1, by omega, by go_num, HD⟩
                case measure => simp [intOf]; omega
            · have hjli : ¬ (j : Int) < (k2 : Int) := by omega
              go_wp2_with fail
              go_roundw
              case rel => exact ⟨k2 + 1, by omega, by go_num, HW3⟩
              case measure => simp [intOf]; omega
        · have hkli : ¬ (k2 : Int) < (ln : Int) := by omega
          go_wp2_with fail
          go_roundw
          case rel => exact ⟨k + 1, by omega, by go_num, hid_mk (HX.out.2.1.trans (HW2.out.mono HX.out.2.1.size))⟩
          case measure => simp [intOf]; omega
    · have hlti : ¬ (k : Int) < (n : Int) := by omega
      go_wp2_with fail
      go_ret
      exact ⟨rfl, HW.out⟩
end Go.Proofs.YtakakaenlfilmaaGreatDoor
/-
  How many tokens, and how long their names: plain. And right, of any row. Condition: none.
-/
namespace Go.Proofs.YtakakaenlfilmaaGreatDoor
open Go.RowKit
theorem tag_name {k : Nat} {l r : List UInt8} {t : Tk} (h : tagL k l = (0, t, r)) : t.name.length ≤ l.length := by
  unfold tagL at h
  split at h
  · injection h with h _; cases h
  · split at h
    · injection h with _ h
      injection h with h1 _
      subst h1
      show (smL (upL l _)).length ≤ _
      unfold smL
      rw [List.length_map]
      exact up_le l _
    · injection h with h _; cases h
theorem one_name {l r : List UInt8} {t : Tk} (h : oneL l = (0, t, r)) : t.name.length ≤ l.length := by
  have hd : ∀ n, (l.drop n).length ≤ l.length := fun n => by rw [List.length_drop]; omega
  unfold oneL at h
  split at h
  · injection h with _ h; injection h with h1 _; subst h1; exact Nat.zero_le _
  · split at h
    · exact Nat.le_trans (tag_name h) (hd 1)
    · split at h
      · unfold endL at h
        split at h
        · injection h with h _; cases h
        · split at h
          · injection h with h _; cases h
          · exact Nat.le_trans (tag_name h) (hd 2)
      · split at h
        · unfold comL at h
          split at h
          · injection h with h _; cases h
          · injection h with _ h; injection h with h1 _; subst h1; exact Nat.zero_le _
        · split at h
          · unfold docL at h
            split at h
            · injection h with _ h; injection h with h1 _; subst h1; exact Nat.zero_le _
            · injection h with h _; cases h
          · injection h with h _; cases h
theorem toks_size : ∀ (ts : List Tk) {l : List UInt8}, toksL l = (0, 0, ts) → ts.length ≤ l.length ∧ ∀ t ∈ ts, t.name.length ≤ l.length
  | [], _, _ => ⟨Nat.zero_le _, fun t h => nomatch h⟩
  | t :: ts, l, h => by
    have hl : l ≠ [] := by
      intro e
      rw [e, toksL_nil] at h
      injection h with _ h; injection h with _ h; cases h
    rw [toksL_step l hl] at h
    split at h
    · rename_i h1
      split at h
      · rename_i h2
        injection h with _ h
        injection h with _ h
        injection h with h3 h4
        have hone : oneL l = (0, t, (oneL l).2.2) := by rw [← h3, ← h1]
        have hr : toksL (oneL l).2.2 = (0, 0, ts) := by
          have h5 : (toksL (oneL l).2.2).2.1 = 0 := toksL_place h2
          generalize toksL (oneL l).2.2 = R at *
          obtain ⟨r1, r2, r3⟩ := R
          simp only at h2 h4 h5
          rw [h2, h4, h5]
        have hlt : (oneL l).2.2.length < l.length := by
          rcases oneL_cases l hl with ⟨_, h⟩ | h | h | h | h
          · exact h
          all_goals omega
        obtain ⟨d, e⟩ := toks_size ts hr
        refine ⟨by rw [List.length_cons]; omega, fun u hu => ?_⟩
        rcases List.mem_cons.1 hu with rfl | hu
        · exact one_name hone
        · have := e u hu; omega
      · rename_i h2
        injection h with h _
        exact absurd h h2
    · rename_i h1
      injection h with h _
      exact absurd h h1
theorem tokensL_size (l : List UInt8) : (tokensL l).2.2.length ≤ 65536 ∧ ∀ t ∈ (tokensL l).2.2, t.name.length ≤ 65536 := by
  have hn : ([] : List Tk).length ≤ 65536 ∧ ∀ t ∈ ([] : List Tk), t.name.length ≤ 65536 := ⟨by simp, fun t h => nomatch h⟩
  unfold tokensL
  split
  · exact hn
  · rename_i hl
    split
    · exact hn
    · split
      · rename_i h
        have hp := toksL_place h
        have := toks_size (toksL l).2.2 (l := l) (by
          generalize toksL l = R at *
          obtain ⟨r1, r2, r3⟩ := R
          simp only at h hp
          rw [h, hp])
        exact ⟨Nat.le_trans this.1 (by omega), fun t ht => Nat.le_trans (this.2 t ht) (by omega)⟩
      · exact hn
set_option maxHeartbeats 4000000 in
set_option maxRecDepth 100000 in
theorem right_nil (w : World) : Calls Tryz.prog 14 #[.slice none 0 0] w fun e w' => e = .returned (.bool true) ∧ Below w.heap.size w w' := by
  go_enter Tryz.func14, Tryz.ntmps14
  go_wp2_with fail
  go_loopw [3] (fun i wr => i = .int .i64 0 ∧ Hid (Below w.heap.size w wr)) (fun _ _ => 0)
  case atStart => exact ⟨rfl, hid_mk (Below.refl _ _)⟩
  case round =>
    obtain ⟨rfl, HW⟩ := hrel
    go_wp2_with fail
    go_ret
    exact ⟨rfl, HW.out⟩
/-- right, of the tokens of any text. -/
theorem right_any {B : Nat} {v : Value} {ps : List (Tk × Value)} {w : World} {l : List UInt8} (hrow : TokRow B v ps w) (hl : (tokensL l).2.2 = ps.map (·.1)) :
    Calls Tryz.prog 14 #[v] w fun e w' => e = .returned (.bool true) ∧ Below w.heap.size w w' := by
  have hs := tokensL_size l
  have hR := tokensL_right l
  rw [hl] at hs hR
  obtain ⟨a, c, rfl, hh⟩ := hrow.has
  rcases hh with ⟨rfl, rfl⟩ | ⟨g, rfl, _⟩
  · obtain ⟨h1, h2⟩ := hrow.1
    rcases h2 with ⟨h2, _⟩ | ⟨_, _, _, h2, _⟩
    · rw [h2]
      exact right_nil w
    · cases h2
  · refine right_go B g c ps w hrow hR (by have := hs.1; rw [List.length_map] at this; omega) fun p hp => ?_
    have := hs.2 p.1 (List.mem_map.2 ⟨p, hp, rfl⟩)
    omega
end Go.Proofs.YtakakaenlfilmaaGreatDoor
