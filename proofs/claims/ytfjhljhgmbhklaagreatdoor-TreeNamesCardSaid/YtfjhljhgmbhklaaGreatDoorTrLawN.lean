/-
  The law of layer 5 about names: it returns true for every text. Condition: the world holds what Tab says.
-/
import Derived.Test.YtfjhljhgmbhklaaGreatDoorTrText
import Derived.Test.YtfjhljhgmbhklaaGreatDoorLpDocs
import Derived.Test.YtfjhljhgmbhklaaGreatDoorKRefA
import Derived.Test.YtfjhljhgmbhklaaGreatDoorTRefA
namespace Go.Proofs.YtfjhljhgmbhklaaGreatDoor
open Go.RowKit
theorem aln_take {l : List UInt8} {k : Nat} (hk : k < l.length) : (l.take (k + 1)).all alnB = ((l.take k).all alnB && alnB (l.getD k 0)) := by
  rw [List.take_add_one, List.all_append, List.getElem?_eq_getElem hk]
  simp [List.getD, hk]
theorem aln_low {c : UInt8} (h : alnB c = true) : c.toNat < 128 ∧ c ≠ 13 := by
  refine ⟨?_, ?_⟩
  · unfold alnB isLet isDig at h
    simp at h
    omega
  · rintro rfl
    revert h
    decide
theorem parse_name {n : List UInt8} (hne : n ≠ []) (h0 : isLet (n.getD 0 0) = true) (h : ∀ x ∈ n, alnB x = true) (hl : n.length ≤ 200) :
    parseL (120 :: 60 :: n ++ [62]) = if kindL (smL n) = 0 then (50, 1, []) else (0, 0, [⟨0, [], [], [], -1, [1, 2]⟩, ⟨2, [], [], [120], 0, []⟩, ⟨1, smL n, [], [], 0, []⟩]) := by
  have hlow : ∀ b ∈ (120 :: 60 :: n ++ [62] : List UInt8), b.toNat < 128 ∧ b ≠ 13 := by
    intro b hb
    simp only [List.cons_append, List.mem_cons, List.mem_append, List.not_mem_nil, or_false] at hb
    rcases hb with rfl | rfl | hb | rfl
    · decide
    · decide
    · exact aln_low (h b hb)
    · decide
  unfold parseL
  rw [if_neg (by simp only [List.cons_append, List.length_cons, List.length_append, List.length_nil]; omega), U.dec_well (U.well_ascii _ fun b hb => (hlow b hb).1) (fun b hb => (hlow b hb).2), toks_name hne h0 h hl, if_pos rfl, build_name]
theorem below_cell {B : Nat} {w w' : World} (hb : Below B w w') {b o : Nat} {v : Value} (hc : w.cell? ⟨b, o, none⟩ = some v) (hlt : b < B) : w'.cell? ⟨b, o, none⟩ = some v := (hb.cell (p := ⟨b, o, none⟩) hlt).trans hc
set_option maxHeartbeats 8000000 in
set_option maxRecDepth 100000 in
theorem treeNames_w (s : ByteArray) (w : World) (hT : Tab w) :
    Calls Tryz.prog 10 #[.string s] w fun e w' => e = .returned (.bool true) ∧ Next w w' := by
  have HT := hid_mk hT
  have hwo := hid_mk (fun w hT => works_any w hT)
  clear hT
  have hw0 := hid_mk (hwo.out w HT.out)
  by_cases hbig : 100 < s.size
  · have hb1 : decide (100 < s.size) = true := decide_eq_true hbig
    have hb2 : decide ((100 : Int) < (s.size : Int)) = true := decide_eq_true (by omega)
    clear hbig
    go_enter Tryz.func10, Tryz.ntmps10
    go_wp2_with fail
    (with_reducible refine hw0.out.mono ?_)
    rintro e w1 ⟨rfl, hn1⟩
    have H1 := hid_mk hn1
    clear hn1
    go_wp2_with fail
    go_ret
    exact ⟨rfl, H1.out⟩
  have hb1 : decide (100 < s.size) = false := decide_eq_false hbig
  have hb2 : decide ((100 : Int) < (s.size : Int)) = false := decide_eq_false (by omega)
  have hsz : s.size ≤ 100 := by omega
  clear hbig
  by_cases hs0 : sl s = []
  · have he : s.toList = [] := by rw [Lib.toList_data]; exact hs0
    have he2 : s.toList.isEmpty = true := by rw [he]; rfl
    clear hs0
    go_enter Tryz.func10, Tryz.ntmps10
    go_wp2_with fail
    (with_reducible refine hw0.out.mono ?_)
    rintro e w1 ⟨rfl, hn1⟩
    have H1 := hid_mk hn1
    clear hn1
    go_wp2_with fail
    go_ret
    exact ⟨rfl, H1.out⟩
  have hne : s.toList.isEmpty = false := by
    rw [Lib.toList_data]
    show (sl s).isEmpty = false
    cases h : sl s with
    | nil => exact absurd h hs0
    | cons _ _ => rfl
  have hpos : 0 < s.size := by
    rw [← len_sl]
    exact List.length_pos_iff.2 hs0
  have hposi : (0 : Int) < (s.size : Int) := by omega
  have hl0 := hid_mk (fun w => rLetter_any (s[0]'hpos) w)
  cases h0 : isLet (s[0]'hpos) with
  | false =>
    rw [h0] at hl0
    clear h0 hs0
    go_enter Tryz.func10, Tryz.ntmps10
    go_wp2_with fail
    (with_reducible refine (hl0.out _).mono ?_)
    rintro e w1 ⟨rfl, rfl⟩
    go_wp2_with fail
    (with_reducible refine hw0.out.mono ?_)
    rintro e w1 ⟨rfl, hn1⟩
    have H1 := hid_mk hn1
    clear hn1
    go_wp2_with fail
    go_ret
    exact ⟨rfl, H1.out⟩
  | true =>
  rw [h0] at hl0
  have H0 := hid_mk (And.intro hs0 h0)
  clear hs0 h0
  have hXl : (⟨#[120, 60]⟩ : ByteArray) ++ s ++ ⟨#[62]⟩ = strOf (120 :: 60 :: sl s ++ [62]) := by
    rw [← strOf_sl ((⟨#[120, 60]⟩ : ByteArray) ++ s ++ ⟨#[62]⟩), sl_append, sl_append]
    rfl
  have hpt := hid_mk (fun w hT => parse_text (120 :: 60 :: sl s ++ [62]) (by simp only [List.cons_append, List.length_cons, List.length_append, List.length_nil, len_sl]; omega) w hT)
  rw [← hXl] at hpt
  have hln : (120 :: 60 :: sl s ++ [62] : List UInt8).length = s.size + 3 := by simp only [List.cons_append, List.length_cons, List.length_append, List.length_nil, len_sl]
  rw [hln] at hpt
  have hsm := hid_mk (fun w => rSmall_any s w (by omega))
  clear hXl hln
  go_enter Tryz.func10, Tryz.ntmps10
  go_wp2_with fail
  (with_reducible refine (hl0.out _).mono ?_)
  rintro e w1 ⟨rfl, rfl⟩
  clear hl0
  go_wp2_with fail
  go_loop [3] (fun i => ∃ k : Nat, k ≤ s.size ∧ i = .int .i64 k ∧ Hid (((sl s).take k).all alnB = true)) (fun i => s.size - (intOf i).toNat)
  case atStart => exact ⟨0, Nat.zero_le _, rfl, hid_mk rfl⟩
  case round =>
    obtain ⟨k, hk, rfl, hm⟩ := hrel
    by_cases hlt : k < s.size
    · have hlti : (k : Int) < (s.size : Int) := by omega
      have hat := aln_take (l := sl s) (k := k) (by rw [len_sl]; exact hlt)
      rw [hm.out, Bool.true_and, getD_sl s k hlt] at hat
      unfold alnB at hat
      have hlk := hid_mk (fun w => rLetter_any (s[k]'hlt) w)
      have hdk := hid_mk (fun w => rDigit_any (s[k]'hlt) w)
      cases hl1 : isLet (s[k]'hlt) with
      | true =>
        rw [hl1] at hlk
        have HN := hid_mk (show ((sl s).take (k + 1)).all alnB = true by unfold alnB; rw [hat, hl1]; rfl)
        clear hl1 hat
        go_wp2_with fail
        (with_reducible refine (hlk.out _).mono ?_)
        rintro e w1 ⟨rfl, rfl⟩
        go_wp2_with fail
        go_round
        case rel => exact ⟨k + 1, by omega, by go_num, HN⟩
        case measure => simp [intOf]; omega
      | false =>
        rw [hl1] at hlk
        cases hd1 : isDig (s[k]'hlt) with
        | true =>
          rw [hd1] at hdk
          have HN := hid_mk (show ((sl s).take (k + 1)).all alnB = true by unfold alnB; rw [hat, hl1, hd1]; rfl)
          clear hl1 hd1 hat
          go_wp2_with fail
          (with_reducible refine (hlk.out _).mono ?_)
          rintro e w1 ⟨rfl, rfl⟩
          go_wp2_with fail
          (with_reducible refine (hdk.out _).mono ?_)
          rintro e w1 ⟨rfl, rfl⟩
          go_wp2_with fail
          go_round
          case rel => exact ⟨k + 1, by omega, by go_num, HN⟩
          case measure => simp [intOf]; omega
        | false =>
          rw [hd1] at hdk
          clear hl1 hd1 hat
          go_wp2_with fail
          (with_reducible refine (hlk.out _).mono ?_)
          rintro e w1 ⟨rfl, rfl⟩
          go_wp2_with fail
          (with_reducible refine (hdk.out _).mono ?_)
          rintro e w1 ⟨rfl, rfl⟩
          go_wp2_with fail
          (with_reducible refine hw0.out.mono ?_)
          rintro e w1 ⟨rfl, hn1⟩
          have H1 := hid_mk hn1
          clear hn1
          go_wp2_with fail
          go_ret
          exact ⟨rfl, H1.out⟩
    · have hall := hm.out
      rw [List.take_of_length_le (by rw [len_sl]; omega), List.all_eq_true] at hall
      have hlti : ¬ (k : Int) < (s.size : Int) := by omega
      have HK := hid_mk (parse_name H0.out.1 (by rw [getD_sl s 0 hpos]; exact H0.out.2) hall (by rw [len_sl]; omega))
      have hwl : (smL (sl s)).length = s.size := by unfold smL; rw [List.length_map, len_sl]
      obtain ⟨W, hW⟩ : ∃ W, W = smL (sl s) := ⟨_, rfl⟩
      rw [← hW] at HK hsm hwl
      have hrk := hid_mk (fun w => refKind_any (strOf W) w)
      rw [sl_strOf] at hrk
      obtain ⟨K, hK⟩ : ∃ K, K = kindL W := ⟨_, rfl⟩
      rw [← hK] at HK hrk
      clear hall hm hW hK
      go_wp2_with fail
      (with_reducible refine (hsm.out _).mono ?_)
      rintro e w1 ⟨rfl, hb1⟩
      have H1 := hid_mk (Next.of HT.out hb1)
      clear hb1
      go_wp2_with fail
      (with_reducible refine (hrk.out _).mono ?_)
      rintro e w2 ⟨rfl, rfl⟩
      obtain ⟨gc, w2, hcv, hn2, hpa⟩ := hpt.out w1 H1.out.2
      have HN2 := hid_mk (H1.out.trans hn2)
      have HPA := hid_mk hpa
      clear hn2 hpa hpt H1 hrk hw0
      by_cases hk0 : K = 0
      · have hq1 : ((K : Int) == 0) = true := by rw [hk0]; rfl
        have HK2 := hid_mk (HK.out.trans (if_pos hk0))
        clear hk0
        go_wp2_with fail
        (with_reducible refine HPA.out.mono ?_)
        rintro e w3 ⟨v, ns, rfl, hns, htr, hn3⟩
        rw [HK2.out] at hns ⊢
        simp only at hns ⊢
        rw [show ((50 : Nat) : Int) = 50 from rfl, show ((1 : Nat) : Int) = 1 from rfl]
        have HN3 := hid_mk (HN2.out.trans hn3)
        obtain ⟨va, vc, hv⟩ := own_slice htr.row
        subst hv
        have hw3 := hid_mk (hwo.out w3 HN3.out.2)
        clear hns htr hn3 HPA hcv
        go_wp2_with fail
        (with_reducible refine hw3.out.mono ?_)
        rintro e w4 ⟨rfl, hn4⟩
        have HN4 := hid_mk (HN3.out.trans hn4)
        clear hn4
        go_wp2_with fail
        go_ret
        exact ⟨rfl, HN4.out⟩
      · have hq1 : ((K : Int) == 0) = false := beq_false_of_ne (by omega)
        have HK2 := hid_mk (HK.out.trans (if_neg hk0))
        clear hk0
        go_wp2_with fail
        (with_reducible refine HPA.out.mono ?_)
        rintro e w3 ⟨v, ns, rfl, hns, htr, hn3⟩
        rw [HK2.out] at hns ⊢
        simp only at hns ⊢
        rw [show ((0 : Nat) : Int) = 0 from rfl]
        have HN3 := hid_mk (HN2.out.trans hn3)
        have hlen : ns.length = 3 := by simpa using (congrArg List.length hns).symm
        match ns, hlen, hns, htr with
        | [p0, p1, p2], hl3, hns, htr =>
        clear hl3
        simp only [List.map_cons, List.map_nil, List.cons.injEq, and_true] at hns
        obtain ⟨hz0, hz1, hz2⟩ := hns
        obtain ⟨g, cap, cur, hv, hr1, hr2, hr3, hr4, hc⟩ := htr.look (by simp)
        rw [show ([p0, p1, p2] : List NdM).length = 3 from rfl] at hv
        subst hv
        clear hr1 hr3 hr4
        have hgl : g < w3.heap.size := (Array.getElem?_eq_some_iff.1 hr2).1
        have hkk := htr.kids p2 (by simp)
        rw [← hz2] at hkk
        obtain ⟨ka, kc2, hk2⟩ := own_slice hkk
        have d13 : w3.cell? ⟨g, 13, none⟩ = some (.string (strOf W)) := by
          have := hc 2 (by simp) 1 (by decide)
          simp only [List.getElem_cons_succ, List.getElem_cons_zero, ndF] at this
          rw [← hz2] at this
          exact this
        have d17 : w3.cell? ⟨g, 17, none⟩ = some (.slice ka 0 kc2) := by
          have := hc 2 (by simp) 5 (by decide)
          simp only [List.getElem_cons_succ, List.getElem_cons_zero, ndF] at this
          rw [hk2] at this
          exact this
        clear hc hkk hk2 hz0 hz1 hz2 htr hr2 hn3 HPA hcv hlen
        have hT3 := hid_mk HN3.out.2
        go_wp2_with fail
        go_region_held3 (fun w' => w'.cell? ⟨g, 13, none⟩ = some (.string (strOf W)) ∧ w'.cell? ⟨g, 17, none⟩ = some (.slice ka 0 kc2) ∧ Next w3 w')
          (first
            | exact ⟨d13, d17, Next.of hT3.out (below_drewN (Below.refl _ _) 1)⟩
            | (go_split_ands; exact ⟨below_cell nA d13 hgl, below_cell nA d17 hgl, Next.of hT3.out nA⟩)
            | (go_split_ands; exact ⟨below_cell (‹Next w3 _›.trans nA).1 d13 hgl, below_cell (‹Next w3 _›.trans nA).1 d17 hgl, ‹Next w3 _›.trans nA⟩)
            | (go_split_ands; exact ⟨below_cell (‹Next w3 _›.trans nB).1 d13 hgl, below_cell (‹Next w3 _›.trans nB).1 d17 hgl, ‹Next w3 _›.trans nB⟩))
          (first
            | (go_at_call 30; go_split_ands; refine (hsm.out _).mono ?_; rintro e w5 ⟨rfl, nA0⟩; have nA := Next.of (by exact (‹Next w3 _›).2) nA0; clear nA0)
            | (go_at_call 11; go_split_ands; refine (hwo.out _ (by exact (‹Next w3 _›).2)).mono ?_; rintro e w5 ⟨rfl, nB⟩))
        all_goals
          go_split_ands
          go_wp2
          go_ret
          exact ⟨rfl, HN3.out.trans (by assumption)⟩
theorem treeNames_c (s : ByteArray) (w : World) {c : Prop} (_ : c) (hT : Tab w) :
    Calls Tryz.prog 10 #[.string s] w fun e w' => e = .returned (.bool true) ∧ Next w w' := treeNames_w s w hT
end Go.Proofs.YtfjhljhgmbhklaaGreatDoor
