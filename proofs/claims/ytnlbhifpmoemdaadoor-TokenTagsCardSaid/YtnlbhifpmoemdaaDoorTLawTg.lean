/-
  The law of layer 4 about tags of any name: it returns true for every text. Condition: the world holds what Tab says.
-/
import Derived.Test.YtnlbhifpmoemdaaDoorTMathT
import Derived.Test.YtnlbhifpmoemdaaDoorTRefA
namespace Go.Proofs.YtnlbhifpmoemdaaDoor
open Go.RowKit
theorem aln_take {l : List UInt8} {k : Nat} (hk : k < l.length) : (l.take (k + 1)).all alnB = ((l.take k).all alnB && alnB (l.getD k 0)) := by
  rw [List.take_add_one, List.all_append, List.getElem?_eq_getElem hk]
  simp [List.getD, hk]
set_option maxHeartbeats 8000000 in
set_option maxRecDepth 100000 in
theorem tokenTags_w (s : ByteArray) (w : World) (hT : Tab w) :
    Calls Tryd.prog 5 #[.string s] w fun e w' => e = .returned (.bool true) ∧ Next w w' := by
  have HT := hid_mk hT
  clear hT
  by_cases hbig : 200 < s.size
  · have hb1 : decide (200 < s.size) = true := decide_eq_true hbig
    have hb2 : decide ((200 : Int) < (s.size : Int)) = true := decide_eq_true (by omega)
    clear hbig
    go_enter Tryd.func5, Tryd.ntmps5
    go_wp2_with fail
    refine (works_any w HT.out).mono ?_
    rintro e w1 ⟨rfl, hn1⟩
    have H1 := hid_mk hn1
    clear hn1
    go_wp2
    go_ret
    exact ⟨rfl, H1.out⟩
  have hb1 : decide (200 < s.size) = false := decide_eq_false hbig
  have hb2 : decide ((200 : Int) < (s.size : Int)) = false := decide_eq_false (by omega)
  have hsz : s.size ≤ 200 := by omega
  clear hbig
  by_cases hs0 : sl s = []
  · have he : s.toList = [] := by rw [Lib.toList_data]; exact hs0
    have he2 : s.toList.isEmpty = true := by rw [he]; rfl
    clear hs0
    go_enter Tryd.func5, Tryd.ntmps5
    go_wp2_with fail
    refine (works_any w HT.out).mono ?_
    rintro e w1 ⟨rfl, hn1⟩
    have H1 := hid_mk hn1
    clear hn1
    go_wp2
    go_ret
    exact ⟨rfl, H1.out⟩
  have hne : s.toList.isEmpty = false := by
    rw [Lib.toList_data]
    show (sl s).isEmpty = false
    cases h : sl s with
    | nil => exact absurd h hs0
    | cons _ _ => rfl
  have hpos : 0 < s.size := by
    rw [← len_sl]
    exact List.length_pos_iff.2 hs0
  have hposi : (0 : Int) < (s.size : Int) := by omega
  have hl0 := hid_mk (fun w => rLetter_any (s[0]'hpos) w)
  cases h0 : isLet (s[0]'hpos) with
  | false =>
    rw [h0] at hl0
    clear h0 hs0
    go_enter Tryd.func5, Tryd.ntmps5
    go_wp2_with fail
    refine (hl0.out _).mono ?_
    rintro e w1 ⟨rfl, rfl⟩
    go_wp2_with fail
    refine (works_any w HT.out).mono ?_
    rintro e w1 ⟨rfl, hn1⟩
    have H1 := hid_mk hn1
    clear hn1
    go_wp2
    go_ret
    exact ⟨rfl, H1.out⟩
  | true =>
  rw [h0] at hl0
  have H0 := hid_mk (And.intro hs0 h0)
  clear hs0 h0
  obtain ⟨X, hX⟩ : ∃ X, X = ⟨#[60]⟩ ++ s ++ ⟨#[62, 60, 47]⟩ ++ s ++ ⟨#[62, 60]⟩ ++ s ++ ⟨#[47, 62]⟩ := ⟨_, rfl⟩
  have hXl : sl X = tagsText (sl s) := by
    rw [hX, sl_append, sl_append, sl_append, sl_append, sl_append, sl_append]
    unfold tagsText
    show [60] ++ sl s ++ [62, 60, 47] ++ sl s ++ [62, 60] ++ sl s ++ [47, 62] = _
    simp
  have hXs : X.size ≤ 1000 := by
    rw [hX]
    simp only [ByteArray.size_append]
    show 1 + s.size + 3 + s.size + 2 + s.size + 2 ≤ 1000
    omega
  have HX := hid_mk hX.symm
  have HXl := hid_mk hXl
  have hsm := hid_mk (fun w => rSmall_any s w (by omega))
  clear hX hXl
  go_enter Tryd.func5, Tryd.ntmps5
  go_wp2_with fail
  refine (hl0.out _).mono ?_
  rintro e w1 ⟨rfl, rfl⟩
  clear hl0
  go_wp2_with fail
  go_loop [3] (fun i => ∃ k : Nat, k ≤ s.size ∧ i = .int .i64 k ∧ Hid (((sl s).take k).all alnB = true)) (fun i => s.size - (intOf i).toNat)
  case atStart => exact ⟨0, Nat.zero_le _, rfl, hid_mk rfl⟩
  case round =>
    obtain ⟨k, hk, rfl, hm⟩ := hrel
    by_cases hlt : k < s.size
    · have hlti : (k : Int) < (s.size : Int) := by omega
      have hat := aln_take (l := sl s) (k := k) (by rw [len_sl]; exact hlt)
      rw [hm.out, Bool.true_and, getD_sl s k hlt] at hat
      unfold alnB at hat
      have hlk := hid_mk (fun w => rLetter_any (s[k]'hlt) w)
      have hdk := hid_mk (fun w => rDigit_any (s[k]'hlt) w)
      cases hl1 : isLet (s[k]'hlt) with
      | true =>
        rw [hl1] at hlk
        have HN := hid_mk (show ((sl s).take (k + 1)).all alnB = true by unfold alnB; rw [hat, hl1]; rfl)
        clear hl1 hat
        go_wp2_with fail
        refine (hlk.out _).mono ?_
        rintro e w1 ⟨rfl, rfl⟩
        go_wp2_with fail
        go_round
        case rel => exact ⟨k + 1, by omega, by go_num, HN⟩
        case measure => simp [intOf]; omega
      | false =>
        rw [hl1] at hlk
        cases hd1 : isDig (s[k]'hlt) with
        | true =>
          rw [hd1] at hdk
          have HN := hid_mk (show ((sl s).take (k + 1)).all alnB = true by unfold alnB; rw [hat, hl1, hd1]; rfl)
          clear hl1 hd1 hat
          go_wp2_with fail
          refine (hlk.out _).mono ?_
          rintro e w1 ⟨rfl, rfl⟩
          go_wp2_with fail
          refine (hdk.out _).mono ?_
          rintro e w1 ⟨rfl, rfl⟩
          go_wp2_with fail
          go_round
          case rel => exact ⟨k + 1, by omega, by go_num, HN⟩
          case measure => simp [intOf]; omega
        | false =>
          rw [hd1] at hdk
          clear hl1 hd1 hat
          go_wp2_with fail
          refine (hlk.out _).mono ?_
          rintro e w1 ⟨rfl, rfl⟩
          go_wp2_with fail
          refine (hdk.out _).mono ?_
          rintro e w1 ⟨rfl, rfl⟩
          go_wp2_with fail
          refine (works_any _ HT.out).mono ?_
          rintro e w1 ⟨rfl, hn1⟩
          have H1 := hid_mk hn1
          clear hn1
          go_wp2_with fail
          go_ret
          exact ⟨rfl, H1.out⟩
    · have hall := hm.out
      rw [List.take_of_length_le (by rw [len_sl]; omega), List.all_eq_true] at hall
      have hlti : ¬ (k : Int) < (s.size : Int) := by omega
      have HK := hid_mk (toks_tags H0.out.1 (by rw [getD_sl s 0 hpos]; exact H0.out.2) hall (by rw [len_sl]; exact hsz))
      obtain ⟨W, hW⟩ : ∃ W, W = smL (sl s) := ⟨_, rfl⟩
      rw [← hW] at HK hsm
      clear hall hm hW
      go_wp2_with fail
      refine (hsm.out _).mono ?_
      rintro e w1 ⟨rfl, hb1⟩
      have H1 := hid_mk (Next.of HT.out hb1)
      have hto := hid_mk (tokens_any X w1 (HT.out.below hb1) (by omega))
      clear hb1 hsm
      rw [HXl.out] at hto
      go_wp2_with fail
      rw [HX.out]
      refine hto.out.mono ?_
      rintro e w2 ⟨v, ps, rfl, hps, hrow, hn⟩
      rw [HK.out] at hps ⊢
      have H2 := hid_mk (And.intro (H1.out.trans hn) hrow)
      clear hto hrow hn H1
      have hlen : ps.length = 3 := by simpa using (congrArg List.length hps).symm
      match ps, hlen, H2, hps with
      | [p0, p1, p2], _, H2, hps =>
      obtain ⟨g, c, hv⟩ := H2.out.2.some (by simp)
      rw [show ([p0, p1, p2] : List (Tk × Value)).length = 3 from rfl] at hv
      subst hv
      simp only [List.map_cons, List.map_nil, List.cons.injEq, and_true] at hps
      obtain ⟨hp0, hp1, hp2⟩ := hps
      have c0 := fun j hj => H2.out.2.cells 0 (by simp) j hj
      have c1 := fun j hj => H2.out.2.cells 1 (by simp) j hj
      have c2 := fun j hj => H2.out.2.cells 2 (by simp) j hj
      simp only [List.getElem_cons_zero, List.getElem_cons_succ, tkF, ← hp0, ← hp1, ← hp2] at c0 c1 c2
      have r0 := H2.out.2.2 p0 (by simp)
      have r1 := H2.out.2.2 p1 (by simp)
      have r2 := H2.out.2.2 p2 (by simp)
      rw [← hp0] at r0
      rw [← hp1] at r1
      rw [← hp2] at r2
      obtain ⟨a0, k0, hv0⟩ := own_slice r0
      obtain ⟨a1, k1, hv1⟩ := own_slice r1
      obtain ⟨a2, k2, hv2⟩ := own_slice r2
      have d00 : w2.cell? ⟨g, 0, none⟩ = some (.int .u8 1) := c0 0 (by decide)
      have d01 : w2.cell? ⟨g, 1, none⟩ = some (.string (strOf W)) := c0 1 (by decide)
      have d02 : w2.cell? ⟨g, 2, none⟩ = some (.slice a0 0 k0) := (c0 2 (by decide)).trans (by rw [hv0]; rfl)
      have d03 : w2.cell? ⟨g, 3, none⟩ = some (.bool false) := c0 3 (by decide)
      have d10 : w2.cell? ⟨g, 5, none⟩ = some (.int .u8 2) := c1 0 (by decide)
      have d11 : w2.cell? ⟨g, 6, none⟩ = some (.string (strOf W)) := c1 1 (by decide)
      have d12 : w2.cell? ⟨g, 7, none⟩ = some (.slice a1 0 k1) := (c1 2 (by decide)).trans (by rw [hv1]; rfl)
      have d13 : w2.cell? ⟨g, 8, none⟩ = some (.bool false) := c1 3 (by decide)
      have d20 : w2.cell? ⟨g, 10, none⟩ = some (.int .u8 1) := c2 0 (by decide)
      have d21 : w2.cell? ⟨g, 11, none⟩ = some (.string (strOf W)) := c2 1 (by decide)
      have d22 : w2.cell? ⟨g, 12, none⟩ = some (.slice a2 0 k2) := (c2 2 (by decide)).trans (by rw [hv2]; rfl)
      have d23 : w2.cell? ⟨g, 13, none⟩ = some (.bool true) := c2 3 (by decide)
      clear c0 c1 c2 r0 r1 r2 hp0 hp1 hp2 hv0 hv1 hv2
      go_wp2_with fail
      go_loop [8] (fun i => ∃ q : Nat, q ≤ 3 ∧ i = .int .i64 q) (fun i => 3 - (intOf i).toNat)
      case atStart => exact ⟨0, by omega, rfl⟩
      case round =>
        obtain ⟨q, hq, rfl⟩ := hrel
        match q, hq with
        | 0, _ =>
          go_wp2_with fail
          go_round
          case rel => exact ⟨1, by omega, by go_num⟩
          case measure => simp [intOf]
        | 1, _ =>
          go_wp2_with fail
          go_round
          case rel => exact ⟨2, by omega, by go_num⟩
          case measure => simp [intOf]
        | 2, _ =>
          go_wp2_with fail
          go_round
          case rel => exact ⟨3, by omega, by go_num⟩
          case measure => simp [intOf]
        | 3, _ =>
          go_wp2_with fail
          refine (works_any w2 H2.out.1.2).mono ?_
          rintro e w3 ⟨rfl, hn3⟩
          have H3 := hid_mk (H2.out.1.trans hn3)
          clear hn3
          go_wp2_with fail
          go_ret
          exact ⟨rfl, H3.out⟩
theorem tokenTags_c (s : ByteArray) (w : World) {c : Prop} (_ : c) (hT : Tab w) :
    Calls Tryd.prog 5 #[.string s] w fun e w' => e = .returned (.bool true) ∧ Next w w' := tokenTags_w s w hT
end Go.Proofs.YtnlbhifpmoemdaaDoor
