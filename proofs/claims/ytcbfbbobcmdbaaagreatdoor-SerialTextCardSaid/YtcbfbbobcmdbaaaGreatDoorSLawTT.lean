/-
  selvedgekit.Pick: a number brought into a range. Condition: the number's bound is above 0.
-/
import Derived.Test.YtcbfbbobcmdbaaaGreatDoorWords
import Derived.IntWalk
import Derived.Test.YtcbfbbobcmdbaaaGreatDoorSRfE
import Derived.Test.YtcbfbbobcmdbaaaGreatDoorLpEsc
import Derived.Test.YtcbfbbobcmdbaaaGreatDoorTrWT
import Derived.Test.YtcbfbbobcmdbaaaGreatDoorTrWell
import Derived.Test.YtcbfbbobcmdbaaaGreatDoorSSW
namespace Go.Proofs.YtcbfbbobcmdbaaaGreatDoor
open Go.RowKit
def pickN (n : Int) (m : Nat) : Nat := ((n.tmod m + m).tmod m).toNat
theorem pick_lt (n : Int) (m : Nat) (hm : 0 < m) : pickN n m < m := by
  unfold pickN
  have h1 := Int.tmod_lt_of_pos (n.tmod m + m) (show (0 : Int) < m by omega)
  omega
theorem pick_any (n : Int) (m : Nat) (hm : 0 < m) (hm2 : m ≤ 1000000) (w : World) :
    Calls Tryz.prog 31 #[.int .i64 n, .int .i64 (m : Int)] w fun e w' => e = .returned (.int .i64 (pickN n m : Int)) ∧ w = w' := by
  have hmz : ¬ (m : Int) = 0 := by omega
  have hmd : decide ((m : Int) ≤ 0) = false := by simp; omega
  have a1 := Int.tmod_lt_of_pos n (show (0 : Int) < m by omega)
  have a2 := Int.lt_tmod_of_pos n (show (0 : Int) < m by omega)
  have e1 : IntKind.i64.wrap (n.tmod m) = n.tmod m := IntWalk.i64_in _ (by omega)
  have e2 : IntKind.i64.wrap (n.tmod m + m) = n.tmod m + m := IntWalk.i64_in _ (by omega)
  have b1 := Int.tmod_lt_of_pos (n.tmod m + m) (show (0 : Int) < m by omega)
  have b2 := Int.tmod_nonneg m (show (0 : Int) ≤ n.tmod m + m by omega)
  have e3 : IntKind.i64.wrap ((n.tmod m + m).tmod m) = (n.tmod m + m).tmod m := IntWalk.i64_in _ (by omega)
  have e4 := hid_mk (show (pickN n m : Int) = (n.tmod m + m).tmod m by unfold pickN; omega)
  clear a1 a2 b1 b2 hm hm2
  go_enter Tryz.func31, Tryz.ntmps31
  go_wp2
  go_ret
  rw [e4.out]
  exact ⟨rfl, rfl⟩
end Go.Proofs.YtcbfbbobcmdbaaaGreatDoor
/-
  The law of layer 6 about an escaped text as an element's content: it returns true for every text and number. Condition: the world holds what TabV and Tab say.
-/
namespace Go.Proofs.YtcbfbbobcmdbaaaGreatDoor
open Go.RowKit
def nmCells : Array Value := #[.string ⟨#[100, 105, 118]⟩, .string ⟨#[117, 108]⟩, .string ⟨#[111, 108]⟩, .string ⟨#[115, 101, 99, 116, 105, 111, 110]⟩, .string ⟨#[97, 114, 116, 105, 99, 108, 101]⟩, .string ⟨#[104, 101, 97, 100, 101, 114]⟩, .string ⟨#[102, 111, 111, 116, 101, 114]⟩, .string ⟨#[109, 97, 105, 110]⟩, .string ⟨#[110, 97, 118]⟩, .string ⟨#[97, 115, 105, 100, 101]⟩, .string ⟨#[98, 108, 111, 99, 107, 113, 117, 111, 116, 101]⟩, .string ⟨#[102, 105, 103, 117, 114, 101]⟩, .string ⟨#[112]⟩, .string ⟨#[108, 105]⟩, .string ⟨#[104, 49]⟩, .string ⟨#[104, 50]⟩, .string ⟨#[104, 51]⟩, .string ⟨#[104, 52]⟩, .string ⟨#[104, 53]⟩, .string ⟨#[104, 54]⟩, .string ⟨#[115, 112, 97, 110]⟩, .string ⟨#[98]⟩, .string ⟨#[105]⟩, .string ⟨#[101, 109]⟩, .string ⟨#[115, 116, 114, 111, 110, 103]⟩, .string ⟨#[117]⟩, .string ⟨#[115]⟩, .string ⟨#[115, 109, 97, 108, 108]⟩, .string ⟨#[99, 111, 100, 101]⟩, .string ⟨#[98, 100, 105]⟩, .string ⟨#[98, 100, 111]⟩, .string ⟨#[97, 98, 98, 114]⟩, .string ⟨#[99, 105, 116, 101]⟩, .string ⟨#[113]⟩, .string ⟨#[115, 117, 98]⟩, .string ⟨#[115, 117, 112]⟩, .string ⟨#[109, 97, 114, 107]⟩, .string ⟨#[97]⟩]
theorem nm_cell (k : Nat) (hk : k < 38) : nmCells[k]? = some (.string (strOf (nmT.getD k []))) ∧ nmT.getD k [] ∈ nmT := by
  have h : ∀ k, k < 38 → nmCells[k]? = some (.string (strOf (nmT.getD k []))) ∧ nmT.getD k [] ∈ nmT := by
    intro k hk
    have hm : nmT.getD k [] ∈ nmT := by
      rw [List.getD_eq_getElem?_getD, List.getElem?_eq_getElem (by rw [nmT_len]; exact hk)]
      exact List.getElem_mem _
    refine ⟨?_, hm⟩
    clear hm
    rcases (by omega : k = 0 ∨ k = 1 ∨ k = 2 ∨ k = 3 ∨ k = 4 ∨ k = 5 ∨ k = 6 ∨ k = 7 ∨ k = 8 ∨ k = 9 ∨ k = 10 ∨ k = 11 ∨ k = 12 ∨ k = 13 ∨ k = 14 ∨ k = 15 ∨ k = 16 ∨ k = 17 ∨ k = 18 ∨ k = 19 ∨ k = 20 ∨ k = 21 ∨ k = 22 ∨ k = 23 ∨ k = 24 ∨ k = 25 ∨ k = 26 ∨ k = 27 ∨ k = 28 ∨ k = 29 ∨ k = 30 ∨ k = 31 ∨ k = 32 ∨ k = 33 ∨ k = 34 ∨ k = 35 ∨ k = 36 ∨ k = 37) with rfl | rfl | rfl | rfl | rfl | rfl | rfl | rfl | rfl | rfl | rfl | rfl | rfl | rfl | rfl | rfl | rfl | rfl | rfl | rfl | rfl | rfl | rfl | rfl | rfl | rfl | rfl | rfl | rfl | rfl | rfl | rfl | rfl | rfl | rfl | rfl | rfl | rfl <;> rfl
  exact h k hk
theorem below_at {w w' : World} (h : Below w.heap.size w w') {p : Addr} {v : Value} (hc : w.cell? p = some v) : w'.cell? p = some v := (h.cell (World.block_lt_of_cell? w p hc)).trans hc
theorem cat_elem (W E : List UInt8) : (⟨#[60]⟩ : ByteArray) ++ strOf W ++ (⟨#[62]⟩ : ByteArray) ++ strOf E ++ (⟨#[60, 47]⟩ : ByteArray) ++ strOf W ++ (⟨#[62]⟩ : ByteArray) = strOf (elemT W E) := by
  show strOf [60] ++ strOf W ++ strOf [62] ++ strOf E ++ strOf [60, 47] ++ strOf W ++ strOf [62] = _
  simp only [strOf_app]
  unfold elemT
  congr 1
  simp
theorem cat_attr (W E : List UInt8) : (⟨#[60]⟩ : ByteArray) ++ strOf W ++ (⟨#[32, 116, 105, 116, 108, 101, 61, 34]⟩ : ByteArray) ++ strOf E ++ (⟨#[34, 62]⟩ : ByteArray) = strOf (attrT W E) := by
  show strOf [60] ++ strOf W ++ strOf [32, 116, 105, 116, 108, 101, 61, 34] ++ strOf E ++ strOf [34, 62] = _
  simp only [strOf_app]
  unfold attrT
  congr 1
  simp
theorem elem_len (W E : List UInt8) : (elemT W E).length = 2 * W.length + E.length + 5 := by
  unfold elemT
  simp only [List.length_append, List.length_cons, List.length_nil]
  omega
theorem attr_len2 (W E : List UInt8) : (attrT W E).length = W.length + E.length + 11 := by
  unfold attrT
  simp only [List.length_append, List.length_cons, List.length_nil]
  omega
set_option maxHeartbeats 8000000 in
set_option maxRecDepth 100000 in
theorem serialText_w (s : ByteArray) (n : Int) (w : World) (hT : Tab w) (hwk : ∀ w', Below w.heap.size w w' → Calls Tryz.prog 27 #[] w' fun e w'' => e = .returned (.bool true) ∧ Below w'.heap.size w' w'') :
    Calls Tryz.prog 10 #[.string s, .int .i64 n] w fun e w' => e = .returned (.bool true) ∧ Below w.heap.size w w' := by
  have hwo := hid_mk hwk
  clear hwk
  have HT := hid_mk (fun w' (hb : Below w.heap.size w w') => hT.below hb)
  clear hT
  by_cases h1 : 5000 < s.size
  · have q1 : decide (5000 < (s.size : Int)) = true := by simp; omega
    have q2 : decide (5000 < s.size) = true := by simp; omega
    clear HT
    go_enter Tryz.func10, Tryz.ntmps10
    have hw8 := hid_mk (hwo.out _ (Below.refl w.heap.size w))
    clear hwo
    go_wp2_with fail
    with_reducible refine hw8.out.mono ?_
    rintro e w9 ⟨rfl, hb9⟩
    have H9 := hid_mk ((Below.refl w.heap.size w).trans (hb9.mono (Below.refl w.heap.size w).size))
    clear hb9
    go_wp2_with fail
    go_ret
    exact ⟨rfl, H9.out⟩
  have q1 : decide (5000 < (s.size : Int)) = false := by simp; omega
  have q2 : decide (5000 < s.size) = false := by simp; omega
  have hse0 : (⟨#[]⟩ : ByteArray).toList = [] := by rw [Lib.toList_data]
  by_cases h2 : s.size = 0
  · have hse : s.toList.isEmpty = true := by
      rw [Lib.toList_data, show s.data.toList = [] from List.eq_nil_of_length_eq_zero (by rw [Array.length_toList]; exact h2)]
      rfl
    clear HT
    go_enter Tryz.func10, Tryz.ntmps10
    have hw8 := hid_mk (hwo.out _ (Below.refl w.heap.size w))
    clear hwo
    go_wp2_with fail
    with_reducible refine hw8.out.mono ?_
    rintro e w9 ⟨rfl, hb9⟩
    have H9 := hid_mk ((Below.refl w.heap.size w).trans (hb9.mono (Below.refl w.heap.size w).size))
    clear hb9
    go_wp2_with fail
    go_ret
    exact ⟨rfl, H9.out⟩
  have hse : s.toList.isEmpty = false := not_empty (by omega)
  have hwa := hid_mk (U.well_any s (by omega) w)
  rw [show U.sl s = sl s from rfl] at hwa
  cases hv : U.wel0 (sl s) with
  | false =>
    rw [hv] at hwa
    clear hv HT
    go_enter Tryz.func10, Tryz.ntmps10
    go_wp2_with fail
    with_reducible refine hwa.out.mono ?_
    rintro e w1 ⟨rfl, hb1⟩
    have H1 := hid_mk hb1
    clear hb1
    have hw8 := hid_mk (hwo.out _ (H1.out))
    clear hwo
    go_wp2_with fail
    with_reducible refine hw8.out.mono ?_
    rintro e w9 ⟨rfl, hb9⟩
    have H9 := hid_mk ((H1.out).trans (hb9.mono (H1.out).size))
    clear hb9
    go_wp2_with fail
    go_ret
    exact ⟨rfl, H9.out⟩
  | true =>
    rw [hv] at hwa
    have hv1 : U.wellL (sl s) = true ∧ ∀ c ∈ sl s, c ≠ 0 := by
      unfold U.wel0 at hv
      rw [Bool.and_eq_true] at hv
      refine ⟨hv.1, fun c hc e => ?_⟩
      have := List.all_eq_true.1 (show ((sl s).all fun c => c != 0) = true from hv.2) c hc
      rw [e] at this
      exact absurd this (by decide)
    have hln : (sl s).length ≤ 5000 := by rw [len_sl]; omega
    have hne : sl s ≠ [] := fun e => h2 (by rw [← len_sl, e]; rfl)
    have hk := pick_lt n 38 (by omega)
    have hpk := hid_mk (fun w => pick_any n 38 (by omega) (by omega) w)
    rw [show ((38 : Nat) : Int) = 38 from rfl] at hpk
    generalize pickN n 38 = k at *
    obtain ⟨hcn, hmem⟩ := nm_cell k hk
    have PE := hid_mk (parse_elem hmem hne hv1.2 hv1.1 hln)
    have PA := hid_mk (parse_attr hmem hv1.2 hv1.1 hln)
    have hnl := (nm_facts hmem).2.2.2.1
    generalize nmT.getD k [] = W at *
    have hel := escL_len false (sl s)
    have hal := escL_len true (sl s)
    have hp1 := hid_mk (fun w => R.escapeText_any s (by omega) w)
    have hp2 := hid_mk (fun w => R.escapeValue_any s (by omega) w)
    have CE := hid_mk (cat_elem W (escL false (sl s)))
    have CA := hid_mk (cat_attr W (escL true (sl s)))
    have LE := elem_len W (escL false (sl s))
    have LA := attr_len2 W (escL true (sl s))
    have zE := size_strOf (escL false (sl s))
    have zA := size_strOf (escL true (sl s))
    have zW := size_strOf W
    generalize escL false (sl s) = E at *
    generalize escL true (sl s) = A at *
    have hpE := hid_mk (fun w hT => parse_text (elemT W E) (by omega) w hT)
    have hpA := hid_mk (fun w hT => parse_text (attrT W A) (by omega) w hT)
    rw [← CE.out, LE] at hpE
    rw [← CA.out, LA] at hpA
    clear CE CA LE LA hv
    generalize 2 * W.length + E.length + 5 = NE at *
    generalize W.length + A.length + 11 = NA at *
    have SS := hid_mk (strOf_sl s)
    generalize sl s = S at *
    have r1 : ¬ 9223372036854775807 < 1 + (strOf W).size := by omega
    have r2 : ¬ 9223372036854775807 < 1 + (strOf W).size + 1 := by omega
    have r3 : ¬ 9223372036854775807 < 1 + (strOf W).size + 1 + (strOf E).size := by omega
    have r4 : ¬ 9223372036854775807 < 1 + (strOf W).size + 1 + (strOf E).size + 2 := by omega
    have r5 : ¬ 9223372036854775807 < 1 + (strOf W).size + 1 + (strOf E).size + 2 + (strOf W).size := by omega
    have r6 : ¬ 9223372036854775807 < 1 + (strOf W).size + 1 + (strOf E).size + 2 + (strOf W).size + 1 := by omega
    have r7 : ¬ 9223372036854775807 < 1 + (strOf W).size + 8 := by omega
    have r8 : ¬ 9223372036854775807 < 1 + (strOf W).size + 8 + (strOf A).size := by omega
    have r9 : ¬ 9223372036854775807 < 1 + (strOf W).size + 8 + (strOf A).size + 2 := by omega
    clear zE zA zW hel hal hnl hln
    generalize hWN : strOf W = WN at *
    have HWN := hid_mk hWN
    clear hWN
    generalize strOf E = EN at *
    generalize strOf A = AN at *
    go_enter Tryz.func10, Tryz.ntmps10
    go_wp2_with fail
    with_reducible refine hwa.out.mono ?_
    rintro e w1 ⟨rfl, hb1⟩
    obtain ⟨w2, hw2⟩ : ∃ w2, w2 = w1.alloc (.cells nmCells 9 (0, 0)) := ⟨_, rfl⟩
    have c0 : w2.cell? ⟨w1.heap.size, k, none⟩ = some (.string WN) := by rw [hw2]; exact (cell_of_row _ _ k _ _ _ (heap_alloc_new w1 _)).trans hcn
    have H2 := hid_mk (show Below w.heap.size w w2 by rw [hw2]; exact hb1.alloc hb1.size _)
    have HW2 := hid_mk hw2.symm
    unfold nmCells at HW2
    clear hw2 hb1 hwa hcn
    go_wp2_with fail
    rw [HW2.out]
    clear HW2
    with_reducible refine (hpk.out _).mono ?_
    rintro e w2' ⟨rfl, rfl⟩
    have hki : (k : Int) < 38 := by omega
    have hki0 : (0 : Int) ≤ (k : Int) := by omega
    clear hpk
    go_wp2_with fail
    with_reducible refine (hp1.out _).mono ?_
    rintro e w3 ⟨rfl, hb3⟩
    have H3 := hid_mk (H2.out.trans (hb3.mono H2.out.size))
    clear hb3 H2 hp1 c0
    obtain ⟨gc, w4, hcv, hn4, hpa⟩ := hpE.out w3 (HT.out _ H3.out)
    have H4 := hid_mk (H3.out.trans (hn4.1.mono H3.out.size))
    have HPA := hid_mk hpa
    clear hn4 hpa hpE
    go_wp2_with fail
    (with_reducible refine HPA.out.mono ?_)
    rintro e w5 ⟨v, ns, rfl, hns, htr, hn5⟩
    rw [PE.out] at hns ⊢
    simp only at hns ⊢
    rw [show ((0 : Nat) : Int) = 0 from rfl]
    have H5 := hid_mk (H4.out.trans (hn5.1.mono H4.out.size))
    have hlen : ns.length = 3 := by simpa using (congrArg List.length hns).symm
    match ns, hlen, hns, htr with
    | [p0, p1, p2], hl3, hns, htr =>
    clear hl3
    simp only [List.map_cons, List.map_nil, List.cons.injEq, and_true] at hns
    obtain ⟨hz0, hz1, hz2⟩ := hns
    obtain ⟨g, cap, cur, hv', hr1, hr2, hr3, hr4, hc⟩ := htr.look (by simp)
    rw [show ([p0, p1, p2] : List NdM).length = 3 from rfl] at hv'
    subst hv'
    clear hr1 hr2 hr3 hr4
    have d7 : w5.cell? ⟨g, 7, none⟩ = some (.string WN) := by
      have := hc 1 (by simp) 1 (by decide)
      simp only [List.getElem_cons_succ, List.getElem_cons_zero, ndF] at this
      rw [← hz1] at this
      rw [← HWN.out]
      exact this
    have d12 : w5.cell? ⟨g, 12, none⟩ = some (.int .u8 2) := by
      have := hc 2 (by simp) 0 (by decide)
      simp only [List.getElem_cons_succ, List.getElem_cons_zero, ndF] at this
      rw [← hz2] at this
      exact this
    have d15 : w5.cell? ⟨g, 15, none⟩ = some (.string s) := by
      have := hc 2 (by simp) 3 (by decide)
      simp only [List.getElem_cons_succ, List.getElem_cons_zero, ndF] at this
      rw [← hz2] at this
      rw [← SS.out]
      exact this
    have D5 := hid_mk (And.intro d7 (And.intro d12 d15))
    clear hc hz0 hz1 hz2 htr hn5 HPA hcv hlen d7 d12 d15 H4 PE
    go_wp2_with fail
    with_reducible refine (hp2.out _).mono ?_
    rintro e w6 ⟨rfl, hb6⟩
    have H6 := hid_mk (H5.out.trans (hb6.mono H5.out.size))
    have D6 := hid_mk (And.intro (below_at hb6 D5.out.1) (And.intro (below_at hb6 D5.out.2.1) (below_at hb6 D5.out.2.2)))
    clear hb6 H5 D5 hp2
    obtain ⟨gc2, w7, hcv, hn7, hpa⟩ := hpA.out w6 (HT.out _ H6.out)
    have H7 := hid_mk (H6.out.trans (hn7.1.mono H6.out.size))
    have D7 := hid_mk (And.intro (below_at hn7.1 D6.out.1) (And.intro (below_at hn7.1 D6.out.2.1) (below_at hn7.1 D6.out.2.2)))
    have HPA := hid_mk hpa
    clear hn7 hpa hpA D6 H6
    go_wp2_with fail
    (with_reducible refine HPA.out.mono ?_)
    rintro e w8 ⟨v, ns, rfl, hns, htr, hn8⟩
    rw [PA.out] at hns ⊢
    simp only at hns ⊢
    rw [show ((0 : Nat) : Int) = 0 from rfl]
    have H8 := hid_mk (H7.out.trans (hn8.1.mono H7.out.size))
    have d7 := below_at hn8.1 D7.out.1
    have d12 := below_at hn8.1 D7.out.2.1
    have d15 := below_at hn8.1 D7.out.2.2
    have hlen : ns.length = 2 := by simpa using (congrArg List.length hns).symm
    match ns, hlen, hns, htr with
    | [p0, p1], hl3, hns, htr =>
    clear hl3
    simp only [List.map_cons, List.map_nil, List.cons.injEq, and_true] at hns
    obtain ⟨hz0, hz1⟩ := hns
    obtain ⟨g2, cap2, cur, hv', hr1, hr2, hr3, hr4, hc⟩ := htr.look (by simp)
    rw [show ([p0, p1] : List NdM).length = 2 from rfl] at hv'
    subst hv'
    clear hr1 hr2 hr3 hr4
    have hat := htr.attrs p1 (by simp)
    rw [← hz1] at hat
    rcases hat.2 with ⟨_, h0⟩ | ⟨ga, capa, cura, hva, _, hga, _, _, _, hta⟩
    · cases h0
    have e8 : w8.cell? ⟨g2, 8, none⟩ = some (.slice (some ⟨ga, 0, none⟩) 1 capa) := by
      have := hc 1 (by simp) 2 (by decide)
      simp only [List.getElem_cons_succ, List.getElem_cons_zero, ndF] at this
      rw [hva] at this
      exact this
    have e1 : w8.cell? ⟨ga, 1, none⟩ = some (.string s) := by
      rw [cell_of_row w8 ga 1 _ _ _ hga, ← Array.getElem?_toList, ← SS.out]
      have := congrArg (fun l => l[1]?) hta
      rw [List.getElem?_take] at this
      simpa [atCells, atCell] using this
    have hw8 := hid_mk (hwo.out _ H8.out)
    clear hc hz0 hz1 htr hn8 HPA hcv hlen hat hva hga hta D7 H7 PA hwo
    go_wp2_with fail
    with_reducible refine hw8.out.mono ?_
    rintro e w9 ⟨rfl, hb9⟩
    have H9 := hid_mk (H8.out.trans (hb9.mono H8.out.size))
    clear hb9
    go_wp2_with fail
    go_ret
    exact ⟨rfl, H9.out⟩
end Go.Proofs.YtcbfbbobcmdbaaaGreatDoor
/-
  The law of layer 6 about an escaped text, with its own works. Condition: the world holds what TabV and Tab say.
-/
namespace Go.Proofs.YtcbfbbobcmdbaaaGreatDoor
open Go.RowKit
theorem serialText_c (s : ByteArray) (n : Int) (w : World) {c d : Prop} (_ : c) (_ : d) (hT : R.TabV w ∧ Tab w) :
    Calls Tryz.prog 10 #[.string s, .int .i64 n] w fun e w' => e = .returned (.bool true) ∧ Below w.heap.size w w' ∧ True :=
  (serialText_w s n w hT.2 (fun w' hb => R.Pg.works_any w' (hT.1.below hb))).mono fun _ _ h => ⟨h.1, h.2, trivial⟩
end Go.Proofs.YtcbfbbobcmdbaaaGreatDoor
