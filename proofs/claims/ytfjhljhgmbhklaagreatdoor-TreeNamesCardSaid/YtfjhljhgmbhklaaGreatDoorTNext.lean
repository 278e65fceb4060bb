/-
  text and next of package token. Conditions: the text's length is bounded; the world holds what Tab says.
-/
import Derived.Test.YtfjhljhgmbhklaaGreatDoorTText
namespace Go.Proofs.YtfjhljhgmbhklaaGreatDoor
open Go.RowKit
theorem textN_stop {l : List UInt8} (h : leavesL l = true) : textN l = 0 := by
  cases l with
  | nil => rfl
  | cons c t => unfold textN; rw [if_pos h]
theorem textN_go {l : List UInt8} {k : Nat} (hk : k < l.length) (h : leavesL (l.drop k) = false) : textN (l.drop k) = textN (l.drop (k + 1)) + 1 := by
  rw [List.drop_eq_getElem_cons hk] at h ⊢
  conv => lhs; unfold textN
  rw [if_neg (by rw [h]; exact Bool.false_ne_true)]
set_option maxHeartbeats 4000000 in
set_option maxRecDepth 100000 in
theorem text_any (b : Nat) (x : ByteArray) (w : World) (hT : Tab w) (hR : Rd b x w) (hx : x.size ≤ 1000000000) (h1 : 1 ≤ x.size) :
    Calls Tryz.prog 93 #[.pointer (some ⟨b, 0, none⟩)] w (TokPost b (0, ⟨3, [], [], false, decL ((sl x).take (textN ((sl x).drop 1) + 1)) false⟩, (sl x).drop (textN ((sl x).drop 1) + 1)) w) := by
  have HT := hid_mk hT
  have hN0 := Now.start hR hT
  have hL0 := Loc.new hN0 zTok 25
  have hN1 := hN0.alloc (.cells zTok 25)
  have hrc := hR.cell
  have hbl := hR.lt
  obtain ⟨q, hq⟩ : ∃ q, q = textN ((sl x).drop 1) := ⟨_, rfl⟩
  rw [← hq]
  obtain ⟨r, hr⟩ : ∃ r, r = w.heap.size := ⟨_, rfl⟩
  rw [← hr] at hL0
  have H0 := hid_mk (And.intro hN1 hL0)
  have HQ := hid_mk hq
  have HRr := hid_mk hr
  have hzA := hid_mk (show (w.alloc (.cells zTok 25)) = (w.alloc (.cells #[.int .u8 0, .string ⟨#[]⟩, .slice none 0 0, .bool false, .string ⟨#[]⟩] 25)) from rfl)
  have hc1 := hN1.1.cell
  clear hT hR hN0 hN1 hL0 hq hr
  go_enter Tryz.func93, Tryz.ntmps93
  go_wp2_with fail
  rw [← hzA.out, ← HRr.out]
  obtain ⟨w1, hw1⟩ : ∃ w1, w1 = w.alloc (.cells zTok 25) := ⟨_, rfl⟩
  rw [← hw1] at H0 hc1 ⊢
  clear hw1 hzA hrc
  go_loop [4] (fun i => ∃ k : Nat, 1 ≤ k ∧ k ≤ x.size ∧ i = .int .i64 k ∧ Hid (q = k - 1 + textN ((sl x).drop k))) (fun i => x.size - (intOf i).toNat)
  case atStart => exact ⟨1, Nat.le_refl _, h1, rfl, hid_mk (by rw [HQ.out]; omega)⟩
  case round =>
    obtain ⟨k, hk1, hk, rfl, hm⟩ := hrel
    by_cases hlt : k < x.size
    · have hlv := hid_mk (leaves_any (x.extract k x.size) w1)
      rw [sl_extract] at hlv
      have hki : (k : Int) ≤ (x.size : Int) := by omega
      have hlti : (k : Int) < (x.size : Int) := by omega
      cases hb : leavesL ((sl x).drop k) with
      | false =>
        rw [hb] at hlv
        have hg := textN_go (l := sl x) (k := k) (by rw [len_sl]; exact hlt) hb
        have HM := hid_mk (show q = k + 1 - 1 + textN ((sl x).drop (k + 1)) by rw [hm.out, hg]; omega)
        clear hb hg hm
        go_wp2_with fail
        refine hlv.out.mono ?_
        rintro e w2 ⟨rfl, rfl⟩
        go_wp2_with fail
        go_round
        case rel => exact ⟨k + 1, by omega, by omega, by go_num, HM⟩
        case measure => simp [intOf]; omega
      | true =>
        rw [hb] at hlv
        have hqk : q + 1 = k := by rw [hm.out, textN_stop hb]; omega
        clear hb hm
        go_wp2_with fail
        refine hlv.out.mono ?_
        rintro e w2 ⟨rfl, rfl⟩
        clear hlv
        have HK := hid_mk hqk
        have htk := hid_mk (take_any b k x w1 H0.out.1.tab H0.out.1.1 hk)
        clear hqk
        go_wp2_with fail
        rw [← HK.out]
        rw [← HK.out] at htk
        refine htk.out.mono ?_
        rintro e w3 ⟨rfl, hr3, hu3⟩
        have H1 := hid_mk (And.intro (H0.out.1.step hr3 hu3) (H0.out.2.upd hu3))
        clear htk H0 hr3 hu3 hc1
        go_wp2_with fail
        refine (decode_any (strOf ((sl x).take (q + 1))) (by rw [size_strOf, List.length_take, len_sl]; omega) false w3 H1.out.1.tab).mono ?_
        rintro e w4 ⟨rfl, hn4⟩
        have H2 := hid_mk (And.intro (H1.out.1.next hn4.1) (H1.out.2.next hn4.1))
        clear hn4 H1
        rw [sl_strOf]
        obtain ⟨V, hV⟩ : ∃ V, V = decL ((sl x).take (q + 1)) false := ⟨_, rfl⟩
        obtain ⟨E, hE⟩ : ∃ E, E = (sl x).drop (q + 1) := ⟨_, rfl⟩
        have HF := hid_mk (show ((0, ⟨3, [], [], false, decL ((sl x).take (q + 1)) false⟩, (sl x).drop (q + 1)) : Nat × Tk × List UInt8) = (0, ⟨3, [], [], false, V⟩, E) by rw [hV, hE])
        rw [← hE] at H2
        rw [← hV]
        clear hV hE
        have hL4 := H2.out.2
        have s0 := hL4.cell 0
        have s1 := hL4.cell 1
        have s2 := hL4.cell 2
        have s3 := hL4.cell 3
        have s4 := hL4.cell 4
        rw [show zTok[0]? = some (.int .u8 0) from rfl] at s0
        rw [show zTok[1]? = some (.string ⟨#[]⟩) from rfl] at s1
        rw [show zTok[2]? = some (.slice none 0 0) from rfl] at s2
        rw [show zTok[3]? = some (.bool false) from rfl] at s3
        rw [show zTok[4]? = some (.string ⟨#[]⟩) from rfl] at s4
        have t0 := hL4.frozen 0
        have t1 := hL4.frozen 1
        have t2 := hL4.frozen 2
        have t3 := hL4.frozen 3
        have t4 := hL4.frozen 4
        clear hL4
        go_wp2_with fail
        have HL := tok_set (a0 := .int .u8 0) (a1 := .string ⟨#[]⟩) (a2 := .slice none 0 0) (a3 := .bool false) (a4 := .string ⟨#[]⟩) H2.out.2 (.int .u8 3) (.string ⟨#[]⟩) (.slice none 0 0) (.bool false) (.string (strOf V))
        have HN := tok_now H2.out.1 HT.out H2.out.2 (.int .u8 3) (.string ⟨#[]⟩) (.slice none 0 0) (.bool false) (.string (strOf V))
        refine bodyPost_ret (results_cell_tmp resText _ _ r 25 _ (0, 0) _ rfl HL.1 Tryz.underlying25 rfl (by kernel_rfl) (.int .i64 0) rfl) rfl ?_
        rw [HF.out]
        exact ⟨_, _, _, rfl, HN.1, HN.2, rfl, .inl ⟨rfl, rfl, .slice none 0 0, rfl, rfl, .inl ⟨rfl, rfl⟩⟩⟩
    · have hqk : q + 1 = k := by rw [hm.out, List.drop_eq_nil_of_le (by rw [len_sl]; omega)]; show k - 1 + 0 + 1 = k; omega
      have hlti : ¬ (k : Int) < (x.size : Int) := by omega
      clear hm
      have HK := hid_mk hqk
      have htk := hid_mk (take_any b k x w1 H0.out.1.tab H0.out.1.1 hk)
      clear hqk
      go_wp2_with fail
      rw [← HK.out]
      rw [← HK.out] at htk
      refine htk.out.mono ?_
      rintro e w3 ⟨rfl, hr3, hu3⟩
      have H1 := hid_mk (And.intro (H0.out.1.step hr3 hu3) (H0.out.2.upd hu3))
      clear htk H0 hr3 hu3 hc1
      go_wp2_with fail
      refine (decode_any (strOf ((sl x).take (q + 1))) (by rw [size_strOf, List.length_take, len_sl]; omega) false w3 H1.out.1.tab).mono ?_
      rintro e w4 ⟨rfl, hn4⟩
      have H2 := hid_mk (And.intro (H1.out.1.next hn4.1) (H1.out.2.next hn4.1))
      clear hn4 H1
      rw [sl_strOf]
      obtain ⟨V, hV⟩ : ∃ V, V = decL ((sl x).take (q + 1)) false := ⟨_, rfl⟩
      obtain ⟨E, hE⟩ : ∃ E, E = (sl x).drop (q + 1) := ⟨_, rfl⟩
      have HF := hid_mk (show ((0, ⟨3, [], [], false, decL ((sl x).take (q + 1)) false⟩, (sl x).drop (q + 1)) : Nat × Tk × List UInt8) = (0, ⟨3, [], [], false, V⟩, E) by rw [hV, hE])
      rw [← hE] at H2
      rw [← hV]
      clear hV hE
      have hL4 := H2.out.2
      have s0 := hL4.cell 0
      have s1 := hL4.cell 1
      have s2 := hL4.cell 2
      have s3 := hL4.cell 3
      have s4 := hL4.cell 4
      rw [show zTok[0]? = some (.int .u8 0) from rfl] at s0
      rw [show zTok[1]? = some (.string ⟨#[]⟩) from rfl] at s1
      rw [show zTok[2]? = some (.slice none 0 0) from rfl] at s2
      rw [show zTok[3]? = some (.bool false) from rfl] at s3
      rw [show zTok[4]? = some (.string ⟨#[]⟩) from rfl] at s4
      have t0 := hL4.frozen 0
      have t1 := hL4.frozen 1
      have t2 := hL4.frozen 2
      have t3 := hL4.frozen 3
      have t4 := hL4.frozen 4
      clear hL4
      go_wp2_with fail
      have HL := tok_set (a0 := .int .u8 0) (a1 := .string ⟨#[]⟩) (a2 := .slice none 0 0) (a3 := .bool false) (a4 := .string ⟨#[]⟩) H2.out.2 (.int .u8 3) (.string ⟨#[]⟩) (.slice none 0 0) (.bool false) (.string (strOf V))
      have HN := tok_now H2.out.1 HT.out H2.out.2 (.int .u8 3) (.string ⟨#[]⟩) (.slice none 0 0) (.bool false) (.string (strOf V))
      refine bodyPost_ret (results_cell_tmp resText _ _ r 25 _ (0, 0) _ rfl HL.1 Tryz.underlying25 rfl (by kernel_rfl) (.int .i64 0) rfl) rfl ?_
      rw [HF.out]
      exact ⟨_, _, _, rfl, HN.1, HN.2, rfl, .inl ⟨rfl, rfl, .slice none 0 0, rfl, rfl, .inl ⟨rfl, rfl⟩⟩⟩
end Go.Proofs.YtfjhljhgmbhklaaGreatDoor
