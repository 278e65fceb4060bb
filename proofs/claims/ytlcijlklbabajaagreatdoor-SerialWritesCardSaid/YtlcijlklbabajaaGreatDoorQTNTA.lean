/-
  text and next of package token. Conditions: the text's length is bounded; the world holds what Tab says.
-/
import Derived.Test.YtlcijlklbabajaaGreatDoorQTText
namespace Go.Proofs.YtlcijlklbabajaaGreatDoor
open Go.RowKit
theorem textN_stop {l : List UInt8} (h : leavesL l = true) : textN l = 0 := by
 cases l with
 | nil => rfl
 | cons c t => unfold textN; rw [if_pos h]
theorem textN_go {l : List UInt8} {k : Nat} (hk : k < l.length) (h : leavesL (l.drop k) = false) : textN (l.drop k) = textN (l.drop (k + 1)) + 1 := by
 rw [List.drop_eq_getElem_cons hk] at h ⊢
 conv => lhs; unfold textN
 rw [if_neg (by rw [h]; exact Bool.false_ne_true)]
set_option maxHeartbeats 4000000 in
set_option maxRecDepth 100000 in
theorem text_any (b : Nat) (x : ByteArray) (w : World) (hT : Tab w) (hR : Rd b x w) (hx : x.size ≤ 1000000000) (h1 : 1 ≤ x.size) :
 Calls Tryz.prog 112 #[.pointer (some ⟨b, 0, none⟩)] w (TokPost b (0, ⟨3, [], [], false, decL ((sl x).take (textN ((sl x).drop 1) + 1)) false⟩, (sl x).drop (textN ((sl x).drop 1) + 1)) w) := by
 have HT := hid_mk hT
 have hN0 := Now.start hR hT
 have hL0 := Loc.new hN0 zTok 25
 have hN1 := hN0.alloc (.cells zTok 25)
 have hrc := hR.cell
 have hbl := hR.lt
 obtain ⟨q, hq⟩ : ∃ q, q = textN ((sl x).drop 1) := ⟨_, rfl⟩
 rw [← hq]
 obtain ⟨r, hr⟩ : ∃ r, r = w.heap.size := ⟨_, rfl⟩
 rw [← hr] at hL0
 have H0 := hid_mk (And.intro hN1 hL0)
 have HQ := hid_mk hq
 have HRr := hid_mk hr
 have hzA := hid_mk (show (w.alloc (.cells zTok 25)) = (w.alloc (.cells #[.int .u8 0, .string ⟨#[]⟩, .slice none 0 0, .bool false, .string ⟨#[]⟩] 25)) from rfl)
 have hc1 := hN1.1.cell
 clear hT hR hN0 hN1 hL0 hq hr
 go_enter Tryz.func112, Tryz.ntmps112
 go_wp2_with fail
 rw [← hzA.out, ← HRr.out]
 obtain ⟨w1, hw1⟩ : ∃ w1, w1 = w.alloc (.cells zTok 25) := ⟨_, rfl⟩
 rw [← hw1] at H0 hc1 ⊢
 clear hw1 hzA hrc
 go_loop [4] (fun i => ∃ k : Nat, 1 ≤ k ∧ k ≤ x.size ∧ i = .int .i64 k ∧ Hid (q = k - 1 + textN ((sl x).drop k))) (fun i => x.size - (intOf i).toNat)
 case atStart => exact ⟨1, Nat.le_refl _, h1, rfl, hid_mk (by rw [HQ.out]; omega)⟩
 case round =>
  obtain ⟨k, hk1, hk, rfl, hm⟩ := hrel
  by_cases hlt : k < x.size
  ·have hlv := hid_mk (leaves_any (x.extract k x.size) w1)
   rw [sl_extract] at hlv
   have hki : (k : Int) ≤ (x.size : Int) := by omega
   have hlti : (k : Int) < (x.size : Int) := by omega
   cases hb : leavesL ((sl x).drop k) with
   | false =>
     rw [hb] at hlv
     have hg := textN_go (l := sl x) (k := k) (by rw [len_sl]; exact hlt) hb
     have HM := hid_mk (show q = k + 1 - 1 + textN ((sl x).drop (k + 1)) by rw [hm.out, hg]; omega)
     clear hb hg hm
     go_wp2_with fail
     refine hlv.out.mono ?_
     rintro e w2 ⟨rfl, rfl⟩
     go_wp2_with fail
     go_round
     case rel => exact ⟨k + 1, by omega, by omega, by go_num, HM⟩
     case measure => simp [intOf]; omega
   | true =>
     rw [hb] at hlv
     have hqk : q + 1 = k := by rw [hm.out, textN_stop hb]; omega
     clear hb hm
     go_wp2_with fail
     refine hlv.out.mono ?_
     rintro e w2 ⟨rfl, rfl⟩
     clear hlv
     have HK := hid_mk hqk
     have htk := hid_mk (take_any b k x w1 H0.out.1.tab H0.out.1.1 hk)
     clear hqk
     go_wp2_with fail
     rw [← HK.out]
     rw [← HK.out] at htk
     refine htk.out.mono ?_
     rintro e w3 ⟨rfl, hr3, hu3⟩
     have H1 := hid_mk (And.intro (H0.out.1.step hr3 hu3) (H0.out.2.upd hu3))
     clear htk H0 hr3 hu3 hc1
     go_wp2_with fail
     refine (decode_any (strOf ((sl x).take (q + 1))) (by rw [size_strOf, List.length_take, len_sl]; omega) false w3 H1.out.1.tab).mono ?_
     rintro e w4 ⟨rfl, hn4⟩
     have H2 := hid_mk (And.intro (H1.out.1.next hn4.1) (H1.out.2.next hn4.1))
     clear hn4 H1
     rw [sl_strOf]
     obtain ⟨V, hV⟩ : ∃ V, V = decL ((sl x).take (q + 1)) false := ⟨_, rfl⟩
     obtain ⟨E, hE⟩ : ∃ E, E = (sl x).drop (q + 1) := ⟨_, rfl⟩
     have HF := hid_mk (show ((0, ⟨3, [], [], false, decL ((sl x).take (q + 1)) false⟩, (sl x).drop (q + 1)) : Nat × Tk × List UInt8) = (0, ⟨3, [], [], false, V⟩, E) by rw [hV, hE])
     rw [← hE] at H2
     rw [← hV]
     clear hV hE
     have hL4 := H2.out.2
     have s0 := hL4.cell 0
     have s1 := hL4.cell 1
     have s2 := hL4.cell 2
     have s3 := hL4.cell 3
     have s4 := hL4.cell 4
     rw [show zTok[0]? = some (.int .u8 0) from rfl] at s0
     rw [show zTok[1]? = some (.string ⟨#[]⟩) from rfl] at s1
     rw [show zTok[2]? = some (.slice none 0 0) from rfl] at s2
     rw [show zTok[3]? = some (.bool false) from rfl] at s3
     rw [show zTok[4]? = some (.string ⟨#[]⟩) from rfl] at s4
     have t0 := hL4.frozen 0
     have t1 := hL4.frozen 1
     have t2 := hL4.frozen 2
     have t3 := hL4.frozen 3
     have t4 := hL4.frozen 4
     clear hL4
     go_wp2_with fail
     have HL := tok_set (a0 := .int .u8 0) (a1 := .string ⟨#[]⟩) (a2 := .slice none 0 0) (a3 := .bool false) (a4 := .string ⟨#[]⟩) H2.out.2 (.int .u8 3) (.string ⟨#[]⟩) (.slice none 0 0) (.bool false) (.string (strOf V))
     have HN := tok_now H2.out.1 HT.out H2.out.2 (.int .u8 3) (.string ⟨#[]⟩) (.slice none 0 0) (.bool false) (.string (strOf V))
     refine bodyPost_ret (results_cell_tmp resText _ _ r 25 _ (0, 0) _ rfl HL.1 Tryz.underlying25 rfl (by kernel_rfl) (.int .i64 0) rfl) rfl ?_
     rw [HF.out]
     exact ⟨_, _, _, rfl, HN.1, HN.2, rfl, .inl ⟨rfl, rfl, .slice none 0 0, rfl, rfl, .inl ⟨rfl, rfl⟩⟩⟩
  ·have hqk : q + 1 = k := by rw [hm.out, List.drop_eq_nil_of_le (by rw [len_sl]; omega)]; show k - 1 + 0 + 1 = k; omega
   have hlti : ¬ (k : Int) < (x.size : Int) := by omega
   clear hm
   have HK := hid_mk hqk
   have htk := hid_mk (take_any b k x w1 H0.out.1.tab H0.out.1.1 hk)
   clear hqk
   go_wp2_with fail
   rw [← HK.out]
   rw [← HK.out] at htk
   refine htk.out.mono ?_
   rintro e w3 ⟨rfl, hr3, hu3⟩
   have H1 := hid_mk (And.intro (H0.out.1.step hr3 hu3) (H0.out.2.upd hu3))
   clear htk H0 hr3 hu3 hc1
   go_wp2_with fail
   refine (decode_any (strOf ((sl x).take (q + 1))) (by rw [size_strOf, List.length_take, len_sl]; omega) false w3 H1.out.1.tab).mono ?_
   rintro e w4 ⟨rfl, hn4⟩
   have H2 := hid_mk (And.intro (H1.out.1.next hn4.1) (H1.out.2.next hn4.1))
   clear hn4 H1
   rw [sl_strOf]
   obtain ⟨V, hV⟩ : ∃ V, V = decL ((sl x).take (q + 1)) false := ⟨_, rfl⟩
   obtain ⟨E, hE⟩ : ∃ E, E = (sl x).drop (q + 1) := ⟨_, rfl⟩
   have HF := hid_mk (show ((0, ⟨3, [], [], false, decL ((sl x).take (q + 1)) false⟩, (sl x).drop (q + 1)) : Nat × Tk × List UInt8) = (0, ⟨3, [], [], false, V⟩, E) by rw [hV, hE])
   rw [← hE] at H2
   rw [← hV]
   clear hV hE
   have hL4 := H2.out.2
   have s0 := hL4.cell 0
   have s1 := hL4.cell 1
   have s2 := hL4.cell 2
   have s3 := hL4.cell 3
   have s4 := hL4.cell 4
   rw [show zTok[0]? = some (.int .u8 0) from rfl] at s0
   rw [show zTok[1]? = some (.string ⟨#[]⟩) from rfl] at s1
   rw [show zTok[2]? = some (.slice none 0 0) from rfl] at s2
   rw [show zTok[3]? = some (.bool false) from rfl] at s3
   rw [show zTok[4]? = some (.string ⟨#[]⟩) from rfl] at s4
   have t0 := hL4.frozen 0
   have t1 := hL4.frozen 1
   have t2 := hL4.frozen 2
   have t3 := hL4.frozen 3
   have t4 := hL4.frozen 4
   clear hL4
   go_wp2_with fail
   have HL := tok_set (a0 := .int .u8 0) (a1 := .string ⟨#[]⟩) (a2 := .slice none 0 0) (a3 := .bool false) (a4 := .string ⟨#[]⟩) H2.out.2 (.int .u8 3) (.string ⟨#[]⟩) (.slice none 0 0) (.bool false) (.string (strOf V))
   have HN := tok_now H2.out.1 HT.out H2.out.2 (.int .u8 3) (.string ⟨#[]⟩) (.slice none 0 0) (.bool false) (.string (strOf V))
   refine bodyPost_ret (results_cell_tmp resText _ _ r 25 _ (0, 0) _ rfl HL.1 Tryz.underlying25 rfl (by kernel_rfl) (.int .i64 0) rfl) rfl ?_
   rw [HF.out]
   exact ⟨_, _, _, rfl, HN.1, HN.2, rfl, .inl ⟨rfl, rfl, .slice none 0 0, rfl, rfl, .inl ⟨rfl, rfl⟩⟩⟩
end Go.Proofs.YtlcijlklbabajaaGreatDoor
namespace Go.Proofs.YtlcijlklbabajaaGreatDoor
open Go.RowKit
/-- The number of the function that reads the next token. -/
def nextF (l : List UInt8) : Nat :=
 if !leavesL l then 112
 else if isLet (l.getD 1 0) then 114
 else if atL l 1 == 47 then 115
 else if Lib.hasPrefix l [60, 33, 45, 45] then 117
 else if docO l then 119
 else 120
theorem nextF_enters (l : List UInt8) : ∀ args w, (callFunc (nextF l) args).run Tryz.prog w = .ok (.enter (nextF l) args) w := by
 unfold nextF
 split
 ·exact enters_of Tryz.func112 (by kernel_rfl) rfl
 ·split
  ·exact enters_of Tryz.func114 (by kernel_rfl) rfl
  ·split
   ·exact enters_of Tryz.func115 (by kernel_rfl) rfl
   ·split
    ·exact enters_of Tryz.func117 (by kernel_rfl) rfl
    ·split
     ·exact enters_of Tryz.func119 (by kernel_rfl) rfl
     ·exact enters_of Tryz.func120 (by kernel_rfl) rfl
theorem leaves_facts {l : List UInt8} (h : leavesL l = true) : 2 ≤ l.length ∧ atL l 0 = 60 := by
 unfold leavesL at h
 simp at h
 exact ⟨h.1.1, h.1.2⟩
theorem pre_of_two {l : List UInt8} {a b : UInt8} (h2 : 2 ≤ l.length) (h0 : atL l 0 = a.toNat) (h1 : atL l 1 = b.toNat) : Lib.hasPrefix l [a, b] = true := by
 match l, h2 with
 | c :: d :: t, _ =>
   have e0 : c = a := UInt8.toNat_inj.1 h0
   have e1 : d = b := UInt8.toNat_inj.1 h1
   subst e0 e1
   simp [Lib.hasPrefix, List.isPrefixOf]
theorem pre_of_one {l : List UInt8} {a : UInt8} (h2 : 1 ≤ l.length) (h0 : atL l 0 = a.toNat) : Lib.hasPrefix l [a] = true := by
 match l, h2 with
 | c :: t, _ =>
   have e0 : c = a := UInt8.toNat_inj.1 h0
   subst e0
   simp [Lib.hasPrefix, List.isPrefixOf]
set_option maxHeartbeats 4000000 in
set_option maxRecDepth 100000 in
theorem next_any (b : Nat) (x : ByteArray) (w : World) (hR : Rd b x w) :
 Calls Tryz.prog 78 #[.pointer (some ⟨b, 0, none⟩)] w fun e w' => e = .returned (.func (.func (nextF (sl x))) #[.pointer (some ⟨b, 0, none⟩)] #[]) ∧ Below w.heap.size w w' := by
 have hc := hR.cell
 have hlv := hid_mk (leaves_any x w)
 clear hR
 cases hL : leavesL (sl x) with
 | false =>
   rw [hL] at hlv
   have HF := hid_mk (show nextF (sl x) = 112 by unfold nextF; rw [hL]; rfl)
   clear hL
   go_enter Tryz.func78, Tryz.ntmps78
   go_wp2_with fail
   refine hlv.out.mono ?_
   rintro e w2 ⟨rfl, rfl⟩
   go_wp2_with fail
   go_ret
   rw [HF.out]
   exact ⟨rfl, Below.refl _ _⟩
 | true =>
   rw [hL] at hlv
   have h2 := (leaves_facts hL).1
   rw [len_sl] at h2
   have h1 : 1 < x.size := by omega
   have h1i : (1 : Int) < (x.size : Int) := by omega
   have hlet := hid_mk (fun w => letter_any (x[1]'h1) w)
   rw [← getD_sl x 1 h1] at hlet
   cases hl1 : isLet ((sl x).getD 1 0) with
   | true =>
     rw [hl1, getD_sl x 1 h1] at hlet
     have HF := hid_mk (show nextF (sl x) = 114 by unfold nextF; rw [hL, hl1]; rfl)
     clear hL hl1
     go_enter Tryz.func78, Tryz.ntmps78
     go_wp2_with fail
     refine hlv.out.mono ?_
     rintro e w2 ⟨rfl, rfl⟩
     go_wp2_with fail
     refine (hlet.out _).mono ?_
     rintro e w2 ⟨rfl, rfl⟩
     go_wp2_with fail
     go_ret
     rw [HF.out]
     exact ⟨rfl, Below.refl _ _⟩
   | false =>
     rw [hl1, getD_sl x 1 h1] at hlet
     have hb1 : (x[1]'h1).toNat = atL (sl x) 1 := byte_atL x 1 h1
     by_cases h47 : atL (sl x) 1 = 47
     ·have hq : (((x[1]'h1).toNat : Int) == 47) = true := by rw [hb1, h47]; rfl
      have HF := hid_mk (show nextF (sl x) = 115 by unfold nextF; rw [hL, hl1, h47]; rfl)
      clear hL hl1 hb1 h47
      go_enter Tryz.func78, Tryz.ntmps78
      go_wp2_with fail
      refine hlv.out.mono ?_
      rintro e w2 ⟨rfl, rfl⟩
      go_wp2_with fail
      refine (hlet.out _).mono ?_
      rintro e w2 ⟨rfl, rfl⟩
      go_wp2_with fail
      go_ret
      rw [HF.out]
      exact ⟨rfl, Below.refl _ _⟩
     ·have hq : (((x[1]'h1).toNat : Int) == 47) = false := beq_false_of_ne (by omega)
      have h47' : (atL (sl x) 1 == 47) = false := beq_false_of_ne h47
      have hpr := hid_mk (hasPre_any x [60, 33, 45, 45] w)
      have hlit := hid_mk (show (⟨#[60, 33, 45, 45]⟩ : ByteArray) = strOf [60, 33, 45, 45] from rfl)
      cases hp : Lib.hasPrefix (sl x) [60, 33, 45, 45] with
      | true =>
        rw [hp] at hpr
        have HF := hid_mk (show nextF (sl x) = 117 by unfold nextF; rw [hL, hl1, h47', hp]; rfl)
        clear hL hl1 hb1 h47 h47' hp
        go_enter Tryz.func78, Tryz.ntmps78
        go_wp2_with fail
        refine hlv.out.mono ?_
        rintro e w2 ⟨rfl, rfl⟩
        go_wp2_with fail
        refine (hlet.out _).mono ?_
        rintro e w2 ⟨rfl, rfl⟩
        go_wp2_with fail
        refine hpr.out.mono ?_
        rintro e w2 ⟨rfl, rfl⟩
        go_wp2_with fail
        go_ret
        rw [HF.out]
        exact ⟨rfl, Below.refl _ _⟩
      | false =>
        rw [hp] at hpr
        have hop := hid_mk (opens_any x w)
        cases hd : docO (sl x) with
        | true =>
          rw [hd] at hop
          have HF := hid_mk (show nextF (sl x) = 119 by unfold nextF; rw [hL, hl1, h47', hp, hd]; rfl)
          clear hL hl1 hb1 h47 h47' hp hd
          go_enter Tryz.func78, Tryz.ntmps78
          go_wp2_with fail
          refine hlv.out.mono ?_
          rintro e w2 ⟨rfl, rfl⟩
          go_wp2_with fail
          refine (hlet.out _).mono ?_
          rintro e w2 ⟨rfl, rfl⟩
          go_wp2_with fail
          refine hpr.out.mono ?_
          rintro e w2 ⟨rfl, rfl⟩
          go_wp2_with fail
          refine hop.out.mono ?_
          rintro e w3 ⟨rfl, hb3⟩
          have HB := hid_mk hb3
          clear hb3
          go_wp2_with fail
          go_ret
          rw [HF.out]
          exact ⟨rfl, HB.out⟩
        | false =>
          rw [hd] at hop
          have HF := hid_mk (show nextF (sl x) = 120 by unfold nextF; rw [hL, hl1, h47', hp, hd]; rfl)
          clear hL hl1 hb1 h47 h47' hp hd
          go_enter Tryz.func78, Tryz.ntmps78
          go_wp2_with fail
          refine hlv.out.mono ?_
          rintro e w2 ⟨rfl, rfl⟩
          go_wp2_with fail
          refine (hlet.out _).mono ?_
          rintro e w2 ⟨rfl, rfl⟩
          go_wp2_with fail
          refine hpr.out.mono ?_
          rintro e w2 ⟨rfl, rfl⟩
          go_wp2_with fail
          refine hop.out.mono ?_
          rintro e w3 ⟨rfl, hb3⟩
          have HB := hid_mk hb3
          clear hb3
          go_wp2_with fail
          go_ret
          rw [HF.out]
          exact ⟨rfl, HB.out⟩
/-- What reads the next token reads it. -/
theorem read_any (b : Nat) (x : ByteArray) (w : World) (hT : Tab w) (hR : Rd b x w) (hx : x.size ≤ 1000000000) (h1 : 1 ≤ x.size) :
 Calls Tryz.prog (nextF (sl x)) #[.pointer (some ⟨b, 0, none⟩)] w (TokPost b (oneL (sl x)) w) := by
 unfold nextF oneL
 cases hL : leavesL (sl x) with
 | false => exact text_any b x w hT hR hx h1
 | true =>
   obtain ⟨h2, h60⟩ := leaves_facts hL
   simp only [Bool.not_true, Bool.false_eq_true, if_false]
   cases hl1 : isLet ((sl x).getD 1 0) with
   | true => exact startTag_any b x w hT hR hx (pre_of_one (by omega) h60)
   | false =>
     simp only [Bool.false_eq_true, if_false]
     cases h47 : (atL (sl x) 1 == 47) with
     | true => exact endTag_any b x w hT hR hx (pre_of_two h2 h60 (by simpa using h47))
     | false =>
       simp only [Bool.false_eq_true, if_false]
       cases hp : Lib.hasPrefix (sl x) [60, 33, 45, 45] with
       | true => exact comment_any b x w hT hR hx (by have := pre_le hp; rw [len_sl] at this; exact this)
       | false =>
         simp only [Bool.false_eq_true, if_false]
         cases hd : docO (sl x) with
         | true => exact doctype_any b x w hT hR hx (by have := docO_len hd; rw [len_sl] at this; exact this)
         | false => exact noMark_any b x w hT hR
end Go.Proofs.YtlcijlklbabajaaGreatDoor
namespace Go.Proofs.YtlcijlklbabajaaGreatDoor
open Go.RowKit
/-- What Tokens answers: the error, the place, the tokens. -/
def tokensL (l : List UInt8) : Nat × Nat × List Tk :=
 if 65536 < l.length then (3, 0, [])
 else if 0 ≤ Lib.indexByte l 0 then (42, (Lib.indexByte l 0).toNat, [])
 else if (toksL l).1 = 0 then (0, 0, (toksL l).2.2) else ((toksL l).1, l.length - (toksL l).2.1, [])
def tkF (p : Tk × Value) : List Value := (tkCells p.1 p.2).toList
/-- A row of the call's own of these tokens. -/
def TokRow (B : Nat) (v : Value) (ps : List (Tk × Value)) (w : World) : Prop :=
 w.ownsRow B 25 5 v ps.length (ps.flatMap tkF) ∧ ∀ p ∈ ps, AtRow B p.2 p.1.attrs w
theorem infoTok : (Tryz.prog.info? 25).map (fun i => (i.zero, i.size, i.bytes)) = some (some (.agg #[.int .u8 0, .string ⟨#[]⟩, .slice none 0 0, .bool false, .string ⟨#[]⟩]), 5, 72) := by kernel_rfl
theorem TokRow.below {B : Nat} {v : Value} {ps : List (Tk × Value)} {w w' : World} (h : TokRow B v ps w) (hb : Below w.heap.size w w') : TokRow B v ps w' :=
 ⟨own_below h.1 hb, fun p hp => (h.2 p hp).below hb⟩
theorem TokRow.upd {B b : Nat} {x : ByteArray} {v : Value} {ps : List (Tk × Value)} {w w' : World} (h : TokRow B v ps w) (hr : Rd b x w) (hu : Upd b w w') : TokRow B v ps w' :=
 ⟨World.ownsRow.kept h.1 hu.1 (.inr (own_ne h.1 hr.blk (by decide))), fun p hp => (h.2 p hp).upd hr hu⟩
theorem TokRow.nil (B : Nat) (w : World) : TokRow B (.slice none 0 0) [] w := ⟨⟨rfl, .inl ⟨rfl, rfl⟩⟩, fun p hp => by cases hp⟩
theorem own_kind {w : World} {base n size : Nat} {e : TypeId} {v : Value} {xs : List Value} (h : w.ownsRow base e size v n xs) {g : Nat} (hg : v.ownBlock = some g) : ∃ cs, w.heap[g]? = some (.cells cs e (0, 0)) := by
 rcases h.2 with ⟨rfl, _⟩ | ⟨g', cap, cur, rfl, h2, h3, _⟩
 ·cases hg
 ·have : g' = g := by simpa [Value.ownBlock] using hg
  subst this
  exact ⟨cur, h3⟩
theorem own_slice {w : World} {base n size : Nat} {e : TypeId} {v : Value} {xs : List Value} (h : w.ownsRow base e size v n xs) : ∃ a c, v = .slice a n c := by
 rcases h.2 with ⟨rfl, h0⟩ | ⟨g', cap, cur, rfl, _⟩
 ·exact ⟨none, 0, by rw [h0]⟩
 ·exact ⟨_, cap, rfl⟩
theorem TokRow.grown {B : Nat} {v v' : Value} {ps : List (Tk × Value)} {p : Tk × Value} {w w' : World} (h : TokRow B v ps w) (hp : AtRow B p.2 p.1.attrs w) (hg : w.grownBy w' v.ownBlock)
 (hn : w'.ownsRow B 25 5 v' (ps.length + 1) (ps.flatMap tkF ++ tkF p)) : TokRow B v' (ps ++ [p]) w' := by
 have keep : ∀ q : Tk × Value, AtRow B q.2 q.1.attrs w → AtRow B q.2 q.1.attrs w' := fun q hq => by
  refine World.ownsRow.kept hq hg ?_
  cases hv : v.ownBlock with
  | none =>
    cases hq2 : q.2.ownBlock with
    | none => exact .inl rfl
    | some g => exact .inr (by simp)
  | some g =>
    obtain ⟨cs, hcs⟩ := own_kind h.1 hv
    exact .inr (hq.ne hcs (by decide))
 refine ⟨?_, fun q hq => ?_⟩
 ·rw [List.length_append, List.flatMap_append, List.flatMap_cons, List.flatMap_nil, List.append_nil]
  exact hn
 ·rw [List.mem_append, List.mem_singleton] at hq
  rcases hq with hq | rfl
  ·exact keep q (h.2 q hq)
  ·exact keep _ hp
def prepT (acc : List Tk) (R : Nat × Nat × List Tk) : Nat × Nat × List Tk := (R.1, if R.1 = 0 then 0 else R.2.1, if R.1 = 0 then acc ++ R.2.2 else [])
theorem prepT_step (acc : List Tk) (l : List UInt8) (hl : l ≠ []) (h : (oneL l).1 = 0) : prepT acc (toksL l) = prepT (acc ++ [(oneL l).2.1]) (toksL (oneL l).2.2) := by
 rw [toksL_step l hl, if_pos h]
 generalize toksL (oneL l).2.2 = R
 obtain ⟨a, b, c⟩ := R
 unfold prepT
 by_cases h0 : a = 0
 ·subst h0
  simp
 ·simp [h0]
theorem prepT_bad (acc : List Tk) (l : List UInt8) (hl : l ≠ []) (h : (oneL l).1 ≠ 0) : prepT acc (toksL l) = ((oneL l).1, l.length, []) := by
 rw [toksL_step l hl, if_neg h]
 unfold prepT
 simp [h]
def ToksPost (s : List UInt8) (w : World) (e : Ending) (w' : World) : Prop :=
 ∃ (v : Value) (ps : List (Tk × Value)), e = .returned (.tuple #[v, .int .i64 ((tokensL s).1 : Int), .int .i64 ((tokensL s).2.1 : Int)]) ∧ (tokensL s).2.2 = ps.map (·.1) ∧ TokRow w.heap.size v ps w' ∧ Next w w'
set_option maxHeartbeats 4000000 in
set_option maxRecDepth 100000 in
theorem tokens_any (s : ByteArray) (w : World) (hT : Tab w) (hs : s.size ≤ 1000000000) :
 Calls Tryz.prog 43 #[.string s] w (ToksPost (sl s) w) := by
 have HT := hid_mk hT
 clear hT
 by_cases hbig : 65536 < s.size
 ·have hb1 : decide (65536 < s.size) = true := decide_eq_true hbig
  have hb2 : decide ((65536 : Int) < (s.size : Int)) = true := decide_eq_true (by omega)
  have HF := hid_mk (show tokensL (sl s) = (3, 0, []) by unfold tokensL; rw [len_sl, if_pos hbig])
  clear hbig
  go_enter Tryz.func43, Tryz.ntmps43
  go_wp2_with fail
  go_ret3
  exact ⟨_, [], by rw [HF.out]; rfl, by rw [HF.out]; rfl, TokRow.nil _ _, Next.refl HT.out⟩
 have hb1 : decide (65536 < s.size) = false := decide_eq_false hbig
 have hb2 : decide ((65536 : Int) < (s.size : Int)) = false := decide_eq_false (by omega)
 have hib := hid_mk (fun w => Tryz.strings_IndexByte s 0 w)
 rw [show (0 : Int).toNat.toUInt8 = (0 : UInt8) from rfl, show s.data.toList = sl s from rfl] at hib
 obtain ⟨ix, hix⟩ : ∃ ix, ix = Lib.indexByte (sl s) 0 := ⟨_, rfl⟩
 rw [← hix] at hib
 have hge := Lib.indexByte_ge (sl s) 0
 rw [← hix] at hge
 by_cases h0 : 0 ≤ ix
 ·have HF := hid_mk (show tokensL (sl s) = (42, ix.toNat, []) by unfold tokensL; rw [len_sl, if_neg hbig, ← hix, if_pos h0])
  have HI := hid_mk (show ((ix.toNat : Nat) : Int) = ix by omega)
  clear hbig hix hge
  go_enter Tryz.func43, Tryz.ntmps43
  go_wp2_with fail
  refine (hib.out _).mono ?_
  rintro e w1 ⟨rfl, hw⟩
  have hw := hw.symm
  subst hw
  go_wp2_with fail
  go_ret3
  exact ⟨_, [], by rw [HF.out, HI.out]; rfl, by rw [HF.out]; rfl, TokRow.nil _ _, Next.refl HT.out⟩
 have HF := hid_mk (show tokensL (sl s) = if (toksL (sl s)).1 = 0 then (0, 0, (toksL (sl s)).2.2) else ((toksL (sl s)).1, s.size - (toksL (sl s)).2.1, []) by
  unfold tokensL; rw [len_sl, if_neg hbig, ← hix, if_neg h0])
 have hn0 : ¬ (0 : Int) ≤ ix := h0
 clear hbig hix hge h0
 have hN0 : Now w.heap.size s w (w.alloc (.cells #[.string s] 109)) := ⟨heap_alloc_new w _, (Upd.refl HT.out).alloc _⟩
 have H0 := hid_mk (And.intro hN0 (TokRow.nil w.heap.size (w.alloc (.cells #[.string s] 109))))
 obtain ⟨b, hb⟩ : ∃ b, b = w.heap.size := ⟨_, rfl⟩
 obtain ⟨i0, hi, hz0, hz1, hz2⟩ := info_parts infoTok
 have HI := hid_mk (And.intro hi (And.intro hz0 (And.intro hz1 hz2)))
 have HB := hid_mk hb
 have hmf : ∀ (fn : Fn) (first cap : Array Value) (w : World), (Instr.makeFunc fn first cap).run Tryz.prog w = .ok (.func fn first cap) w := fun _ _ _ _ => rfl
 clear hN0 hi hz0 hz1 hz2 hb
 go_enter Tryz.func43, Tryz.ntmps43
 go_wp2_with fail
 refine (hib.out _).mono ?_
 rintro e w1 ⟨rfl, hw⟩
 have hw := hw.symm
 subst hw
 clear hib
 go_wp2_with fail
 rw [← HB.out]
 rw [← HB.out] at H0
 obtain ⟨w1, hw1⟩ : ∃ w1, w1 = w.alloc (.cells #[.string s] 109) := ⟨_, rfl⟩
 rw [← hw1] at H0 ⊢
 clear hw1
 go_loopg [6] s.size (fun g v6 wx => ∃ (x : ByteArray) (ps : List (Tk × Value)), g = x.size ∧ ps.length + x.size ≤ s.size ∧ Hid (Now b x w wx ∧ TokRow b v6 ps wx) ∧ Hid (prepT [] (toksL (sl s)) = prepT (ps.map (·.1)) (toksL (sl x))))
 case atStart => exact ⟨s, [], rfl, by simp, H0, hid_mk rfl⟩
 case round =>
  obtain ⟨x, ps, rfl, hps, HW, HQ⟩ := hrel
  clear H0
  have hrc := HW.out.1.1.cell
  obtain ⟨va, vc, hv⟩ := own_slice HW.out.2.1
  subst hv
  by_cases hx0 : x.size = 0
  ·have hxn : sl x = [] := List.eq_nil_of_length_eq_zero (by rw [len_sl]; exact hx0)
   have he : x.toList = [] := by rw [Lib.toList_data]; exact hxn
   have he2 : x.toList.isEmpty = true := by rw [he]; rfl
   have hq := HQ.out
   rw [hxn, toksL_nil] at hq
   have hq1 : (toksL (sl s)).1 = 0 := congrArg (·.1) hq
   have hq2 : (toksL (sl s)).2.2 = ps.map (·.1) := by
    have := congrArg (·.2.2) hq
    unfold prepT at this
    simp only [hq1, if_true, List.nil_append, List.append_nil] at this
    exact this
   have HR := hid_mk (show tokensL (sl s) = (0, 0, ps.map (·.1)) by rw [HF.out, if_pos hq1, hq2])
   clear hq hq1 hq2 hxn HQ
   go_wp2_with fail
   go_ret3
   exact ⟨_, ps, by rw [HR.out]; rfl, by rw [HR.out], by rw [← HB.out]; exact HW.out.2, ⟨HW.out.1.2.below (by rw [HB.out]; exact Nat.le_refl _) (Nat.le_refl _), HW.out.1.tab⟩⟩
  ·have hxne : sl x ≠ [] := fun e => hx0 (by rw [← len_sl, e]; rfl)
   have hne : x.toList.isEmpty = false := by
    rw [Lib.toList_data]
    show (sl x).isEmpty = false
    cases h : sl x with
    | nil => exact absurd h hxne
    | cons _ _ => rfl
   have hxs : x.size ≤ 1000000000 := by omega
   have hnx := hid_mk (next_any b x wr HW.out.1.1)
   have hle : (x.size : Int) ≤ (s.size : Int) := by omega
   have hent := hid_mk (nextF_enters (sl x))
   go_wp2_with fail
   refine hnx.out.mono ?_
   rintro e w2 ⟨rfl, hb2⟩
   have H2 := hid_mk (And.intro (HW.out.1.next hb2) (HW.out.2.below hb2))
   clear hnx hb2
   have hrd := hid_mk (read_any b x w2 H2.out.1.tab H2.out.1.1 hxs (by omega))
   obtain ⟨F, hF⟩ : ∃ F, F = nextF (sl x) := ⟨_, rfl⟩
   rw [← hF] at hent hrd ⊢
   have hen := hent.out
   clear hF
   go_wp2_with fail
   refine hrd.out.mono ?_
   rintro e w3 ⟨cs, err, y, rfl, hr3, hu3, hi3⟩
   have H3 := hid_mk (And.intro (H2.out.1.step hr3 hu3) (H2.out.2.upd H2.out.1.1 hu3))
   have hbw : b ≤ w2.heap.size := Nat.le_of_lt H2.out.1.1.lt
   have hcas := oneL_cases (sl x) hxne
   rw [len_sl] at hcas
   clear hrd hen hent hr3 hu3 H2 hrc hne hle
   rcases hi3.2 with ⟨h0, hy, v, rfl, har⟩ | ⟨h0, rfl⟩
   ·obtain ⟨ta, tc, rfl, _⟩ := own_attrs har
    have he0 : err = 0 := by rw [hi3.1, h0]; rfl
    subst he0
    have HQ2 := hid_mk (HQ.out.trans (prepT_step _ _ hxne h0))
    have hlen : (oneL (sl x)).2.2.length < x.size := by omega
    have HAR := hid_mk (har.mono hbw)
    generalize hone : oneL (sl x) = T at *
    obtain ⟨T0, t, rest⟩ := T
    simp only at h0 hy HQ2 hlen HAR
    subst hy
    have H4 := hid_mk (And.intro (H3.out.1.alloc (.cells (tkCells t (.slice ta t.attrs.length tc)) 25)) (And.intro (H3.out.2.below ((Below.refl _ _).alloc (Nat.le_refl _) (.cells (tkCells t (.slice ta t.attrs.length tc)) 25))) (HAR.out.below ((Below.refl _ _).alloc (Nat.le_refl _) (.cells (tkCells t (.slice ta t.attrs.length tc)) 25)))))
    clear hi3 har HQ hone hcas hbw HAR
    obtain ⟨tk, tn, tat, tsf, td⟩ := t
    unfold tkCells
    simp only
    go_wp2_with (at_builtin; refine Classical.byContradiction fun hno => ?_)
    refine hno ?_
    clear hno
    obtain ⟨hi, hz0, hz1, hz2⟩ := HI.out
    obtain ⟨t, ht⟩ : ∃ t : Tk, t = ⟨tk, tn, tat, tsf, td⟩ := ⟨_, rfl⟩
    obtain ⟨w4, hw4⟩ : ∃ w4, w4 = w3.alloc (.cells #[.int .u8 (tk : Int), .string (strOf tn), .slice ta tat.length tc, .bool tsf, .string (strOf td)] 25) := ⟨_, rfl⟩
    have hsz4 : w3.heap.size + 1 = w4.heap.size := by rw [hw4]; simp
    have H4b : Now b (strOf rest) w w4 ∧ TokRow b (.slice va ps.length vc) ps w4 ∧ AtRow b (.slice ta t.attrs.length tc) t.attrs w4 := by rw [hw4, ht]; exact H4.out
    have hbe := Below.alloc (Below.refl w4.heap.size w4) (Nat.le_refl _) (.cells #[.int .u8 (tk : Int), .string (strOf tn), .slice ta tat.length tc, .bool tsf, .string (strOf td)] 25)
    have H5 := And.intro (H4b.1.next hbe) (And.intro (H4b.2.1.below hbe) (H4b.2.2.below hbe))
    have hws := Nat.le_of_lt H5.1.1.lt
    rw [← hw4, hsz4]
    refine wpList_append_own _ rfl (.tmp 41) (.tmp 43) _ rfl b 25 i0 _ 5 72 Tryz.underlying22 hi hz0 hz1 hz2 rfl (by decide) _ ps.length (ps.flatMap tkF) rfl H5.2.1.1 ⟨w4.heap.size, 0, none⟩ 1 1 (tkF (t, .slice ta t.attrs.length tc)) rfl rfl ?c1 ?c2 ?c3 ?c4 hws ?_
    case c1 =>
     intro j u hu
     rw [addr_add0, cell_of_row _ _ j _ _ _ (heap_alloc_new w4 _), ← hu, ht, ← Array.getElem?_toList]
     rfl
    case c2 =>
     intro u hu
     rw [ht] at hu
     simp only [tkF, tkCells, List.mem_cons, List.not_mem_nil, or_false] at hu
     rcases hu with rfl | rfl | rfl | rfl | rfl <;> rfl
    case c3 => unfold maxLen; omega
    case c4 => omega
    intro v' w6 hown' hgrow _
    have hrow := TokRow.grown H5.2.1 H5.2.2 hgrow hown'
    have hnb := own_ne H5.2.1.1 H5.1.1.blk (by decide)
    have hnow := H5.1.grown HT.out hgrow (fun k hk => ⟨by rw [← HB.out]; exact own_base H5.2.1.1 k hk, fun e => by subst e; exact hnb hk⟩)
    have HN := hid_mk (And.intro hnow hrow)
    have hgl : (ps ++ [(t, Value.slice ta t.attrs.length tc)]).length + (strOf rest).size ≤ s.size := by
     rw [List.length_append, size_strOf]
     show ps.length + 1 + rest.length ≤ s.size
     omega
    have HQ3 := hid_mk (show prepT [] (toksL (sl s)) = prepT ((ps ++ [(t, Value.slice ta t.attrs.length tc)]).map (·.1)) (toksL (sl (strOf rest))) by
     rw [List.map_append, sl_strOf, ht]
     exact HQ2.out)
    have hrs := size_strOf rest
    clear hown' hgrow hrow hnb hnow H5 hbe hws H4b hi hz0 hz1 hz2 H4 H3 hsz4 hw4 HQ2
    have HRS := hid_mk hrs
    clear hrs ht h0
    go_wp2_with fail
    go_roundg rest.length
    case measure => omega
    case rel => exact ⟨strOf rest, _, HRS.out.symm, hgl, HN, HQ3⟩
   ·have he : err = ((oneL (sl x)).1 : Int) := hi3.1
    subst he
    have hq := HQ.out.trans (prepT_bad _ _ hxne h0)
    rw [len_sl] at hq
    have hq1 : (toksL (sl s)).1 = (oneL (sl x)).1 := congrArg (·.1) hq
    have hq2 : (toksL (sl s)).2.1 = x.size := by
     have := congrArg (·.2.1) hq
     unfold prepT at this
     rw [if_neg (by rw [hq1]; exact h0)] at this
     exact this
    have hpl : x.size ≤ s.size := by omega
    obtain ⟨n, hn⟩ : ∃ n, n = (oneL (sl x)).1 := ⟨_, rfl⟩
    rw [← hn] at h0 hq1 ⊢
    have HR := hid_mk (show tokensL (sl s) = (n, s.size - x.size, []) by rw [HF.out, if_neg (by rw [hq1]; exact h0), hq1, hq2])
    have HPL := hid_mk (show ((s.size - x.size : Nat) : Int) = (s.size : Int) - (x.size : Int) by omega)
    have e1 : ((n : Int) == 0) = false := beq_false_of_ne (by omega)
    have e2 : ((n : Int) != 0) = true := by rw [bne, e1]; rfl
    have H4 := hid_mk (H3.out.1.alloc (.cells zTok 25))
    clear hq hq1 hq2 hn hi3 HQ hcas hbw H3 h0
    unfold zTok
    go_wp2_with fail
    go_ret3
    exact ⟨_, [], by rw [HR.out, HPL.out]; rfl, by rw [HR.out]; rfl, TokRow.nil _ _, ⟨H4.out.2.below (by rw [HB.out]; exact Nat.le_refl _) (Nat.le_refl _), H4.out.tab⟩⟩
end Go.Proofs.YtlcijlklbabajaaGreatDoor
