/-
  works of the laws of layer 5: true. Condition: the world holds what Tab says.
-/
import Derived.Test.YtlcijlklbabajaaGreatDoorBParse
import Derived.Lib.ConvBytes
namespace Go.Proofs.YtlcijlklbabajaaGreatDoor
open Go.RowKit
def docA : List UInt8 := [60, 117, 108, 62, 60, 108, 105, 62, 97, 60, 108, 105, 62, 98, 60, 47, 117, 108, 62]
def docB : List UInt8 := [60, 98, 62, 60, 112, 62, 120, 60, 47, 98, 62]
set_option maxRecDepth 100000 in
theorem parseA : parseL docA = (0, 0, [⟨0, [], [], [], -1, [1]⟩, ⟨1, [117, 108], [], [], 0, [2, 4]⟩, ⟨1, [108, 105], [], [], 1, [3]⟩, ⟨2, [], [], [97], 2, []⟩, ⟨1, [108, 105], [], [], 1, [5]⟩, ⟨2, [], [], [98], 4, []⟩]) := by decide +kernel
set_option maxRecDepth 100000 in
theorem parseB : parseL docB = (51, 3, []) := by decide +kernel
theorem own_kids {B : Nat} {v : Value} {l : List Nat} {w : World} (h : w.ownsRow B 3 1 v l.length (kidF l)) : ∃ a c, v = .slice a l.length c ∧ (l ≠ [] → ∃ g, a = some ⟨g, 0, none⟩ ∧ ∀ j (hj : j < l.length), w.cell? ⟨g, j, none⟩ = some (.int .i64 (l[j] : Int))) := by
  rcases h.2 with ⟨rfl, h0⟩ | ⟨g, cap, cur, rfl, h2, h3, h4, h5, h6, h7⟩
  · exact ⟨none, 0, by rw [h0], fun hl => absurd (List.eq_nil_of_length_eq_zero h0) hl⟩
  · refine ⟨_, cap, rfl, fun _ => ⟨g, rfl, fun j hj => ?_⟩⟩
    rw [cell_of_row w g j _ _ _ h3]
    have e : cur[j]? = (kidF l)[j]? := by
      rw [← h7, List.getElem?_take, if_pos (by omega), Array.getElem?_toList]
    rw [e]
    unfold kidF
    rw [List.getElem?_map, List.getElem?_eq_getElem hj]
    rfl
set_option maxHeartbeats 40000000 in
set_option maxRecDepth 100000 in
theorem works_any (w : World) (hT : Tab w) :
    Calls Tryz.prog 12 #[] w fun e w' => e = .returned (.bool true) ∧ Next w w' := by
  have HT := hid_mk hT
  have h1 := hid_mk (show ∀ a c w, Tab w → HasBytes w a docA → Calls Tryz.prog 17 #[.slice a 19 c] w (ParsePost docA w) from fun a c w hT h => parse_any a c docA w hT (by decide) h)
  have h2 := hid_mk (show ∀ a c w, Tab w → HasBytes w a docB → Calls Tryz.prog 17 #[.slice a 11 c] w (ParsePost docB w) from fun a c w hT h => parse_any a c docB w hT (by decide) h)
  have kc := fun (w : World) (C : Array Value) (n c : Nat) => Lib.run_convert_bytes_const (P := Tryz.prog) w 42 5 C n c Tryz.underlying42 Tryz.underlying5
  clear hT
  obtain ⟨C1, hC1⟩ : ∃ C : Array Value, C = #[.int .u8 60, .int .u8 117, .int .u8 108, .int .u8 62, .int .u8 60, .int .u8 108, .int .u8 105, .int .u8 62, .int .u8 97, .int .u8 60, .int .u8 108, .int .u8 105, .int .u8 62, .int .u8 98, .int .u8 60, .int .u8 47, .int .u8 117, .int .u8 108, .int .u8 62] := ⟨_, rfl⟩
  have e1 := hid_mk hC1.symm
  have HW1 := hid_mk (has_new w docA C1 (19, 20) (by rw [hC1]; rfl))
  have hb1 : Below w.heap.size w (w.alloc (.cells C1 5 (19, 20))) := (Below.refl _ _).alloc (Nat.le_refl _) _
  have H1 := hid_mk (Next.of HT.out hb1)
  obtain ⟨C2, hC2⟩ : ∃ C : Array Value, C = #[.int .u8 60, .int .u8 98, .int .u8 62, .int .u8 60, .int .u8 112, .int .u8 62, .int .u8 120, .int .u8 60, .int .u8 47, .int .u8 98, .int .u8 62] := ⟨_, rfl⟩
  have e2 := hid_mk hC2.symm
  have HW2 := hid_mk (fun w : World => has_new w docB C2 (11, 12) (by rw [hC2]; rfl))
  have hp1 := hid_mk (h1.out _ 19 _ H1.out.2 HW1.out)
  clear hC1 hC2 hb1 HW1
  go_enter Tryz.func12, Tryz.ntmps12
  go_wp2_with fail
  rw [e1.out]
  (with_reducible refine hp1.out.mono ?_)
  rintro e w1 ⟨v, ns, rfl, hns, htr, hn⟩
  rw [parseA] at hns ⊢
  simp only at hns ⊢
  rw [show ((0 : Nat) : Int) = 0 from rfl]
  have HN1 := hid_mk (show Next w w1 from H1.out.trans hn)
  have HTR := hid_mk htr
  have hlen : ns.length = 6 := by
    have := congrArg List.length hns
    simpa using this.symm
  have HNS := hid_mk hns
  clear htr hn hns hp1 H1
  have hb2 : Below w1.heap.size w1 (w1.alloc (.cells C2 5 (11, 12))) := (Below.refl _ _).alloc (Nat.le_refl _) _
  have H2 := hid_mk (Next.of HN1.out.2 hb2)
  have hp2 := hid_mk (h2.out _ 11 _ H2.out.2 (HW2.out w1))
  clear hb2
  obtain ⟨va, vc, hv⟩ := own_slice HTR.out.row
  rw [hlen] at hv
  subst hv
  go_wp2_with fail
  rw [e2.out]
  (with_reducible refine hp2.out.mono ?_)
  rintro e w2 ⟨v2, ns2, rfl, hns2, htr2, hn2⟩
  rw [parseB] at hns2 ⊢
  simp only at hns2 ⊢
  rw [show ((51 : Nat) : Int) = 51 from rfl, show ((3 : Nat) : Int) = 3 from rfl]
  have HR := hid_mk (HTR.out.below (H2.out.1.trans (hn2.1.mono H2.out.1.size)))
  have HN2 := hid_mk (HN1.out.trans (H2.out.trans hn2))
  obtain ⟨vb, vd, hv2⟩ := own_slice htr2.row
  subst hv2
  clear htr2 hn2 hns2 hp2 H2 HTR HN1
  match ns, hlen, HNS, HR with
  | [p0, p1, p2, p3, p4, p5], hl6, HNS, HR =>
  clear hl6
  have hP := HNS.out
  simp only [List.map_cons, List.map_nil, List.cons.injEq, and_true] at hP
  obtain ⟨hq0, hp1, hq2, hq3, hq4, hp5⟩ := hP
  clear hq0 hq2 hq3 hq4
  obtain ⟨g, cap, cur, hv, hr1, hr2, hr3, hr4, hc⟩ := HR.out.look (by simp)
  clear hr1 hr2 hr3 hr4
  injection hv with hva hvn hvc
  subst hva
  clear hvn hvc
  obtain ⟨ka, kc2, hk, hkc⟩ := own_kids (HR.out.kids p1 (by simp))
  rw [← hp1] at hk hkc
  obtain ⟨kg, hka, hkcell⟩ := hkc (by simp)
  subst hka
  have d11 : w2.cell? ⟨g, 11, none⟩ = some (.slice (some ⟨kg, 0, none⟩) 2 kc2) := by
    have := hc 1 (by simp) 5 (by decide)
    simp only [List.getElem_cons_succ, List.getElem_cons_zero, ndF] at this
    rw [hk] at this
    exact this
  have k1 : w2.cell? ⟨kg, 1, none⟩ = some (.int .i64 4) := hkcell 1 (by simp)
  have d33 : w2.cell? ⟨g, 33, none⟩ = some (.string (strOf [98])) := by
    have := hc 5 (by simp) 3 (by decide)
    simp only [List.getElem_cons_succ, List.getElem_cons_zero, ndF] at this
    rw [← hp5] at this
    exact this
  have q3 : (strOf [98]).toList = [98] := toList_strOf _
  clear hc hkcell hk hkc hp1 hp5 HNS
  go_wp2_with fail
  go_ret
  exact ⟨rfl, HN2.out⟩
end Go.Proofs.YtlcijlklbabajaaGreatDoor
/-
  Parse of a text's bytes. Conditions: the text's length is bounded; the world holds what Tab says.
-/
namespace Go.Proofs.YtlcijlklbabajaaGreatDoor
open Go.RowKit
theorem has_world (w : World) (bs : List UInt8) : HasBytes (Lib.bytesWorld w 5 (strOf bs)) (some ⟨w.heap.size, 0, none⟩) bs := by
  refine .inr ⟨_, rfl, fun _ => by rw [Lib.bytesWorld_size]; exact Nat.lt_succ_self _, fun j u hu => ?_⟩
  have hj := (List.getElem?_eq_some_iff.1 hu).1
  rw [Lib.byteCells_length] at hj
  have hs : (strOf bs).size = bs.length := by show bs.toArray.size = _; rw [List.size_toArray]
  rw [addr_add0, Lib.bytesWorld_cell w _ _ j (by rw [hs]; exact hj), ← hu]
  unfold Lib.byteCells
  rw [List.getElem?_map, List.getElem?_eq_getElem hj]
  simp [strOf, List.getD, hj]
/-- Bytes of a text, parsed. -/
theorem parse_text (A : List UInt8) (hA : A.length ≤ 10000000) (w : World) (hT : Tab w) : ∃ gc w1, (convert 9 42 (.string (strOf A))).run Tryz.prog w = .ok (.slice (some ⟨w.heap.size, 0, none⟩) A.length gc) w1 ∧ Next w w1 ∧ Calls Tryz.prog 17 #[.slice (some ⟨w.heap.size, 0, none⟩) A.length gc] w1 (ParsePost A w1) := by
  have hcv := Lib.run_convert_string_bytes (P := Tryz.prog) w 9 42 5 (strOf A) Tryz.underlying9 Tryz.underlying42 Tryz.underlying5
  have hB1 := Lib.bytesWorld_below w 5 (strOf A)
  have hn := Next.of hT hB1
  have H0 := parse_any (some ⟨w.heap.size, 0, none⟩) (grownCap w (strOf A).size 0 5) A _ hn.2 (by omega) (has_world w A)
  rw [size_strOf] at hcv
  rw [size_strOf] at H0
  exact ⟨_, _, hcv, hn, H0⟩
end Go.Proofs.YtlcijlklbabajaaGreatDoor
