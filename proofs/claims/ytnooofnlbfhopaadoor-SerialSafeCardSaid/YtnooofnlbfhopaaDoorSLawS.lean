/-
  The law of layer 6 about what is safe: it returns true for every text. Condition: the world holds Go's own tables.
-/
import Derived.Test.YtnooofnlbfhopaaDoorSWorks
import Derived.Test.YtnooofnlbfhopaaDoorSBeg
namespace Go.Proofs.YtnooofnlbfhopaaDoor
open Go.RowKit
theorem badB_f {c : UInt8} (h : ¬ badB false c) : c.toNat ≠ 13 ∧ c.toNat ≠ 60 ∧ c.toNat ≠ 62 := by
  unfold badB at h
  simp at h
  omega
theorem badB_t {c : UInt8} (h : ¬ badB true c) : c.toNat ≠ 13 ∧ c.toNat ≠ 34 := by
  unfold badB at h
  simp at h
  omega
set_option maxHeartbeats 4000000 in
set_option maxRecDepth 100000 in
theorem serialSafe_w (s : ByteArray) (w : World) (hT : TabV w) :
    Calls Tryd.prog 5 #[.string s] w fun e w' => e = .returned (.bool true) ∧ Below w.heap.size w w' := by
  have hwo := hid_mk (fun w' (hb : Below w.heap.size w w') => Pg.works_any w' (hT.below hb))
  clear hT
  by_cases hs : 3000 < s.size
  · have hs' : decide (3000 < (s.size : Int)) = true := by simp; omega
    have hsn : decide (3000 < s.size) = true := by simp; omega
    have hw0 := hid_mk (hwo.out w (Below.refl _ _))
    clear hwo
    go_enter Tryd.func5, Tryd.ntmps5
    go_wp2_with fail
    with_reducible refine hw0.out.mono ?_
    rintro e w1 ⟨rfl, hb1⟩
    have H1 := hid_mk hb1
    clear hb1
    go_wp2
    go_ret
    exact ⟨rfl, H1.out⟩
  have hs' : decide (3000 < (s.size : Int)) = false := by simp; omega
  have hsn : decide (3000 < s.size) = false := by simp; omega
  have hp1 := hid_mk (fun w => escapeText_any s (by omega) w)
  have hp2 := hid_mk (fun w => escapeValue_any s (by omega) w)
  have hX1 := escL_safe false (sl s)
  have hY1 := escL_safe true (sl s)
  have hX2 : (strOf (escL false (sl s))).size ≤ 18000 := by
    rw [size_strOf]
    have := escL_len false (sl s)
    rw [len_sl] at this
    omega
  have hY2 : (strOf (escL true (sl s))).size ≤ 18000 := by
    rw [size_strOf]
    have := escL_len true (sl s)
    rw [len_sl] at this
    omega
  rw [← sl_strOf (escL false (sl s))] at hX1
  rw [← sl_strOf (escL true (sl s))] at hY1
  generalize strOf (escL false (sl s)) = X at *
  generalize strOf (escL true (sl s)) = Y at *
  have HX := hid_mk hX1
  have HY := hid_mk hY1
  clear hX1 hY1
  go_enter Tryd.func5, Tryd.ntmps5
  go_wp2_with fail
  with_reducible refine (hp1.out _).mono ?_
  rintro e w1 ⟨rfl, hb1⟩
  have H1 := hid_mk hb1
  clear hb1
  go_wp2_with fail
  with_reducible refine (hp2.out _).mono ?_
  rintro e w2 ⟨rfl, hb2⟩
  have H2 := hid_mk (H1.out.trans (hb2.mono H1.out.size))
  clear hb2 H1 hp1 hp2
  go_wp2_with fail
  go_loopw [5] (fun vi wr => ∃ i : Nat, i ≤ X.size ∧ vi = .int .i64 (i : Int) ∧ Hid (Below w.heap.size w wr)) (fun vi _ => X.size - (intOf vi).toNat)
  case atStart => exact ⟨0, by omega, rfl, H2⟩
  case round =>
    obtain ⟨i, hi, rfl, HW⟩ := hrel
    clear H2
    by_cases hin : i < X.size
    · have hin' : (i : Int) < (X.size : Int) := by omega
      have hi0 : (0 : Int) ≤ (i : Int) := by omega
      have hle : (i : Int) ≤ (X.size : Int) := by omega
      have hsa := safe_at HX.out i (by rw [len_sl]; exact hin)
      rw [show (sl X)[i]'(by rw [len_sl]; exact hin) = X[i]'hin from rfl] at hsa
      obtain ⟨hsb, hsc⟩ := hsa
      have hsd := badB_f hsb
      have b60 : (((X[i]'hin).toNat : Int) == 60) = false := beq_false_of_ne (by omega)
      have b62 : (((X[i]'hin).toNat : Int) == 62) = false := beq_false_of_ne (by omega)
      have b13 : (((X[i]'hin).toNat : Int) == 13) = false := beq_false_of_ne (by omega)
      by_cases h38 : (X[i]'hin).toNat = 38
      · have b38 : (((X[i]'hin).toNat : Int) == 38) = true := by rw [h38]; rfl
        have hbg := hid_mk (begins6_any (X.extract i X.size) wr)
        rw [sl_extract, hsc h38] at hbg
        clear hsb hsc hsd h38
        go_wp2_with fail
        with_reducible refine hbg.out.mono ?_
        rintro e w3 ⟨rfl, hb3⟩
        have H3 := hid_mk (HW.out.trans (hb3.mono HW.out.size))
        clear hb3 HW hbg
        go_wp2_with fail
        go_roundw
        case rel => exact ⟨i + 1, by omega, by first | rfl | go_num, H3⟩
        case measure => simp [intOf]; omega
      · have b38 : (((X[i]'hin).toNat : Int) == 38) = false := beq_false_of_ne (by omega)
        clear hsb hsc hsd h38
        go_wp2_with fail
        go_roundw
        case rel => exact ⟨i + 1, by omega, by first | rfl | go_num, HW⟩
        case measure => simp [intOf]; omega
    · have hin' : ¬ (i : Int) < (X.size : Int) := by omega
      go_wp2_with fail
      go_loopw [6] (fun vi wr => ∃ i : Nat, i ≤ Y.size ∧ vi = .int .i64 (i : Int) ∧ Hid (Below w.heap.size w wr)) (fun vi _ => Y.size - (intOf vi).toNat)
      case atStart => exact ⟨0, by omega, rfl, HW⟩
      case round =>
        clear hi hin hin' HW
        obtain ⟨i, hi, rfl, HW⟩ := hrel
        by_cases hin : i < Y.size
        · have hin' : (i : Int) < (Y.size : Int) := by omega
          have hi0 : (0 : Int) ≤ (i : Int) := by omega
          have hle : (i : Int) ≤ (Y.size : Int) := by omega
          have hsa := safe_at HY.out i (by rw [len_sl]; exact hin)
          rw [show (sl Y)[i]'(by rw [len_sl]; exact hin) = Y[i]'hin from rfl] at hsa
          obtain ⟨hsb, hsc⟩ := hsa
          have hsd := badB_t hsb
          have b34 : (((Y[i]'hin).toNat : Int) == 34) = false := beq_false_of_ne (by omega)
          have b13 : (((Y[i]'hin).toNat : Int) == 13) = false := beq_false_of_ne (by omega)
          by_cases h38 : (Y[i]'hin).toNat = 38
          · have b38 : (((Y[i]'hin).toNat : Int) == 38) = true := by rw [h38]; rfl
            have hbg := hid_mk (begins6_any (Y.extract i Y.size) wr)
            rw [sl_extract, hsc h38] at hbg
            clear hsb hsc hsd h38
            go_wp2_with fail
            with_reducible refine hbg.out.mono ?_
            rintro e w3 ⟨rfl, hb3⟩
            have H3 := hid_mk (HW.out.trans (hb3.mono HW.out.size))
            clear hb3 HW hbg
            go_wp2_with fail
            go_roundw
            case rel => exact ⟨i + 1, by omega, by first | rfl | go_num, H3⟩
            case measure => simp [intOf]; omega
          · have b38 : (((Y[i]'hin).toNat : Int) == 38) = false := beq_false_of_ne (by omega)
            clear hsb hsc hsd h38
            go_wp2_with fail
            go_roundw
            case rel => exact ⟨i + 1, by omega, by first | rfl | go_num, HW⟩
            case measure => simp [intOf]; omega
        · have hin' : ¬ (i : Int) < (Y.size : Int) := by omega
          have hw4 := hid_mk (hwo.out wr HW.out)
          clear hwo
          go_wp2_with fail
          with_reducible refine hw4.out.mono ?_
          rintro e w5 ⟨rfl, hb5⟩
          have H5 := hid_mk (HW.out.trans (hb5.mono HW.out.size))
          clear hb5 HW
          go_wp2
          go_ret
          exact ⟨rfl, H5.out⟩
theorem serialSafe_c (s : ByteArray) (w : World) {c : Prop} (_ : c) (hT : TabV w) :
    Calls Tryd.prog 5 #[.string s] w fun e w' => e = .returned (.bool true) ∧ Below w.heap.size w w' ∧ True :=
  (serialSafe_w s w hT).mono fun _ _ h => ⟨h.1, h.2, trivial⟩
end Go.Proofs.YtnooofnlbfhopaaDoor
