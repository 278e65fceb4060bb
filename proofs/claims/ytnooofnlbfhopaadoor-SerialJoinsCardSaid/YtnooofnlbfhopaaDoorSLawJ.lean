/-
  The law of layer 6 about two texts, one behind the other: it returns true for every two texts. Condition: the world holds Go's own tables.
-/
import Derived.Test.YtnooofnlbfhopaaDoorSWorks
import Derived.Test.YtnooofnlbfhopaaDoorSPure
import Derived.Test.YtnooofnlbfhopaaDoorSWell
namespace Go.Proofs.YtnooofnlbfhopaaDoor
open Go.RowKit
theorem strOf_cat (p q : List UInt8) : strOf (p ++ q) = strOf p ++ strOf q := by
  rw [← strOf_sl (strOf p ++ strOf q), sl_append, sl_strOf, sl_strOf]
theorem esc_cat {v : Bool} {a b : ByteArray} (h : U.wel0 (sl a) = true) : strOf (escL v (sl (a ++ b))) = strOf (escL v (sl a)) ++ strOf (escL v (sl b)) := by
  unfold U.wel0 at h
  rw [Bool.and_eq_true] at h
  rw [sl_append, escL_join v (sl b) _ (sl a) (Nat.le_refl _) h.1, strOf_cat]
theorem esc_size (v : Bool) (s : ByteArray) (n : Nat) (h : s.size ≤ n) : (strOf (escL v (sl s))).size ≤ 6 * n := by
  have := escL_len v (sl s)
  rw [len_sl] at this
  rw [size_strOf]
  omega
set_option maxHeartbeats 4000000 in
set_option maxRecDepth 100000 in
theorem serialJoins_w (a b : ByteArray) (w : World) (hT : TabV w) :
    Calls Tryd.prog 6 #[.string a, .string b] w fun e w' => e = .returned (.bool true) ∧ Below w.heap.size w w' := by
  have hwo := hid_mk (fun w' (hb : Below w.heap.size w w') => Pg.works_any w' (hT.below hb))
  clear hT
  by_cases h1 : 2000 < a.size
  · have q1 : decide (2000 < (a.size : Int)) = true := by simp; omega
    have q2 : decide (2000 < a.size) = true := by simp; omega
    go_enter Tryd.func6, Tryd.ntmps6
    have hw4 := hid_mk (hwo.out _ (Below.refl w.heap.size w))
    clear hwo
    go_wp2_with fail
    with_reducible refine hw4.out.mono ?_
    rintro e w9 ⟨rfl, hb9⟩
    have H9 := hid_mk ((Below.refl w.heap.size w).trans (hb9.mono (Below.refl w.heap.size w).size))
    clear hb9
    go_wp2
    go_ret
    exact ⟨rfl, H9.out⟩
  have q1 : decide (2000 < (a.size : Int)) = false := by simp; omega
  have q2 : decide (2000 < a.size) = false := by simp; omega
  by_cases h2 : 2000 < b.size
  · have q3 : decide (2000 < (b.size : Int)) = true := by simp; omega
    have q4 : decide (2000 < b.size) = true := by simp; omega
    go_enter Tryd.func6, Tryd.ntmps6
    have hw4 := hid_mk (hwo.out _ (Below.refl w.heap.size w))
    clear hwo
    go_wp2_with fail
    with_reducible refine hw4.out.mono ?_
    rintro e w9 ⟨rfl, hb9⟩
    have H9 := hid_mk ((Below.refl w.heap.size w).trans (hb9.mono (Below.refl w.heap.size w).size))
    clear hb9
    go_wp2
    go_ret
    exact ⟨rfl, H9.out⟩
  have q3 : decide (2000 < (b.size : Int)) = false := by simp; omega
  have q4 : decide (2000 < b.size) = false := by simp; omega
  have hwa := hid_mk (U.well_any a (by omega) w)
  have hwb := hid_mk (fun w => U.well_any b (by omega) w)
  rw [show U.sl a = sl a from rfl] at hwa
  rw [show U.sl b = sl b from rfl] at hwb
  cases hv : U.wel0 (sl a) with
  | false =>
    rw [hv] at hwa
    clear hv
    go_enter Tryd.func6, Tryd.ntmps6
    go_wp2_with fail
    with_reducible refine hwa.out.mono ?_
    rintro e w1 ⟨rfl, hb1⟩
    have H1 := hid_mk hb1
    clear hb1
    have hw4 := hid_mk (hwo.out _ H1.out)
    clear hwo
    go_wp2_with fail
    with_reducible refine hw4.out.mono ?_
    rintro e w9 ⟨rfl, hb9⟩
    have H9 := hid_mk ((H1.out).trans (hb9.mono (H1.out).size))
    clear hb9
    go_wp2
    go_ret
    exact ⟨rfl, H9.out⟩
  | true =>
    rw [hv] at hwa
    cases hv2 : U.wel0 (sl b) with
    | false =>
      rw [hv2] at hwb
      clear hv hv2
      go_enter Tryd.func6, Tryd.ntmps6
      go_wp2_with fail
      with_reducible refine hwa.out.mono ?_
      rintro e w1 ⟨rfl, hb1⟩
      have H1 := hid_mk hb1
      clear hb1
      go_wp2_with fail
      with_reducible refine (hwb.out _).mono ?_
      rintro e w2 ⟨rfl, hb2⟩
      have H2 := hid_mk (H1.out.trans (hb2.mono H1.out.size))
      clear hb2
      have hw4 := hid_mk (hwo.out _ H2.out)
      clear hwo
      go_wp2_with fail
      with_reducible refine hw4.out.mono ?_
      rintro e w9 ⟨rfl, hb9⟩
      have H9 := hid_mk ((H2.out).trans (hb9.mono (H2.out).size))
      clear hb9
      go_wp2
      go_ret
      exact ⟨rfl, H9.out⟩
    | true =>
      rw [hv2] at hwb
      obtain ⟨X, hX⟩ : ∃ X, X = a ++ b := ⟨_, rfl⟩
      have HX := hid_mk hX.symm
      have hXz : X.size ≤ 4000 := by rw [hX, ByteArray.size_append]; omega
      have hp1 := hid_mk (fun w => escapeText_any X (by omega) w)
      have hp2 := hid_mk (fun w => escapeText_any a (by omega) w)
      have hp3 := hid_mk (fun w => escapeText_any b (by omega) w)
      have hp4 := hid_mk (fun w => escapeValue_any X (by omega) w)
      have hp5 := hid_mk (fun w => escapeValue_any a (by omega) w)
      have hp6 := hid_mk (fun w => escapeValue_any b (by omega) w)
      rw [hX, esc_cat hv, ← hX] at hp1
      rw [hX, esc_cat hv, ← hX] at hp4
      have z1 := esc_size false a 2000 (by omega)
      have z2 := esc_size false b 2000 (by omega)
      have z3 := esc_size true a 2000 (by omega)
      have z4 := esc_size true b 2000 (by omega)
      have r0 : ¬ 9223372036854775807 < a.size + b.size := by omega
      generalize strOf (escL false (sl a)) = A1 at *
      generalize strOf (escL false (sl b)) = B1 at *
      generalize strOf (escL true (sl a)) = A2 at *
      generalize strOf (escL true (sl b)) = B2 at *
      have r1 : ¬ 9223372036854775807 < A1.size + B1.size := by omega
      have r2 : ¬ 9223372036854775807 < A2.size + B2.size := by omega
      clear hv hv2 hX
      go_enter Tryd.func6, Tryd.ntmps6
      go_wp2_with fail
      with_reducible refine (hwa.out).mono ?_
      rintro e w1 ⟨rfl, hb1⟩
      have H1 := hid_mk (hb1)
      clear hb1
      go_wp2_with fail
      with_reducible refine (hwb.out _).mono ?_
      rintro e w2 ⟨rfl, hb2⟩
      have H2 := hid_mk (H1.out.trans (hb2.mono H1.out.size))
      clear hb2
      go_wp2_with fail
      rw [HX.out]
      with_reducible refine (hp1.out _).mono ?_
      rintro e w3 ⟨rfl, hb3⟩
      have H3 := hid_mk (H2.out.trans (hb3.mono H2.out.size))
      clear hb3
      go_wp2_with fail
      with_reducible refine (hp2.out _).mono ?_
      rintro e w4 ⟨rfl, hb4⟩
      have H4 := hid_mk (H3.out.trans (hb4.mono H3.out.size))
      clear hb4
      go_wp2_with fail
      with_reducible refine (hp3.out _).mono ?_
      rintro e w5 ⟨rfl, hb5⟩
      have H5 := hid_mk (H4.out.trans (hb5.mono H4.out.size))
      clear hb5
      go_wp2_with fail
      rw [HX.out]
      with_reducible refine (hp4.out _).mono ?_
      rintro e w6 ⟨rfl, hb6⟩
      have H6 := hid_mk (H5.out.trans (hb6.mono H5.out.size))
      clear hb6
      go_wp2_with fail
      with_reducible refine (hp5.out _).mono ?_
      rintro e w7 ⟨rfl, hb7⟩
      have H7 := hid_mk (H6.out.trans (hb7.mono H6.out.size))
      clear hb7
      go_wp2_with fail
      with_reducible refine (hp6.out _).mono ?_
      rintro e w8 ⟨rfl, hb8⟩
      have H8 := hid_mk (H7.out.trans (hb8.mono H7.out.size))
      clear hb8
      have hw4 := hid_mk (hwo.out _ H8.out)
      clear hwo
      go_wp2_with fail
      with_reducible refine hw4.out.mono ?_
      rintro e w9 ⟨rfl, hb9⟩
      have H9 := hid_mk ((H8.out).trans (hb9.mono (H8.out).size))
      clear hb9
      go_wp2
      go_ret
      exact ⟨rfl, H9.out⟩
theorem serialJoins_c (a b : ByteArray) (w : World) {c d : Prop} (_ : c) (_ : d) (hT : TabV w) :
    Calls Tryd.prog 6 #[.string a, .string b] w fun e w' => e = .returned (.bool true) ∧ Below w.heap.size w w' ∧ True :=
  (serialJoins_w a b w hT).mono fun _ _ h => ⟨h.1, h.2, trivial⟩
end Go.Proofs.YtnooofnlbfhopaaDoor
