/-
  The reference's Well: is a text well-formed? Condition: the text's length is bounded.
-/
import Derived.Test.YtflgiejnklbjnaaRefDec
namespace Go.Proofs.Ytflgiejnklbjnaa
open Go.RowKit
def wellF : Nat → List UInt8 → Bool
  | 0, _ => true
  | _ + 1, [] => true
  | f + 1, c :: l => (cutL (c :: l)).ok && wellF f ((c :: l).drop (cutL (c :: l)).n)
def wellL (l : List UInt8) : Bool := wellF l.length l
theorem wellF_fuel : ∀ (f g : Nat) (l : List UInt8), l.length ≤ f → l.length ≤ g → wellF f l = wellF g l
  | 0, 0, _, _, _ => rfl
  | 0, g + 1, l, h, _ => by
    have : l = [] := List.eq_nil_of_length_eq_zero (by omega)
    subst this
    rfl
  | f + 1, 0, l, _, h => by
    have : l = [] := List.eq_nil_of_length_eq_zero (by omega)
    subst this
    rfl
  | f + 1, g + 1, [], _, _ => rfl
  | f + 1, g + 1, c :: l, h1, h2 => by
    have hc := cut_facts (c :: l) (by simp)
    unfold wellF
    rw [wellF_fuel f g _ (by rw [List.length_drop]; simp at h1; simp; omega) (by rw [List.length_drop]; simp at h2; simp; omega)]
theorem wellL_nil : wellL [] = true := rfl
theorem wellL_cons (l : List UInt8) (h : 0 < l.length) : wellL l = ((cutL l).ok && wellL (l.drop (cutL l).n)) := by
  have hc := cut_facts l h
  obtain ⟨c, t, rfl⟩ : ∃ c t, l = c :: t := by
    cases l with
    | nil => simp at h
    | cons c t => exact ⟨c, t, rfl⟩
  unfold wellL
  rw [List.length_cons]
  show (_ && _) = _
  rw [wellF_fuel t.length ((c :: t).drop (cutL (c :: t)).n).length _ (by rw [List.length_drop, List.length_cons]; omega) (Nat.le_refl _)]
set_option maxHeartbeats 4000000 in
set_option maxRecDepth 100000 in
theorem refWell_any (s : ByteArray) (hs : s.size ≤ 1000000000) (w : World) :
    Calls Try.prog 8 #[.string s] w fun e w' => e = .returned (.bool (wellL (sl s))) ∧ Below w.heap.size w w' := by
  go_enter Try.func8, Try.ntmps8
  go_wp2_with fail
  go_loopw [3] (fun va wr => ∃ (pos : Nat), va = .int .i64 (pos : Int) ∧ pos ≤ s.size ∧ Hid (wellL (sl s) = wellL ((sl s).drop pos)) ∧ Hid (Below w.heap.size w wr)) (fun va _ => s.size - (intOf va).toNat)
  case atStart => exact ⟨0, rfl, by omega, hid_mk (by rw [List.drop_zero]), hid_mk (Below.refl _ _)⟩
  case round =>
    obtain ⟨pos, rfl, hps, hw, hbel⟩ := hrel
    by_cases hp : pos < s.size
    · have hp' : (pos : Int) < (s.size : Int) := by omega
      have hp2 : (pos : Int) ≤ (s.size : Int) := by omega
      have hl : 0 < ((sl s).drop pos).length := by rw [List.length_drop, len_sl]; omega
      have hcf := cut_facts _ hl
      rw [List.length_drop, len_sl] at hcf
      obtain ⟨n1, n2, n4, r1, _⟩ := hcf
      have hnext := hid_mk (show wellL (sl s) = ((cutL ((sl s).drop pos)).ok && wellL ((sl s).drop (pos + (cutL ((sl s).drop pos)).n))) from by
        rw [hw.out, wellL_cons _ hl, List.drop_drop])
      clear hw hl
      go_wp2_with fail
      refine (refCut_any (s.extract pos s.size) (by rw [size_extract]; omega) (by rw [size_extract]; omega) _).mono ?_
      rintro e w1 ⟨rfl, hb1⟩
      rw [sl_extract]
      have HB := hid_mk (hbel.out.trans (hb1.mono hbel.out.size))
      have hsz := hbel.out.size
      have hsz1 := hb1.size
      generalize (cutL ((sl s).drop pos)).r = r at *
      generalize (cutL ((sl s).drop pos)).n = n at *
      clear hbel hb1
      have HA := hid_mk (fun (o : Obj) => HB.out.alloc (by omega) o)
      cases hok : (cutL ((sl s).drop pos)).ok with
      | false =>
        rw [hok] at hnext
        clear hok
        go_wp2
        go_ret
        rw [hnext.out]
        exact ⟨rfl, HA.out _⟩
      | true =>
        rw [hok] at hnext
        clear hok
        go_wp2
        go_roundw
        case rel => exact ⟨pos + n, by first | rfl | go_num, by omega, hid_mk (by rw [hnext.out, Bool.true_and]), hid_mk (HA.out _)⟩
        case measure => simp [intOf]; omega
    · have hv := hid_mk (show wellL (sl s) = true from by
        rw [hw.out, List.drop_eq_nil_of_le (by rw [len_sl]; omega)]
        rfl)
      have hp' : ¬ (pos : Int) < (s.size : Int) := by omega
      clear hw
      go_wp2
      go_ret
      rw [hv.out]
      exact ⟨rfl, hbel.out⟩
end Go.Proofs.Ytflgiejnklbjnaa
