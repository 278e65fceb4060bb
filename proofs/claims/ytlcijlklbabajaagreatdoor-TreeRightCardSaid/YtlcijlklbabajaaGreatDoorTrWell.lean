/-
  The document's own Well of layer 5: well-formed, without the character 0. Condition: the text's length is bounded.
-/
import Derived.Test.YtlcijlklbabajaaGreatDoorURef
import Derived.Test.YtlcijlklbabajaaGreatDoorLpDocs
namespace Go.Proofs.YtlcijlklbabajaaGreatDoor.U
open Go.RowKit
def wel0F : Nat → List UInt8 → Bool
  | 0, _ => true
  | _ + 1, [] => true
  | f + 1, c :: l => (cutL (c :: l)).ok && (cutL (c :: l)).r != 0 && wel0F f ((c :: l).drop (cutL (c :: l)).n)
theorem enc_no0 (r : Nat) (h : r ≠ 0) : ∀ b ∈ Lib.encodeRune (r : Int), b ≠ 0 := by
  intro b hb
  unfold Lib.encodeRune at hb
  rw [List.mem_map] at hb
  obtain ⟨x, hx, rfl⟩ := hb
  have hx2 : x ≠ 0 ∧ 0 ≤ x ∧ x < 256 := by
    have hbd := Lib.encodeRuneZ_byte (r : Int) x hx
    refine ⟨?_, hbd.1, hbd.2⟩
    unfold Lib.encodeRuneZ at hx
    (repeat' split at hx) <;> simp at hx <;> omega
  intro e
  have := u8_of x x.toNat (by omega) (by omega)
  rw [e] at this
  have h0 : (0 : UInt8).toNat = 0 := rfl
  omega
/-- Well-formed, and without the character 0. -/
def wel0 (l : List UInt8) : Bool := wellL l && nz l
theorem wel0_cons (l : List UInt8) (h : 0 < l.length) : wel0 l = ((cutL l).ok && (cutL l).r != 0 && wel0 (l.drop (cutL l).n)) := by
  unfold wel0
  rw [wellL_cons l h]
  cases hok : (cutL l).ok with
  | false => rfl
  | true =>
    have he := cut_enc l h hok
    have hnz : nz l = ((cutL l).r != 0 && nz (l.drop (cutL l).n)) := by
      conv => lhs; rw [← List.take_append_drop (cutL l).n l]
      rw [nz_app, he]
      congr 1
      by_cases hr : (cutL l).r = 0
      · rw [hr]
        decide
      · rw [nz_no (enc_no0 _ hr)]
        exact (bne_iff_ne.2 hr).symm
    rw [hnz, Bool.true_and, Bool.true_and]
    generalize wellL (l.drop (cutL l).n) = a
    generalize ((cutL l).r != 0) = b
    generalize nz (l.drop (cutL l).n) = c
    cases a <;> cases b <;> cases c <;> rfl
theorem wel0_nil : wel0 [] = true := rfl
set_option maxHeartbeats 4000000 in
set_option maxRecDepth 100000 in
theorem well_any (s : ByteArray) (hs : s.size ≤ 1000000000) (w : World) :
    Calls Tryz.prog 30 #[.string s] w fun e w' => e = .returned (.bool (wel0 (sl s))) ∧ Below w.heap.size w w' := by
  go_enter Tryz.func30, Tryz.ntmps30
  go_wp2_with fail
  go_loopw [3] (fun va wr => ∃ (pos : Nat), va = .int .i64 (pos : Int) ∧ pos ≤ s.size ∧ Hid (wel0 (sl s) = wel0 ((sl s).drop pos)) ∧ Hid (Below w.heap.size w wr)) (fun va _ => s.size - (intOf va).toNat)
  case atStart => exact ⟨0, rfl, by omega, hid_mk (by rw [List.drop_zero]), hid_mk (Below.refl _ _)⟩
  case round =>
    obtain ⟨pos, rfl, hps, hw, hbel⟩ := hrel
    by_cases hp : pos < s.size
    · have hp' : (pos : Int) < (s.size : Int) := by omega
      have hp2 : (pos : Int) ≤ (s.size : Int) := by omega
      have hl : 0 < ((sl s).drop pos).length := by rw [List.length_drop, len_sl]; omega
      have hcf := cut_facts _ hl
      rw [List.length_drop, len_sl] at hcf
      obtain ⟨n1, n2, n4, r1, _⟩ := hcf
      have hnext := hid_mk (show wel0 (sl s) = ((cutL ((sl s).drop pos)).ok && (cutL ((sl s).drop pos)).r != 0 && wel0 ((sl s).drop (pos + (cutL ((sl s).drop pos)).n))) from by
        rw [hw.out, wel0_cons _ hl, List.drop_drop])
      clear hw hl
      have hcu := hid_mk (refCut_any (s.extract pos s.size) (by rw [size_extract]; omega) (by rw [size_extract]; omega) wr)
      rw [sl_extract] at hcu
      go_wp2_with fail
      (with_reducible refine hcu.out.mono ?_)
      rintro e w1 ⟨rfl, hb1⟩
      have HB := hid_mk (hbel.out.trans (hb1.mono hbel.out.size))
      have hsz := hbel.out.size
      have hsz1 := hb1.size
      generalize (cutL ((sl s).drop pos)).r = r at *
      generalize (cutL ((sl s).drop pos)).n = n at *
      clear hbel hb1 hcu
      have HA := hid_mk (fun (o : Obj) => HB.out.alloc (by omega) o)
      cases hok : (cutL ((sl s).drop pos)).ok with
      | false =>
        rw [hok] at hnext
        clear hok
        go_wp2_with fail
        go_ret
        rw [hnext.out]
        exact ⟨rfl, HA.out _⟩
      | true =>
        rw [hok] at hnext
        clear hok
        by_cases hr : r = 0
        · have hq : ((r : Int) == 0) = true := by rw [hr]; rfl
          have HR := hid_mk (show wel0 (sl s) = false by rw [hnext.out, hr]; rfl)
          clear hr hnext
          go_wp2_with fail
          go_ret
          rw [HR.out]
          exact ⟨rfl, HA.out _⟩
        · have hq : ((r : Int) == 0) = false := beq_false_of_ne (by omega)
          have HR := hid_mk (show wel0 (sl s) = wel0 ((sl s).drop (pos + n)) by rw [hnext.out, bne_iff_ne.2 hr]; rfl)
          clear hr hnext
          go_wp2_with fail
          go_roundw
          case rel => exact ⟨pos + n, by go_num, by omega, HR, hid_mk (HA.out _)⟩
          case measure => simp [intOf]; omega
    · have hp' : ¬ (pos : Int) < (s.size : Int) := by omega
      have HR := hid_mk (show wel0 (sl s) = true by rw [hw.out, List.drop_eq_nil_of_le (by rw [len_sl]; omega)]; rfl)
      clear hw
      go_wp2_with fail
      go_ret
      rw [HR.out]
      exact ⟨rfl, hbel.out⟩
end Go.Proofs.YtlcijlklbabajaaGreatDoor.U
