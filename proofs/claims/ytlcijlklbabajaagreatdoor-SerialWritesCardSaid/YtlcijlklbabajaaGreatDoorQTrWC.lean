/-
  The document's own Well of layer 5: well-formed, without the character 0. Condition: the text's length is bounded.
-/
import Derived.Test.YtlcijlklbabajaaGreatDoorQURef
import Derived.Test.YtlcijlklbabajaaGreatDoorQLpDD
import Derived.Test.YtlcijlklbabajaaGreatDoorQTrAB
import Derived.Test.YtlcijlklbabajaaGreatDoorQRR12
namespace Go.Proofs.YtlcijlklbabajaaGreatDoor.U
open Go.RowKit
theorem enc_no0 (r : Nat) (h : r ≠ 0) : ∀ b ∈ Lib.encodeRune (r : Int), b ≠ 0 := by
 intro b hb
 unfold Lib.encodeRune at hb
 rw [List.mem_map] at hb
 obtain ⟨x, hx, rfl⟩ := hb
 have hx2 : x ≠ 0 ∧ 0 ≤ x ∧ x < 256 := by
  have hbd := Lib.encodeRuneZ_byte (r : Int) x hx
  refine ⟨?_, hbd.1, hbd.2⟩
  unfold Lib.encodeRuneZ at hx
  (repeat' split at hx) <;> simp at hx <;> omega
 intro e
 have := u8_of x x.toNat (by omega) (by omega)
 rw [e] at this
 have h0 : (0 : UInt8).toNat = 0 := rfl
 omega
/-- Well-formed, and without the character 0. -/
def wel0 (l : List UInt8) : Bool := wellL l && nz l
theorem wel0_cons (l : List UInt8) (h : 0 < l.length) : wel0 l = ((cutL l).ok && (cutL l).r != 0 && wel0 (l.drop (cutL l).n)) := by
 unfold wel0
 rw [wellL_cons l h]
 cases hok : (cutL l).ok with
 | false => rfl
 | true =>
   have he := cut_enc l h hok
   have hnz : nz l = ((cutL l).r != 0 && nz (l.drop (cutL l).n)) := by
    conv => lhs; rw [← List.take_append_drop (cutL l).n l]
    rw [nz_app, he]
    congr 1
    by_cases hr : (cutL l).r = 0
    ·rw [hr]
     decide
    ·rw [nz_no (enc_no0 _ hr)]
     exact (bne_iff_ne.2 hr).symm
   rw [hnz, Bool.true_and, Bool.true_and]
   generalize wellL (l.drop (cutL l).n) = a
   generalize ((cutL l).r != 0) = b
   generalize nz (l.drop (cutL l).n) = c
   cases a <;> cases b <;> cases c <;> rfl
set_option maxHeartbeats 4000000 in
set_option maxRecDepth 100000 in
theorem well_any (s : ByteArray) (hs : s.size ≤ 1000000000) (w : World) :
 Calls Tryz.prog 30 #[.string s] w fun e w' => e = .returned (.bool (wel0 (sl s))) ∧ Below w.heap.size w w' := by
 go_enter Tryz.func30, Tryz.ntmps30
 go_wp2_with fail
 go_loopw [3] (fun va wr => ∃ (pos : Nat), va = .int .i64 (pos : Int) ∧ pos ≤ s.size ∧ Hid (wel0 (sl s) = wel0 ((sl s).drop pos)) ∧ Hid (Below w.heap.size w wr)) (fun va _ => s.size - (intOf va).toNat)
 case atStart => exact ⟨0, rfl, by omega, hid_mk (by rw [List.drop_zero]), hid_mk (Below.refl _ _)⟩
 case round =>
  obtain ⟨pos, rfl, hps, hw, hbel⟩ := hrel
  by_cases hp : pos < s.size
  ·have hp' : (pos : Int) < (s.size : Int) := by omega
   have hp2 : (pos : Int) ≤ (s.size : Int) := by omega
   have hl : 0 < ((sl s).drop pos).length := by rw [List.length_drop, len_sl]; omega
   have hcf := cut_facts _ hl
   rw [List.length_drop, len_sl] at hcf
   obtain ⟨n1, n2, n4, r1, _⟩ := hcf
   have hnext := hid_mk (show wel0 (sl s) = ((cutL ((sl s).drop pos)).ok && (cutL ((sl s).drop pos)).r != 0 && wel0 ((sl s).drop (pos + (cutL ((sl s).drop pos)).n))) from by
    rw [hw.out, wel0_cons _ hl, List.drop_drop])
   clear hw hl
   have hcu := hid_mk (refCut_any (s.extract pos s.size) (by rw [size_extract]; omega) (by rw [size_extract]; omega) wr)
   rw [sl_extract] at hcu
   go_wp2_with fail
   (with_reducible refine hcu.out.mono ?_)
   rintro e w1 ⟨rfl, hb1⟩
   have HB := hid_mk (hbel.out.trans (hb1.mono hbel.out.size))
   have hsz := hbel.out.size
   have hsz1 := hb1.size
   generalize (cutL ((sl s).drop pos)).r = r at *
   generalize (cutL ((sl s).drop pos)).n = n at *
   clear hbel hb1 hcu
   have HA := hid_mk (fun (o : Obj) => HB.out.alloc (by omega) o)
   cases hok : (cutL ((sl s).drop pos)).ok with
   | false =>
     rw [hok] at hnext
     clear hok
     go_wp2_with fail
     go_ret
     rw [hnext.out]
     exact ⟨rfl, HA.out _⟩
   | true =>
     rw [hok] at hnext
     clear hok
     by_cases hr : r = 0
     ·have hq : ((r : Int) == 0) = true := by rw [hr]; rfl
      have HR := hid_mk (show wel0 (sl s) = false by rw [hnext.out, hr]; rfl)
      clear hr hnext
      go_wp2_with fail
      go_ret
      rw [HR.out]
      exact ⟨rfl, HA.out _⟩
     ·have hq : ((r : Int) == 0) = false := beq_false_of_ne (by omega)
      have HR := hid_mk (show wel0 (sl s) = wel0 ((sl s).drop (pos + n)) by rw [hnext.out, bne_iff_ne.2 hr]; rfl)
      clear hr hnext
      go_wp2_with fail
      go_roundw
      case rel => exact ⟨pos + n, by go_num, by omega, HR, hid_mk (HA.out _)⟩
      case measure => simp [intOf]; omega
  ·have hp' : ¬ (pos : Int) < (s.size : Int) := by omega
   have HR := hid_mk (show wel0 (sl s) = true by rw [hw.out, List.drop_eq_nil_of_le (by rw [len_sl]; omega)]; rfl)
   clear hw
   go_wp2_with fail
   go_ret
   rw [HR.out]
   exact ⟨rfl, hbel.out⟩
end Go.Proofs.YtlcijlklbabajaaGreatDoor.U
/-
  The document's attrs: are attributes such as may be? Condition: the texts' sizes are bounded.
-/
namespace Go.Proofs.YtlcijlklbabajaaGreatDoor
open Go.RowKit R
def atX (l : List (List UInt8 × List UInt8)) (i : Nat) : Bool := nameX (l.getD i ([], [])).1 && !(l.take i).any (fun a => a.1 == (l.getD i ([], [])).1) && dataX (l.getD i ([], [])).2
theorem attrsX_at (l : List (List UInt8 × List UInt8)) : attrsX l = (List.range l.length).all (atX l) := rfl
theorem atX_false {l : List (List UInt8 × List UInt8)} {i : Nat} (hi : i < l.length) (h : atX l i = false) : attrsX l = false := by
 rw [attrsX_at, Bool.eq_false_iff]
 intro ha
 have := List.all_eq_true.1 ha i (List.mem_range.2 hi)
 rw [h] at this; cases this
theorem atX_next {l : List (List UInt8 × List UInt8)} {i : Nat} (h1 : (List.range i).all (atX l) = true) (h : atX l i = true) : (List.range (i + 1)).all (atX l) = true := by
 rw [List.range_succ, List.all_append, h1]
 simp [h]
def wel0X (l : List UInt8) : Bool := U.wel0 l
set_option maxHeartbeats 8000000 in
set_option maxRecDepth 100000 in
theorem attrs_any (a : Option Addr) (c : Nat) (l : List (List UInt8 × List UInt8)) (w : World) (h : HasRow w a (l.flatMap atF)) (hl : l.length ≤ 1000000000) (hok : ∀ x ∈ l, x.1.length ≤ 1000000000 ∧ x.2.length ≤ 1000000000) :
 Calls Tryz.prog 51 #[.slice a l.length c] w fun e w' => e = .returned (.bool (decide (l.length ≤ 16) && attrsX l)) ∧ Below w.heap.size w w' := by
 obtain ⟨n, hn⟩ : ∃ n, n = l.length := ⟨_, rfl⟩
 obtain ⟨R, hR⟩ : ∃ R, R = (decide (l.length ≤ 16) && attrsX l) := ⟨_, rfl⟩
 rw [← hR, ← hn]
 by_cases h16 : 16 < n
 ·have h16' : (16 : Int) < (n : Int) := by omega
  have HR := hid_mk (show R = false by rw [hR, decide_eq_false (by omega)]; rfl)
  clear hR
  go_enter Tryz.func51, Tryz.ntmps51
  go_wp2_with fail
  go_ret
  rw [HR.out]
  exact ⟨rfl, Below.refl _ _⟩
 have h16' : ¬ (16 : Int) < (n : Int) := by omega
 rw [decide_eq_true (by omega), Bool.true_and] at hR
 have H := hid_mk h
 have HR := hid_mk hR
 have HOK := hid_mk hok
 have HN := hid_mk hn
 have hwel := hid_mk (fun s hs w => U.well_any s hs w)
 clear h hR hok hl hn
 go_enter Tryz.func51, Tryz.ntmps51
 go_wp2_with fail
 go_loopw [3] (fun vi wr => ∃ i : Nat, i ≤ n ∧ vi = .int .i64 (i : Int) ∧ Hid ((List.range i).all (atX l) = true ∧ Below w.heap.size w wr)) (fun vi _ => n - (intOf vi).toNat)
 case atStart => exact ⟨0, Nat.zero_le _, rfl, hid_mk ⟨rfl, Below.refl _ _⟩⟩
 case round =>
  obtain ⟨i, hi, rfl, hI⟩ := hrel
  generalize wr = wo at *
  by_cases hlt : i < n
  ·have hlti : (i : Int) < (n : Int) := by omega
   have hi0 : (0 : Int) ≤ (i : Int) := by omega
   have hil : i < l.length := by rw [← HN.out]; exact hlt
   have hrow := H.out.below hI.out.2
   obtain ⟨x, rfl, hxb, c1, c2⟩ := hrow.at2 hil
   have c2' : wo.cell? ⟨(x.add (i * 2)).block, (x.add (i * 2)).off + 1, none⟩ = some (.string (strOf l[i].2)) := by
    rw [← c2, ← Addr.add_add x (i * 2) 1]
    conv => rhs; unfold Addr.add
    rw [if_neg (by omega)]
    rfl
   have hsz := HOK.out _ (List.getElem_mem hil)
   have hgd : l.getD i ([], []) = l[i] := by rw [List.getD_eq_getElem?_getD, List.getElem?_eq_getElem hil]; rfl
   have HBAD := hid_mk (fun (e : atX l i = false) => show R = false by rw [HR.out]; exact atX_false hil e)
   have HGOOD := hid_mk (fun (e : atX l i = true) => atX_next hI.out.1 e)
   have HAT := hid_mk (show atX l i = (nameX l[i].1 && !(l.take i).any (fun a => a.1 == l[i].1) && dataX l[i].2) by unfold atX; rw [hgd])
   have hwv := hid_mk (fun w => hwel.out (strOf l[i].2) (by rw [size_strOf]; exact hsz.2) w)
   have hwx : wel0X l[i].2 = dataX l[i].2 := (dataX_eq _).symm
   have HCL := hid_mk hrow
   have HB := hid_mk hI.out.2
   obtain ⟨nml, hnml⟩ : ∃ nml, nml = l[i].1 := ⟨_, rfl⟩
   have hnsz : (strOf nml).size = nml.length := size_strOf _
   have hslz : sl (strOf nml) = nml := sl_strOf _
   rw [← hnml] at c1 HAT hsz
   have HNM := hid_mk hnml
   clear hI hgd c2 hrow hnml
   go_wp2_with fail
   go_loop [4] (fun vk => ∃ k : Nat, k ≤ (strOf nml).size ∧ vk = .int .i64 (k : Int) ∧ Hid ((nml.take k).all nmC = true)) (fun vk => (strOf nml).size - (intOf vk).toNat)
   case atStart => exact ⟨0, Nat.zero_le _, rfl, hid_mk rfl⟩
   case round =>
    obtain ⟨k, hk, rfl, hall⟩ := hrel
    by_cases hkl : k < (strOf nml).size
    ·have hkli : (k : Int) < ((strOf nml).size : Int) := by omega
     have hk0 : (0 : Int) ≤ (k : Int) := by omega
     have hgx : nml.getD k 0 = (strOf nml)[k]'hkl := by
      conv => lhs; rw [← hslz]
      rw [List.getD_eq_getElem?_getD]; exact congrArg (·.getD 0) (Lib.data_getElem? (strOf nml) k hkl)
     have hstep := all_step (s := nml) (k := k) (by rw [← hnsz]; exact hkl)
     rw [hall.out, Bool.true_and, hgx, nmC_toNat] at hstep
     have hfail : nmC ((strOf nml)[k]'hkl) = false → R = false := fun hf => HBAD.out (by
      rw [HAT.out]
      unfold nameX
      have : nml.all nmC = false := by
       rw [Bool.eq_false_iff]
       intro ha
       have := List.all_eq_true.1 ha (nml[k]'(by omega)) (List.getElem_mem _)
       rw [show nml[k]'(by omega) = (strOf nml)[k]'hkl by rw [← hgx, List.getD_eq_getElem?_getD, List.getElem?_eq_getElem (by omega)]; rfl, hf] at this
       cases this
      rw [this, Bool.and_false, Bool.false_and, Bool.false_and])
     rw [nmC_toNat] at hfail
     have hlt8 := byte_lt ((strOf nml)[k]'hkl)
     obtain ⟨c8, hc8⟩ : ∃ c8, c8 = ((strOf nml)[k]'hkl).toNat := ⟨_, rfl⟩
     rw [← hc8] at hstep hfail hlt8
     have HST := hid_mk hstep
     have HFL := hid_mk hfail
     clear hstep hfail hgx hall
     by_cases e45 : c8 = 45
     ·have hn := hid_mk (show (nml.take (k + 1)).all nmC = true by rw [HST.out, decide_eq_true e45]; simp)
      have q45 : ((((strOf nml)[k]'hkl).toNat : Int) == 45) = true := by rw [← hc8, e45]; rfl
      have k1 : ¬ (97 : Int) ≤ (((strOf nml)[k]'hkl).toNat : Int) := by omega
      have k2 : ¬ (48 : Int) ≤ (((strOf nml)[k]'hkl).toNat : Int) := by omega
      clear hc8 e45
      go_wp2_with fail
      go_round
      case rel => exact ⟨k + 1, by omega, by go_num, hn⟩
      case measure => simp [intOf]; omega
     have q45 : ((((strOf nml)[k]'hkl).toNat : Int) == 45) = false := beq_false_of_ne (by omega)
     by_cases e95 : c8 = 95
     ·have hn := hid_mk (show (nml.take (k + 1)).all nmC = true by rw [HST.out, decide_eq_true e95]; simp)
      have q95 : ((((strOf nml)[k]'hkl).toNat : Int) == 95) = true := by rw [← hc8, e95]; rfl
      have k1 : ¬ (97 : Int) ≤ (((strOf nml)[k]'hkl).toNat : Int) := by omega
      have k2 : (48 : Int) ≤ (((strOf nml)[k]'hkl).toNat : Int) := by omega
      have k3 : ¬ (((strOf nml)[k]'hkl).toNat : Int) ≤ 57 := by omega
      clear hc8 e95
      go_wp2_with fail
      go_round
      case rel => exact ⟨k + 1, by omega, by go_num, hn⟩
      case measure => simp [intOf]; omega
     have q95 : ((((strOf nml)[k]'hkl).toNat : Int) == 95) = false := beq_false_of_ne (by omega)
     by_cases hA : 97 ≤ c8 ∧ c8 ≤ 122
     ·have hn := hid_mk (show (nml.take (k + 1)).all nmC = true by rw [HST.out, decide_eq_true hA.1, decide_eq_true hA.2]; simp)
      have k1 : (97 : Int) ≤ (((strOf nml)[k]'hkl).toNat : Int) := by omega
      have k2 : (((strOf nml)[k]'hkl).toNat : Int) ≤ 122 := by omega
      clear hc8 hA e45 e95
      go_wp2_with fail
      go_round
      case rel => exact ⟨k + 1, by omega, by go_num, hn⟩
      case measure => simp [intOf]; omega
     by_cases hB : 48 ≤ c8 ∧ c8 ≤ 57
     ·have hn := hid_mk (show (nml.take (k + 1)).all nmC = true by rw [HST.out, decide_eq_true hB.1, decide_eq_true hB.2]; simp)
      have k1 : ¬ (97 : Int) ≤ (((strOf nml)[k]'hkl).toNat : Int) := by omega
      have k2 : (48 : Int) ≤ (((strOf nml)[k]'hkl).toNat : Int) := by omega
      have k3 : (((strOf nml)[k]'hkl).toNat : Int) ≤ 57 := by omega
      clear hc8 hA hB e45 e95
      go_wp2_with fail
      go_round
      case rel => exact ⟨k + 1, by omega, by go_num, hn⟩
      case measure => simp [intOf]; omega
     have hf := hid_mk (show R = false from HFL.out (by
      have h1 : (decide (97 ≤ c8) && decide (c8 ≤ 122)) = false := by rw [← Bool.decide_and]; exact decide_eq_false hA
      have h2 : (decide (48 ≤ c8) && decide (c8 ≤ 57)) = false := by rw [← Bool.decide_and]; exact decide_eq_false hB
      rw [h1, h2, decide_eq_false e45, decide_eq_false e95]
      rfl))
     by_cases l97 : 97 ≤ c8
     ·have k1 : (97 : Int) ≤ (((strOf nml)[k]'hkl).toNat : Int) := by omega
      have k2 : ¬ (((strOf nml)[k]'hkl).toNat : Int) ≤ 122 := by omega
      have k3 : (48 : Int) ≤ (((strOf nml)[k]'hkl).toNat : Int) := by omega
      have k4 : ¬ (((strOf nml)[k]'hkl).toNat : Int) ≤ 57 := by omega
      clear hA hB e45 e95 l97 hc8
      go_wp2_with fail
      go_ret
      rw [hf.out]
      exact ⟨rfl, HB.out⟩
     by_cases l48 : 48 ≤ c8
     ·have k1 : ¬ (97 : Int) ≤ (((strOf nml)[k]'hkl).toNat : Int) := by omega
      have k3 : (48 : Int) ≤ (((strOf nml)[k]'hkl).toNat : Int) := by omega
      have k4 : ¬ (((strOf nml)[k]'hkl).toNat : Int) ≤ 57 := by omega
      clear hA hB e45 e95 l97 l48 hc8
      go_wp2_with fail
      go_ret
      rw [hf.out]
      exact ⟨rfl, HB.out⟩
     have k1 : ¬ (97 : Int) ≤ (((strOf nml)[k]'hkl).toNat : Int) := by omega
     have k3 : ¬ (48 : Int) ≤ (((strOf nml)[k]'hkl).toNat : Int) := by omega
     clear hA hB e45 e95 l97 l48 hc8
     go_wp2_with fail
     go_ret
     rw [hf.out]
     exact ⟨rfl, HB.out⟩
    ·have hkli : ¬ (k : Int) < ((strOf nml).size : Int) := by omega
     have HALL := hid_mk (show nml.all nmC = true by
      have := hall.out
      rwa [List.take_of_length_le (by omega)] at this)
     have q0 : (strOf nml).toList.isEmpty = nml.isEmpty := by rw [toList_strOf]
     have q0' : (⟨#[]⟩ : ByteArray).toList = [] := by rw [Lib.toList_data]
     have HE := hid_mk (show nameX nml = !nml.isEmpty by
      unfold nameX
      rw [HALL.out, Bool.and_true]
      cases nml <;> rfl)
     clear hall
     obtain ⟨E, hE⟩ : ∃ E, E = nml.isEmpty := ⟨_, rfl⟩
     rw [← hE] at q0 HE
     cases E with
     | true =>
       have hf := hid_mk (show R = false from HBAD.out (by rw [HAT.out, HE.out]; rfl))
       clear hE
       go_wp2_with fail
       go_ret
       rw [hf.out]
       exact ⟨rfl, HB.out⟩
     | false =>
       have hwo := hid_mk (hwv.out wo)
       rw [show U.sl (strOf l[i].2) = l[i].2 from sl_strOf _, show U.wel0 l[i].2 = dataX l[i].2 from hwx] at hwo
       clear hE
       go_wp2_with fail
       (with_reducible refine hwo.out.mono ?_)
       rintro e w1 ⟨rfl, hb1⟩
       have HB1 := hid_mk (HB.out.trans (hb1.mono HB.out.size))
       have HO := hid_mk hb1
       clear hb1 hwo
       obtain ⟨DX, hDX⟩ : ∃ DX, DX = dataX l[i].2 := ⟨_, rfl⟩
       rw [← hDX] at HAT ⊢
       clear hDX hwx
       cases DX with
       | false =>
         have hf := hid_mk (show R = false from HBAD.out (by rw [HAT.out, Bool.and_false]))
         go_wp2_with fail
         go_ret
         rw [hf.out]
         exact ⟨rfl, HB1.out⟩
       | true =>
         go_wp2_with fail
         go_loopw [6] (fun vj wr => ∃ j : Nat, j ≤ i ∧ vj = .int .i64 (j : Int) ∧ Hid ((l.take j).any (fun a => a.1 == nml) = false ∧ Below wo.heap.size wo wr)) (fun vj _ => i - (intOf vj).toNat)
         case atStart => exact ⟨0, Nat.zero_le _, rfl, hid_mk ⟨rfl, HO.out⟩⟩
         case round =>
          obtain ⟨j, hj, rfl, hJ⟩ := hrel
          by_cases hji : j < i
          ·have hjii : (j : Int) < (i : Int) := by omega
           have hj0 : (0 : Int) ≤ (j : Int) := by omega
           have hjn : (j : Int) < (n : Int) := by omega
           have hjl : j < l.length := by omega
           obtain ⟨x1, hx1, _, e1, _⟩ := (HCL.out.below hJ.out.2).at2 hjl
           obtain ⟨x2, hx2, _, e2, _⟩ := (HCL.out.below hJ.out.2).at2 hil
           injection hx1 with hx1
           injection hx2 with hx2
           subst hx1 hx2
           rw [← HNM.out] at e2
           have hcmp : ((strOf l[j].1).toList == (strOf nml).toList) = (l[j].1 == nml) := by rw [toList_strOf, toList_strOf]
           have HSTEP := hid_mk (show (l.take (j + 1)).any (fun a => a.1 == nml) = (l[j].1 == nml) by
            rw [List.take_add_one, List.any_append, hJ.out.1, List.getElem?_eq_getElem hjl]
            simp)
           obtain ⟨b, hb⟩ : ∃ b, b = (l[j].1 == nml) := ⟨_, rfl⟩
           rw [← hb] at hcmp HSTEP
           clear hb
           generalize strOf l[j].1 = sj at *
           have HW := hid_mk hJ.out.2
           clear hJ
           cases b with
           | true =>
             have hf := hid_mk (show R = false from HBAD.out (by
              have : (l.take i).any (fun a => a.1 == nml) = true := by
               have h1 : l.take (j + 1) <+: l.take i := List.take_prefix_take_left (by omega)
               have h2 := HSTEP.out
               rw [List.any_eq_true] at h2 ⊢
               obtain ⟨y, hy, hz⟩ := h2
               exact ⟨y, h1.subset hy, hz⟩
              rw [HAT.out, this, Bool.not_true, Bool.and_false, Bool.false_and]))
             go_wp2_with fail
             go_quiet (fail)
             have HD := hid_mk (below_drewN HW.out nq)
             go_wp2_with fail
             go_ret
             rw [hf.out]
             exact ⟨rfl, HB.out.trans (HD.out.mono HB.out.size)⟩
           | false =>
             go_wp2_with fail
             go_quiet (fail)
             have HD := hid_mk (below_drewN HW.out nq)
             go_wp2_with fail
             go_roundw
             case rel => exact ⟨j + 1, by omega, by go_num, hid_mk ⟨HSTEP.out, HD.out⟩⟩
             case measure => simp [intOf]; omega
          ·have hjii : ¬ (j : Int) < (i : Int) := by omega
           have HG := hid_mk (HGOOD.out (by
            obtain rfl : j = i := by omega
            rw [HAT.out, HE.out, hJ.out.1]
            rfl))
           have HF := hid_mk (HB.out.trans (hJ.out.2.mono HB.out.size))
           go_wp2_with fail
           go_roundw
           case rel => exact ⟨i + 1, by omega, by go_num, hid_mk ⟨HG.out, HF.out⟩⟩
           case measure => simp [intOf]; omega
  ·have hlti : ¬ (i : Int) < (n : Int) := by omega
   have HF := hid_mk (show R = true by
    rw [HR.out, attrsX_at, ← HN.out]
    obtain rfl : i = n := by omega
    exact hI.out.1)
   go_wp2_with fail
   go_ret
   rw [HF.out]
   exact ⟨rfl, hI.out.2⟩
end Go.Proofs.YtlcijlklbabajaaGreatDoor
