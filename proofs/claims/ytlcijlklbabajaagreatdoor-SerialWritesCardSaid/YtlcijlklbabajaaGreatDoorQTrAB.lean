/-
  The document's ends and wall. Condition: a kind is at most 8.
-/
import Derived.Test.YtlcijlklbabajaaGreatDoorQKRefA
import Derived.Test.YtlcijlklbabajaaGreatDoorQLpRef
import Derived.Deep.QuietTactic
import Derived.BigQuiet
import Derived.Test.YtlcijlklbabajaaGreatDoorQRR45
namespace Go.Proofs.YtlcijlklbabajaaGreatDoor
open Go.RowKit
theorem ends_any (k : Nat) (hk : k ≤ 8) (w : World) :
 Calls Tryz.prog 68 #[.int .u8 (k : Int)] w fun e w' => e = .returned (.bool (endsP k)) ∧ w = w' := by
 have : k = 0 ∨ k = 1 ∨ k = 2 ∨ k = 3 ∨ k = 4 ∨ k = 5 ∨ k = 6 ∨ k = 7 ∨ k = 8 := by omega
 rcases this with rfl | rfl | rfl | rfl | rfl | rfl | rfl | rfl | rfl
 all_goals
  go_enter Tryz.func68, Tryz.ntmps68
  go_wp2_with fail
  go_ret
  exact ⟨rfl, rfl⟩
theorem wall_any (s : ByteArray) (w : World) :
 Calls Tryz.prog 88 #[.string s] w fun e w' => e = .returned (.bool (wallR (sl s))) ∧ w = w' := by
 have hk := hid_mk (fun w => refKind_any s w)
 have hsl : s.toList = sl s := Lib.toList_data s
 have hle := kindL_le (sl s)
 obtain ⟨R, hR⟩ : ∃ R, R = wallR (sl s) := ⟨_, rfl⟩
 rw [← hR]
 unfold wallR at hR
 have q2 : (s.toList == [100, 105, 118]) = (sl s == [100, 105, 118]) := by rw [hsl]
 rw [show (sl s != [100, 105, 118]) = !(sl s == [100, 105, 118]) from rfl] at hR
 clear hsl
 generalize (sl s == [100, 105, 118]) = D at *
 generalize kindL (sl s) = k at *
 have : k = 0 ∨ k = 1 ∨ k = 2 ∨ k = 3 ∨ k = 4 ∨ k = 5 ∨ k = 6 ∨ k = 7 ∨ k = 8 := by omega
 clear hle
 rcases this with rfl | rfl | rfl | rfl | rfl | rfl | rfl | rfl | rfl
 all_goals
  have HR := hid_mk hR
  clear hR
  go_enter Tryz.func88, Tryz.ntmps88
  go_wp2_with fail
  (with_reducible refine (hk.out _).mono ?_)
  rintro e w1 ⟨rfl, rfl⟩
  go_wp2_with fail
  try (with_reducible refine (hk.out _).mono ?_
       rintro e w1 ⟨rfl, rfl⟩
       go_wp2_with fail)
  go_ret
  rw [HR.out]
  first | exact ⟨rfl, rfl⟩ | (refine ⟨?_, rfl⟩; show Ending.returned (.bool (!(s.toList == [100, 105, 118]))) = _; rw [q2]; rfl)
end Go.Proofs.YtlcijlklbabajaaGreatDoor
/-
  The document's nested: may an element stand where it does? Conditions: the nodes' number is bounded; ups lead back.
-/
namespace Go.Proofs.YtlcijlklbabajaaGreatDoor
open Go.RowKit R
set_option maxHeartbeats 8000000 in
set_option maxRecDepth 100000 in
theorem nested_any (x : Addr) (c : Nat) (ns : List NxM) (w : World) (h : HasTree w (some x) ns) (hl : ns.length ≤ 16384) (i : Nat) (hi : i < ns.length) (hi1 : 1 ≤ i) (hups : UpsB (ns.map (·.1)) ns.length) :
 Calls Tryz.prog 52 #[.slice (some x) ns.length c, .int .i64 (i : Int)] w fun e w' => e = .returned (.bool (nestL (kindL (nmOf (ns.map (·.1)) i)) ((pa (ns.map (·.1)) (upAt (ns.map (·.1)) i).toNat).map (nmOf (ns.map (·.1)))) 0 false)) ∧ ∃ m, w' = w.drewN m := by
 obtain ⟨ts, hts⟩ : ∃ ts, ts = ns.map (·.1) := ⟨_, rfl⟩
 have hget : ∀ j (hj : j < ns.length), ts.getD j nxD = (ns[j]).1 := fun j hj => by
  rw [hts, List.getD_eq_getElem?_getD, List.getElem?_map, List.getElem?_eq_getElem hj]; rfl
 rw [← hts] at hups ⊢
 obtain ⟨m, hm⟩ : ∃ m, m = ns.length := ⟨_, rfl⟩
 have hnm : ∀ j (hj : j < ns.length), nmOf ts j = (ns[j]).1.name := fun j hj => by unfold nmOf; rw [hget j hj]
 have hup : ∀ j (hj : j < ns.length), upAt ts j = (ns[j]).1.up := fun j hj => by unfold upAt; rw [hget j hj]
 obtain ⟨u0, hu0, hul⟩ := hups i hi1 hi
 rw [hu0, Int.toNat_natCast]
 obtain ⟨N, hN⟩ : ∃ N, N = nestL (kindL (nmOf ts i)) ((pa ts u0).map (nmOf ts)) 0 false := ⟨_, rfl⟩
 rw [← hN]
 have n1 := (h.six hi).2.1
 have n4 := (h.six hi).2.2.2.2.1
 rw [← hnm i hi] at n1
 rw [← hup i hi, hu0] at n4
 have hkk := hid_mk (fun w => refKind_any (strOf (nmOf ts i)) w)
 simp only [sl_strOf] at hkk
 have hk8 := kindL_le (nmOf ts i)
 generalize kindL (nmOf ts i) = k at *
 generalize strOf (nmOf ts i) = nmi at *
 have hil : (i : Int) < (m : Int) := by omega
 have hi0 : (0 : Int) ≤ (i : Int) := by omega
 have hkind := hid_mk (fun s w => refKind_any s w)
 have hwall := hid_mk (fun s w => wall_any s w)
 have hends := hid_mk (fun w => ends_any k hk8 w)
 have H := hid_mk h
 have HU := hid_mk hups
 have HN := hid_mk hN
 have HNM := hid_mk hnm
 have HUP := hid_mk hup
 have HM := hid_mk hm
 rw [← hm] at hl ⊢
 have hu0l : u0 < m := by omega
 clear h hups hN hnm hup hget hts hm hi hul hu0
 go_enter Tryz.func52, Tryz.ntmps52
 go_wp2_with fail
 (with_reducible refine (hkk.out _).mono ?_)
 rintro e w1 ⟨rfl, rfl⟩
 go_wp2_with fail
 go_loopw [6, 7, 8] (fun vd vf vu wr => ∃ (d u : Nat) (fr : Bool), vd = .int .i64 (d : Int) ∧ vf = .bool fr ∧ vu = .int .i64 (u : Int) ∧ u < m ∧ d ≤ 16384 - u ∧ Hid (N = nestL k ((pa ts u).map (nmOf ts)) d fr ∧ ∃ q, wr = w.drewN q)) (fun _ _ vu _ => (intOf vu).toNat)
 case atStart => exact ⟨0, u0, false, rfl, rfl, rfl, hu0l, by omega, hid_mk ⟨HN.out, 0, rfl⟩⟩
 case round =>
  obtain ⟨d, u, fr, rfl, rfl, rfl, hum, hdu, hI⟩ := hrel
  by_cases hu : 0 < u
  ·have hu' : (0 : Int) < (u : Int) := by omega
   obtain ⟨hN, q, hw⟩ := hI.out
   have hum' : u < ns.length := by have := HM.out; omega
   obtain ⟨v, hv, hvl⟩ := HU.out u hu hum'
   have htree : HasTree wr (some x) ns := by rw [hw]; exact H.out.below (below_drewN (Below.refl _ _) q)
   have m1 := (htree.six hum').2.1
   have m4 := (htree.six hum').2.2.2.2.1
   rw [← HNM.out u hum'] at m1
   rw [← HUP.out u hum', hv] at m4
   have hvm : v < m := by omega
   rw [(pa_cons HU.out hum' hu hv).1, List.map_cons] at hN
   unfold nestL at hN
   have q1 : ((strOf (nmOf ts u)).toList == [112]) = (nmOf ts u == [112]) := by rw [toList_strOf]
   have q2 : ((strOf (nmOf ts u)).toList == [97]) = (nmOf ts u == [97]) := by rw [toList_strOf]
   have q3 : ((strOf (nmOf ts u)).toList == [108, 105]) = (nmOf ts u == [108, 105]) := by rw [toList_strOf]
   have hku := hid_mk (hkind.out (strOf (nmOf ts u)))
   have hwu := hid_mk (hwall.out (strOf (nmOf ts u)))
   rw [sl_strOf] at hku hwu
   unfold nestB at hN
   have f6 : ((k : Int) == 6) = (k == 6) := by rw [Bool.eq_iff_iff, beq_iff_eq, beq_iff_eq]; omega
   have f4 : ((k : Int) == 4) = (k == 4) := by rw [Bool.eq_iff_iff, beq_iff_eq, beq_iff_eq]; omega
   have f3 : ((k : Int) == 3) = (k == 3) := by rw [Bool.eq_iff_iff, beq_iff_eq, beq_iff_eq]; omega
   have hcls : (endsP k = false ∧ (k == 6) = false ∧ (k == 4) = false ∧ (k == 3) = false) ∨ (endsP k = true ∧ (k == 6) = false ∧ (k == 4) = false ∧ (k == 3) = false) ∨ (endsP k = true ∧ (k == 6) = false ∧ (k == 4) = false ∧ (k == 3) = true) ∨ (endsP k = true ∧ (k == 6) = false ∧ (k == 4) = true ∧ (k == 3) = false) ∨ (endsP k = false ∧ (k == 6) = true ∧ (k == 4) = false ∧ (k == 3) = false) := by
    have hkc : k = 0 ∨ k = 1 ∨ k = 2 ∨ k = 3 ∨ k = 4 ∨ k = 5 ∨ k = 6 ∨ k = 7 ∨ k = 8 := by omega
    rcases hkc with rfl | rfl | rfl | rfl | rfl | rfl | rfl | rfl | rfl <;> decide
   have hends2 := hid_mk hends.out
   have fD : ((d : Int) + 1 == 1) = (d == 0) := by rw [Bool.eq_iff_iff, beq_iff_eq, beq_iff_eq]; omega
   generalize wallR (nmOf ts u) = W at *
   generalize kindL (nmOf ts u) = K at *
   have fQ : ((K : Int) == 4) = (K == 4) := by rw [Bool.eq_iff_iff, beq_iff_eq, beq_iff_eq]; omega
   generalize (nmOf ts u == [112]) = P at *
   generalize (nmOf ts u == [97]) = A at *
   generalize (nmOf ts u == [108, 105]) = L at *
   generalize strOf (nmOf ts u) = nm at *
   obtain ⟨rest, hrest⟩ : ∃ r, r = (pa ts v).map (nmOf ts) := ⟨_, rfl⟩
   rw [← hrest] at hN
   have HRE := hid_mk hrest
   clear hrest
   obtain ⟨X, hX⟩ : ∃ X : Bool → Bool, X = fun f => nestL k rest (d + 1) f := ⟨_, rfl⟩
   rw [show nestL k rest (d + 1) (fr || W) = X (fr || W) by rw [hX]] at hN
   have HX := hid_mk hX
   generalize endsP k = E at *
   generalize (k == 6) = G6 at *
   generalize (k == 4) = G4 at *
   generalize (k == 3) = G3 at *
   generalize (d == 0) = D0 at *
   generalize (K == 4) = Q4 at *
   have HW := hid_mk (show ∃ q, wr = w.drewN q from ⟨q, hw⟩)
   have hui : (u : Int) < (m : Int) := by omega
   have hu0' : (0 : Int) ≤ (u : Int) := by omega
   clear hw htree hv hI hX
   rcases hcls with ⟨rfl, rfl, rfl, rfl⟩ | ⟨rfl, rfl, rfl, rfl⟩ | ⟨rfl, rfl, rfl, rfl⟩ | ⟨rfl, rfl, rfl, rfl⟩ | ⟨rfl, rfl, rfl, rfl⟩
   ·cases fr with
    | true =>
      have HR := hid_mk (show N = nestL k rest (d + 1) true from by rw [hN, HX.out]; rfl)
      clear hN
      go_wp2_with fail
      (with_reducible refine (hends2.out _).mono ?_)
      rintro e w2 ⟨rfl, rfl⟩
      go_wp2_with fail
      go_roundw
      case rel => exact ⟨d + 1, v, true, by go_num, by first | rfl | simp, by go_num, hvm, by omega, hid_mk ⟨by rw [← HRE.out]; exact HR.out, HW.out⟩⟩
      case measure => simp [intOf]; omega
    | false =>
      have HR := hid_mk (show N = nestL k rest (d + 1) W from by rw [hN, HX.out]; rfl)
      clear hN
      go_wp2_with fail
      (with_reducible refine (hends2.out _).mono ?_)
      rintro e w2 ⟨rfl, rfl⟩
      go_wp2_with fail
      (with_reducible refine (hwu.out _).mono ?_)
      rintro e w3 ⟨rfl, rfl⟩
      go_wp2_with fail
      go_roundw
      case rel => exact ⟨d + 1, v, W, by go_num, by first | rfl | simp, by go_num, hvm, by omega, hid_mk ⟨by rw [← HRE.out]; exact HR.out, HW.out⟩⟩
      case measure => simp [intOf]; omega
   ·cases P with
    | true =>
      have HR := hid_mk (show N = false from hN)
      clear hN
      go_wp2_with fail
      (with_reducible refine (hends2.out _).mono ?_)
      rintro e w2 ⟨rfl, rfl⟩
      go_wp2_with fail
      go_ret
      rw [HR.out]
      exact ⟨rfl, HW.out⟩
    | false =>
      cases fr with
      | true =>
        have HR := hid_mk (show N = nestL k rest (d + 1) true from by rw [hN, HX.out]; rfl)
        clear hN
        go_wp2_with fail
        (with_reducible refine (hends2.out _).mono ?_)
        rintro e w2 ⟨rfl, rfl⟩
        go_wp2_with fail
        go_roundw
        case rel => exact ⟨d + 1, v, true, by go_num, by first | rfl | simp, by go_num, hvm, by omega, hid_mk ⟨by rw [← HRE.out]; exact HR.out, HW.out⟩⟩
        case measure => simp [intOf]; omega
      | false =>
        have HR := hid_mk (show N = nestL k rest (d + 1) W from by rw [hN, HX.out]; rfl)
        clear hN
        go_wp2_with fail
        (with_reducible refine (hends2.out _).mono ?_)
        rintro e w2 ⟨rfl, rfl⟩
        go_wp2_with fail
        (with_reducible refine (hwu.out _).mono ?_)
        rintro e w3 ⟨rfl, rfl⟩
        go_wp2_with fail
        go_roundw
        case rel => exact ⟨d + 1, v, W, by go_num, by first | rfl | simp, by go_num, hvm, by omega, hid_mk ⟨by rw [← HRE.out]; exact HR.out, HW.out⟩⟩
        case measure => simp [intOf]; omega
   ·cases P with
    | true =>
      have HR := hid_mk (show N = false from hN)
      clear hN
      go_wp2_with fail
      (with_reducible refine (hends2.out _).mono ?_)
      rintro e w2 ⟨rfl, rfl⟩
      go_wp2_with fail
      go_ret
      rw [HR.out]
      exact ⟨rfl, HW.out⟩
    | false =>
      cases L with
      | true =>
        cases fr with
        | true =>
          have HR := hid_mk (show N = nestL k rest (d + 1) true from by rw [hN, HX.out]; rfl)
          clear hN
          go_wp2_with fail
          (with_reducible refine (hends2.out _).mono ?_)
          rintro e w2 ⟨rfl, rfl⟩
          go_wp2_with fail
          go_roundw
          case rel => exact ⟨d + 1, v, true, by go_num, by first | rfl | simp, by go_num, hvm, by omega, hid_mk ⟨by rw [← HRE.out]; exact HR.out, HW.out⟩⟩
          case measure => simp [intOf]; omega
        | false =>
          have HR := hid_mk (show N = false from hN)
          clear hN
          go_wp2_with fail
          (with_reducible refine (hends2.out _).mono ?_)
          rintro e w2 ⟨rfl, rfl⟩
          go_wp2_with fail
          go_ret
          rw [HR.out]
          exact ⟨rfl, HW.out⟩
      | false =>
        cases fr with
        | true =>
          have HR := hid_mk (show N = nestL k rest (d + 1) true from by rw [hN, HX.out]; rfl)
          clear hN
          go_wp2_with fail
          (with_reducible refine (hends2.out _).mono ?_)
          rintro e w2 ⟨rfl, rfl⟩
          go_wp2_with fail
          go_roundw
          case rel => exact ⟨d + 1, v, true, by go_num, by first | rfl | simp, by go_num, hvm, by omega, hid_mk ⟨by rw [← HRE.out]; exact HR.out, HW.out⟩⟩
          case measure => simp [intOf]; omega
        | false =>
          have HR := hid_mk (show N = nestL k rest (d + 1) W from by rw [hN, HX.out]; rfl)
          clear hN
          go_wp2_with fail
          (with_reducible refine (hends2.out _).mono ?_)
          rintro e w2 ⟨rfl, rfl⟩
          go_wp2_with fail
          (with_reducible refine (hwu.out _).mono ?_)
          rintro e w3 ⟨rfl, rfl⟩
          go_wp2_with fail
          go_roundw
          case rel => exact ⟨d + 1, v, W, by go_num, by first | rfl | simp, by go_num, hvm, by omega, hid_mk ⟨by rw [← HRE.out]; exact HR.out, HW.out⟩⟩
          case measure => simp [intOf]; omega
   ·cases P with
    | true =>
      have HR := hid_mk (show N = false from hN)
      clear hN
      go_wp2_with fail
      (with_reducible refine (hends2.out _).mono ?_)
      rintro e w2 ⟨rfl, rfl⟩
      go_wp2_with fail
      go_ret
      rw [HR.out]
      exact ⟨rfl, HW.out⟩
    | false =>
      cases D0 with
      | true =>
        cases Q4 with
        | true =>
          have HR := hid_mk (show N = false from hN)
          clear hN
          go_wp2_with fail
          (with_reducible refine (hends2.out _).mono ?_)
          rintro e w2 ⟨rfl, rfl⟩
          go_wp2_with fail
          (with_reducible refine (hku.out _).mono ?_)
          rintro e w2 ⟨rfl, rfl⟩
          go_wp2_with fail
          go_ret
          rw [HR.out]
          exact ⟨rfl, HW.out⟩
        | false =>
          cases fr with
          | true =>
            have HR := hid_mk (show N = nestL k rest (d + 1) true from by rw [hN, HX.out]; rfl)
            clear hN
            go_wp2_with fail
            (with_reducible refine (hends2.out _).mono ?_)
            rintro e w2 ⟨rfl, rfl⟩
            go_wp2_with fail
            (with_reducible refine (hku.out _).mono ?_)
            rintro e w2 ⟨rfl, rfl⟩
            go_wp2_with fail
            go_roundw
            case rel => exact ⟨d + 1, v, true, by go_num, by first | rfl | simp, by go_num, hvm, by omega, hid_mk ⟨by rw [← HRE.out]; exact HR.out, HW.out⟩⟩
            case measure => simp [intOf]; omega
          | false =>
            have HR := hid_mk (show N = nestL k rest (d + 1) W from by rw [hN, HX.out]; rfl)
            clear hN
            go_wp2_with fail
            (with_reducible refine (hends2.out _).mono ?_)
            rintro e w2 ⟨rfl, rfl⟩
            go_wp2_with fail
            (with_reducible refine (hku.out _).mono ?_)
            rintro e w2 ⟨rfl, rfl⟩
            go_wp2_with fail
            (with_reducible refine (hwu.out _).mono ?_)
            rintro e w3 ⟨rfl, rfl⟩
            go_wp2_with fail
            go_roundw
            case rel => exact ⟨d + 1, v, W, by go_num, by first | rfl | simp, by go_num, hvm, by omega, hid_mk ⟨by rw [← HRE.out]; exact HR.out, HW.out⟩⟩
            case measure => simp [intOf]; omega
      | false =>
        cases fr with
        | true =>
          have HR := hid_mk (show N = nestL k rest (d + 1) true from by rw [hN, HX.out]; rfl)
          clear hN
          go_wp2_with fail
          (with_reducible refine (hends2.out _).mono ?_)
          rintro e w2 ⟨rfl, rfl⟩
          go_wp2_with fail
          go_roundw
          case rel => exact ⟨d + 1, v, true, by go_num, by first | rfl | simp, by go_num, hvm, by omega, hid_mk ⟨by rw [← HRE.out]; exact HR.out, HW.out⟩⟩
          case measure => simp [intOf]; omega
        | false =>
          have HR := hid_mk (show N = nestL k rest (d + 1) W from by rw [hN, HX.out]; rfl)
          clear hN
          go_wp2_with fail
          (with_reducible refine (hends2.out _).mono ?_)
          rintro e w2 ⟨rfl, rfl⟩
          go_wp2_with fail
          (with_reducible refine (hwu.out _).mono ?_)
          rintro e w3 ⟨rfl, rfl⟩
          go_wp2_with fail
          go_roundw
          case rel => exact ⟨d + 1, v, W, by go_num, by first | rfl | simp, by go_num, hvm, by omega, hid_mk ⟨by rw [← HRE.out]; exact HR.out, HW.out⟩⟩
          case measure => simp [intOf]; omega
   ·cases A with
    | true =>
      have HR := hid_mk (show N = false from hN)
      clear hN
      go_wp2_with fail
      (with_reducible refine (hends2.out _).mono ?_)
      rintro e w2 ⟨rfl, rfl⟩
      go_wp2_with fail
      go_ret
      rw [HR.out]
      exact ⟨rfl, HW.out⟩
    | false =>
      cases fr with
      | true =>
        have HR := hid_mk (show N = nestL k rest (d + 1) true from by rw [hN, HX.out]; rfl)
        clear hN
        go_wp2_with fail
        (with_reducible refine (hends2.out _).mono ?_)
        rintro e w2 ⟨rfl, rfl⟩
        go_wp2_with fail
        go_roundw
        case rel => exact ⟨d + 1, v, true, by go_num, by first | rfl | simp, by go_num, hvm, by omega, hid_mk ⟨by rw [← HRE.out]; exact HR.out, HW.out⟩⟩
        case measure => simp [intOf]; omega
      | false =>
        have HR := hid_mk (show N = nestL k rest (d + 1) W from by rw [hN, HX.out]; rfl)
        clear hN
        go_wp2_with fail
        (with_reducible refine (hends2.out _).mono ?_)
        rintro e w2 ⟨rfl, rfl⟩
        go_wp2_with fail
        (with_reducible refine (hwu.out _).mono ?_)
        rintro e w3 ⟨rfl, rfl⟩
        go_wp2_with fail
        go_roundw
        case rel => exact ⟨d + 1, v, W, by go_num, by first | rfl | simp, by go_num, hvm, by omega, hid_mk ⟨by rw [← HRE.out]; exact HR.out, HW.out⟩⟩
        case measure => simp [intOf]; omega
  ·have hu' : ¬ (0 : Int) < (u : Int) := by omega
   have hR := hI.out.1
   obtain rfl : u = 0 := by omega
   rw [pa_zero] at hR
   have hR2 : N = decide (d < 200) := hR
   have HR := hid_mk hR2
   clear hR hR2
   go_wp2_with fail
   go_ret
   rw [HR.out]
   exact ⟨ret_bool (by simp; omega), hI.out.2⟩
end Go.Proofs.YtlcijlklbabajaaGreatDoor
