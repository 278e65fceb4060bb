/-
  Package serial's references: what inText and inValue tell of a character. No condition.
-/
import Derived.Test.YtlcijlklbabajaaGreatDoorQSPbp
import Derived.Below
import Derived.Test.YtlcijlklbabajaaGreatDoorQWrUs
import Derived.Lib.Strings
namespace Go.Proofs.YtlcijlklbabajaaGreatDoor.R
open Go.RowKit
set_option maxHeartbeats 1000000 in
theorem everywhere_any (r : Nat) (w : World) :
 Calls Tryz.prog 99 #[.int .i32 (r : Int)] w fun e w' => e = .returned (.string (strOf (everyL r))) ∧ w' = w := by
 obtain ⟨R, hR⟩ : ∃ R, R = strOf (everyL r) := ⟨_, rfl⟩
 rw [← hR]
 have HR := hid_mk hR
 clear hR
 have q1 : ((r : Int) == 38) = (r == 38) := by rw [Bool.eq_iff_iff]; simp; omega
 have q2 : ((r : Int) == 160) = (r == 160) := by rw [Bool.eq_iff_iff]; simp; omega
 have q3 : ((r : Int) == 13) = (r == 13) := by rw [Bool.eq_iff_iff]; simp; omega
 by_cases h1 : r = 38
 ·have q1 : ((r : Int) == 38) = true := by rw [h1]; rfl
  go_enter Tryz.func99, Tryz.ntmps99
  go_wp2_with fail
  go_ret
  rw [HR.out, h1]
  exact ⟨rfl, rfl⟩
 have q1 : ((r : Int) == 38) = false := beq_false_of_ne (by omega)
 by_cases h2 : r = 160
 ·have q2 : ((r : Int) == 160) = true := by rw [h2]; rfl
  go_enter Tryz.func99, Tryz.ntmps99
  go_wp2_with fail
  go_ret
  rw [HR.out, h2]
  exact ⟨rfl, rfl⟩
 have q2 : ((r : Int) == 160) = false := beq_false_of_ne (by omega)
 by_cases h3 : r = 13
 ·have q3 : ((r : Int) == 13) = true := by rw [h3]; rfl
  go_enter Tryz.func99, Tryz.ntmps99
  go_wp2_with fail
  go_ret
  rw [HR.out, h3]
  exact ⟨rfl, rfl⟩
 have q3 : ((r : Int) == 13) = false := beq_false_of_ne (by omega)
 have HF := hid_mk (show everyL r = [] by unfold everyL; rw [if_neg h1, if_neg h2, if_neg h3])
 clear h1 h2 h3
 go_enter Tryz.func99, Tryz.ntmps99
 go_wp2_with fail
 go_ret
 rw [HR.out, HF.out]
 exact ⟨rfl, rfl⟩
set_option maxHeartbeats 1000000 in
theorem inText_any (r : Nat) (w : World) :
 Calls Tryz.prog 59 #[.int .i32 (r : Int)] w fun e w' => e = .returned (.string (strOf (refL false r))) ∧ w' = w := by
 obtain ⟨R, hR⟩ : ∃ R, R = strOf (refL false r) := ⟨_, rfl⟩
 rw [← hR]
 have HR := hid_mk hR
 clear hR
 by_cases h1 : r = 60
 ·have q1 : ((r : Int) == 60) = true := by rw [h1]; rfl
  go_enter Tryz.func59, Tryz.ntmps59
  go_wp2_with fail
  go_ret
  rw [HR.out, h1]
  exact ⟨rfl, rfl⟩
 have q1 : ((r : Int) == 60) = false := beq_false_of_ne (by omega)
 by_cases h2 : r = 62
 ·have q2 : ((r : Int) == 62) = true := by rw [h2]; rfl
  go_enter Tryz.func59, Tryz.ntmps59
  go_wp2_with fail
  go_ret
  rw [HR.out, h2]
  exact ⟨rfl, rfl⟩
 have q2 : ((r : Int) == 62) = false := beq_false_of_ne (by omega)
 have HF := hid_mk (show refL false r = everyL r by unfold refL; rw [if_neg (by simp), if_neg h1, if_neg h2])
 have he := hid_mk (everywhere_any r w)
 clear h1 h2
 go_enter Tryz.func59, Tryz.ntmps59
 go_wp2_with fail
 with_reducible refine he.out.mono ?_
 rintro e w1 ⟨rfl, rfl⟩
 go_wp2_with fail
 go_ret
 rw [HR.out, HF.out]
 exact ⟨rfl, rfl⟩
set_option maxHeartbeats 1000000 in
theorem inValue_any (r : Nat) (w : World) :
 Calls Tryz.prog 60 #[.int .i32 (r : Int)] w fun e w' => e = .returned (.string (strOf (refL true r))) ∧ w' = w := by
 obtain ⟨R, hR⟩ : ∃ R, R = strOf (refL true r) := ⟨_, rfl⟩
 rw [← hR]
 have HR := hid_mk hR
 clear hR
 by_cases h1 : r = 34
 ·have q1 : ((r : Int) == 34) = true := by rw [h1]; rfl
  go_enter Tryz.func60, Tryz.ntmps60
  go_wp2_with fail
  go_ret
  rw [HR.out, h1]
  exact ⟨rfl, rfl⟩
 have q1 : ((r : Int) == 34) = false := beq_false_of_ne (by omega)
 have HF := hid_mk (show refL true r = everyL r by unfold refL; rw [if_pos rfl, if_neg h1])
 have he := hid_mk (everywhere_any r w)
 clear h1
 go_enter Tryz.func60, Tryz.ntmps60
 go_wp2_with fail
 with_reducible refine he.out.mono ?_
 rintro e w1 ⟨rfl, rfl⟩
 go_wp2_with fail
 go_ret
 rw [HR.out, HF.out]
 exact ⟨rfl, rfl⟩
end Go.Proofs.YtlcijlklbabajaaGreatDoor.R
namespace Go.Proofs.YtlcijlklbabajaaGreatDoor.R
open Go.RowKit
theorem decode_sl (s : ByteArray) (i : Nat) : Utf8.decode s i = U.decL ((sl s).drop i) := U.decode_list s i
set_option maxHeartbeats 4000000 in
set_option maxRecDepth 100000 in
theorem escape_any (v : Bool) (f : Nat) (s : ByteArray) (hs : s.size ≤ 1000000000000) (w : World)
 (hent : ∀ args w, (callFunc f args).run Tryz.prog w = .ok (.enter f args) w)
 (hcall : ∀ (r : Nat) w, Calls Tryz.prog f #[.int .i32 (r : Int)] w fun e w' => e = .returned (.string (strOf (refL v r))) ∧ w' = w) :
 Calls Tryz.prog 58 #[.string s, .func (.func f) #[] #[]] w fun e w' => e = .returned (.string (strOf (escL v (sl s)))) ∧ Below w.heap.size w w' := by
 obtain ⟨wb, hwb⟩ : ∃ wb, wb = w.alloc (.cells #[.pointer none, .slice none 0 0] 78) := ⟨_, rfl⟩
 have hI := hid_mk (show Lib.IsBuilderF 78 5 w.heap.size w.heap.size (Lib.byteCells []) wb ∧ Below w.heap.size w wb from by
  rw [hwb]; exact ⟨builder_new w (0, 0) rfl, (Below.refl _ _).alloc (Nat.le_refl _) _⟩)
 have H1 := hid_mk hcall
 clear hcall
 have HWB := hid_mk hwb.symm
 obtain ⟨D, hD⟩ : ∃ D, D = escL v (sl s) := ⟨_, rfl⟩
 rw [← hD]
 have HD := hid_mk hD
 clear hD hwb
 go_enter Tryz.func58, Tryz.ntmps58
 go_wp2_with fail
 rw [HWB.out]
 have hsz : wb.heap.size = w.heap.size + 1 := by rw [← HWB.out]; exact Array.size_push _
 go_loopw [6] (fun vd wr => ∃ (pos d : Nat) (out : List UInt8), vd = .int .i64 d ∧ Hid (wr.heap[w.heap.size + 1]? = some (.stringIter s pos)) ∧ Hid (EscAt v (sl s) out d pos) ∧ Hid (out.length ≤ 6 * d) ∧ d ≤ pos ∧ pos ≤ s.size ∧ Hid (Lib.IsBuilderF 78 5 w.heap.size w.heap.size (Lib.byteCells out) wr ∧ Below w.heap.size w wr)) (fun _ wr => s.size - wr.iterPos (w.heap.size + 1))
 case atStart => exact ⟨0, 0, [], rfl, hid_mk (by rw [← hsz]; exact World.iter_heap wb s 0), hid_mk (EscAt.start v _), hid_mk (Nat.zero_le _), Nat.le_refl _, Nat.zero_le _, hid_mk ⟨builder_below hI.out.1 ((Below.refl _ _).alloc (Nat.le_refl _) _), hI.out.2.alloc hI.out.2.size _⟩⟩
 case round =>
  obtain ⟨pos, d, out, rfl, HIT, HE, HL, hdp, hps, HB⟩ := hrel
  by_cases hp : pos < s.size
  ·have hnx : ∀ ty, (Instr.next (.pointer (some ⟨w.heap.size + 1, 0, none⟩)) true ty).run Tryz.prog wr = _ := fun ty => Lib.run_next_any_at wr (w.heap.size + 1) s pos ty HIT.out hp
   simp only [decode_sl] at hnx
   have hl : pos < (sl s).length := by rw [len_sl]; exact hp
   have hl2 : 0 < ((sl s).drop pos).length := by rw [List.length_drop]; omega
   obtain ⟨d1, d2, d3⟩ := decL_pos _ hl2
   rw [List.length_drop, len_sl] at d2
   have HR := hid_mk (And.intro (HE.out.plain hl) (HE.out.turn hl))
   have HRL := hid_mk (@ref_len v _ hl2)
   generalize (U.decL ((sl s).drop pos)).1 = r at *
   generalize (U.decL ((sl s).drop pos)).2 = n at *
   obtain ⟨wi, hwi⟩ : ∃ wi, wi = wr.iterAt (w.heap.size + 1) s (pos + n) := ⟨_, rfl⟩
   have HIT2 := hid_mk (Lib.iterAt_heap wr (w.heap.size + 1) s pos (pos + n) HIT.out)
   have HB2 := hid_mk (And.intro (HB.out.1.iterAt HIT.out (pos + n)) (Lib.below_iterAt HB.out.2 (Nat.le_succ _) s (pos + n)))
   rw [← hwi] at hnx HIT2 HB2
   clear hwi HB
   go_wp2_with fail
   with_reducible refine (H1.out r _).mono ?_
   rintro e1 w1 ⟨rfl, rfl⟩
   by_cases hr : refL v r = []
   ·have HE2 := hid_mk (HR.out.1 hr)
    have he : (strOf (refL v r)).toList.isEmpty = true := by rw [hr, Lib.toList_data]; rfl
    have HLL := hid_mk (show d ≤ pos + n by omega)
    clear hr HR HRL
    go_wp2_with fail
    go_roundw
    case rel => exact ⟨pos + n, d, out, rfl, HIT2, HE2, HL, HLL.out, by omega, HB2⟩
    case measure =>
     simp only [World.iterPos, HIT2.out, HIT.out]
     omega
   ·have HE2 := hid_mk (HR.out.2 hr)
    have he : (strOf (refL v r)).toList.isEmpty = false := by
     rw [Lib.toList_data, show (strOf (refL v r)).data.toList = refL v r from sl_strOf _]
     cases hx : refL v r with
     | nil => exact absurd hx hr
     | cons => rfl
    have hrl := HRL.out hr
    have h6 := refL_len v r
    have hsl : sl (s.extract d pos) = ((sl s).drop d).take (pos - d) := by
     have := sl_cut s d (pos - d)
     rwa [show d + (pos - d) = pos by omega] at this
    rw [← hsl] at HE2
    have hsz2 : (s.extract d pos).size = pos - d := by
     rw [← len_sl, hsl, List.length_take, List.length_drop, len_sl]; omega
    obtain ⟨y, hy⟩ : ∃ y, y = s.extract d pos := ⟨_, rfl⟩
    rw [← hy] at HE2 hsz2
    have HY := hid_mk hy.symm
    have hdpi : (d : Int) ≤ (pos : Int) := by omega
    have hpsi : (pos : Int) ≤ (s.size : Int) := by omega
    have hd0 : (0 : Int) ≤ (d : Int) := by omega
    have HWS := hid_mk (writeBytes_any w.heap.size w.heap.size out y w1 HB2.out.1 (by rw [hsz2]; have := HL.out; omega) HB2.out.2.size)
    have HWT := hid_mk (fun w' h1 h2 => writeString_any w.heap.size w.heap.size (out ++ sl y) (refL v r) w' h1 (by rw [List.length_append, len_sl, hsz2]; have := HL.out; omega) h2)
    have HL2 := hid_mk (show (out ++ sl y ++ refL v r).length ≤ 6 * (pos + n) by
     rw [List.length_append, List.length_append, len_sl, hsz2]; have := HL.out; omega)
    generalize refL v r = rl at *
    clear hr HR HRL hsl hy hsz2 h6 HL
    go_wp2_with fail
    rw [HY.out]
    with_reducible refine HWS.out.mono ?_
    rintro e2 w2 ⟨rfl, hB3, hb3, ho3⟩
    have HIT3 := hid_mk (ho3.iter HIT2.out (Nat.succ_ne_self _))
    have HB3 := hid_mk (And.intro hB3 (HB2.out.2.trans hb3))
    clear hB3 hb3 ho3
    go_wp2_with fail
    with_reducible refine (HWT.out _ HB3.out.1 HB3.out.2.size).mono ?_
    rintro e3 w3 ⟨rfl, hB4, hb4, ho4⟩
    have HIT4 := hid_mk (ho4.iter HIT3.out (Nat.succ_ne_self _))
    have HB4 := hid_mk (And.intro hB4 (HB3.out.2.trans hb4))
    clear hB4 hb4 ho4
    go_wp2_with fail
    with_reducible refine (Tryz.utf8_RuneLen (r : Int) w3).mono ?_
    rintro e4 w4 ⟨rfl, hw4⟩
    subst hw4
    rw [hrl]
    go_wp2_with fail
    go_roundw
    case rel => exact ⟨pos + n, pos + n, out ++ sl y ++ rl, by go_num, HIT4, HE2, HL2, Nat.le_refl _, by omega, HB4⟩
    case measure =>
     simp only [World.iterPos, HIT4.out, HIT.out]
     omega
  ·have hnx : ∀ ty, (Instr.next (.pointer (some ⟨w.heap.size + 1, 0, none⟩)) true ty).run Tryz.prog wr = _ := fun ty => Lib.run_next_end_at wr (w.heap.size + 1) s pos ty HIT.out hp
   have HF := hid_mk (HE.out.done (by rw [len_sl]; exact hp))
   have hdpi : (d : Int) ≤ (s.size : Int) := by omega
   have hd0 : (0 : Int) ≤ (d : Int) := by omega
   have hsl : sl (s.extract d s.size) = (sl s).drop d := sl_extract s d
   have hsz2 : (s.extract d s.size).size = s.size - d := size_extract s d
   rw [← hsl] at HF
   obtain ⟨y, hy⟩ : ∃ y, y = s.extract d s.size := ⟨_, rfl⟩
   rw [← hy] at HF hsz2
   have HY := hid_mk hy.symm
   have HWS := hid_mk (writeBytes_any w.heap.size w.heap.size out y wr HB.out.1 (by rw [hsz2]; have := HL.out; omega) HB.out.2.size)
   clear hsl hy hsz2 HL
   go_wp2_with fail
   rw [HY.out]
   with_reducible refine HWS.out.mono ?_
   rintro e2 w2 ⟨rfl, hB3, hb3, _⟩
   have HB3 := hid_mk (And.intro hB3 (HB.out.2.trans hb3))
   clear hB3 hb3
   go_wp2_with fail
   with_reducible refine (Tryz.Builder_String_any_f w.heap.size w.heap.size _ w2 HB3.out.1 HB3.out.2.size).mono ?_
   rintro e3 w3 ⟨rfl, _, hb4⟩
   have HB4 := hid_mk (HB3.out.2.trans hb4)
   clear hb4
   go_wp2_with fail
   go_ret
   rw [HD.out, HF.out]
   exact ⟨rfl, HB4.out⟩
set_option maxHeartbeats 1000000 in
theorem escapeText_any (s : ByteArray) (hs : s.size ≤ 1000000000000) (w : World) :
 Calls Tryz.prog 32 #[.string s] w fun e w' => e = .returned (.string (strOf (escL false (sl s)))) ∧ Below w.heap.size w w' := by
 have he := hid_mk (escape_any false 59 s hs w (fun args w' => by kernel_rfl) inText_any)
 generalize strOf (escL false (sl s)) = R at *
 go_enter Tryz.func32, Tryz.ntmps32
 go_wp2_with fail
 with_reducible refine he.out.mono ?_
 rintro e w1 ⟨rfl, hb⟩
 go_wp2_with fail
 go_ret
 exact ⟨rfl, hb⟩
set_option maxHeartbeats 1000000 in
theorem escapeValue_any (s : ByteArray) (hs : s.size ≤ 1000000000000) (w : World) :
 Calls Tryz.prog 33 #[.string s] w fun e w' => e = .returned (.string (strOf (escL true (sl s)))) ∧ Below w.heap.size w w' := by
 have he := hid_mk (escape_any true 60 s hs w (fun args w' => by kernel_rfl) inValue_any)
 generalize strOf (escL true (sl s)) = R at *
 go_enter Tryz.func33, Tryz.ntmps33
 go_wp2_with fail
 with_reducible refine he.out.mono ?_
 rintro e w1 ⟨rfl, hb⟩
 go_wp2_with fail
 go_ret
 exact ⟨rfl, hb⟩
end Go.Proofs.YtlcijlklbabajaaGreatDoor.R
