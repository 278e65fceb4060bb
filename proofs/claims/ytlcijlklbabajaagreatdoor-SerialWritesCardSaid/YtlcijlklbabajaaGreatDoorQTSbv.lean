/-
  Package token's small functions: letter, digit, leavesText, skip, skipBlanks, upTo. Conditions: the texts' lengths are bounded; the world holds what Tab says.
-/
import Derived.Test.YtlcijlklbabajaaGreatDoorQRdAny
import Derived.Test.YtlcijlklbabajaaGreatDoorQTBPl
import Derived.Shelf.Strings.SlTrimAscii
import Derived.Lib.AtoiErrMem
namespace Go.Proofs.YtlcijlklbabajaaGreatDoor
open Go.RowKit
theorem ret_bool {a b : Bool} (h : a = b) : Ending.returned (.bool a) = .returned (.bool b) := by rw [h]
theorem byte_back (c : UInt8) : ((c.toNat : Int)).toNat.toUInt8 = c := by simp
set_option maxHeartbeats 1000000 in
theorem letter_any (c : UInt8) (w : World) :
 Calls Tryz.prog 113 #[.int .u8 (c.toNat : Int)] w fun e w' => e = .returned (.bool (isLet c)) ∧ w = w' := by
 go_enter Tryz.func113, Tryz.ntmps113
 go_wp2
 all_goals
  go_ret
  refine ⟨ret_bool ?_, rfl⟩
  rw [Bool.eq_iff_iff]
  unfold isLet
  simp
  omega
set_option maxHeartbeats 1000000 in
theorem dig_any (c : UInt8) (w : World) :
 Calls Tryz.prog 191 #[.int .u8 (c.toNat : Int)] w fun e w' => e = .returned (.bool (isDig c)) ∧ w = w' := by
 go_enter Tryz.func191, Tryz.ntmps191
 go_wp2
 all_goals
  go_ret
  refine ⟨ret_bool ?_, rfl⟩
  rw [Bool.eq_iff_iff]
  unfold isDig
  simp <;> omega
theorem getD_sl (s : ByteArray) (k : Nat) (h : k < s.size) : (sl s).getD k 0 = s[k]'h := by
 have := Lib.data_getElem? s k h
 rw [List.getD_eq_getElem?_getD]
 show (s.data.toList[k]?).getD 0 = _
 rw [this]
 rfl
theorem indexByte_iff (l : List UInt8) (c : UInt8) : l.contains c = decide (0 ≤ Lib.indexByte l c) := Lib.contains_iff_indexByte l c
set_option maxHeartbeats 1000000 in
theorem leaves_any (s : ByteArray) (w : World) :
 Calls Tryz.prog 111 #[.string s] w fun e w' => e = .returned (.bool (leavesL (sl s))) ∧ w = w' := by
 by_cases h1 : 1 < s.size
 ·have h0 : 0 < s.size := by omega
  have h1' : (1 : Int) < (s.size : Int) := by omega
  have h0' : (0 : Int) < (s.size : Int) := by omega
  have HL := hid_mk (show leavesL (sl s) = (s[0].toNat == 60 && (isLet s[1] || decide ((0 : Int) ≤ Lib.indexByte [47, 33, 63] s[1]))) by
   unfold leavesL
   rw [len_sl, getD_sl s 1 h1, ← byte_atL s 0 h0, decide_eq_true (show 2 ≤ s.size from h1), Bool.true_and, indexByte_iff])
  go_enter Tryz.func111, Tryz.ntmps111
  go_wp2_with (first
   | (go_at_call 113; refine (letter_any _ _).mono ?_; rintro e w' ⟨rfl, rfl⟩)
   | (go_at_call 77; refine (Tryz.strings_IndexByte _ _ _).mono ?_; rintro e w' ⟨rfl, rfl⟩; rw [byte_back, show (⟨#[47, 33, 63]⟩ : ByteArray).data.toList = [47, 33, 63] from rfl]))
  all_goals
   go_ret
   refine ⟨ret_bool ?_, rfl⟩
   rw [HL.out]
   clear HL
   simp_all
   try (intros; omega)
 ·have HL := hid_mk (show leavesL (sl s) = false by
   unfold leavesL
   rw [len_sl, decide_eq_false (by omega)]
   rfl)
  have h1' : ¬ (1 : Int) < (s.size : Int) := by omega
  go_enter Tryz.func111, Tryz.ntmps111
  go_wp2
  go_ret
  rw [HL.out]
  exact ⟨rfl, rfl⟩
theorem lit_sl (l : List UInt8) : (⟨l.toArray⟩ : ByteArray) = strOf l := rfl
set_option maxHeartbeats 1000000 in
/-- skip reads what is told, if it stands there. -/
theorem skip_any (b : Nat) (x p : ByteArray) (w : World) (hT : Tab w) (hR : Rd b x w) :
 Calls Tryz.prog 145 #[.pointer (some ⟨b, 0, none⟩), .string p] w fun e w' => e = .returned (.bool (Lib.hasPrefix (sl x) (sl p))) ∧ Rd b (strOf (Lib.trimPrefix (sl x) (sl p))) w' ∧ Upd b w w' := by
 have hc := hR.cell
 have hf := hR.frozen
 have HP := hid_mk (And.intro (hR.set (strOf (Lib.trimPrefix (sl x) (sl p)))) (Upd.set hR hT (.string (strOf (Lib.trimPrefix (sl x) (sl p))))))
 clear hR hT
 go_enter Tryz.func145, Tryz.ntmps145
 go_wp2_with fail
 refine (Tryz.strings_CutPrefix x p w).mono ?_
 rintro e w1 ⟨rfl, hw⟩
 have hw := hw.symm
 subst hw
 rw [lit_sl]
 go_wp2_with fail
 go_ret
 exact ⟨rfl, HP.out⟩
theorem trimLeft_any (s : ByteArray) (w : World) :
 Calls Tryz.prog 192 #[.string s, .string ⟨#[9, 10, 12, 32]⟩] w fun e w' => e = .returned (.string (strOf (skB (sl s)))) ∧ Below w.heap.size w w' :=
 Any.strings_TrimLeft_laid Tryz.lays161 (by kernel_rfl) s ⟨#[9, 10, 12, 32]⟩ w (by decide) (by
  intro j b h
  have hm : b ∈ ([9, 10, 12, 32] : List UInt8) := List.mem_iff_getElem?.2 ⟨j, h⟩
  have : ∀ c ∈ ([9, 10, 12, 32] : List UInt8), c.toNat < 128 := by decide
  exact this b hm)
set_option maxHeartbeats 1000000 in
theorem skipBlanks_any (b : Nat) (x : ByteArray) (w : World) (hT : Tab w) (hR : Rd b x w) :
 Calls Tryz.prog 168 #[.pointer (some ⟨b, 0, none⟩)] w fun e w' => e = .returned (.tuple #[]) ∧ Rd b (strOf (skB (sl x))) w' ∧ Upd b w w' := by
 have hc := hR.cell
 have HR := hid_mk (And.intro hR hT)
 clear hR hT
 go_enter Tryz.func168, Tryz.ntmps168
 go_wp2_with fail
 refine (trimLeft_any x w).mono ?_
 rintro e w1 ⟨rfl, hb⟩
 have hR1 := HR.out.1.next hb
 have hT1 := HR.out.2.below hb
 have hc1 := hR1.cell
 have hf1 := hR1.frozen
 have HP := hid_mk (And.intro (hR1.set (strOf (skB (sl x)))) ((Upd.of HR.out.2 hb).trans (Upd.set hR1 hT1 (.string (strOf (skB (sl x)))))))
 clear hR1 hT1 hb
 go_wp2_with fail
 go_end0
 exact ⟨rfl, HP.out⟩
theorem ascii_of {l : List UInt8} (h : ∀ c ∈ l, c.toNat < 128) : ∀ (j : Nat) b, (strOf l).data.toList[j]? = some b → b.toNat < 128 := by
 intro j b hb
 have e : (strOf l).data.toList = l := sl_strOf l
 rw [e] at hb
 exact h b (List.mem_iff_getElem?.2 ⟨j, hb⟩)
set_option maxHeartbeats 1000000 in
/-- upTo reads the bytes up to the first one of stops. -/
theorem upTo_any (b : Nat) (x : ByteArray) (st : List UInt8) (w : World) (hT : Tab w) (hR : Rd b x w) (hx : x.size ≤ 1000000000) (hst : ∀ c ∈ st, c.toNat < 128) (hsl : st.length ≤ 1000) :
 Calls Tryz.prog 166 #[.pointer (some ⟨b, 0, none⟩), .string (strOf st)] w fun e w' => e = .returned (.string (strOf (upL (sl x) st))) ∧ Rd b (strOf (downL (sl x) st)) w' ∧ Upd b w w' := by
 have hc := hR.cell
 have HI := hid_mk (indexAny_any x (strOf st) w hx (by rw [size_strOf]; exact hsl) (ascii_of hst))
 have HR := hid_mk (And.intro hR hT)
 have hu := up_any (sl x) st
 rw [len_sl] at hu
 clear hR hT hst hsl
 rcases hu with ⟨h1, h2, h3⟩ | ⟨k, h1, h2, h3, h4⟩
 ·have HU := hid_mk (And.intro h2 h3)
  have HI2 := hid_mk h1
  clear h1 h2 h3
  go_enter Tryz.func166, Tryz.ntmps166
  go_wp2_with fail
  refine HI.out.mono ?_
  rintro e w1 ⟨rfl, hb⟩
  rw [show (strOf st).data.toList = st from sl_strOf st, show x.data.toList = sl x from rfl, HI2.out]
  have hR1 := HR.out.1.next hb
  have hT1 := HR.out.2.below hb
  have hc1 := hR1.cell
  have HB := hid_mk (Upd.of (b := b) HR.out.2 hb)
  have HT := hid_mk (take_any b x.size x w1 hT1 hR1 (Nat.le_refl _))
  clear hb hR1 hT1
  go_wp2_with fail
  refine HT.out.mono ?_
  rintro e w2 ⟨rfl, hr2, hu2⟩
  have HF := hid_mk (And.intro hr2 (HB.out.trans hu2))
  clear hr2 hu2 HT
  have e0 : (sl x).drop x.size = [] := List.drop_eq_nil_of_le (by rw [len_sl]; exact Nat.le_refl _)
  have e1 : (sl x).take x.size = sl x := List.take_of_length_le (by rw [len_sl]; exact Nat.le_refl _)
  rw [e0] at HF
  rw [e1]
  clear e0 e1
  go_wp2_with fail
  go_ret
  rw [HU.out.1, HU.out.2]
  exact ⟨rfl, HF.out⟩
 ·have HU := hid_mk (And.intro h3 h4)
  have HI2 := hid_mk h1
  clear h1 h3 h4
  go_enter Tryz.func166, Tryz.ntmps166
  go_wp2_with fail
  refine HI.out.mono ?_
  rintro e w1 ⟨rfl, hb⟩
  rw [show (strOf st).data.toList = st from sl_strOf st, show x.data.toList = sl x from rfl, HI2.out]
  have hR1 := HR.out.1.next hb
  have hT1 := HR.out.2.below hb
  have hc1 := hR1.cell
  have HB := hid_mk (Upd.of (b := b) HR.out.2 hb)
  have HT := hid_mk (take_any b k x w1 hT1 hR1 h2)
  have hk0 : ¬ (k : Int) < 0 := by omega
  clear hb hR1 hT1
  go_wp2_with fail
  refine HT.out.mono ?_
  rintro e w2 ⟨rfl, hr2, hu2⟩
  have HF := hid_mk (And.intro hr2 (HB.out.trans hu2))
  clear hr2 hu2 HT
  go_wp2_with fail
  go_ret
  rw [HU.out.1, HU.out.2]
  exact ⟨rfl, HF.out⟩
end Go.Proofs.YtlcijlklbabajaaGreatDoor
namespace Go.Proofs.YtlcijlklbabajaaGreatDoor
open Go.RowKit
/-- Block g holds these bytes, and they may be written. -/
def ByRow (g : Nat) (bs : List UInt8) (w : World) : Prop :=
 ∃ (cs : Array Value) (fr : Nat × Nat), w.heap[g]? = some (.cells cs 5 fr) ∧ (∀ j, j < bs.length → cs[j]? = some (.int .u8 ((bs.getD j 0).toNat : Int))) ∧ bs.length ≤ fr.1
theorem ByRow.cell {g : Nat} {bs : List UInt8} {w : World} (h : ByRow g bs w) (j : Nat) (hj : j < bs.length) : w.cell? ⟨g, j, none⟩ = some (.int .u8 ((bs.getD j 0).toNat : Int)) := by
 obtain ⟨cs, fr, h1, h2, _⟩ := h
 rw [cell_of_row w g j _ _ _ h1]
 exact h2 j hj
theorem ByRow.frozen {g : Nat} {bs : List UInt8} {w : World} (h : ByRow g bs w) (j : Nat) (hj : j < bs.length) : w.frozen? ⟨g, j, none⟩ = false := by
 obtain ⟨cs, fr, h1, _, h3⟩ := h
 unfold World.frozen?
 simp only [h1]
 simp
 omega
theorem ByRow.has {g : Nat} {bs : List UInt8} {w : World} (h : ByRow g bs w) : HasBytes w (some ⟨g, 0, none⟩) bs := by
 refine .inr ⟨_, rfl, fun _ => ?_, fun j u hu => ?_⟩
 ·obtain ⟨cs, fr, h1, _⟩ := h
  exact (Array.getElem?_eq_some_iff.1 h1).1
 ·have hj := (List.getElem?_eq_some_iff.1 hu).1
  rw [Lib.byteCells_length] at hj
  rw [addr_add0, h.cell j hj, ← hu]
  unfold Lib.byteCells
  rw [List.getElem?_map, List.getElem?_eq_getElem hj]
  simp [List.getD, hj]
theorem ByRow.set {g : Nat} {bs : List UInt8} {w : World} (h : ByRow g bs w) (k : Nat) (hk : k < bs.length) (c : UInt8) : ByRow g (bs.set k c) (w.setCell ⟨g, k, none⟩ (.int .u8 (c.toNat : Int))) := by
 obtain ⟨cs, fr, h1, h2, h3⟩ := h
 have hlen : k < cs.size := by
  have := h2 k hk
  exact (Array.getElem?_eq_some_iff.1 this).1
 refine ⟨cs.set! k (.int .u8 (c.toNat : Int)), fr, ?_, fun j hj => ?_, by rw [List.length_set]; exact h3⟩
 ·show (w.heap.modify g _)[g]? = _
  rw [Array.getElem?_modify, if_pos rfl, h1]
  rfl
 ·rw [List.length_set] at hj
  by_cases e : j = k
  ·subst e
   simp [hlen, List.getD, hj]
  ·have := h2 j hj
   simp only [List.getD_eq_getElem?_getD] at this ⊢
   rw [List.getElem?_set_ne (by omega), ← this]
   simp [Array.getElem?_setIfInBounds_ne (show k ≠ j by omega)]
theorem byRow_world (w : World) (s : ByteArray) : ByRow w.heap.size (sl s) (Lib.bytesWorld w 5 s) := by
 refine ⟨_, _, Lib.bytesWorld_at_new w 5 s, fun j hj => ?_, ?_⟩
 ·rw [len_sl] at hj
  have h := Lib.bytesWorld_cell w 5 s j hj
  rw [cell_of_row _ _ j _ _ _ (Lib.bytesWorld_at_new w 5 s)] at h
  exact h
 ·unfold Lib.bytesCells
  simp [len_sl]
theorem madeL_take {l o : List UInt8} {k : Nat} (hk : k < l.length) : madeL (l.take (k + 1)) o = (madeL (l.take k) o && (isLet (l.getD k 0) || isDig (l.getD k 0) || o.contains (l.getD k 0))) := by
 rw [List.take_add_one]
 unfold madeL
 rw [List.all_append, List.getElem?_eq_getElem hk]
 simp [List.getD, hk]
theorem madeL_bad {l o : List UInt8} {k : Nat} (hk : k < l.length) (h : (isLet (l.getD k 0) || isDig (l.getD k 0) || o.contains (l.getD k 0)) = false) : madeL l o = false := by
 unfold madeL
 rw [List.all_eq_false]
 exact ⟨l.getD k 0, by simp [List.getD, hk], by rw [h]; simp⟩
set_option maxHeartbeats 2000000 in
set_option maxRecDepth 100000 in
theorem madeOf_any (s o : ByteArray) (w : World) (hs : s.size ≤ 1000000000) :
 Calls Tryz.prog 167 #[.string s, .string o] w fun e w' => e = .returned (.bool (madeL (sl s) (sl o))) ∧ Below w.heap.size w w' := by
 have hcv := Lib.run_convert_string_bytes (P := Tryz.prog) w 9 42 5 s Tryz.underlying9 Tryz.underlying42 Tryz.underlying5
 have HB := hid_mk (Lib.bytesWorld_below w 5 s)
 have HR := hid_mk (byRow_world w s)
 generalize grownCap w s.size 0 5 = gc at *
 generalize Lib.bytesWorld w 5 s = w1 at *
 go_enter Tryz.func167, Tryz.ntmps167
 go_wp2_with fail
 go_loop [6, 10] (fun _ i => ∃ k : Nat, k ≤ s.size ∧ i = .int .i64 k ∧ Hid (madeL ((sl s).take k) (sl o) = true)) (fun _ i => s.size - (intOf i).toNat)
 case atStart => exact ⟨0, Nat.zero_le _, rfl, hid_mk rfl⟩
 case round =>
  obtain ⟨k, hk, rfl, hm⟩ := hrel
  by_cases hlt : k < s.size
  ·have hc := HR.out.cell k (by rw [len_sl]; exact hlt)
   have ht := madeL_take (l := sl s) (o := sl o) (k := k) (by rw [len_sl]; exact hlt)
   have hb := madeL_bad (l := sl s) (o := sl o) (k := k) (by rw [len_sl]; exact hlt)
   rw [hm.out, Bool.true_and] at ht
   generalize (sl s).getD k 0 = c at *
   have hi := indexByte_iff (sl o) c
   cases hlet : isLet c with
   | true =>
     have HT := hid_mk (ht.trans (by rw [hlet]; first | done | rfl))
     have HL := hid_mk (fun w => letter_any c w)
     rw [hlet] at HL
     clear ht hb hi hm hlet
     go_wp2_with fail
     refine (HL.out _).mono ?_
     rintro e w' ⟨rfl, rfl⟩
     go_wp2_with fail
     go_round
     case rel => exact ⟨k + 1, by omega, by go_num, HT⟩
     case measure => simp [intOf]; omega
   | false =>
     have HL := hid_mk (fun w => letter_any c w)
     rw [hlet] at HL
     have HD := hid_mk (fun w => dig_any c w)
     cases hdig : isDig c with
     | true =>
       have HT := hid_mk (ht.trans (by rw [hlet, hdig]; first | done | rfl))
       rw [hdig] at HD
       clear ht hb hi hm hlet hdig
       go_wp2_with fail
       refine (HL.out _).mono ?_
       rintro e w' ⟨rfl, rfl⟩
       go_wp2_with fail
       refine (HD.out _).mono ?_
       rintro e w' ⟨rfl, rfl⟩
       go_wp2_with fail
       go_round
       case rel => exact ⟨k + 1, by omega, by go_num, HT⟩
       case measure => simp [intOf]; omega
     | false =>
       rw [hdig] at HD
       have HI := hid_mk (fun w => Tryz.strings_IndexByte o (c.toNat : Int) w)
       rw [byte_back, show o.data.toList = sl o from rfl] at HI
       generalize Lib.indexByte (sl o) c = ix at *
       cases hin : (sl o).contains c with
       | true =>
         have HT := hid_mk (ht.trans (by rw [hlet, hdig, hin]; first | done | rfl))
         rw [hin] at hi
         have hge : ¬ ix < 0 := by have := of_decide_eq_true hi.symm; omega
         clear ht hb hi hm hlet hdig hin
         go_wp2_with fail
         refine (HL.out _).mono ?_
         rintro e w' ⟨rfl, rfl⟩
         go_wp2_with fail
         refine (HD.out _).mono ?_
         rintro e w' ⟨rfl, rfl⟩
         go_wp2_with fail
         refine (HI.out _).mono ?_
         rintro e w' ⟨rfl, rfl⟩
         go_wp2_with fail
         go_round
         case rel => exact ⟨k + 1, by omega, by go_num, HT⟩
         case measure => simp [intOf]; omega
       | false =>
         have HF := hid_mk (hb (by rw [hlet, hdig, hin]; first | done | rfl))
         rw [hin] at hi
         have hge : ix < 0 := by have := of_decide_eq_false hi.symm; omega
         clear ht hb hi hm hlet hdig hin
         go_wp2_with fail
         refine (HL.out _).mono ?_
         rintro e w' ⟨rfl, rfl⟩
         go_wp2_with fail
         refine (HD.out _).mono ?_
         rintro e w' ⟨rfl, rfl⟩
         go_wp2_with fail
         refine (HI.out _).mono ?_
         rintro e w' ⟨rfl, rfl⟩
         go_wp2_with fail
         go_ret
         rw [HF.out]
         exact ⟨rfl, HB.out⟩
  ·have HF := hid_mk hm.out
   rw [List.take_of_length_le (by rw [len_sl]; omega)] at HF
   go_wp2_with fail
   go_ret
   rw [HF.out]
   exact ⟨rfl, HB.out⟩
theorem smL_at (l : List UInt8) (k : Nat) : (smL l).getD k 0 = smC (l.getD k 0) := by
 unfold smL
 simp only [List.getD_eq_getElem?_getD, List.getElem?_map]
 cases l[k]? with
 | none => rfl
 | some c => rfl
theorem mix_set (l : List UInt8) (k : Nat) (hk : k < l.length) : ((smL l).take k ++ l.drop k).set k (smC (l.getD k 0)) = (smL l).take (k + 1) ++ l.drop (k + 1) := by
 have hl : (smL l).length = l.length := List.length_map _
 apply List.ext_getElem?
 intro i
 rw [List.getElem?_set]
 have h1 : ((smL l).take k).length = k := by rw [List.length_take, hl]; omega
 have h2 : ((smL l).take (k + 1)).length = k + 1 := by rw [List.length_take, hl]; omega
 by_cases e : k = i
 ·subst e
  rw [if_pos rfl, if_pos (by rw [List.length_append, h1, List.length_drop]; omega), List.getElem?_append_left (by rw [h2]; omega), List.getElem?_take, if_pos (by omega)]
  rw [← smL_at]
  rw [List.getD_eq_getElem?_getD, List.getElem?_eq_getElem (by rw [hl]; exact hk)]
  rfl
 ·rw [if_neg e]
  by_cases hlt : i < k
  ·rw [List.getElem?_append_left (by rw [h1]; exact hlt), List.getElem?_append_left (by rw [h2]; omega), List.getElem?_take, List.getElem?_take, if_pos hlt, if_pos (by omega)]
  ·rw [List.getElem?_append_right (by rw [h1]; omega), List.getElem?_append_right (by rw [h2]; omega), h1, h2, List.getElem?_drop, List.getElem?_drop, show k + (i - k) = k + 1 + (i - (k + 1)) by omega]
theorem mix_same (l : List UInt8) (k : Nat) (hk : k < l.length) (h : smC (l.getD k 0) = l.getD k 0) : (smL l).take k ++ l.drop k = (smL l).take (k + 1) ++ l.drop (k + 1) := by
 rw [← mix_set l k hk, h]
 have hl : (smL l).length = l.length := List.length_map _
 have h1 : ((smL l).take k).length = k := by rw [List.length_take, hl]; omega
 apply List.ext_getElem?
 intro i
 rw [List.getElem?_set]
 split
 ·rename_i e
  subst e
  rw [if_pos (by rw [List.length_append, h1, List.length_drop]; omega), List.getElem?_append_right (by rw [h1]; omega), h1, Nat.sub_self, List.getElem?_drop, Nat.add_zero, List.getD_eq_getElem?_getD, List.getElem?_eq_getElem hk]
  rfl
 ·rfl
theorem mix_at (l : List UInt8) (k : Nat) (hk : k < l.length) : ((smL l).take k ++ l.drop k).getD k 0 = l.getD k 0 := by
 have hl : (smL l).length = l.length := List.length_map _
 have h1 : ((smL l).take k).length = k := by rw [List.length_take, hl]; omega
 rw [List.getD_eq_getElem?_getD, List.getElem?_append_right (by rw [h1]; omega), h1, Nat.sub_self, List.getElem?_drop, Nat.add_zero, ← List.getD_eq_getElem?_getD]
theorem mix_len (l : List UInt8) (k : Nat) (hk : k ≤ l.length) : ((smL l).take k ++ l.drop k).length = l.length := by
 have hl : (smL l).length = l.length := List.length_map _
 rw [List.length_append, List.length_take, hl, List.length_drop]
 omega
theorem smC_up (c : UInt8) (h : 65 ≤ c.toNat ∧ c.toNat ≤ 90) : ((smC c).toNat : Int) = (c.toNat : Int) - 65 + 97 := by
 unfold smC
 rw [if_pos h]
 have : (c + 32).toNat = (c.toNat + 32) % 256 := by rw [UInt8.toNat_add]; rfl
 omega
theorem smC_no (c : UInt8) (h : ¬ (65 ≤ c.toNat ∧ c.toNat ≤ 90)) : smC c = c := by unfold smC; rw [if_neg h]
set_option maxHeartbeats 2000000 in
set_option maxRecDepth 100000 in
theorem small_any (s : ByteArray) (w : World) (hs : s.size ≤ 1000000000) :
 Calls Tryz.prog 150 #[.string s] w fun e w' => e = .returned (.string (strOf (smL (sl s)))) ∧ Below w.heap.size w w' := by
 have hcv := Lib.run_convert_string_bytes (P := Tryz.prog) w 9 42 5 s Tryz.underlying9 Tryz.underlying42 Tryz.underlying5
 have HB := hid_mk (And.intro (byRow_world w s) (Lib.bytesWorld_below w 5 s))
 have hls := len_sl s
 have hsz : w.heap.size < (Lib.bytesWorld w 5 s).heap.size := by rw [Lib.bytesWorld_size]; omega
 generalize grownCap w s.size 0 5 = gc at *
 generalize Lib.bytesWorld w 5 s = w1 at *
 have HLS := hid_mk hls
 clear hls
 go_enter Tryz.func150, Tryz.ntmps150
 go_wp2_with fail
 go_loopw [4, 5, 10] (fun _ _ i wr => ∃ k : Nat, k ≤ s.size ∧ i = .int .i64 k ∧ Hid (ByRow w.heap.size ((smL (sl s)).take k ++ (sl s).drop k) wr ∧ Below w.heap.size w wr)) (fun _ _ i _ => s.size - (intOf i).toNat)
 case atStart => exact ⟨0, Nat.zero_le _, rfl, hid_mk (by rw [List.take_zero, List.drop_zero, List.nil_append]; exact HB.out)⟩
 case round =>
  obtain ⟨k, hk, rfl, hW⟩ := hrel
  by_cases hlt : k < s.size
  ·have hkl : k < (sl s).length := by rw [HLS.out]; exact hlt
   have hc := hW.out.1.cell k (by rw [mix_len _ _ (by omega)]; exact hkl)
   have hf := hW.out.1.frozen k (by rw [mix_len _ _ (by omega)]; exact hkl)
   rw [mix_at _ _ hkl] at hc
   by_cases hup : 65 ≤ ((sl s).getD k 0).toNat ∧ ((sl s).getD k 0).toNat ≤ 90
   ·have hset := hW.out.1.set k (by rw [mix_len _ _ (by omega)]; exact hkl) (smC ((sl s).getD k 0))
    rw [mix_set _ _ hkl] at hset
    have hv := smC_up _ hup
    rw [hv] at hset
    have HN := hid_mk (And.intro hset (hW.out.2.setCell (p := ⟨w.heap.size, k, none⟩) (Nat.le_refl _) (.int .u8 ((((sl s).getD k 0).toNat : Int) - 65 + 97))))
    generalize (sl s).getD k 0 = c at *
    clear hset hv hW
    obtain ⟨u1, u2⟩ := hup
    have u3 : (65 : Int) ≤ (c.toNat : Int) := by omega
    have u4 : (c.toNat : Int) ≤ 90 := by omega
    go_wp2_with fail
    go_roundw
    case rel => exact ⟨k + 1, by omega, by go_num, HN⟩
    case measure => simp [intOf]; omega
   ·have HN := hid_mk (show ByRow w.heap.size ((smL (sl s)).take (k + 1) ++ (sl s).drop (k + 1)) wr ∧ Below w.heap.size w wr by rw [← mix_same _ _ hkl (smC_no _ hup)]; exact hW.out)
    generalize (sl s).getD k 0 = c at *
    clear hW
    have hcase : c.toNat < 65 ∨ (65 ≤ c.toNat ∧ 90 < c.toNat) := by omega
    clear hup
    rcases hcase with h1 | ⟨h1, h2⟩
    ·have u3 : ¬ (65 : Int) ≤ (c.toNat : Int) := by omega
     go_wp2_with fail
     go_roundw
     case rel => exact ⟨k + 1, by omega, by go_num, HN⟩
     case measure => simp [intOf]; omega
    ·have u3 : (65 : Int) ≤ (c.toNat : Int) := by omega
     have u4 : ¬ (c.toNat : Int) ≤ 90 := by omega
     go_wp2_with fail
     go_roundw
     case rel => exact ⟨k + 1, by omega, by go_num, HN⟩
     case measure => simp [intOf]; omega
  ·obtain rfl : k = s.size := by omega
   have hh := hW.out.1
   have e0 : (smL (sl s)).take s.size ++ (sl s).drop s.size = smL (sl s) := by
    rw [List.take_of_length_le (by unfold smL; rw [List.length_map, len_sl]; exact Nat.le_refl _), List.drop_eq_nil_of_le (by rw [len_sl]; exact Nat.le_refl _), List.append_nil]
   rw [e0] at hh
   have hbc := bytes_conv wr (some ⟨w.heap.size, 0, none⟩) gc (smL (sl s)) hh.has
   rw [show (smL (sl s)).length = s.size by unfold smL; rw [List.length_map, len_sl]] at hbc
   clear hh e0
   have hlt' : ¬ (s.size : Int) < (s.size : Int) := by omega
   go_wp2_with fail
   go_ret
   exact ⟨rfl, hW.out.2⟩
end Go.Proofs.YtlcijlklbabajaaGreatDoor
namespace Go.Proofs.YtlcijlklbabajaaGreatDoor
open Go.RowKit
theorem trimP_yes {l p : List UInt8} (h : Lib.hasPrefix l p = true) : Lib.trimPrefix l p = l.drop p.length := by unfold Lib.trimPrefix; rw [h]; rfl
theorem trimP_no {l p : List UInt8} (h : Lib.hasPrefix l p = false) : Lib.trimPrefix l p = l := by unfold Lib.trimPrefix; rw [h]; rfl
/-- skip where it stands there. -/
theorem skip_yes (b : Nat) (x : ByteArray) (p : List UInt8) (w : World) (hT : Tab w) (hR : Rd b x w) (h : Lib.hasPrefix (sl x) p = true) :
 Calls Tryz.prog 145 #[.pointer (some ⟨b, 0, none⟩), .string (strOf p)] w fun e w' => e = .returned (.bool true) ∧ Rd b (strOf ((sl x).drop p.length)) w' ∧ Upd b w w' := by
 have h1 := skip_any b x (strOf p) w hT hR
 rw [sl_strOf, h, trimP_yes h] at h1
 exact h1
theorem skip_no (b : Nat) (x : ByteArray) (p : List UInt8) (w : World) (hT : Tab w) (hR : Rd b x w) (h : Lib.hasPrefix (sl x) p = false) :
 Calls Tryz.prog 145 #[.pointer (some ⟨b, 0, none⟩), .string (strOf p)] w fun e w' => e = .returned (.bool false) ∧ Rd b x w' ∧ Upd b w w' := by
 have h1 := skip_any b x (strOf p) w hT hR
 rw [sl_strOf, h, trimP_no h, strOf_sl] at h1
 exact h1
/-- What a value's reader leaves. -/
def ValPost (b : Nat) (l : List UInt8) (w : World) (e : Ending) (w' : World) : Prop :=
 ∃ (v : ByteArray) (ok : Bool) (y : ByteArray), e = .returned (.tuple #[.string v, .bool ok]) ∧ Rd b y w' ∧ Upd b w w' ∧
  match valueL l with
  | some p => v = strOf p.1 ∧ ok = true ∧ y = strOf p.2
  | none => ok = false
theorem quote_post {b : Nat} {l : List UInt8} {q : UInt8} {w w1 w2 w3 : World} {ok : Bool} {y3 : ByteArray} (hu1 : Upd b w w1) (hu2 : Upd b w1 w2) (hu3 : Upd b w2 w3) (hr : Rd b y3 w3)
 (hok : ok = Lib.hasPrefix (downL (l.drop 1) [q]) [q]) (hy : ok = true → y3 = strOf ((downL (l.drop 1) [q]).drop 1))
 (hv : valueL l = if Lib.hasPrefix (downL (l.drop 1) [q]) [q] then some (upL (l.drop 1) [q], (downL (l.drop 1) [q]).drop 1) else none) :
 ValPost b l w (.returned (.tuple #[.string (strOf (upL (l.drop 1) [q])), .bool ok])) w3 := by
 refine ⟨_, ok, y3, rfl, hr, (hu1.trans hu2).trans hu3, ?_⟩
 rw [hv, ← hok]
 cases ok with
 | true => exact ⟨rfl, rfl, hy rfl⟩
 | false => rfl
def quoteAt (k : Nat) : UInt8 := if k = 0 then 34 else 39
set_option maxHeartbeats 4000000 in
set_option maxRecDepth 100000 in
theorem value_any (b : Nat) (x : ByteArray) (w : World) (hT : Tab w) (hR : Rd b x w) (hx : x.size ≤ 1000000000) :
 Calls Tryz.prog 193 #[.pointer (some ⟨b, 0, none⟩)] w (ValPost b (sl x) w) := by
 have HR := hid_mk (And.intro hR hT)
 have hls := len_sl x
 have HS := hid_mk (show (sl x).length ≤ 1000000000 by omega)
 clear hR hT hls
 have i0 : ∀ w, (Instr.index 208 (.agg #[.string (strOf [34]), .string (strOf [39])]) (.int .i64 0)).run Tryz.prog w = .ok (.string (strOf [34])) w := fun _ => by kernel_rfl
 have i1 : ∀ w, (Instr.index 208 (.agg #[.string (strOf [34]), .string (strOf [39])]) (.int .i64 1)).run Tryz.prog w = .ok (.string (strOf [39])) w := fun _ => by kernel_rfl
 have hq := hid_mk (show (⟨#[34]⟩ : ByteArray) = strOf [34] from rfl)
 have hq2 := hid_mk (show (⟨#[39]⟩ : ByteArray) = strOf [39] from rfl)
 have HI := hid_mk (And.intro i0 i1)
 clear i0 i1
 go_enter Tryz.func193, Tryz.ntmps193
 go_wp2_with fail
 rw [hq.out, hq2.out]
 clear hq hq2
 go_loopw [5, 6, 9] (fun _ _ i wr => ∃ k : Nat, k ≤ 2 ∧ i = .int .i64 k ∧ Hid (Rd b x wr ∧ Upd b w wr) ∧ Hid ((1 ≤ k → Lib.hasPrefix (sl x) [34] = false) ∧ (2 ≤ k → Lib.hasPrefix (sl x) [39] = false))) (fun _ _ i _ => 2 - (intOf i).toNat)
 case atStart => exact ⟨0, by omega, rfl, hid_mk ⟨HR.out.1, Upd.refl HR.out.2⟩, hid_mk ⟨fun h => by omega, fun h => by omega⟩⟩
 case round =>
  obtain ⟨k, hk, rfl, hW, hP⟩ := hrel
  by_cases hlt : k < 2
  ·obtain ⟨q, hq⟩ : ∃ q, q = quoteAt k := ⟨_, rfl⟩
   have hix : ∀ w, (Instr.index 208 (.agg #[.string (strOf [34]), .string (strOf [39])]) (.int .i64 (k : Int))).run Tryz.prog w = .ok (.string (strOf [q])) w := by
    rw [hq]
    match k, hlt with
    | 0, _ => exact HI.out.1
    | 1, _ => exact HI.out.2
   have hq128 : q.toNat < 128 := by rw [hq]; unfold quoteAt; split <;> decide
   cases hpre : Lib.hasPrefix (sl x) [q] with
   | true =>
     have hsk := hid_mk (skip_yes b x [q] wr hW.out.2.2 hW.out.1 hpre)
     have HV := hid_mk (show valueL (sl x) = if Lib.hasPrefix (downL ((sl x).drop 1) [q]) [q] then some (upL ((sl x).drop 1) [q], (downL ((sl x).drop 1) [q]).drop 1) else none by
      match k, hlt with
      | 0, _ =>
        have : q = 34 := hq
        subst this
        unfold valueL
        rw [if_pos hpre]
      | 1, _ =>
        have : q = 39 := hq
        subst this
        unfold valueL
        rw [if_neg (by rw [hP.out.1 (by omega)]; exact Bool.false_ne_true), if_pos hpre])
     have HP := hid_mk hpre
     clear hpre hq hP
     go_wp2_with fail
     refine hsk.out.mono ?_
     rintro e w1 ⟨rfl, hr1, hu1⟩
     rw [show [q].length = 1 from rfl] at hr1
     obtain ⟨l1, hl1⟩ : ∃ l1, l1 = (sl x).drop 1 := ⟨_, rfl⟩
     have HL1 := hid_mk hl1
     rw [← hl1] at hr1 HV
     have hsz1 : l1.length ≤ 1000000000 := by rw [hl1, List.length_drop]; have := HS.out; omega
     clear hl1
     have hup := hid_mk (upTo_any b _ [q] w1 hu1.2 hr1 (by rw [size_strOf]; exact hsz1) (fun c hc => by rw [List.mem_singleton] at hc; rw [hc]; exact hq128) (by simp))
     rw [sl_strOf] at hup
     have HU1 := hid_mk hu1
     clear hr1 hu1 hsk
     go_wp2_with fail
     refine hup.out.mono ?_
     rintro e w2 ⟨rfl, hr2, hu2⟩
     have hs2 := hid_mk (skip_any b _ (strOf [q]) w2 hu2.2 hr2)
     rw [sl_strOf, sl_strOf] at hs2
     have HU2 := hid_mk hu2
     clear hr2 hu2 hup
     go_wp2_with fail
     refine hs2.out.mono ?_
     rintro e w3 ⟨rfl, hr3, hu3⟩
     rw [HL1.out] at HV
     have HF := hid_mk (quote_post (b := b) (l := sl x) (q := q) (hW.out.2.trans HU1.out) HU2.out hu3 hr3 rfl (fun h => by rw [HL1.out] at *; rw [trimP_yes h]; rfl) HV.out)
     rw [← HL1.out] at HF
     clear hr3 hu3 hs2
     go_wp2_with fail
     go_ret2
     exact HF.out
   | false =>
     have hsk := hid_mk (skip_no b x [q] wr hW.out.2.2 hW.out.1 hpre)
     have hP2 := hid_mk (show (1 ≤ k + 1 → Lib.hasPrefix (sl x) [34] = false) ∧ (2 ≤ k + 1 → Lib.hasPrefix (sl x) [39] = false) by
      match k, hlt with
      | 0, _ =>
        have : q = 34 := hq
        subst this
        exact ⟨fun _ => hpre, fun h => by omega⟩
      | 1, _ =>
        have : q = 39 := hq
        subst this
        exact ⟨fun _ => hP.out.1 (by omega), fun _ => hpre⟩)
     clear hpre hq hP
     go_wp2_with fail
     refine hsk.out.mono ?_
     rintro e w1 ⟨rfl, hr1, hu1⟩
     have HN := hid_mk (And.intro hr1 (hW.out.2.trans hu1))
     clear hr1 hu1 hsk
     go_wp2_with fail
     go_roundw
     case rel => exact ⟨k + 1, by omega, by go_num, HN, hP2⟩
     case measure => simp [intOf]; omega
  ·obtain rfl : k = 2 := by omega
   have hup := hid_mk (upTo_any b x [9, 10, 12, 32, 62] wr hW.out.2.2 hW.out.1 hx (by decide) (by decide))
   obtain ⟨T, hT⟩ : ∃ T, T = upL (sl x) [9, 10, 12, 32, 62] := ⟨_, rfl⟩
   obtain ⟨D, hD⟩ : ∃ D, D = downL (sl x) [9, 10, 12, 32, 62] := ⟨_, rfl⟩
   have HV := hid_mk (show valueL (sl x) = if T.isEmpty || Lib.containsAny T [34, 39, 60, 61, 96] then none else some (T, D) by
    unfold valueL
    rw [if_neg (by rw [hP.out.1 (by omega)]; exact Bool.false_ne_true), if_neg (by rw [hP.out.2 (by omega)]; exact Bool.false_ne_true), hT, hD])
   have hTl : T.length ≤ 1000000000 := by rw [hT]; have := up_le (sl x) [9, 10, 12, 32, 62]; have := HS.out; omega
   rw [← hT, ← hD] at hup
   clear hT hD
   go_wp2_with fail
   refine hup.out.mono ?_
   rintro e w1 ⟨rfl, hr1, hu1⟩
   have HN := hid_mk (And.intro hr1 (hW.out.2.trans hu1))
   clear hr1 hu1 hup hP HI HR
   cases hE : T.isEmpty with
   | true =>
     have hTn : T = [] := by simpa using hE
     subst hTn
     have HF := hid_mk (show ValPost b (sl x) w (.returned (.tuple #[.string (strOf []), .bool false])) w1 from ⟨_, _, _, rfl, HN.out.1, HN.out.2, by rw [HV.out, if_pos (by rfl)]⟩)
     have he : (strOf []).toList = [] := by rw [Lib.toList_data]; rfl
     have he2 : (strOf []).toList.isEmpty = true := by rw [he]; rfl
     clear hE
     go_wp2_with fail
     go_ret2
     exact HF.out
   | false =>
     have hne : (strOf T).toList.isEmpty = false := by
      rw [Lib.toList_data, show (strOf T).data.toList = T from sl_strOf T]
      exact hE
     have hca := hid_mk (containsAny_any (strOf T) ⟨#[34, 39, 60, 61, 96]⟩ w1 (by rw [size_strOf]; exact hTl) (by decide) (ascii_of (l := [34, 39, 60, 61, 96]) (by decide)))
     rw [show (strOf T).data.toList = T from sl_strOf T, show (⟨#[34, 39, 60, 61, 96]⟩ : ByteArray).data.toList = [34, 39, 60, 61, 96] from rfl] at hca
     have HE := hid_mk hE
     clear hE
     go_wp2_with fail
     refine hca.out.mono ?_
     rintro e w2 ⟨rfl, hb2⟩
     have hr2 := HN.out.1.next hb2
     have hu2 := HN.out.2.trans (Upd.of HN.out.2.2 hb2)
     have HF := hid_mk (show ValPost b (sl x) w (.returned (.tuple #[.string (strOf T), .bool (!Lib.containsAny T [34, 39, 60, 61, 96])])) w2 from ⟨_, _, _, rfl, hr2, hu2, by
      rw [HV.out, HE.out, Bool.false_or]
      cases Lib.containsAny T [34, 39, 60, 61, 96] with
      | true => rfl
      | false => exact ⟨rfl, rfl, rfl⟩⟩)
     clear hr2 hu2 hb2 hca
     generalize Lib.containsAny T [34, 39, 60, 61, 96] = ca at *
     go_wp2_with fail
     go_ret2
     exact HF.out
end Go.Proofs.YtlcijlklbabajaaGreatDoor
