/-
  Package token's small functions: letter, digit, leavesText, skip, skipBlanks, upTo. Conditions: the texts' lengths are bounded; the world holds what Tab says.
-/
import Derived.Test.YtfjhljhgmbhklaaGreatDoorRd
import Derived.Test.YtfjhljhgmbhklaaGreatDoorAny
import Derived.Test.YtfjhljhgmbhklaaGreatDoorTPlain
import Derived.Shelf.Strings.SlTrimAscii
namespace Go.Proofs.YtfjhljhgmbhklaaGreatDoor
open Go.RowKit
theorem ret_bool {a b : Bool} (h : a = b) : Ending.returned (.bool a) = .returned (.bool b) := by rw [h]
theorem byte_back (c : UInt8) : ((c.toNat : Int)).toNat.toUInt8 = c := by simp
set_option maxHeartbeats 1000000 in
theorem letter_any (c : UInt8) (w : World) :
    Calls Tryz.prog 94 #[.int .u8 (c.toNat : Int)] w fun e w' => e = .returned (.bool (isLet c)) ∧ w = w' := by
  go_enter Tryz.func94, Tryz.ntmps94
  go_wp2
  all_goals
    go_ret
    refine ⟨ret_bool ?_, rfl⟩
    rw [Bool.eq_iff_iff]
    unfold isLet
    simp
    omega
set_option maxHeartbeats 1000000 in
theorem dig_any (c : UInt8) (w : World) :
    Calls Tryz.prog 167 #[.int .u8 (c.toNat : Int)] w fun e w' => e = .returned (.bool (isDig c)) ∧ w = w' := by
  go_enter Tryz.func167, Tryz.ntmps167
  go_wp2
  all_goals
    go_ret
    refine ⟨ret_bool ?_, rfl⟩
    rw [Bool.eq_iff_iff]
    unfold isDig
    simp <;> omega
theorem getD_sl (s : ByteArray) (k : Nat) (h : k < s.size) : (sl s).getD k 0 = s[k]'h := by
  have := Lib.data_getElem? s k h
  rw [List.getD_eq_getElem?_getD]
  show (s.data.toList[k]?).getD 0 = _
  rw [this]
  rfl
theorem indexByte_iff (l : List UInt8) (c : UInt8) : l.contains c = decide (0 ≤ Lib.indexByte l c) := Lib.contains_iff_indexByte l c
set_option maxHeartbeats 1000000 in
theorem leaves_any (s : ByteArray) (w : World) :
    Calls Tryz.prog 92 #[.string s] w fun e w' => e = .returned (.bool (leavesL (sl s))) ∧ w = w' := by
  by_cases h1 : 1 < s.size
  · have h0 : 0 < s.size := by omega
    have h1' : (1 : Int) < (s.size : Int) := by omega
    have h0' : (0 : Int) < (s.size : Int) := by omega
    have HL := hid_mk (show leavesL (sl s) = (s[0].toNat == 60 && (isLet s[1] || decide ((0 : Int) ≤ Lib.indexByte [47, 33, 63] s[1]))) by
      unfold leavesL
      rw [len_sl, getD_sl s 1 h1, ← byte_atL s 0 h0, decide_eq_true (show 2 ≤ s.size from h1), Bool.true_and, indexByte_iff])
    go_enter Tryz.func92, Tryz.ntmps92
    go_wp2_with (first
      | (go_at_call 94; refine (letter_any _ _).mono ?_; rintro e w' ⟨rfl, rfl⟩)
      | (go_at_call 67; refine (Tryz.strings_IndexByte _ _ _).mono ?_; rintro e w' ⟨rfl, rfl⟩; rw [byte_back, show (⟨#[47, 33, 63]⟩ : ByteArray).data.toList = [47, 33, 63] from rfl]))
    all_goals
      go_ret
      refine ⟨ret_bool ?_, rfl⟩
      rw [HL.out]
      clear HL
      simp_all
      try (intros; omega)
  · have HL := hid_mk (show leavesL (sl s) = false by
      unfold leavesL
      rw [len_sl, decide_eq_false (by omega)]
      rfl)
    have h1' : ¬ (1 : Int) < (s.size : Int) := by omega
    go_enter Tryz.func92, Tryz.ntmps92
    go_wp2
    go_ret
    rw [HL.out]
    exact ⟨rfl, rfl⟩
theorem lit_sl (l : List UInt8) : (⟨l.toArray⟩ : ByteArray) = strOf l := rfl
set_option maxHeartbeats 1000000 in
/-- skip reads what is told, if it stands there. -/
theorem skip_any (b : Nat) (x p : ByteArray) (w : World) (hT : Tab w) (hR : Rd b x w) :
    Calls Tryz.prog 124 #[.pointer (some ⟨b, 0, none⟩), .string p] w fun e w' => e = .returned (.bool (Lib.hasPrefix (sl x) (sl p))) ∧ Rd b (strOf (Lib.trimPrefix (sl x) (sl p))) w' ∧ Upd b w w' := by
  have hc := hR.cell
  have hf := hR.frozen
  have HP := hid_mk (And.intro (hR.set (strOf (Lib.trimPrefix (sl x) (sl p)))) (Upd.set hR hT (.string (strOf (Lib.trimPrefix (sl x) (sl p))))))
  clear hR hT
  go_enter Tryz.func124, Tryz.ntmps124
  go_wp2_with fail
  refine (Tryz.strings_CutPrefix x p w).mono ?_
  rintro e w1 ⟨rfl, hw⟩
  have hw := hw.symm
  subst hw
  rw [lit_sl]
  go_wp2_with fail
  go_ret
  exact ⟨rfl, HP.out⟩
theorem trimLeft_any (s : ByteArray) (w : World) :
    Calls Tryz.prog 168 #[.string s, .string ⟨#[9, 10, 12, 32]⟩] w fun e w' => e = .returned (.string (strOf (skB (sl s)))) ∧ Below w.heap.size w w' :=
  Any.strings_TrimLeft_laid Tryz.lays161 (by kernel_rfl) s ⟨#[9, 10, 12, 32]⟩ w (by decide) (by
    intro j b h
    have hm : b ∈ ([9, 10, 12, 32] : List UInt8) := List.mem_iff_getElem?.2 ⟨j, h⟩
    have : ∀ c ∈ ([9, 10, 12, 32] : List UInt8), c.toNat < 128 := by decide
    exact this b hm)
set_option maxHeartbeats 1000000 in
theorem skipBlanks_any (b : Nat) (x : ByteArray) (w : World) (hT : Tab w) (hR : Rd b x w) :
    Calls Tryz.prog 145 #[.pointer (some ⟨b, 0, none⟩)] w fun e w' => e = .returned (.tuple #[]) ∧ Rd b (strOf (skB (sl x))) w' ∧ Upd b w w' := by
  have hc := hR.cell
  have HR := hid_mk (And.intro hR hT)
  clear hR hT
  go_enter Tryz.func145, Tryz.ntmps145
  go_wp2_with fail
  refine (trimLeft_any x w).mono ?_
  rintro e w1 ⟨rfl, hb⟩
  have hR1 := HR.out.1.next hb
  have hT1 := HR.out.2.below hb
  have hc1 := hR1.cell
  have hf1 := hR1.frozen
  have HP := hid_mk (And.intro (hR1.set (strOf (skB (sl x)))) ((Upd.of HR.out.2 hb).trans (Upd.set hR1 hT1 (.string (strOf (skB (sl x)))))))
  clear hR1 hT1 hb
  go_wp2_with fail
  go_end0
  exact ⟨rfl, HP.out⟩
theorem ascii_of {l : List UInt8} (h : ∀ c ∈ l, c.toNat < 128) : ∀ (j : Nat) b, (strOf l).data.toList[j]? = some b → b.toNat < 128 := by
  intro j b hb
  have e : (strOf l).data.toList = l := sl_strOf l
  rw [e] at hb
  exact h b (List.mem_iff_getElem?.2 ⟨j, hb⟩)
set_option maxHeartbeats 1000000 in
/-- upTo reads the bytes up to the first one of stops. -/
theorem upTo_any (b : Nat) (x : ByteArray) (st : List UInt8) (w : World) (hT : Tab w) (hR : Rd b x w) (hx : x.size ≤ 1000000000) (hst : ∀ c ∈ st, c.toNat < 128) (hsl : st.length ≤ 1000) :
    Calls Tryz.prog 143 #[.pointer (some ⟨b, 0, none⟩), .string (strOf st)] w fun e w' => e = .returned (.string (strOf (upL (sl x) st))) ∧ Rd b (strOf (downL (sl x) st)) w' ∧ Upd b w w' := by
  have hc := hR.cell
  have HI := hid_mk (indexAny_any x (strOf st) w hx (by rw [size_strOf]; exact hsl) (ascii_of hst))
  have HR := hid_mk (And.intro hR hT)
  have hu := up_any (sl x) st
  rw [len_sl] at hu
  clear hR hT hst hsl
  rcases hu with ⟨h1, h2, h3⟩ | ⟨k, h1, h2, h3, h4⟩
  · have HU := hid_mk (And.intro h2 h3)
    have HI2 := hid_mk h1
    clear h1 h2 h3
    go_enter Tryz.func143, Tryz.ntmps143
    go_wp2_with fail
    refine HI.out.mono ?_
    rintro e w1 ⟨rfl, hb⟩
    rw [show (strOf st).data.toList = st from sl_strOf st, show x.data.toList = sl x from rfl, HI2.out]
    have hR1 := HR.out.1.next hb
    have hT1 := HR.out.2.below hb
    have hc1 := hR1.cell
    have HB := hid_mk (Upd.of (b := b) HR.out.2 hb)
    have HT := hid_mk (take_any b x.size x w1 hT1 hR1 (Nat.le_refl _))
    clear hb hR1 hT1
    go_wp2_with fail
    refine HT.out.mono ?_
    rintro e w2 ⟨rfl, hr2, hu2⟩
    have HF := hid_mk (And.intro hr2 (HB.out.trans hu2))
    clear hr2 hu2 HT
    have e0 : (sl x).drop x.size = [] := List.drop_eq_nil_of_le (by rw [len_sl]; exact Nat.le_refl _)
    have e1 : (sl x).take x.size = sl x := List.take_of_length_le (by rw [len_sl]; exact Nat.le_refl _)
    rw [e0] at HF
    rw [e1]
    clear e0 e1
    go_wp2_with fail
    go_ret
    rw [HU.out.1, HU.out.2]
    exact ⟨rfl, HF.out⟩
  · have HU := hid_mk (And.intro h3 h4)
    have HI2 := hid_mk h1
    clear h1 h3 h4
    go_enter Tryz.func143, Tryz.ntmps143
    go_wp2_with fail
    refine HI.out.mono ?_
    rintro e w1 ⟨rfl, hb⟩
    rw [show (strOf st).data.toList = st from sl_strOf st, show x.data.toList = sl x from rfl, HI2.out]
    have hR1 := HR.out.1.next hb
    have hT1 := HR.out.2.below hb
    have hc1 := hR1.cell
    have HB := hid_mk (Upd.of (b := b) HR.out.2 hb)
    have HT := hid_mk (take_any b k x w1 hT1 hR1 h2)
    have hk0 : ¬ (k : Int) < 0 := by omega
    clear hb hR1 hT1
    go_wp2_with fail
    refine HT.out.mono ?_
    rintro e w2 ⟨rfl, hr2, hu2⟩
    have HF := hid_mk (And.intro hr2 (HB.out.trans hu2))
    clear hr2 hu2 HT
    go_wp2_with fail
    go_ret
    rw [HU.out.1, HU.out.2]
    exact ⟨rfl, HF.out⟩
end Go.Proofs.YtfjhljhgmbhklaaGreatDoor
