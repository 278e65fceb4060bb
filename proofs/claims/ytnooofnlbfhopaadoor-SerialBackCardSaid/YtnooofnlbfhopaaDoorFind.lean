/-
  Find, of the program: the reference with which a text begins. Conditions: the text's length is bounded; the table of replaced characters lies in the first package-level variable.
-/
import Derived.Test.YtnooofnlbfhopaaDoorName
import Derived.Test.YtnooofnlbfhopaaDoorNum
namespace Go.Proofs.YtnooofnlbfhopaaDoor
open Go.RowKit
/-- Does a list begin with another one? -/
def pfx (p l : List UInt8) : Bool := decide (l.take p.length = p)
theorem pfx_extract (p : List UInt8) (s : ByteArray) : ((s.extract 0 p.length).toList == (strOf p).toList) = pfx p (sl s) := by
  rw [Lib.toList_data, Lib.toList_data]
  have h1 : (s.extract 0 p.length).data.toList = (sl s).take p.length := by
    have := sl_cut s 0 p.length
    rw [Nat.zero_add, List.drop_zero] at this
    exact this
  rw [h1]
  unfold pfx
  rw [Bool.eq_iff_iff]
  simp [strOf]
theorem pfx_short (p l : List UInt8) (h : l.length < p.length) : pfx p l = false := by
  unfold pfx
  rw [decide_eq_false_iff_not]
  intro he
  have := congrArg List.length he
  rw [List.length_take] at this
  omega
theorem prefixLite_any (s : ByteArray) (p : List UInt8) (w : World) :
    Calls Tryd.prog 45 #[.string s, .string (strOf p)] w fun e w' => e = .returned (.bool (pfx p (sl s))) ∧ w = w' := by
  have hps := size_strOf p
  have he := pfx_extract p s
  by_cases hl : p.length ≤ s.size
  · have hl' : (p.length : Int) ≤ (s.size : Int) := by omega
    have hp0 : (0 : Int) ≤ (p.length : Int) := by omega
    generalize pfx p (sl s) = b at *
    go_enter Tryd.func45, Tryd.ntmps45
    go_wp2
    go_ret
    exact ⟨rfl, rfl⟩
  · have hl' : ¬ (p.length : Int) ≤ (s.size : Int) := by omega
    have hv := hid_mk (pfx_short p (sl s) (by rw [len_sl]; omega))
    clear he
    go_enter Tryd.func45, Tryd.ntmps45
    go_wp2
    go_ret
    rw [hv.out]
    exact ⟨rfl, rfl⟩
theorem prefix_any (s : ByteArray) (p : List UInt8) (w : World) :
    Calls Tryd.prog 32 #[.string s, .string (strOf p)] w fun e w' => e = .returned (.bool (pfx p (sl s))) ∧ w = w' := by
  go_enter Tryd.func32, Tryd.ntmps32
  go_wp2_with fail
  refine (prefixLite_any s p w).mono ?_
  rintro e w' ⟨rfl, rfl⟩
  go_wp2
  go_ret
  exact ⟨rfl, rfl⟩
theorem take_one (l : List UInt8) : pfx [38] l = decide (atL l 0 = 38) := by
  unfold pfx
  rw [decide_eq_decide]
  cases l with
  | nil => simp [atL]
  | cons a l =>
    show a :: l.take 0 = [38] ↔ a.toNat = 38
    simp [← UInt8.toNat_inj]
theorem take_two (l : List UInt8) : pfx [38, 35] l = decide (atL l 0 = 38 ∧ atL l 1 = 35) := by
  unfold pfx
  rw [decide_eq_decide]
  cases l with
  | nil => simp [atL]
  | cons a l =>
    cases l with
    | nil =>
      show [a] = [38, 35] ↔ (a.toNat = 38 ∧ (0 : UInt8).toNat = 35)
      simp
    | cons b l =>
      show a :: b :: l.take 0 = [38, 35] ↔ (a.toNat = 38 ∧ b.toNat = 35)
      simp [← UInt8.toNat_inj]
theorem atL_pos {l : List UInt8} {k : Nat} (h : atL l k ≠ 0) : k < l.length := by
  rcases Nat.lt_or_ge k l.length with h' | h'
  · exact h'
  · unfold atL at h
    rw [List.getElem?_eq_none h'] at h
    exact absurd rfl h
set_option maxHeartbeats 1000000 in
theorem find_any (s : ByteArray) (hs : s.size ≤ 9223372036854775000) (attr : Bool) (w : World) (hT : Tab w) :
    Calls Tryd.prog 21 #[.string s, .bool attr] w fun e w' => e = .returned (resV (findL (sl s) attr)) ∧ Next w w' := by
  have HT := hid_mk hT
  clear hT
  have hp1 := hid_mk (prefix_any s [38, 35] w)
  have hp2 := hid_mk (prefix_any s [38] w)
  rw [take_two] at hp1
  rw [take_one] at hp2
  by_cases c0 : atL (sl s) 0 = 38
  · have hs1 := atL_pos (l := sl s) (k := 0) (by omega)
    rw [len_sl] at hs1
    rw [decide_eq_true c0] at hp2
    by_cases c1 : atL (sl s) 1 = 35
    · rw [decide_eq_true ⟨c0, c1⟩] at hp1
      have hs2 := atL_pos (l := sl s) (k := 1) (by omega)
      rw [len_sl] at hs2
      have hv := hid_mk (show findL (sl s) attr = findNum (sl s) by unfold findL; rw [if_pos c0, if_pos c1])
      clear c0 c1
      go_enter Tryd.func21, Tryd.ntmps21
      go_wp2_with fail
      refine hp1.out.mono ?_
      rintro e w' ⟨rfl, rfl⟩
      go_wp2_with fail
      refine (findNumber_any s hs2 hs w HT.out).mono ?_
      rintro e w' ⟨rfl, rfl⟩
      obtain ⟨r, n, ok, hr⟩ : ∃ r n ok, resV (findNum (sl s)) = .tuple #[.int .i32 r, .int .i64 n, .bool ok] := by
        cases findNum (sl s) with
        | none => exact ⟨_, _, _, rfl⟩
        | some p => exact ⟨_, _, _, rfl⟩
      have HR := hid_mk hr
      rw [hr]
      clear hr
      go_wp2
      go_ret3
      rw [hv.out, HR.out]
      exact ⟨rfl, Next.refl HT.out⟩
    · rw [decide_eq_false (fun h => c1 h.2)] at hp1
      have hv := hid_mk (show findL (sl s) attr = nameF (sl s) attr 6 by unfold findL; rw [if_pos c0, if_neg c1])
      clear c0 c1
      go_enter Tryd.func21, Tryd.ntmps21
      go_wp2_with fail
      refine hp1.out.mono ?_
      rintro e w' ⟨rfl, rfl⟩
      go_wp2_with fail
      refine hp2.out.mono ?_
      rintro e w' ⟨rfl, rfl⟩
      go_wp2_with fail
      refine (findName_any s hs1 hs attr w).mono ?_
      rintro e w' ⟨rfl, hb⟩
      have HN := hid_mk (Next.of HT.out hb)
      obtain ⟨r, n, ok, hr⟩ : ∃ r n ok, resV (nameF (sl s) attr 6) = .tuple #[.int .i32 r, .int .i64 n, .bool ok] := by
        cases nameF (sl s) attr 6 with
        | none => exact ⟨_, _, _, rfl⟩
        | some p => exact ⟨_, _, _, rfl⟩
      have HR := hid_mk hr
      rw [hr]
      clear hr hb
      go_wp2
      go_ret3
      rw [hv.out, HR.out]
      exact ⟨rfl, HN.out⟩
  · rw [decide_eq_false (fun h => c0 h.1)] at hp1
    rw [decide_eq_false c0] at hp2
    have hv := hid_mk (show findL (sl s) attr = none by unfold findL; rw [if_neg c0])
    clear c0
    go_enter Tryd.func21, Tryd.ntmps21
    go_wp2_with fail
    refine hp1.out.mono ?_
    rintro e w' ⟨rfl, rfl⟩
    go_wp2_with fail
    refine hp2.out.mono ?_
    rintro e w' ⟨rfl, rfl⟩
    go_wp2
    go_ret3
    rw [hv.out]
    exact ⟨rfl, Next.refl HT.out⟩
end Go.Proofs.YtnooofnlbfhopaaDoor
