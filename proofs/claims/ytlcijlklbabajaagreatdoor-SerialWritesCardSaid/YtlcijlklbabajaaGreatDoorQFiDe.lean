/-
  Find, of the program: the reference with which a text begins. Conditions: the text's length is bounded; the table of replaced characters lies in the first package-level variable.
-/
import Derived.Test.YtlcijlklbabajaaGreatDoorQName
import Derived.Test.YtlcijlklbabajaaGreatDoorQPlNum
import Derived.Test.YtlcijlklbabajaaGreatDoorQWrUs
import Derived.Lib.IndexLaws
namespace Go.Proofs.YtlcijlklbabajaaGreatDoor
open Go.RowKit
/-- Does a list begin with another one? -/
def pfx (p l : List UInt8) : Bool := decide (l.take p.length = p)
theorem pfx_extract (p : List UInt8) (s : ByteArray) : ((s.extract 0 p.length).toList == (strOf p).toList) = pfx p (sl s) := by
 rw [Lib.toList_data, Lib.toList_data]
 have h1 : (s.extract 0 p.length).data.toList = (sl s).take p.length := by
  have := sl_cut s 0 p.length
  rw [Nat.zero_add, List.drop_zero] at this
  exact this
 rw [h1]
 unfold pfx
 rw [Bool.eq_iff_iff]
 simp [strOf]
theorem pfx_short (p l : List UInt8) (h : l.length < p.length) : pfx p l = false := by
 unfold pfx
 rw [decide_eq_false_iff_not]
 intro he
 have := congrArg List.length he
 rw [List.length_take] at this
 omega
theorem prefixLite_any (s : ByteArray) (p : List UInt8) (w : World) :
 Calls Tryz.prog 147 #[.string s, .string (strOf p)] w fun e w' => e = .returned (.bool (pfx p (sl s))) ∧ w = w' := by
 have hps := size_strOf p
 have he := pfx_extract p s
 by_cases hl : p.length ≤ s.size
 ·have hl' : (p.length : Int) ≤ (s.size : Int) := by omega
  have hp0 : (0 : Int) ≤ (p.length : Int) := by omega
  generalize pfx p (sl s) = b at *
  go_enter Tryz.func147, Tryz.ntmps147
  go_wp2
  go_ret
  exact ⟨rfl, rfl⟩
 ·have hl' : ¬ (p.length : Int) ≤ (s.size : Int) := by omega
  have hv := hid_mk (pfx_short p (sl s) (by rw [len_sl]; omega))
  clear he
  go_enter Tryz.func147, Tryz.ntmps147
  go_wp2
  go_ret
  rw [hv.out]
  exact ⟨rfl, rfl⟩
theorem prefix_any (s : ByteArray) (p : List UInt8) (w : World) :
 Calls Tryz.prog 116 #[.string s, .string (strOf p)] w fun e w' => e = .returned (.bool (pfx p (sl s))) ∧ w = w' := by
 go_enter Tryz.func116, Tryz.ntmps116
 go_wp2_with fail
 refine (prefixLite_any s p w).mono ?_
 rintro e w' ⟨rfl, rfl⟩
 go_wp2
 go_ret
 exact ⟨rfl, rfl⟩
theorem take_one (l : List UInt8) : pfx [38] l = decide (atL l 0 = 38) := by
 unfold pfx
 rw [decide_eq_decide]
 cases l with
 | nil => simp [atL]
 | cons a l =>
   show a :: l.take 0 = [38] ↔ a.toNat = 38
   simp [← UInt8.toNat_inj]
theorem take_two (l : List UInt8) : pfx [38, 35] l = decide (atL l 0 = 38 ∧ atL l 1 = 35) := by
 unfold pfx
 rw [decide_eq_decide]
 cases l with
 | nil => simp [atL]
 | cons a l =>
   cases l with
   | nil =>
     show [a] = [38, 35] ↔ (a.toNat = 38 ∧ (0 : UInt8).toNat = 35)
     simp
   | cons b l =>
     show a :: b :: l.take 0 = [38, 35] ↔ (a.toNat = 38 ∧ b.toNat = 35)
     simp [← UInt8.toNat_inj]
theorem atL_pos {l : List UInt8} {k : Nat} (h : atL l k ≠ 0) : k < l.length := by
 rcases Nat.lt_or_ge k l.length with h' | h'
 ·exact h'
 ·unfold atL at h
  rw [List.getElem?_eq_none h'] at h
  exact absurd rfl h
set_option maxHeartbeats 1000000 in
theorem find_any (s : ByteArray) (hs : s.size ≤ 9223372036854775000) (attr : Bool) (w : World) (hT : Tab w) :
 Calls Tryz.prog 163 #[.string s, .bool attr] w fun e w' => e = .returned (resV (findL (sl s) attr)) ∧ Next w w' := by
 have HT := hid_mk hT
 clear hT
 have hp1 := hid_mk (prefix_any s [38, 35] w)
 have hp2 := hid_mk (prefix_any s [38] w)
 rw [take_two] at hp1
 rw [take_one] at hp2
 by_cases c0 : atL (sl s) 0 = 38
 ·have hs1 := atL_pos (l := sl s) (k := 0) (by omega)
  rw [len_sl] at hs1
  rw [decide_eq_true c0] at hp2
  by_cases c1 : atL (sl s) 1 = 35
  ·rw [decide_eq_true ⟨c0, c1⟩] at hp1
   have hs2 := atL_pos (l := sl s) (k := 1) (by omega)
   rw [len_sl] at hs2
   have hv := hid_mk (show findL (sl s) attr = findNum (sl s) by unfold findL; rw [if_pos c0, if_pos c1])
   clear c0 c1
   go_enter Tryz.func163, Tryz.ntmps163
   go_wp2_with fail
   refine hp1.out.mono ?_
   rintro e w' ⟨rfl, rfl⟩
   go_wp2_with fail
   refine (findNumber_any s hs2 hs w HT.out).mono ?_
   rintro e w' ⟨rfl, rfl⟩
   obtain ⟨r, n, ok, hr⟩ : ∃ r n ok, resV (findNum (sl s)) = .tuple #[.int .i32 r, .int .i64 n, .bool ok] := by
    cases findNum (sl s) with
    | none => exact ⟨_, _, _, rfl⟩
    | some p => exact ⟨_, _, _, rfl⟩
   have HR := hid_mk hr
   rw [hr]
   clear hr
   go_wp2
   go_ret3
   rw [hv.out, HR.out]
   exact ⟨rfl, Next.refl HT.out⟩
  ·rw [decide_eq_false (fun h => c1 h.2)] at hp1
   have hv := hid_mk (show findL (sl s) attr = nameF (sl s) attr 6 by unfold findL; rw [if_pos c0, if_neg c1])
   clear c0 c1
   go_enter Tryz.func163, Tryz.ntmps163
   go_wp2_with fail
   refine hp1.out.mono ?_
   rintro e w' ⟨rfl, rfl⟩
   go_wp2_with fail
   refine hp2.out.mono ?_
   rintro e w' ⟨rfl, rfl⟩
   go_wp2_with fail
   refine (findName_any s hs1 hs attr w).mono ?_
   rintro e w' ⟨rfl, hb⟩
   have HN := hid_mk (Next.of HT.out hb)
   obtain ⟨r, n, ok, hr⟩ : ∃ r n ok, resV (nameF (sl s) attr 6) = .tuple #[.int .i32 r, .int .i64 n, .bool ok] := by
    cases nameF (sl s) attr 6 with
    | none => exact ⟨_, _, _, rfl⟩
    | some p => exact ⟨_, _, _, rfl⟩
   have HR := hid_mk hr
   rw [hr]
   clear hr hb
   go_wp2
   go_ret3
   rw [hv.out, HR.out]
   exact ⟨rfl, HN.out⟩
 ·rw [decide_eq_false (fun h => c0 h.1)] at hp1
  rw [decide_eq_false c0] at hp2
  have hv := hid_mk (show findL (sl s) attr = none by unfold findL; rw [if_neg c0])
  clear c0
  go_enter Tryz.func163, Tryz.ntmps163
  go_wp2_with fail
  refine hp1.out.mono ?_
  rintro e w' ⟨rfl, rfl⟩
  go_wp2_with fail
  refine hp2.out.mono ?_
  rintro e w' ⟨rfl, rfl⟩
  go_wp2
  go_ret3
  rw [hv.out]
  exact ⟨rfl, Next.refl HT.out⟩
end Go.Proofs.YtlcijlklbabajaaGreatDoor
namespace Go.Proofs.YtlcijlklbabajaaGreatDoor
open Go.RowKit
def strSize : Value → Nat
 | .string s => s.size
 | _ => 0
set_option maxHeartbeats 4000000 in
set_option maxRecDepth 100000 in
theorem decode_any (s : ByteArray) (hs : s.size ≤ 1000000000000) (attr : Bool) (w : World) (hT : Tab w) :
 Calls Tryz.prog 143 #[.string s, .bool attr] w fun e w' => e = .returned (.string (strOf (decL (sl s) attr))) ∧ Next w w' := by
 have hI := hid_mk (show Lib.IsBuilderF 78 5 w.heap.size w.heap.size (Lib.byteCells []) (w.alloc (.cells #[.pointer none, .slice none 0 0] 78)) ∧ Below w.heap.size w (w.alloc (.cells #[.pointer none, .slice none 0 0] 78)) from
  ⟨builder_new w (0, 0) rfl, (Below.refl _ _).alloc (Nat.le_refl _) _⟩)
 have HT := hid_mk hT
 clear hT
 obtain ⟨D, hD⟩ : ∃ D, D = decL (sl s) attr := ⟨_, rfl⟩
 rw [← hD]
 have HD := hid_mk hD
 clear hD
 go_enter Tryz.func143, Tryz.ntmps143
 go_wp2_with fail
 go_loopw [0] (fun v0 wr => ∃ (x : ByteArray) (acc : List UInt8), v0 = .string x ∧ x.size ≤ s.size ∧ Hid (acc.length ≤ 4 * (s.size - x.size)) ∧ Hid (D = acc ++ decL (sl x) attr) ∧ Hid (Lib.IsBuilderF 78 5 w.heap.size w.heap.size (Lib.byteCells acc) wr ∧ Below w.heap.size w wr)) (fun v0 _ => strSize v0)
 case atStart => exact ⟨s, [], rfl, Nat.le_refl _, hid_mk (by simp), HD, hI⟩
 case round =>
  obtain ⟨x, acc, rfl, hxs, hacc, hd, HW⟩ := hrel
  clear HD hI
  go_wp2_with fail
  refine (Tryz.strings_IndexByte x 38 wr).mono ?_
  rintro e w1 ⟨rfl, hw1⟩
  have hw1 := hw1.symm
  subst hw1
  have hge := Lib.indexByte_ge (sl x) 38
  have hno := @Lib.indexByte_none (sl x) 38
  have hso := @Lib.indexByte_some (sl x) 38
  rw [show (x.data.toList) = sl x from rfl, show (38 : Int).toNat.toUInt8 = (38 : UInt8) from rfl]
  generalize Lib.indexByte (sl x) 38 = ix at *
  by_cases hix : ix = -1
  ·subst hix
   have hn := hno rfl
   have hsame : decL (sl x) attr = sl x := by
    have := decL_skip attr [] (sl x) (fun c hc h38 => by
     obtain ⟨k, hk, rfl⟩ := List.mem_iff_getElem.1 hc
     exact hn k (by rw [List.getElem?_eq_getElem hk]; congr 1; exact UInt8.toNat_inj.1 h38))
    rw [List.append_nil, decL_nil, List.append_nil] at this
    exact this
   have hd2 := hid_mk (hd.out.trans (by rw [hsame]))
   clear hno hso hge hn hsame hd
   go_wp2_with fail
   refine (writeBytes_any w.heap.size w.heap.size acc x wr HW.out.1 (by have := hacc.out; omega) HW.out.2.size).mono ?_
   rintro e w2 ⟨rfl, hB2, hb2, _⟩
   have HW2 := hid_mk (And.intro hB2 (HW.out.2.trans hb2))
   clear hB2 hb2 HW
   go_wp2_with fail
   refine (Tryz.Builder_String_any_f w.heap.size w.heap.size _ w2 HW2.out.1 HW2.out.2.size).mono ?_
   rintro e w3 ⟨rfl, _, hb3⟩
   have HW3 := hid_mk (HW2.out.2.trans hb3)
   clear hb3 HW2
   go_wp2
   go_ret
   rw [hd2.out]
   exact ⟨rfl, Next.of HT.out HW3.out⟩
  ·obtain ⟨k, rfl⟩ : ∃ k : Nat, ix = (k : Int) := ⟨ix.toNat, by omega⟩
   obtain ⟨hk1, hk2⟩ := hso rfl
   have hk : k < x.size := by
    have := (List.getElem?_eq_some_iff.1 hk1).1
    rwa [len_sl] at this
   have hsk : decL (sl x) attr = (sl x).take k ++ decL ((sl x).drop k) attr := by
    have := decL_skip attr ((sl x).drop k) ((sl x).take k) (fun c hc h38 => by
     obtain ⟨j, hj, rfl⟩ := List.mem_iff_getElem.1 hc
     rw [List.length_take, len_sl] at hj
     rw [List.getElem_take] at h38
     exact hk2 j (by omega) (by rw [List.getElem?_eq_getElem (by rw [len_sl]; omega)]; congr 1; exact UInt8.toNat_inj.1 h38))
    rwa [List.take_append_drop] at this
   have h38 : atL ((sl x).drop k) 0 = 38 := by
    rw [atL_drop, Nat.add_zero]
    unfold atL
    rw [hk1]
    rfl
   obtain ⟨y, hy⟩ : ∃ y, y = x.extract k x.size := ⟨_, rfl⟩
   obtain ⟨z, hz⟩ : ∃ z, z = x.extract 0 k := ⟨_, rfl⟩
   have hys : sl y = (sl x).drop k := by rw [hy]; exact sl_extract x k
   have hyz : y.size = x.size - k := by rw [hy]; exact size_extract x k
   have hzs : sl z = (sl x).take k := by
    have := sl_cut x 0 k
    rw [Nat.zero_add, List.drop_zero] at this
    rw [hz, this]
   have hzz : z.size = k := by
    rw [← len_sl, hzs, List.length_take, len_sl]
    omega
   rw [← hys] at hsk h38
   rw [← hzs] at hsk
   have hd2 := hid_mk (hd.out.trans (by rw [hsk, ← List.append_assoc]))
   have hac := hid_mk (show (acc ++ sl z).length ≤ 4 * (s.size - x.size) + k by
    rw [List.length_append, len_sl, hzz]
    have := hacc.out
    omega)
   have HYZ := hid_mk hyz
   have hyle : y.size ≤ x.size := by omega
   have hypos : 0 < y.size := by omega
   have HY := hid_mk hy.symm
   have HZ := hid_mk hz.symm
   have hk' : (k : Int) < (x.size : Int) := by omega
   have hk'' : (k : Int) ≤ (x.size : Int) := by omega
   have hk0 : (0 : Int) ≤ (k : Int) := by omega
   have hwz := hid_mk (writeBytes_any w.heap.size w.heap.size acc z wr HW.out.1 (by rw [hzz]; have := hacc.out; omega) HW.out.2.size)
   have hix' : ¬ (k : Int) < 0 := by omega
   clear hno hso hge hk1 hk2 hsk hys hzs hzz hd hacc hix hy hz hyz
   go_wp2_with fail
   rw [HZ.out]
   refine hwz.out.mono ?_
   rintro e w2 ⟨rfl, hB2, hb2, _⟩
   have HW2 := hid_mk (And.intro hB2 (HW.out.2.trans hb2))
   clear hB2 hb2 hwz HW HZ
   go_wp2_with fail
   rw [HY.out]
   refine (find_any y (by omega) attr w2 (HT.out.below HW2.out.2)).mono ?_
   rintro e w3 ⟨rfl, hn3⟩
   have HW3 := hid_mk (And.intro (builder_below HW2.out.1 hn3.1) (HW2.out.2.trans (hn3.1.mono HW2.out.2.size)))
   clear hn3 HW2
   cases hf : findL (sl y) attr with
   | none =>
     have hdn : decL (sl y) attr = 38 :: decL ((sl y).drop 1) attr := by
      have hl := atL_pos (l := sl y) (k := 0) (by omega)
      cases hsy : sl y with
      | nil => rw [hsy] at hl; simp at hl
      | cons c l =>
        rw [hsy] at hf h38
        rw [decL_none hf]
        have : c = 38 := UInt8.toNat_inj.1 h38
        rw [this]
        rfl
     have hy1 : 1 ≤ y.size := by omega
     have hy1' : (1 : Int) ≤ (y.size : Int) := by omega
     have hd3 := hid_mk (show D = (acc ++ sl z ++ Lib.encodeRune 38) ++ decL (sl (y.extract 1 y.size)) attr by
      rw [hd2.out, hdn, sl_extract]
      simp [Lib.encodeRune, Lib.encodeRuneZ_one])
     have hsz1' := size_extract y 1
     have hac3 := hid_mk (show (acc ++ sl z ++ Lib.encodeRune 38).length ≤ 4 * (s.size - (y.extract 1 y.size).size) by
      have h1 := hac.out
      have h3 := HYZ.out
      have h2 := (enc_le 38).2
      rw [List.length_append, hsz1']
      omega)
     have hsz1 := hid_mk hsz1'
     clear hsz1'
     unfold resV
     simp only
     clear hd2 hdn hf h38
     go_wp2_with fail
     refine (string_one w3 38 (0, 0)).mono ?_
     rintro e w4 ⟨rfl, rfl⟩
     have hb4 := hid_mk (show Lib.IsBuilderF 78 5 w.heap.size w.heap.size (Lib.byteCells (acc ++ sl z)) (w3.alloc (.cells #[.int .i32 38] 21)) ∧ Below w.heap.size w (w3.alloc (.cells #[.int .i32 38] 21)) from
      ⟨builder_below HW3.out.1 ((Below.refl _ _).alloc (Nat.le_refl _) _), HW3.out.2.alloc HW3.out.2.size _⟩)
     generalize w3.alloc (.cells #[.int .i32 38] 21) = w5 at *
     have hl4 := (enc_le 38).2
     have hlz := hac.out
     have hws := hid_mk (writeString_any w.heap.size w.heap.size (acc ++ sl z) (Lib.encodeRune 38) w5 hb4.out.1 (by omega) hb4.out.2.size)
     clear hl4 hlz HW3 hac
     go_wp2_with fail
     refine hws.out.mono ?_
     rintro e w6 ⟨rfl, hB6, hb6, _⟩
     have HW6 := hid_mk (And.intro hB6 (hb4.out.2.trans hb6))
     clear hB6 hb6 hws hb4
     generalize acc ++ sl z ++ Lib.encodeRune 38 = acc2 at *
     go_wp2
     go_roundw
     case rel => exact ⟨_, acc2, rfl, by rw [hsz1.out]; omega, hac3, hd3, HW6⟩
     case measure =>
      simp only [strSize]
      have := hsz1.out
      simp
      omega
   | some p =>
     have hp := findL_le hf
     rw [len_sl] at hp
     have hdn := decL_some hf
     obtain ⟨r, n⟩ := p
     simp only at hp hdn
     obtain ⟨hp1, hp2, hp3⟩ := hp
     have hy1 : n ≤ y.size := hp2
     have hy1' : (n : Int) ≤ (y.size : Int) := by omega
     have hn0 : (0 : Int) ≤ (n : Int) := by omega
     have hd3 := hid_mk (show D = (acc ++ sl z ++ Lib.encodeRune (r : Int)) ++ decL (sl (y.extract n y.size)) attr by
      rw [hd2.out, hdn, sl_extract]
      simp)
     have hsz1' := size_extract y n
     have hac3 := hid_mk (show (acc ++ sl z ++ Lib.encodeRune (r : Int)).length ≤ 4 * (s.size - (y.extract n y.size).size) by
      have h1 := hac.out
      have h3 := HYZ.out
      have h2 := (enc_le (r : Int)).2
      rw [List.length_append, hsz1']
      omega)
     have hsz1 := hid_mk hsz1'
     clear hsz1'
     unfold resV
     simp only
     clear hd2 hdn hf h38 hp3
     go_wp2_with fail
     refine (string_one w3 (r : Int) (0, 0)).mono ?_
     rintro e w4 ⟨rfl, rfl⟩
     have hb4 := hid_mk (show Lib.IsBuilderF 78 5 w.heap.size w.heap.size (Lib.byteCells (acc ++ sl z)) (w3.alloc (.cells #[.int .i32 (r : Int)] 21)) ∧ Below w.heap.size w (w3.alloc (.cells #[.int .i32 (r : Int)] 21)) from
      ⟨builder_below HW3.out.1 ((Below.refl _ _).alloc (Nat.le_refl _) _), HW3.out.2.alloc HW3.out.2.size _⟩)
     generalize w3.alloc (.cells #[.int .i32 (r : Int)] 21) = w5 at *
     have hl4 := (enc_le (r : Int)).2
     have hlz := hac.out
     have hws := hid_mk (writeString_any w.heap.size w.heap.size (acc ++ sl z) (Lib.encodeRune (r : Int)) w5 hb4.out.1 (by omega) hb4.out.2.size)
     clear hl4 hlz HW3 hac
     go_wp2_with fail
     refine hws.out.mono ?_
     rintro e w6 ⟨rfl, hB6, hb6, _⟩
     have HW6 := hid_mk (And.intro hB6 (hb4.out.2.trans hb6))
     clear hB6 hb6 hws hb4
     generalize acc ++ sl z ++ Lib.encodeRune (r : Int) = acc2 at *
     go_wp2
     go_roundw
     case rel => exact ⟨_, acc2, rfl, by rw [hsz1.out]; omega, hac3, hd3, HW6⟩
     case measure =>
      simp only [strSize]
      have := hsz1.out
      simp
      omega
end Go.Proofs.YtlcijlklbabajaaGreatDoor
