/-
  The kinds of elements as the document lists them, plain: words with blanks between. No Go in sight.
-/
import Derived.Test.YtlcijlklbabajaaGreatDoorQTBPl
import Derived.Test.YtlcijlklbabajaaGreatDoorQTText
namespace Go.Proofs.YtlcijlklbabajaaGreatDoor
def wdHd (l : List UInt8) : List UInt8 := l.takeWhile fun c => c != 32
def wdTl (l : List UInt8) : List UInt8 := (l.dropWhile fun c => c != 32).drop 1
def wordsN : Nat → List UInt8 → List (List UInt8)
 | 0, _ => []
 | n + 1, l => if l = [] then [] else wdHd l :: wordsN n (wdTl l)
theorem wdHd_le (l : List UInt8) : (wdHd l).length ≤ l.length := by
 unfold wdHd
 exact (List.takeWhile_prefix _).length_le
theorem wdTl_eq (l : List UInt8) : wdTl l = l.drop ((wdHd l).length + 1) := by
 unfold wdTl wdHd
 have h : l.dropWhile (fun c => c != 32) = l.drop (l.takeWhile fun c => c != 32).length := by
  have e := List.takeWhile_append_dropWhile (p := fun c => c != 32) (l := l)
  have e2 := congrArg (List.drop (l.takeWhile fun c => c != 32).length) e
  rw [List.drop_left] at e2
  exact e2
 rw [h, List.drop_drop]
theorem wdHd_eq (l : List UInt8) : wdHd l = l.take (wdHd l).length := by
 unfold wdHd
 exact (List.prefix_iff_eq_take.1 (List.takeWhile_prefix _))
theorem wdHd_in (l : List UInt8) (j : Nat) (h : j < (wdHd l).length) : atL l j ≠ 32 := by
 have h1 : (wdHd l)[j]? = l[j]? := by
  conv => lhs; rw [wdHd_eq]
  rw [List.getElem?_take, if_pos h]
 have hm : (wdHd l)[j] ∈ wdHd l := List.getElem_mem h
 have hp : ((wdHd l)[j] != 32) = true := List.all_eq_true.1 (List.all_takeWhile (p := fun c => c != 32) (l := l)) _ hm
 unfold atL
 rw [← h1, List.getElem?_eq_getElem h]
 simp only [Option.getD_some]
 intro he
 have : (wdHd l)[j] = 32 := UInt8.toNat_inj.1 he
 rw [this] at hp
 exact absurd hp (by decide)
theorem wdHd_end : ∀ (l : List UInt8), (wdHd l).length < l.length → atL l (wdHd l).length = 32
 | [], h => by simp at h
 | c :: t, h => by
   unfold wdHd at h ⊢
   rw [List.takeWhile_cons] at h ⊢
   by_cases hc : (c != 32) = true
   ·rw [if_pos hc] at h ⊢
    simp only [List.length_cons] at h ⊢
    have := wdHd_end t (by unfold wdHd; omega)
    unfold wdHd at this
    unfold atL at this ⊢
    rw [List.getElem?_cons_succ]
    exact this
   ·rw [if_neg hc] at h ⊢
    have : c = 32 := by simpa using hc
    subst this
    rfl
theorem wordsN_fuel : ∀ (n : Nat) (l : List UInt8), l.length ≤ n → wordsN n l = wordsN l.length l
 | 0, l, h => by
   have : l = [] := List.eq_nil_of_length_eq_zero (by omega)
   subst this
   rfl
 | n + 1, [], _ => by simp [wordsN]
 | n + 1, c :: t, h => by
   rw [show (c :: t).length = t.length + 1 from rfl]
   unfold wordsN
   rw [if_neg (by simp), if_neg (by simp)]
   have hl : (wdTl (c :: t)).length ≤ t.length := by rw [wdTl_eq, List.length_drop]; simp
   rw [wordsN_fuel n _ (by simp at h; omega), wordsN_fuel t.length _ hl]
def wordsL (l : List UInt8) : List (List UInt8) := wordsN l.length l
theorem wordsL_nil : wordsL [] = [] := rfl
theorem wordsL_step (l : List UInt8) (h : l ≠ []) : wordsL l = wdHd l :: wordsL (l.drop ((wdHd l).length + 1)) := by
 unfold wordsL
 cases l with
 | nil => exact absurd rfl h
 | cons c t =>
   rw [show (c :: t).length = t.length + 1 from rfl]
   rw [show wordsN (t.length + 1) (c :: t) = wdHd (c :: t) :: wordsN t.length (wdTl (c :: t)) by rw [wordsN, if_neg (by simp)]]
   rw [wordsN_fuel t.length _ (by rw [wdTl_eq, List.length_drop]; simp), wdTl_eq]
def divsL : List UInt8 := [100, 105, 118, 32, 117, 108, 32, 111, 108, 32, 115, 101, 99, 116, 105, 111, 110, 32, 97, 114, 116, 105, 99, 108, 101, 32, 104, 101, 97, 100, 101, 114, 32, 102, 111, 111, 116, 101, 114, 32, 109, 97, 105, 110, 32, 110, 97, 118, 32, 97, 115, 105, 100, 101, 32, 98, 108, 111, 99, 107, 113, 117, 111, 116, 101, 32, 102, 105, 103, 117, 114, 101]
def headsL : List UInt8 := [104, 49, 32, 104, 50, 32, 104, 51, 32, 104, 52, 32, 104, 53, 32, 104, 54]
def inlsL : List UInt8 := [115, 112, 97, 110, 32, 98, 32, 105, 32, 101, 109, 32, 115, 116, 114, 111, 110, 103, 32, 117, 32, 115, 32, 115, 109, 97, 108, 108, 32, 99, 111, 100, 101, 32, 98, 100, 105, 32, 98, 100, 111, 32, 97, 98, 98, 114, 32, 99, 105, 116, 101, 32, 113, 32, 115, 117, 98, 32, 115, 117, 112, 32, 109, 97, 114, 107]
def kindR (w : List UInt8) : Nat :=
 if w = [] then 0 else if (wordsL divsL).contains w then 1 else if w = [112] then 2 else if w = [108, 105] then 3
 else if (wordsL headsL).contains w then 4 else if (wordsL inlsL).contains w then 5 else if w = [97] then 6
 else if w = [98, 114] ∨ w = [119, 98, 114] then 7 else if w = [104, 114] then 8 else 0
set_option maxRecDepth 100000 in
theorem kindR_tab : ∀ p ∈ kindTab, kindR p.1 = p.2 := by decide +kernel
set_option maxRecDepth 100000 in
theorem keysD : ∀ x ∈ wordsL divsL ++ wordsL headsL ++ wordsL inlsL ++ [[112], [108, 105], [97], [98, 114], [119, 98, 114], [104, 114]], x ∈ kindTab.map (·.1) := by decide +kernel
theorem kindR_eq (w : List UInt8) : kindR w = kindL w := by
 by_cases h : w ∈ kindTab.map (·.1)
 ·obtain ⟨p, hp, rfl⟩ := List.mem_map.1 h
  rw [kindR_tab p hp, kindL_tab p hp]
 ·have hn : kindL w = 0 := by
   unfold kindL
   rw [List.find?_eq_none.2 (fun p hp he => h (List.mem_map.2 ⟨p, hp, by simpa using he⟩))]
   rfl
  have key : ∀ x ∈ wordsL divsL ++ wordsL headsL ++ wordsL inlsL ++ [[112], [108, 105], [97], [98, 114], [119, 98, 114], [104, 114]], x ≠ w := fun x hx e => h (e ▸ keysD x hx)
  simp only [List.mem_append, List.mem_cons, List.not_mem_nil, or_false] at key
  have c1 : (wordsL divsL).contains w = false := by rw [Bool.eq_false_iff]; intro e; exact key w (by simp [List.contains_iff_mem.1 e]) rfl
  have c2 : (wordsL headsL).contains w = false := by rw [Bool.eq_false_iff]; intro e; exact key w (by simp [List.contains_iff_mem.1 e]) rfl
  have c3 : (wordsL inlsL).contains w = false := by rw [Bool.eq_false_iff]; intro e; exact key w (by simp [List.contains_iff_mem.1 e]) rfl
  have d1 : w ≠ [112] := fun e => key [112] (by simp) e.symm
  have d2 : w ≠ [108, 105] := fun e => key [108, 105] (by simp) e.symm
  have d3 : w ≠ [97] := fun e => key [97] (by simp) e.symm
  have d4 : w ≠ [98, 114] := fun e => key [98, 114] (by simp) e.symm
  have d5 : w ≠ [119, 98, 114] := fun e => key [119, 98, 114] (by simp) e.symm
  have d6 : w ≠ [104, 114] := fun e => key [104, 114] (by simp) e.symm
  rw [hn]
  unfold kindR
  rw [c1, c2, c3, if_neg d1, if_neg d2, if_neg d3, if_neg (show ¬(w = [98, 114] ∨ w = [119, 98, 114]) from fun e => e.elim d4 d5), if_neg d6]
  simp
end Go.Proofs.YtlcijlklbabajaaGreatDoor
namespace Go.Proofs.YtlcijlklbabajaaGreatDoor
open Go.RowKit
set_option maxHeartbeats 2000000 in
set_option maxRecDepth 100000 in
theorem among_any (s l : ByteArray) (w : World) (hl : l.size ≤ 1000000) :
 Calls Tryz.prog 87 #[.string s, .string l] w fun e w' => e = .returned (.bool ((wordsL (sl l)).contains (sl s))) ∧ w = w' := by
 obtain ⟨R, hR⟩ : ∃ R, R = (wordsL (sl l)).contains (sl s) := ⟨_, rfl⟩
 rw [← hR]
 have HR := hid_mk hR
 clear hR
 have hll := len_sl l
 have HLL := hid_mk hll
 clear hll
 go_enter Tryz.func87, Tryz.ntmps87
 go_wp2_with fail
 go_loop [5, 6] (fun v _ => ∃ i : Nat, i ≤ l.size + 1 ∧ v = .int .i64 (i : Int) ∧ Hid (R = (wordsL ((sl l).drop i)).contains (sl s))) (fun v _ => l.size + 1 - (intOf v).toNat)
 case atStart => exact ⟨0, by omega, rfl, hid_mk (by rw [HR.out, List.drop_zero])⟩
 case round =>
  obtain ⟨i, hi, rfl, hI⟩ := hrel
  by_cases hlt : i < l.size
  ·have hlti : (i : Int) < (l.size : Int) := by omega
   obtain ⟨m, hm⟩ : ∃ m, m = (wdHd ((sl l).drop i)).length := ⟨_, rfl⟩
   have hml : i + m ≤ l.size := by
    have := wdHd_le ((sl l).drop i)
    rw [List.length_drop, HLL.out] at this
    omega
   have HIN := hid_mk (fun j (hj : j < m) => wdHd_in ((sl l).drop i) j (by rw [← hm]; exact hj))
   have HEND := hid_mk (show i + m < l.size → atL ((sl l).drop i) m = 32 from fun hj => by have := wdHd_end ((sl l).drop i) (by rw [← hm, List.length_drop, HLL.out]; omega); rw [← hm] at this; exact this)
   have HM := hid_mk hm
   have HST := hid_mk (show R = ((wdHd ((sl l).drop i) == sl s) || (wordsL ((sl l).drop (i + m + 1))).contains (sl s)) by
    rw [hI.out, wordsL_step _ (by intro e; have := congrArg List.length e; rw [List.length_drop, HLL.out] at this; simp at this; omega), List.drop_drop, List.contains_cons, ← hm, show i + (m + 1) = i + m + 1 by omega]
    rw [Bool.beq_comm])
   clear hm hI
   go_wp2_with fail
   go_loop [6] (fun v => ∃ j : Nat, j ≤ m ∧ v = .int .i64 ((i + j : Nat) : Int)) (fun v => i + m - (intOf v).toNat)
   case atStart => exact ⟨0, by omega, rfl⟩
   case round =>
    obtain ⟨j, hj, rfl⟩ := hrel
    obtain ⟨q, hq⟩ : ∃ q, q = i + j := ⟨_, rfl⟩
    rw [← hq]
    by_cases hjm : j < m
    ·have hql : q < l.size := by omega
     have hqi : (q : Int) < (l.size : Int) := by omega
     have hb := HIN.out j hjm
     rw [atL_drop, ← hq, ← byte_atL l q hql] at hb
     have hb1 : (((l[q]'hql).toNat : Int) == 32) = false := beq_false_of_ne (by omega)
     have hb2 : (((l[q]'hql).toNat : Int) != 32) = true := by rw [bne, hb1]; rfl
     have HQ := hid_mk hq
     clear hb hq
     go_wp2_with fail
     all_goals
      go_round
      case rel => exact ⟨j + 1, by omega, by rw [show i + (j + 1) = q + 1 by have := HQ.out; omega]; go_num⟩
      case measure => have := HQ.out; simp [intOf]; omega
    ·have hjm' : j = m := by omega
     subst hjm'
     have hsl := sl_cut l i j
     have HC := hid_mk (show (l.extract i q).toList = wdHd ((sl l).drop i) by
      rw [Lib.toList_data]
      show sl (l.extract i q) = _
      rw [hq, hsl, HM.out]
      exact (wdHd_eq _).symm)
     obtain ⟨b, hbb⟩ : ∃ b, b = (wdHd ((sl l).drop i) == sl s) := ⟨_, rfl⟩
     rw [← hbb] at HST
     have hcmp : ((l.extract i q).toList == s.toList) = b := by rw [HC.out, hbb, Lib.toList_data]; rfl
     have hqn : ((q : Nat) : Int).toNat = q := by omega
     have hqle : (i : Int) ≤ (q : Int) := by omega
     have hqll : (q : Int) ≤ (l.size : Int) := by omega
     have HQ := hid_mk hq
     clear hsl hbb
     by_cases hql : q < l.size
     ·have hqi : (q : Int) < (l.size : Int) := by omega
      have hb := HEND.out (by omega)
      rw [atL_drop, ← hq, ← byte_atL l q hql] at hb
      have hb1 : (((l[q]'hql).toNat : Int) == 32) = true := by rw [hb]; rfl
      have hb2 : (((l[q]'hql).toNat : Int) != 32) = false := by rw [bne, hb1]; rfl
      clear hb hq
      cases b with
      | true =>
        have HE := hid_mk (show R = true by rw [HST.out]; rfl)
        go_wp2_with fail
        go_ret
        rw [HE.out]
        exact ⟨rfl, rfl⟩
      | false =>
        go_wp2_with fail
        go_round
        case rel => exact ⟨q + 1, by omega, by go_num, by rw [HST.out, HQ.out, Bool.false_or]; exact hid_mk rfl⟩
        case measure => simp [intOf]; omega
     ·have hqi : ¬ (q : Int) < (l.size : Int) := by omega
      clear hq
      cases b with
      | true =>
        have HE := hid_mk (show R = true by rw [HST.out]; rfl)
        go_wp2_with fail
        go_ret
        rw [HE.out]
        exact ⟨rfl, rfl⟩
      | false =>
        go_wp2_with fail
        go_round
        case rel => exact ⟨q + 1, by omega, by go_num, by rw [HST.out, HQ.out, Bool.false_or]; exact hid_mk rfl⟩
        case measure => simp [intOf]; omega
  ·have hlti : ¬ (i : Int) < (l.size : Int) := by omega
   have HE := hid_mk (show R = false by
    rw [hI.out, List.drop_eq_nil_of_le (by rw [HLL.out]; omega), wordsL_nil]
    rfl)
   go_wp2_with fail
   go_ret
   rw [HE.out]
   exact ⟨rfl, rfl⟩
theorem ret_int {k : IntKind} {a b : Int} (h : a = b) : Ending.returned (.int k a) = .returned (.int k b) := by rw [h]
def kindB (b0 b1 b2 b3 b4 b5 b6 b7 b8 b9 : Bool) : Nat := if b0 then 0 else if b1 then 1 else if b2 then 2 else if b3 then 3 else if b4 then 4 else if b5 then 5 else if b6 then 6 else if b7 || b8 then 7 else if b9 then 8 else 0
theorem kindR_B (w : List UInt8) : kindR w = kindB w.isEmpty ((wordsL divsL).contains w) (w == [112]) (w == [108, 105]) ((wordsL headsL).contains w) ((wordsL inlsL).contains w) (w == [97]) (w == [98, 114]) (w == [119, 98, 114]) (w == [104, 114]) := by
 unfold kindR kindB
 simp only [List.isEmpty_iff, beq_iff_eq, Bool.or_eq_true]
set_option maxHeartbeats 2000000 in
set_option maxRecDepth 100000 in
theorem refKind_any (s : ByteArray) (w : World) :
 Calls Tryz.prog 50 #[.string s] w fun e w' => e = .returned (.int .u8 (kindL (sl s) : Int)) ∧ w = w' := by
 have ha1 := hid_mk (fun w => among_any s (strOf divsL) w (by rw [size_strOf]; decide))
 have ha2 := hid_mk (fun w => among_any s (strOf headsL) w (by rw [size_strOf]; decide))
 have ha3 := hid_mk (fun w => among_any s (strOf inlsL) w (by rw [size_strOf]; decide))
 simp only [sl_strOf] at ha1 ha2 ha3
 have HK := hid_mk ((kindR_eq (sl s)).symm.trans (kindR_B (sl s)))
 rw [HK.out]
 have hsl : s.toList = sl s := Lib.toList_data s
 have q0 : s.toList.isEmpty = (sl s).isEmpty := by rw [hsl]
 have q0' : (⟨#[]⟩ : ByteArray).toList = [] := by rw [Lib.toList_data]
 have q2 : (s.toList == [112]) = (sl s == [112]) := by rw [hsl]
 have q3 : (s.toList == [108, 105]) = (sl s == [108, 105]) := by rw [hsl]
 have q6 : (s.toList == [97]) = (sl s == [97]) := by rw [hsl]
 have q7 : (s.toList == [98, 114]) = (sl s == [98, 114]) := by rw [hsl]
 have q8 : (s.toList == [119, 98, 114]) = (sl s == [119, 98, 114]) := by rw [hsl]
 have q9 : (s.toList == [104, 114]) = (sl s == [104, 114]) := by rw [hsl]
 clear hsl HK
 generalize (sl s).isEmpty = b0 at *
 generalize (wordsL divsL).contains (sl s) = b1 at *
 generalize (sl s == [112]) = b2 at *
 generalize (sl s == [108, 105]) = b3 at *
 generalize (wordsL headsL).contains (sl s) = b4 at *
 generalize (wordsL inlsL).contains (sl s) = b5 at *
 generalize (sl s == [97]) = b6 at *
 generalize (sl s == [98, 114]) = b7 at *
 generalize (sl s == [119, 98, 114]) = b8 at *
 generalize (sl s == [104, 114]) = b9 at *
 have e1 := hid_mk (show (⟨#[100, 105, 118, 32, 117, 108, 32, 111, 108, 32, 115, 101, 99, 116, 105, 111, 110, 32, 97, 114, 116, 105, 99, 108, 101, 32, 104, 101, 97, 100, 101, 114, 32, 102, 111, 111, 116, 101, 114, 32, 109, 97, 105, 110, 32, 110, 97, 118, 32, 97, 115, 105, 100, 101, 32, 98, 108, 111, 99, 107, 113, 117, 111, 116, 101, 32, 102, 105, 103, 117, 114, 101]⟩ : ByteArray) = strOf divsL from rfl)
 have e2 := hid_mk (show (⟨#[104, 49, 32, 104, 50, 32, 104, 51, 32, 104, 52, 32, 104, 53, 32, 104, 54]⟩ : ByteArray) = strOf headsL from rfl)
 have e3 := hid_mk (show (⟨#[115, 112, 97, 110, 32, 98, 32, 105, 32, 101, 109, 32, 115, 116, 114, 111, 110, 103, 32, 117, 32, 115, 32, 115, 109, 97, 108, 108, 32, 99, 111, 100, 101, 32, 98, 100, 105, 32, 98, 100, 111, 32, 97, 98, 98, 114, 32, 99, 105, 116, 101, 32, 113, 32, 115, 117, 98, 32, 115, 117, 112, 32, 109, 97, 114, 107]⟩ : ByteArray) = strOf inlsL from rfl)
 go_enter Tryz.func50, Tryz.ntmps50
 go_wp2_with (first
  | (rw [e1.out]; (with_reducible refine (ha1.out _).mono ?_); rintro e w' ⟨rfl, rfl⟩)
  | (rw [e2.out]; (with_reducible refine (ha2.out _).mono ?_); rintro e w' ⟨rfl, rfl⟩)
  | (rw [e3.out]; (with_reducible refine (ha3.out _).mono ?_); rintro e w' ⟨rfl, rfl⟩))
 all_goals
  go_ret
  refine ⟨ret_int ?_, rfl⟩
  clear ha1 ha2 ha3 e1 e2 e3 q0 q2 q3 q6 q7 q8 q9
  simp_all [kindB]
end Go.Proofs.YtlcijlklbabajaaGreatDoor
