/-
  Package tree's rightDocument, rightData, rightName, rightText, hasName. Conditions: sizes are bounded; the world holds Go's own tables.
-/
import Derived.Test.YtlcijlklbabajaaGreatDoorQRPsm
import Derived.Test.YtlcijlklbabajaaGreatDoorQPlNum
import Derived.Test.YtlcijlklbabajaaGreatDoorQKKind
import Derived.Test.YtlcijlklbabajaaGreatDoorQShelf
namespace Go.Proofs.YtlcijlklbabajaaGreatDoor.R
open Go.RowKit
def TabV (w : World) : Prop := Lib.Utf8Tabs 1 2 w
theorem TabV.below {w w' : World} (h : TabV w) (hb : Below w.heap.size w w') : TabV w' := Go.Proofs.Utf8Tabs_below h hb
set_option maxHeartbeats 1000000 in
set_option maxRecDepth 100000 in
theorem rightDocument_any (n : Nx) (a : Option Addr) (c : Nat) (kv : Value) (w : World) :
 Calls Tryz.prog 46 #[.agg #[.int .u8 (n.kind : Int), .string (strOf n.name), .slice a n.attrs.length c, .string (strOf n.data), .int .i64 n.up, kv]] w fun e w' => e = .returned (.bool (docX n)) ∧ Below w.heap.size w w' := by
 obtain ⟨R, hR⟩ : ∃ R, R = docX n := ⟨_, rfl⟩
 rw [← hR]
 have q1 : ((n.kind : Int) == 0) = (n.kind == 0) := by rw [Bool.eq_iff_iff]; simp
 have q3 : (strOf n.name).toList.isEmpty = (n.name == []) := by rw [toList_strOf]; cases n.name <;> rfl
 have q4 : ((n.attrs.length : Int) == 0) = (n.attrs.length == 0) := by rw [Bool.eq_iff_iff]; simp
 have q5 : (strOf n.data).toList.isEmpty = (n.data == []) := by rw [toList_strOf]; cases n.data <;> rfl
 have q0 : (⟨#[]⟩ : ByteArray).toList = [] := by rw [Lib.toList_data]
 have HR := hid_mk (show R = ((n.kind == 0) && (n.up == -1) && (n.name == []) && (n.attrs.length == 0) && (n.data == [])) from hR)
 clear hR
 generalize (n.kind == 0) = b1 at *
 generalize hb2 : (n.up == -1) = b2 at *
 generalize (n.name == []) = b3 at *
 generalize (n.attrs.length == 0) = b4 at *
 generalize (n.data == []) = b5 at *
 go_enter Tryz.func46, Tryz.ntmps46
 cases b1
 all_goals cases b2
 all_goals cases b3
 all_goals cases b4
 all_goals cases b5
 all_goals
  go_wp2_with fail
  go_ret
  rw [HR.out]
  exact ⟨rfl, (Below.refl _ _).alloc (Nat.le_refl _) _⟩
set_option maxHeartbeats 1000000 in
set_option maxRecDepth 100000 in
theorem rightData_any (s : ByteArray) (w : World) (hT : TabV w) (hs : s.size ≤ 1000000000) :
 Calls Tryz.prog 129 #[.string s] w fun e w' => e = .returned (.bool (dataX (sl s))) ∧ Below w.heap.size w w' := by
 have hv := hid_mk (Tryz.utf8_ValidString s w (by omega) hT)
 have hib := hid_mk (fun w => Tryz.strings_IndexByte s 0 w)
 rw [show (0 : Int).toNat.toUInt8 = (0 : UInt8) from rfl, show s.data.toList = sl s from rfl] at hib
 rw [show s.data.toList = sl s from rfl] at hv
 obtain ⟨R, hR⟩ : ∃ R, R = dataX (sl s) := ⟨_, rfl⟩
 rw [← hR]
 have HR := hid_mk (show R = (Lib.validD (sl s) && decide (Lib.indexByte (sl s) 0 < 0)) from hR)
 clear hR hT
 generalize Lib.indexByte (sl s) 0 = ix at *
 cases hvd : Lib.validD (sl s) with
 | false =>
   rw [hvd] at hv HR
   clear hvd
   go_enter Tryz.func129, Tryz.ntmps129
   go_wp2_with fail
   (with_reducible refine hv.out.mono ?_)
   rintro e w1 ⟨rfl, hb⟩
   have HB := hid_mk hb
   clear hb
   go_wp2_with fail
   go_ret
   rw [HR.out]
   exact ⟨rfl, HB.out⟩
 | true =>
   rw [hvd] at hv HR
   clear hvd
   go_enter Tryz.func129, Tryz.ntmps129
   go_wp2_with fail
   (with_reducible refine hv.out.mono ?_)
   rintro e w1 ⟨rfl, hb⟩
   have HB := hid_mk hb
   clear hb
   go_wp2_with fail
   (with_reducible refine (hib.out _).mono ?_)
   rintro e w2 ⟨rfl, hw⟩
   have hw := hw.symm
   subst hw
   go_wp2_with fail
   go_ret
   rw [HR.out]
   exact ⟨rfl, HB.out⟩
theorem all_step {s : List UInt8} {k : Nat} (hk : k < s.length) : (s.take (k + 1)).all nmC = ((s.take k).all nmC && nmC (s.getD k 0)) := by
 rw [List.take_add_one, List.all_append, List.getElem?_eq_getElem hk]
 simp [List.getD, hk]
theorem dec_ascii (l : List UInt8) (h2 : atL l 0 < 128) : U.decL l = (atL l 0, 1) := by
 unfold U.decL U.cutL U.cutN
 rw [if_pos (show U.atL l 0 < 128 from h2)]
 rfl
theorem dec_high (l : List UInt8) (h : 0 < l.length) (h2 : 128 ≤ atL l 0) : 128 ≤ (U.decL l).1 := by
 unfold U.decL
 split
 ·rename_i hok
  show 128 ≤ (U.cutL l).r
  have he := U.cut_enc l h hok
  have hf := U.cut_facts l h
  by_cases hr : 128 ≤ (U.cutL l).r
  ·exact hr
  ·exfalso
   have e1 : Lib.encodeRune (((U.cutL l).r : Nat) : Int) = [UInt8.ofNat (U.cutL l).r] := by
    unfold Lib.encodeRune
    rw [Lib.encodeRuneZ_one (by omega) (by omega)]
    simp
   rw [e1] at he
   have e2 := congrArg (fun x : List UInt8 => x[0]?) he
   simp only [List.getElem?_take, List.getElem?_cons_zero] at e2
   rw [if_pos (by omega)] at e2
   unfold atL at h2
   rw [e2] at h2
   simp at h2
   omega
 ·show 128 ≤ 65533
  omega
theorem nmC_toNat (c : UInt8) : nmC c = ((decide (97 ≤ c.toNat) && decide (c.toNat ≤ 122)) || (decide (48 ≤ c.toNat) && decide (c.toNat ≤ 57)) || decide (c.toNat = 45) || decide (c.toNat = 95)) := by
 unfold nmC
 have e : ∀ d : UInt8, (c == d) = decide (c.toNat = d.toNat) := fun d => by
  rw [Bool.eq_iff_iff]
  simp only [beq_iff_eq, decide_eq_true_eq]
  exact ⟨fun h => by rw [h], fun h => UInt8.toNat_inj.1 h⟩
 rw [e 45, e 95]
 rfl
set_option maxHeartbeats 4000000 in
set_option maxRecDepth 100000 in
theorem rightName_any (s : ByteArray) (w : World) :
 Calls Tryz.prog 130 #[.string s] w fun e w' => e = .returned (.bool (nameX (sl s))) ∧ Below w.heap.size w w' := by
 obtain ⟨R, hR⟩ : ∃ R, R = nameX (sl s) := ⟨_, rfl⟩
 rw [← hR]
 have HR := hid_mk hR
 clear hR
 have HB0 := hid_mk (show Below w.heap.size w (w.iter s 0) from (Below.refl _ _).alloc (Nat.le_refl _) _)
 go_enter Tryz.func130, Tryz.ntmps130
 go_wp2_with fail
 go_loopw [] (fun wr => ∃ pos : Nat, wr.heap[w.heap.size]? = some (.stringIter s pos) ∧ pos ≤ s.size ∧ Hid (((sl s).take pos).all nmC = true) ∧ Hid (Below w.heap.size w wr)) (fun wr => s.size - wr.iterPos w.heap.size)
 case atStart => exact ⟨0, World.iter_heap w s 0, Nat.zero_le _, hid_mk rfl, HB0⟩
 case round =>
  obtain ⟨pos, hit, hps, hall, hbel⟩ := hrel
  by_cases hp : pos < s.size
  ·have hnx : ∀ ty, (Instr.next (.pointer (some ⟨w.heap.size, 0, none⟩)) true ty).run Tryz.prog wr = _ := fun ty => Lib.run_next_any_at wr w.heap.size s pos ty hit hp
   simp only [U.decode_sl] at hnx
   rw [show U.sl s = sl s from rfl] at hnx
   have hb0 : atL ((sl s).drop pos) 0 = (s[pos]'hp).toNat := by rw [atL_drop, Nat.add_zero, byte_atL s pos hp]
   have hstep := all_step (s := sl s) (k := pos) (by rw [len_sl]; exact hp)
   rw [hall.out, Bool.true_and, show (sl s).getD pos 0 = s[pos]'hp from by rw [List.getD_eq_getElem?_getD]; exact congrArg (·.getD 0) (Lib.data_getElem? s pos hp), nmC_toNat] at hstep
   have hlt := byte_lt (s[pos]'hp)
   have hfail : nmC (s[pos]'hp) = false → R = false := fun hf => by
    rw [HR.out]
    unfold nameX
    have : (sl s).all nmC = false := by
     rw [Bool.eq_false_iff]
     intro ha
     have := List.all_eq_true.1 ha (s[pos]'hp) (by rw [List.mem_iff_getElem?]; exact ⟨pos, Lib.data_getElem? s pos hp⟩)
     rw [hf] at this
     cases this
    rw [this, Bool.and_false]
   rw [nmC_toNat] at hfail
   obtain ⟨c, hc⟩ : ∃ c, c = (s[pos]'hp).toNat := ⟨_, rfl⟩
   rw [← hc] at hb0 hstep hlt hfail
   by_cases hasc : c < 128
   ·have hd := dec_ascii ((sl s).drop pos) (by omega)
    rw [hb0] at hd
    rw [hd] at hnx
    have hit2 := hid_mk (Lib.iterAt_heap wr w.heap.size s pos (pos + 1) hit)
    have HB := hid_mk (Lib.below_iterAt hbel.out (Nat.le_refl _) s (pos + 1))
    have hit0 := hid_mk hit
    have HST := hid_mk hstep
    have HFL := hid_mk hfail
    clear hd hb0 hstep hfail hc hit hall hbel
    by_cases e45 : c = 45
    ·have q45 : ((c : Int) == 45) = true := by rw [e45]; rfl
     have hn := hid_mk (show ((sl s).take (pos + 1)).all nmC = true by rw [HST.out, decide_eq_true e45]; simp)
     have k1 : ¬ (97 : Int) ≤ (c : Int) := by omega
     have k2 : ¬ (48 : Int) ≤ (c : Int) := by omega
     clear e45
     go_wp2_with fail
     go_roundw
     case rel => exact ⟨pos + 1, hit2.out, by omega, hn, HB⟩
     case measure => simp only [World.iterPos, hit2.out, hit0.out]; omega
    have q45 : ((c : Int) == 45) = false := beq_false_of_ne (by omega)
    by_cases e95 : c = 95
    ·have q95 : ((c : Int) == 95) = true := by rw [e95]; rfl
     have hn := hid_mk (show ((sl s).take (pos + 1)).all nmC = true by rw [HST.out, decide_eq_true e95]; simp)
     have k1 : ¬ (97 : Int) ≤ (c : Int) := by omega
     have k2 : (48 : Int) ≤ (c : Int) := by omega
     have k3 : ¬ (c : Int) ≤ 57 := by omega
     clear e95
     go_wp2_with fail
     go_roundw
     case rel => exact ⟨pos + 1, hit2.out, by omega, hn, HB⟩
     case measure => simp only [World.iterPos, hit2.out, hit0.out]; omega
    have q95 : ((c : Int) == 95) = false := beq_false_of_ne (by omega)
    by_cases hA : 97 ≤ c ∧ c ≤ 122
    ·have hn := hid_mk (show ((sl s).take (pos + 1)).all nmC = true by rw [HST.out, decide_eq_true hA.1, decide_eq_true hA.2]; simp)
     have k1 : (97 : Int) ≤ (c : Int) := by omega
     have k2 : (c : Int) ≤ 122 := by omega
     clear hA e45 e95
     go_wp2_with fail
     go_roundw
     case rel => exact ⟨pos + 1, hit2.out, by omega, hn, HB⟩
     case measure => simp only [World.iterPos, hit2.out, hit0.out]; omega
    by_cases hB : 48 ≤ c ∧ c ≤ 57
    ·have hn := hid_mk (show ((sl s).take (pos + 1)).all nmC = true by rw [HST.out, decide_eq_true hB.1, decide_eq_true hB.2]; simp)
     have k1 : ¬ (97 : Int) ≤ (c : Int) := by omega
     have k2 : (48 : Int) ≤ (c : Int) := by omega
     have k3 : (c : Int) ≤ 57 := by omega
     clear hA hB e45 e95
     go_wp2_with fail
     go_roundw
     case rel => exact ⟨pos + 1, hit2.out, by omega, hn, HB⟩
     case measure => simp only [World.iterPos, hit2.out, hit0.out]; omega
    have hf := hid_mk (show R = false from HFL.out (by
     have h1 : (decide (97 ≤ c) && decide (c ≤ 122)) = false := by rw [← Bool.decide_and]; exact decide_eq_false hA
     have h2 : (decide (48 ≤ c) && decide (c ≤ 57)) = false := by rw [← Bool.decide_and]; exact decide_eq_false hB
     rw [h1, h2, decide_eq_false e45, decide_eq_false e95]
     rfl))
    by_cases l97 : 97 ≤ c
    ·have k1 : (97 : Int) ≤ (c : Int) := by omega
     have k2 : ¬ (c : Int) ≤ 122 := by omega
     have k3 : (48 : Int) ≤ (c : Int) := by omega
     have k4 : ¬ (c : Int) ≤ 57 := by omega
     clear hA hB e45 e95 l97
     go_wp2_with fail
     go_ret
     rw [hf.out]
     exact ⟨rfl, HB.out⟩
    have k1 : ¬ (97 : Int) ≤ (c : Int) := by omega
    by_cases l48 : 48 ≤ c
    ·have k3 : (48 : Int) ≤ (c : Int) := by omega
     have k4 : ¬ (c : Int) ≤ 57 := by omega
     clear hA hB e45 e95 l97 l48
     go_wp2_with fail
     go_ret
     rw [hf.out]
     exact ⟨rfl, HB.out⟩
    have k3 : ¬ (48 : Int) ≤ (c : Int) := by omega
    clear hA hB e45 e95 l97 l48
    go_wp2_with fail
    go_ret
    rw [hf.out]
    exact ⟨rfl, HB.out⟩
   ·have hd := dec_high ((sl s).drop pos) (by rw [List.length_drop, len_sl]; omega) (by omega)
    generalize (U.decL ((sl s).drop pos)).1 = rr at *
    generalize (U.decL ((sl s).drop pos)).2 = wd at *
    have HFL := hid_mk (hfail (by
     have h1 : decide (c ≤ 122) = false := decide_eq_false (by omega)
     have h2 : decide (c ≤ 57) = false := decide_eq_false (by omega)
     have h3 : decide (c = 45) = false := decide_eq_false (by omega)
     have h4 : decide (c = 95) = false := decide_eq_false (by omega)
     rw [h1, h2, h3, h4, Bool.and_false, Bool.and_false]
     rfl))
    have HB := hid_mk (Lib.below_iterAt hbel.out (Nat.le_refl _) s (pos + wd))
    clear hb0 hstep hfail hc hit hall hbel hasc
    have r1 : ¬ (rr : Int) ≤ 122 := by omega
    have r2 : ¬ (rr : Int) ≤ 57 := by omega
    have r3 : ((rr : Int) == 45) = false := beq_false_of_ne (by omega)
    have r4 : ((rr : Int) == 95) = false := beq_false_of_ne (by omega)
    go_wp2_with fail
    all_goals
     go_ret
     rw [HFL.out]
     exact ⟨rfl, HB.out⟩
  ·have hnx : ∀ ty, (Instr.next (.pointer (some ⟨w.heap.size, 0, none⟩)) true ty).run Tryz.prog wr = _ := fun ty => Lib.run_next_end_at wr w.heap.size s pos ty hit hp
   have HF := hid_mk (show R = (sl s != []) by
    rw [HR.out]
    unfold nameX
    have h2 := hall.out
    rw [List.take_of_length_le (by rw [len_sl]; omega)] at h2
    rw [h2, Bool.and_true])
   have q0 : (⟨#[]⟩ : ByteArray).toList = [] := by rw [Lib.toList_data]
   have q1 : s.toList.isEmpty = (sl s == []) := by rw [Lib.toList_data]; show (sl s).isEmpty = _; cases sl s <;> rfl
   rw [bne] at HF
   generalize (sl s == []) = b at *
   clear hall hit hp
   go_wp2_with fail
   go_ret
   rw [HF.out]
   exact ⟨rfl, hbel.out⟩
end Go.Proofs.YtlcijlklbabajaaGreatDoor.R
namespace Go.Proofs.YtlcijlklbabajaaGreatDoor.R
open Go.RowKit
theorem any_step {l : List (List UInt8 × List UInt8)} {k : Nat} (hk : k < l.length) (s : List UInt8) : (l.take (k + 1)).any (fun a => a.1 == s) = ((l.take k).any (fun a => a.1 == s) || (l[k].1 == s)) := by
 rw [List.take_add_one, List.any_append, List.getElem?_eq_getElem hk]
 simp
set_option maxHeartbeats 2000000 in
set_option maxRecDepth 100000 in
theorem hasName_any (a : Option Addr) (c : Nat) (l : List (List UInt8 × List UInt8)) (n : Nat) (s : ByteArray) (w : World) (h : HasRow w a (l.flatMap atF)) (hn : n ≤ l.length) (hl : l.length ≤ 1000000) :
 Calls Tryz.prog 131 #[.slice a n c, .string s] w fun e w' => e = .returned (.bool ((l.take n).any fun a => a.1 == sl s)) ∧ Below w.heap.size w w' := by
 obtain ⟨R, hR⟩ : ∃ R, R = (l.take n).any (fun a => a.1 == sl s) := ⟨_, rfl⟩
 rw [← hR]
 have HR := hid_mk hR
 have H := hid_mk h
 have HNL := hid_mk (And.intro hn hl)
 have hn2 : n ≤ 1000000 := by omega
 clear hR h hn hl
 go_enter Tryz.func131, Tryz.ntmps131
 go_wp2_with fail
 go_loopw [9] (fun i wr => ∃ k : Nat, k ≤ n ∧ i = .int .i64 k ∧ Hid ((l.take k).any (fun a => a.1 == sl s) = false) ∧ Hid (Below w.heap.size w wr)) (fun i _ => n - (intOf i).toNat)
 case atStart => exact ⟨0, Nat.zero_le _, rfl, hid_mk rfl, hid_mk (Below.refl _ _)⟩
 case round =>
  obtain ⟨k, hk, rfl, hno, hW⟩ := hrel
  generalize wr = wo at *
  by_cases hlt : k < n
  ·have hlti : (k : Int) < (n : Int) := by omega
   have hkl : k < l.length := by have := HNL.out.1; omega
   obtain ⟨x, hx, hxl, c0, c1⟩ := (H.out.below hW.out).at2 hkl
   subst hx
   have HST := hid_mk (any_step hkl (sl s))
   obtain ⟨t, ht⟩ : ∃ t, t = l[k] := ⟨_, rfl⟩
   rw [← ht] at c0 c1 HST
   have c2 : wo.cell? ⟨(x.add (k * 2)).block, (x.add (k * 2)).off + 1, none⟩ = some (.string (strOf t.2)) := by rw [← show (x.add (k * 2)).add 1 = ⟨(x.add (k * 2)).block, (x.add (k * 2)).off + 1, none⟩ from rfl, Addr.add_add]; exact c1
   have HB := hid_mk (show Below w.heap.size w (wo.alloc (.cells #[.string (strOf t.1), .string (strOf t.2)] 40 (0, 0))) from hW.out.trans (((Below.refl _ _).alloc (Nat.le_refl _) _).mono hW.out.size))
   have HTL := hid_mk (show t.1 = t.1 → ∀ j, j < n → k = j → (l.take n).any (fun a => a.1 == t.1) = true from fun _ j hj hkj => by
    rw [List.any_eq_true]
    exact ⟨t, by rw [List.mem_iff_getElem?]; exact ⟨k, by rw [List.getElem?_take, if_pos hlt, List.getElem?_eq_getElem hkl, ht]⟩, by simp⟩)
   clear ht
   cases hq : (t.1 == sl s) with
   | true =>
     have heq : ((strOf t.1).toList == s.toList) = true := by rw [toList_strOf, Lib.toList_data]; exact hq
     have HE := hid_mk (show R = true by rw [HR.out, ← (beq_iff_eq.1 hq)]; exact HTL.out rfl k hlt rfl)
     clear hq
     go_wp2_with fail
     go_ret
     rw [HE.out]
     exact ⟨rfl, HB.out⟩
   | false =>
     have heq : ((strOf t.1).toList == s.toList) = false := by rw [toList_strOf, Lib.toList_data]; exact hq
     rw [hno.out, hq] at HST
     clear hq
     go_wp2_with fail
     go_roundw
     case rel => exact ⟨k + 1, by omega, by go_num, HST, HB⟩
     case measure => simp [intOf]; omega
  ·have hlti : ¬ (k : Int) < (n : Int) := by omega
   have HE := hid_mk (show R = false by rw [HR.out, ← show k = n by omega]; exact hno.out)
   go_wp2_with fail
   go_ret
   rw [HE.out]
   exact ⟨rfl, hW.out⟩
set_option maxHeartbeats 1000000 in
set_option maxRecDepth 100000 in
theorem rightText_any (n : Nx) (a : Option Addr) (c : Nat) (kv : Value) (w : World) (hT : TabV w) (hs : n.data.length ≤ 1000000000) :
 Calls Tryz.prog 81 #[.agg #[.int .u8 (n.kind : Int), .string (strOf n.name), .slice a n.attrs.length c, .string (strOf n.data), .int .i64 n.up, kv]] w fun e w' => e = .returned (.bool (textX n)) ∧ Below w.heap.size w w' := by
 obtain ⟨R, hR⟩ : ∃ R, R = textX n := ⟨_, rfl⟩
 rw [← hR]
 have q3 : (strOf n.name).toList.isEmpty = (n.name == []) := by rw [toList_strOf]; cases n.name <;> rfl
 have q4 : ((n.attrs.length : Int) == 0) = (n.attrs.length == 0) := by rw [Bool.eq_iff_iff]; simp
 have q5 : (strOf n.data).toList.isEmpty = (n.data == []) := by rw [toList_strOf]; cases n.data <;> rfl
 have q0 : (⟨#[]⟩ : ByteArray).toList = [] := by rw [Lib.toList_data]
 have HR := hid_mk (show R = ((n.name == []) && (n.attrs.length == 0) && !(n.data == []) && dataX n.data) from hR)
 have hal : Below w.heap.size w (w.alloc (.cells #[.int .u8 (n.kind : Int), .string (strOf n.name), .slice a n.attrs.length c, .string (strOf n.data), .int .i64 n.up, kv] 38 (0, 0))) := (Below.refl _ _).alloc (Nat.le_refl _) _
 have HAL := hid_mk hal
 have hd := hid_mk (rightData_any (strOf n.data) _ (hT.below hal) (by rw [size_strOf]; exact hs))
 rw [sl_strOf] at hd
 clear hR hal hT
 generalize (n.name == []) = b3 at *
 generalize (n.attrs.length == 0) = b4 at *
 generalize (n.data == []) = b5 at *
 generalize dataX n.data = b6 at *
 go_enter Tryz.func81, Tryz.ntmps81
 cases b3
 all_goals cases b4
 all_goals cases b5
 all_goals
  go_wp2_with fail
  first
   | (go_ret
      rw [HR.out]
      exact ⟨rfl, HAL.out⟩)
   | ((with_reducible refine hd.out.mono ?_)
      rintro e w1 ⟨rfl, hb⟩
      have HB := hid_mk (HAL.out.trans (hb.mono HAL.out.size))
      clear hb
      go_wp2_with fail
      go_ret
      rw [HR.out]
      exact ⟨rfl, HB.out⟩)
end Go.Proofs.YtlcijlklbabajaaGreatDoor.R
