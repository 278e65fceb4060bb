/-
  Package tree's small functions, and its stack of open elements as it lies. Condition: none.
-/
import Derived.Test.YtlcijlklbabajaaGreatDoorQTBPl
import Derived.Test.YtlcijlklbabajaaGreatDoorQTText
import Derived.Deep.RegionHeld3
import Derived.IntWalk
import Derived.Deep.RegionLaw
import Derived.Deep.AppendLies
namespace Go.Proofs.YtlcijlklbabajaaGreatDoor
open Go.RowKit
theorem isVoid_any (k : Nat) (w : World) :
 Calls Tryz.prog 85 #[.int .u8 (k : Int)] w fun e w' => e = .returned (.bool (voidK k)) ∧ w = w' := by
 go_enter Tryz.func85, Tryz.ntmps85
 go_wp2
 all_goals
  go_ret
  refine ⟨ret_bool ?_, rfl⟩
  rw [Bool.eq_iff_iff]
  unfold voidK
  simp
  omega
theorem endsP_iff (k : Nat) : endsP k = (decide ((k : Int) = 1) || decide ((k : Int) = 2) || decide ((k : Int) = 3) || decide ((k : Int) = 4) || decide ((k : Int) = 8)) := by
 rw [Bool.eq_iff_iff]
 unfold endsP
 simp
 omega
theorem endsPar_any (k : Nat) (w : World) :
 Calls Tryz.prog 132 #[.int .u8 (k : Int)] w fun e w' => e = .returned (.bool (endsP k)) ∧ w = w' := by
 go_enter Tryz.func132, Tryz.ntmps132
 go_wp2
 all_goals
  go_ret
  refine ⟨ret_bool ?_, rfl⟩
  simp only [beq_iff_eq, beq_eq_false_iff_ne, ne_eq] at *
  rw [endsP_iff, Bool.eq_iff_iff]
  simp
  try omega
theorem endsToo_any (k a : Nat) (w : World) :
 Calls Tryz.prog 138 #[.int .u8 (k : Int), .int .u8 (a : Int)] w fun e w' => e = .returned (.bool (endsToo k a)) ∧ w = w' := by
 go_enter Tryz.func138, Tryz.ntmps138
 go_wp2
 all_goals
  go_ret
  refine ⟨ret_bool ?_, rfl⟩
  simp only [beq_iff_eq, beq_eq_false_iff_ne, ne_eq] at *
  first
   | (have hk : k = 1 := by omega
      subst hk
      unfold endsToo
      rw [Bool.eq_iff_iff]
      simp
      try omega)
   | (have hk : k = 3 := by omega
      subst hk
      unfold endsToo
      rw [Bool.eq_iff_iff]
      simp
      try omega)
   | (have h1 : k ≠ 1 := by omega
      have h3 : k ≠ 3 := by omega
      unfold endsToo
      rw [if_neg h1, if_neg h3])
def opF (o : Opn) : List Value := [.int .i64 (o.node : Int), .string (strOf o.name), .int .u8 (o.kind : Int)]
def opA (o : Opn) : Value := .agg #[.int .i64 (o.node : Int), .string (strOf o.name), .int .u8 (o.kind : Int)]
theorem noWall_any (o : Opn) (w : World) :
 Calls Tryz.prog 134 #[opA o] w fun e w' => e = .returned (.bool false) ∧ Below w.heap.size w w' := by
 unfold opA
 go_enter Tryz.func134, Tryz.ntmps134
 go_wp2
 go_ret
 exact ⟨rfl, (Below.refl _ _).alloc (Nat.le_refl _) _⟩
theorem isWall_any (o : Opn) (w : World) :
 Calls Tryz.prog 135 #[opA o] w fun e w' => e = .returned (.bool (wallO o)) ∧ Below w.heap.size w w' := by
 have hd : ((strOf o.name).toList == [100, 105, 118]) = (o.name == [100, 105, 118]) := by rw [toList_strOf]
 have HW := hid_mk (show wallO o = (decide ((o.kind : Int) = 4) || (decide ((o.kind : Int) = 1) && !((o.name == [100, 105, 118])))) by
  unfold wallO
  rw [bne]
  generalize (o.name == [100, 105, 118]) = b
  rw [Bool.eq_iff_iff]
  cases b
  ·simp
   omega
  ·simp
   omega)
 generalize (o.name == [100, 105, 118]) = b at *
 unfold opA
 go_enter Tryz.func135, Tryz.ntmps135
 cases b
 all_goals
  go_wp2
  all_goals
   go_ret
   refine ⟨ret_bool ?_, (Below.refl _ _).alloc (Nat.le_refl _) _⟩
   rw [HW.out]
   simp_all
def OpnRow (B : Nat) (v : Value) (st : List Opn) (w : World) : Prop := w.ownsRow B 119 3 v (st.length + 1) ((Opn.doc :: st.reverse).flatMap opF)
theorem OpnRow.below {B : Nat} {v : Value} {st : List Opn} {w w' : World} (h : OpnRow B v st w) (hb : Below w.heap.size w w') : OpnRow B v st w' := own_below h hb
/-- What is open, as it is read: the document at the bottom. -/
theorem OpnRow.some {B : Nat} {v : Value} {st : List Opn} {w : World} (h : OpnRow B v st w) :
 ∃ g cap, v = .slice (some ⟨g, 0, none⟩) (st.length + 1) cap ∧ B ≤ g ∧ g < w.heap.size ∧ ∀ k (hk : k < (Opn.doc :: st.reverse).length) (j : Nat), j < 3 → w.cell? ⟨g, k * 3 + j, none⟩ = (opF ((Opn.doc :: st.reverse)[k]))[j]? := by
 rcases h.2 with ⟨_, h0⟩ | ⟨g, cap, cur, rfl, h2, h3, h4, h5, h6, h7⟩
 ·omega
 ·refine ⟨g, cap, rfl, h2, (Array.getElem?_eq_some_iff.1 h3).1, fun k hk j hj => ?_⟩
  rw [cell_of_row w g _ _ _ _ h3, ← flat_get opF 3 (fun _ => rfl) _ k j hk hj]
  have hlt : k * 3 + j < (st.length + 1) * 3 := by simp at hk; omega
  rw [← h7, List.getElem?_take, if_pos hlt, Array.getElem?_toList]
theorem top_at (st : List Opn) : (Opn.doc :: st.reverse)[st.length]'(by simp) = topO st := by
 cases st with
 | nil => rfl
 | cons o t => simp [topO]
theorem open_at (st : List Opn) (i : Nat) (h0 : 0 < i) (hi : i ≤ st.length) : (Opn.doc :: st.reverse)[i]'(by simp; omega) = st[st.length - i]'(by omega) := by
 obtain ⟨j, rfl⟩ : ∃ j, i = j + 1 := ⟨i - 1, by omega⟩
 simp only [List.getElem_cons_succ, List.getElem_reverse]
 congr 1
 omega
end Go.Proofs.YtlcijlklbabajaaGreatDoor
namespace Go.Proofs.YtlcijlklbabajaaGreatDoor
open Go.RowKit
theorem depth_any (B : Nat) (v : Value) (st : List Opn) (w : World) (h : OpnRow B v st w) (hl : st.length ≤ 100000) :
 Calls Tryz.prog 83 #[v] w fun e w' => e = .returned (.int .i64 (st.length : Int)) ∧ w = w' := by
 obtain ⟨g, cap, rfl, _⟩ := h.some
 have hs : ((st.length + 1 : Nat) : Int) - 1 = (st.length : Int) := by omega
 go_enter Tryz.func83, Tryz.ntmps83
 go_wp2
 go_ret
 refine ⟨?_, rfl⟩
 first | rfl | (congr 1; congr 1; omega)
theorem OpnRow.below' {B : Nat} {v : Value} {st : List Opn} {w w' : World} (h : OpnRow B v st w) (hb : Below w.heap.size w w') : OpnRow B v st w' := h.below hb
theorem opField0 (o : Opn) (w : World) : (Instr.field 119 (.agg #[.int .i64 (o.node : Int), .string (strOf o.name), .int .u8 (o.kind : Int)]) 0).run Tryz.prog w = .ok (.int .i64 (o.node : Int)) w := by kernel_rfl
theorem opField1 (o : Opn) (w : World) : (Instr.field 119 (.agg #[.int .i64 (o.node : Int), .string (strOf o.name), .int .u8 (o.kind : Int)]) 1).run Tryz.prog w = .ok (.string (strOf o.name)) w := by kernel_rfl
theorem opField2 (o : Opn) (w : World) : (Instr.field 119 (.agg #[.int .i64 (o.node : Int), .string (strOf o.name), .int .u8 (o.kind : Int)]) 2).run Tryz.prog w = .ok (.int .u8 (o.kind : Int)) w := by kernel_rfl
theorem resTop : Tryz.f100.results = #[.cell 2 119] := by kernel_rfl
theorem top_any (B : Nat) (v : Value) (st : List Opn) (w : World) (h : OpnRow B v st w) (hl : st.length ≤ 100000) :
 Calls Tryz.prog 100 #[v] w fun e w' => e = .returned (opA (topO st)) ∧ Below w.heap.size w w' := by
 obtain ⟨g, cap, rfl, _, hgl, hc⟩ := h.some
 have hc := hc st.length (by simp)
 rw [top_at] at hc
 generalize topO st = o at *
 have c0 := hc 0 (by decide)
 have c1 := hc 1 (by decide)
 have c2 := hc 2 (by decide)
 have c0 : w.cell? ⟨g, st.length * 3, none⟩ = some (.int .i64 (o.node : Int)) := c0
 have c1 : w.cell? ⟨g, st.length * 3 + 1, none⟩ = some (.string (strOf o.name)) := c1
 have c2 : w.cell? ⟨g, st.length * 3 + 2, none⟩ = some (.int .u8 (o.kind : Int)) := c2
 obtain ⟨n, hn⟩ : ∃ n, n = st.length := ⟨_, rfl⟩
 rw [← hn] at c0 c1 c2 hl ⊢
 have hs : ((n + 1 : Nat) : Int) - 1 = (n : Int) := by omega
 have hs2 : (n : Int) + 1 - 1 = (n : Int) := by omega
 have hs3 : (((n + 1 : Nat) : Int) - 1).toNat = n := by omega
 clear hc h hn
 unfold opA
 go_enter Tryz.func100, Tryz.ntmps100
 go_wp2_with fail
 refine bodyPost_ret (results_cell_row (p := 2) (ty := 119) resTop _ _ w.heap.size 119 _ (0, 0) _ rfl (heap_alloc_new w _) Tryz.underlying119 rfl (by kernel_rfl)) rfl ?_
 exact ⟨rfl, (Below.refl _ _).alloc (Nat.le_refl _) _⟩
/-- What tells a wall. -/
def wallV (walls : Bool) : Value := if walls then .func (.func 135) #[] #[] else .func (.func 134) #[] #[]
def wallF (walls : Bool) : Nat := if walls then 135 else 134
theorem wallV_eq (walls : Bool) : wallV walls = .func (.func (wallF walls)) #[] #[] := by cases walls <;> rfl
theorem wallF_enters (walls : Bool) : ∀ args w, (callFunc (wallF walls) args).run Tryz.prog w = .ok (.enter (wallF walls) args) w := by
 cases walls
 ·exact enters_of Tryz.func134 (by kernel_rfl) rfl
 ·exact enters_of Tryz.func135 (by kernel_rfl) rfl
theorem wallF_any (walls : Bool) (o : Opn) (w : World) : Calls Tryz.prog (wallF walls) #[opA o] w fun e w' => e = .returned (.bool (walls && wallO o)) ∧ Below w.heap.size w w' := by
 cases walls
 ·exact noWall_any o w
 ·exact isWall_any o w
theorem hasO_step (k : Nat) (walls : Bool) (st : List Opn) (i : Nat) (h0 : 0 < i) (hi : i ≤ st.length) :
 hasO k walls (st.drop (st.length - i)) = if (st[st.length - i]'(by omega)).kind = k then true else if walls && wallO (st[st.length - i]'(by omega)) then false else hasO k walls (st.drop (st.length - (i - 1))) := by
 rw [List.drop_eq_getElem_cons (show st.length - i < st.length by omega), show st.length - (i - 1) = st.length - i + 1 by omega]
 rfl
set_option maxHeartbeats 2000000 in
set_option maxRecDepth 100000 in
theorem has_open (B : Nat) (v : Value) (k : Nat) (walls : Bool) (st : List Opn) (w : World) (h : OpnRow B v st w) (hl : st.length ≤ 100000) :
 Calls Tryz.prog 133 #[v, .int .u8 (k : Int), wallV walls] w fun e w' => e = .returned (.bool (hasO k walls st)) ∧ Below w.heap.size w w' := by
 obtain ⟨R, hR⟩ : ∃ R, R = hasO k walls st := ⟨_, rfl⟩
 rw [← hR, wallV_eq]
 have HR := hid_mk (show R = hasO k walls (st.drop (st.length - st.length)) by rw [Nat.sub_self, List.drop_zero]; exact hR)
 obtain ⟨g, cap, hv, _, _, _⟩ := h.some
 subst hv
 have HROW := hid_mk h
 have hdp := hid_mk (fun w h => depth_any B (.slice (some ⟨g, 0, none⟩) (st.length + 1) cap) st w h hl)
 have hen := wallF_enters walls
 have hwf := hid_mk (wallF_any walls)
 generalize wallF walls = F at *
 obtain ⟨n, hn⟩ : ∃ n, n = st.length := ⟨_, rfl⟩
 rw [← hn] at hl HR
 have HN := hid_mk hn
 have hd2 := hid_mk (hdp.out w HROW.out)
 rw [← hn] at hd2
 rw [← hn]
 clear hn hR h hdp
 go_enter Tryz.func133, Tryz.ntmps133
 go_wp2_with fail
 go_step3
 go_wp2_with fail
 go_step3
 go_wp2_with fail
 (with_reducible refine hd2.out.mono ?_)
 rintro e w9 ⟨rfl, rfl⟩
 go_wp2_with fail
 go_loopw [7, 8] (fun v7 v8 wx => ∃ i : Nat, v7 = .bool false ∧ i ≤ n ∧ v8 = .int .i64 (i : Int) ∧ Hid (R = hasO k walls (st.drop (n - i))) ∧ Hid (Below w.heap.size w wx)) (fun _ v8 _ => (intOf v8).toNat)
 case atStart => exact ⟨n, rfl, Nat.le_refl _, rfl, HR, hid_mk (Below.refl _ _)⟩
 case round =>
  obtain ⟨i, rfl, hi, rfl, hr, HW⟩ := hrel
  by_cases h0 : 0 < i
  ·have h0i : (0 : Int) < (i : Int) := by omega
   have hin : (i : Int) < (n : Int) + 1 := by omega
   have hin2 : (i : Int) < ((n + 1 : Nat) : Int) := by omega
   have hst := hasO_step k walls st i h0 (by rw [← HN.out]; exact hi)
   obtain ⟨g', cap', hv, _, _, hc⟩ := (HROW.out.below HW.out).some
   obtain rfl : g = g' := by injection hv with hv; injection hv with hv; injection hv
   have hc := hc i (by simp; rw [← HN.out]; omega)
   rw [open_at st i h0 (by rw [← HN.out]; exact hi)] at hc
   generalize st[st.length - i]'(by rw [← HN.out]; omega) = o at *
   have c0 : wr.cell? ⟨g, i * 3, none⟩ = some (.int .i64 (o.node : Int)) := hc 0 (by decide)
   have c1 : wr.cell? ⟨g, i * 3 + 1, none⟩ = some (.string (strOf o.name)) := hc 1 (by decide)
   have c2 : wr.cell? ⟨g, i * 3 + 2, none⟩ = some (.int .u8 (o.kind : Int)) := hc 2 (by decide)
   rw [← HN.out] at hst
   clear hv hc
   by_cases hk : o.kind = k
   ·have hq : ((o.kind : Int) == (k : Int)) = true := by rw [hk]; exact beq_self_eq_true _
    have hqn : (o.kind == k) = true := by rw [hk]; exact beq_self_eq_true _
    have HF := hid_mk (show R = true by rw [hr.out, hst, if_pos hk])
    clear hst hk hr
    go_wp2_with fail
    (try simp (config := {zetaDelta := true}) only [])
    rw [Exit.noGoto_ret]
    go_ret
    rw [HF.out]
    exact ⟨rfl, HW.out⟩
   ·have hq : ((o.kind : Int) == (k : Int)) = false := beq_false_of_ne (by omega)
    have hqn : (o.kind == k) = false := beq_false_of_ne hk
    rw [if_neg hk] at hst
    have hwo := hid_mk (hwf.out o)
    unfold opA at hwo
    clear hk
    go_wp2_with fail
    (with_reducible refine (hwo.out _).mono ?_)
    rintro e w5 ⟨rfl, hb5⟩
    have H5 := hid_mk (HW.out.trans (hb5.mono HW.out.size))
    clear hb5
    cases hwl : (walls && wallO o) with
    | true =>
      have HF := hid_mk (show R = false by rw [hr.out, hst, if_pos hwl])
      clear hst hr hwl
      go_wp2_with fail
      (try simp (config := {zetaDelta := true}) only [])
      rw [Exit.noGoto_ret]
      go_ret
      rw [HF.out]
      exact ⟨rfl, H5.out⟩
    | false =>
      have HN2 := hid_mk (show R = hasO k walls (st.drop (n - (i - 1))) by rw [hr.out, hst, if_neg (by rw [hwl]; exact Bool.false_ne_true)])
      have hi1 : ((i - 1 : Nat) : Int) = (i : Int) - 1 := by omega
      clear hst hr hwl
      go_wp2_with fail
      go_roundw
      case rel => exact ⟨i - 1, rfl, by omega, by first | rfl | (congr 1; omega), HN2, H5⟩
      case measure => simp [intOf]; omega
  ·have h0i : ¬ (0 : Int) < (i : Int) := by omega
   obtain rfl : i = 0 := by omega
   have HF := hid_mk (show R = false by rw [hr.out, Nat.sub_zero, HN.out, List.drop_length]; rfl)
   go_wp2_with fail
   go_ret
   rw [HF.out]
   exact ⟨rfl, HW.out⟩
set_option maxHeartbeats 2000000 in
set_option maxRecDepth 100000 in
theorem admits_any (B : Nat) (v : Value) (k : Nat) (st : List Opn) (w : World) (h : OpnRow B v st w) (hl : st.length ≤ 100000) :
 Calls Tryz.prog 84 #[v, .int .u8 (k : Int)] w fun e w' => e = .returned (.bool (admitsO k st)) ∧ Below w.heap.size w w' := by
 have HROW := hid_mk h
 have hep := hid_mk (fun w => endsPar_any k w)
 have h2 := hid_mk (fun w h => has_open B v 2 false st w h hl)
 have h3 := hid_mk (fun w h => has_open B v 3 true st w h hl)
 have h6 := hid_mk (fun w h => has_open B v 6 false st w h hl)
 have ht := hid_mk (fun w h => top_any B v st w h hl)
 rw [show wallV false = .func (.func 134) #[] #[] from rfl] at h2 h6
 rw [show wallV true = .func (.func 135) #[] #[] from rfl] at h3
 rw [show ((2 : Nat) : Int) = 2 from rfl] at h2
 rw [show ((3 : Nat) : Int) = 3 from rfl] at h3
 rw [show ((6 : Nat) : Int) = 6 from rfl] at h6
 unfold opA at ht
 have HR := hid_mk (show admitsO k st = !((endsP k && hasO 2 false st) || (k == 3 && hasO 3 true st) || (k == 4 && (topO st).kind == 4) || (k == 6 && hasO 6 false st)) from rfl)
 obtain ⟨R, hR⟩ : ∃ R, R = admitsO k st := ⟨_, rfl⟩
 have hfd := opField2 (topO st)
 rw [← hR] at HR ⊢
 have k3 : ((k : Int) == 3) = (k == 3) := by rw [Bool.eq_iff_iff]; simp; omega
 have k4 : ((k : Int) == 4) = (k == 4) := by rw [Bool.eq_iff_iff]; simp; omega
 have k6 : ((k : Int) == 6) = (k == 6) := by rw [Bool.eq_iff_iff]; simp; omega
 have kt : (((topO st).kind : Int) == 4) = ((topO st).kind == 4) := by rw [Bool.eq_iff_iff]; simp; omega
 generalize (k == 3) = b3 at *
 generalize (k == 4) = b4 at *
 generalize (k == 6) = b6 at *
 generalize ((topO st).kind == 4) = bt at *
 generalize endsP k = be at *
 generalize hasO 2 false st = x2 at *
 generalize hasO 3 true st = x3 at *
 generalize hasO 6 false st = x6 at *
 clear hR h
 go_enter Tryz.func84, Tryz.ntmps84
 go_wp2_with fail
 (with_reducible refine (hep.out _).mono ?_)
 rintro e w9 ⟨rfl, rfl⟩
 cases be
 case false =>
  cases b3
  case false =>
   cases b4
   case false =>
    cases b6
    case false =>
     go_wp2_with fail
     (try simp (config := {zetaDelta := true}) only [Exit.inBlock_ret, Exit.then_ret, Exit.noGoto_ret])
     go_ret
     rw [HR.out]
     exact ⟨rfl, Below.refl w.heap.size w⟩
    case true =>
     go_wp2_with fail
     (with_reducible refine (h6.out _ ?_).mono ?_)
     ·exact HROW.out.below' (Below.refl w.heap.size w)
     rintro e w4_8 ⟨rfl, b4_8⟩
     have H4_8 := hid_mk (Below.trans (Below.refl w.heap.size w) (b4_8.mono (Below.size (Below.refl w.heap.size w))))
     clear b4_8
     cases x6
     case true =>
      go_wp2_with fail
      (try simp (config := {zetaDelta := true}) only [Exit.inBlock_ret, Exit.then_ret, Exit.noGoto_ret])
      go_ret
      rw [HR.out]
      exact ⟨rfl, H4_8.out⟩
     case false =>
      go_wp2_with fail
      (try simp (config := {zetaDelta := true}) only [Exit.inBlock_ret, Exit.then_ret, Exit.noGoto_ret])
      go_ret
      rw [HR.out]
      exact ⟨rfl, H4_8.out⟩
   case true =>
    go_wp2_with fail
    (with_reducible refine (ht.out _ ?_).mono ?_)
    ·exact HROW.out.below' (Below.refl w.heap.size w)
    rintro e w3_6 ⟨rfl, b3_6⟩
    have H3_6 := hid_mk (Below.trans (Below.refl w.heap.size w) (b3_6.mono (Below.size (Below.refl w.heap.size w))))
    clear b3_6
    cases bt
    case true =>
     go_wp2_with fail
     (try simp (config := {zetaDelta := true}) only [Exit.inBlock_ret, Exit.then_ret, Exit.noGoto_ret])
     go_ret
     rw [HR.out]
     exact ⟨rfl, H3_6.out⟩
    case false =>
     cases b6
     case false =>
      go_wp2_with fail
      (try simp (config := {zetaDelta := true}) only [Exit.inBlock_ret, Exit.then_ret, Exit.noGoto_ret])
      go_ret
      rw [HR.out]
      exact ⟨rfl, H3_6.out⟩
     case true =>
      go_wp2_with fail
      (with_reducible refine (h6.out _ ?_).mono ?_)
      ·exact HROW.out.below' (H3_6.out)
      rintro e w4_10 ⟨rfl, b4_10⟩
      have H4_10 := hid_mk (Below.trans (H3_6.out) (b4_10.mono (Below.size (H3_6.out))))
      clear b4_10
      cases x6
      case true =>
       go_wp2_with fail
       (try simp (config := {zetaDelta := true}) only [Exit.inBlock_ret, Exit.then_ret, Exit.noGoto_ret])
       go_ret
       rw [HR.out]
       exact ⟨rfl, H4_10.out⟩
      case false =>
       go_wp2_with fail
       (try simp (config := {zetaDelta := true}) only [Exit.inBlock_ret, Exit.then_ret, Exit.noGoto_ret])
       go_ret
       rw [HR.out]
       exact ⟨rfl, H4_10.out⟩
  case true =>
   go_wp2_with fail
   (with_reducible refine (h3.out _ ?_).mono ?_)
   ·exact HROW.out.below' (Below.refl w.heap.size w)
   rintro e w2_4 ⟨rfl, b2_4⟩
   have H2_4 := hid_mk (Below.trans (Below.refl w.heap.size w) (b2_4.mono (Below.size (Below.refl w.heap.size w))))
   clear b2_4
   cases x3
   case true =>
    go_wp2_with fail
    (try simp (config := {zetaDelta := true}) only [Exit.inBlock_ret, Exit.then_ret, Exit.noGoto_ret])
    go_ret
    rw [HR.out]
    exact ⟨rfl, H2_4.out⟩
   case false =>
    cases b4
    case false =>
     cases b6
     case false =>
      go_wp2_with fail
      (try simp (config := {zetaDelta := true}) only [Exit.inBlock_ret, Exit.then_ret, Exit.noGoto_ret])
      go_ret
      rw [HR.out]
      exact ⟨rfl, H2_4.out⟩
     case true =>
      go_wp2_with fail
      (with_reducible refine (h6.out _ ?_).mono ?_)
      ·exact HROW.out.below' (H2_4.out)
      rintro e w4_10 ⟨rfl, b4_10⟩
      have H4_10 := hid_mk (Below.trans (H2_4.out) (b4_10.mono (Below.size (H2_4.out))))
      clear b4_10
      cases x6
      case true =>
       go_wp2_with fail
       (try simp (config := {zetaDelta := true}) only [Exit.inBlock_ret, Exit.then_ret, Exit.noGoto_ret])
       go_ret
       rw [HR.out]
       exact ⟨rfl, H4_10.out⟩
      case false =>
       go_wp2_with fail
       (try simp (config := {zetaDelta := true}) only [Exit.inBlock_ret, Exit.then_ret, Exit.noGoto_ret])
       go_ret
       rw [HR.out]
       exact ⟨rfl, H4_10.out⟩
    case true =>
     go_wp2_with fail
     (with_reducible refine (ht.out _ ?_).mono ?_)
     ·exact HROW.out.below' (H2_4.out)
     rintro e w3_8 ⟨rfl, b3_8⟩
     have H3_8 := hid_mk (Below.trans (H2_4.out) (b3_8.mono (Below.size (H2_4.out))))
     clear b3_8
     cases bt
     case true =>
      go_wp2_with fail
      (try simp (config := {zetaDelta := true}) only [Exit.inBlock_ret, Exit.then_ret, Exit.noGoto_ret])
      go_ret
      rw [HR.out]
      exact ⟨rfl, H3_8.out⟩
     case false =>
      cases b6
      case false =>
       go_wp2_with fail
       (try simp (config := {zetaDelta := true}) only [Exit.inBlock_ret, Exit.then_ret, Exit.noGoto_ret])
       go_ret
       rw [HR.out]
       exact ⟨rfl, H3_8.out⟩
      case true =>
       go_wp2_with fail
       (with_reducible refine (h6.out _ ?_).mono ?_)
       ·exact HROW.out.below' (H3_8.out)
       rintro e w4_12 ⟨rfl, b4_12⟩
       have H4_12 := hid_mk (Below.trans (H3_8.out) (b4_12.mono (Below.size (H3_8.out))))
       clear b4_12
       cases x6
       case true =>
        go_wp2_with fail
        (try simp (config := {zetaDelta := true}) only [Exit.inBlock_ret, Exit.then_ret, Exit.noGoto_ret])
        go_ret
        rw [HR.out]
        exact ⟨rfl, H4_12.out⟩
       case false =>
        go_wp2_with fail
        (try simp (config := {zetaDelta := true}) only [Exit.inBlock_ret, Exit.then_ret, Exit.noGoto_ret])
        go_ret
        rw [HR.out]
        exact ⟨rfl, H4_12.out⟩
 case true =>
  go_wp2_with fail
  (with_reducible refine (h2.out _ ?_).mono ?_)
  ·exact HROW.out.below' (Below.refl w.heap.size w)
  rintro e w1_2 ⟨rfl, b1_2⟩
  have H1_2 := hid_mk (Below.trans (Below.refl w.heap.size w) (b1_2.mono (Below.size (Below.refl w.heap.size w))))
  clear b1_2
  cases x2
  case true =>
   go_wp2_with fail
   (try simp (config := {zetaDelta := true}) only [Exit.inBlock_ret, Exit.then_ret, Exit.noGoto_ret])
   go_ret
   rw [HR.out]
   exact ⟨rfl, H1_2.out⟩
  case false =>
   cases b3
   case false =>
    cases b4
    case false =>
     cases b6
     case false =>
      go_wp2_with fail
      (try simp (config := {zetaDelta := true}) only [Exit.inBlock_ret, Exit.then_ret, Exit.noGoto_ret])
      go_ret
      rw [HR.out]
      exact ⟨rfl, H1_2.out⟩
     case true =>
      go_wp2_with fail
      (with_reducible refine (h6.out _ ?_).mono ?_)
      ·exact HROW.out.below' (H1_2.out)
      rintro e w4_10 ⟨rfl, b4_10⟩
      have H4_10 := hid_mk (Below.trans (H1_2.out) (b4_10.mono (Below.size (H1_2.out))))
      clear b4_10
      cases x6
      case true =>
       go_wp2_with fail
       (try simp (config := {zetaDelta := true}) only [Exit.inBlock_ret, Exit.then_ret, Exit.noGoto_ret])
       go_ret
       rw [HR.out]
       exact ⟨rfl, H4_10.out⟩
      case false =>
       go_wp2_with fail
       (try simp (config := {zetaDelta := true}) only [Exit.inBlock_ret, Exit.then_ret, Exit.noGoto_ret])
       go_ret
       rw [HR.out]
       exact ⟨rfl, H4_10.out⟩
    case true =>
     go_wp2_with fail
     (with_reducible refine (ht.out _ ?_).mono ?_)
     ·exact HROW.out.below' (H1_2.out)
     rintro e w3_8 ⟨rfl, b3_8⟩
     have H3_8 := hid_mk (Below.trans (H1_2.out) (b3_8.mono (Below.size (H1_2.out))))
     clear b3_8
     cases bt
     case true =>
      go_wp2_with fail
      (try simp (config := {zetaDelta := true}) only [Exit.inBlock_ret, Exit.then_ret, Exit.noGoto_ret])
      go_ret
      rw [HR.out]
      exact ⟨rfl, H3_8.out⟩
     case false =>
      cases b6
      case false =>
       go_wp2_with fail
       (try simp (config := {zetaDelta := true}) only [Exit.inBlock_ret, Exit.then_ret, Exit.noGoto_ret])
       go_ret
       rw [HR.out]
       exact ⟨rfl, H3_8.out⟩
      case true =>
       go_wp2_with fail
       (with_reducible refine (h6.out _ ?_).mono ?_)
       ·exact HROW.out.below' (H3_8.out)
       rintro e w4_12 ⟨rfl, b4_12⟩
       have H4_12 := hid_mk (Below.trans (H3_8.out) (b4_12.mono (Below.size (H3_8.out))))
       clear b4_12
       cases x6
       case true =>
        go_wp2_with fail
        (try simp (config := {zetaDelta := true}) only [Exit.inBlock_ret, Exit.then_ret, Exit.noGoto_ret])
        go_ret
        rw [HR.out]
        exact ⟨rfl, H4_12.out⟩
       case false =>
        go_wp2_with fail
        (try simp (config := {zetaDelta := true}) only [Exit.inBlock_ret, Exit.then_ret, Exit.noGoto_ret])
        go_ret
        rw [HR.out]
        exact ⟨rfl, H4_12.out⟩
   case true =>
    go_wp2_with fail
    (with_reducible refine (h3.out _ ?_).mono ?_)
    ·exact HROW.out.below' (H1_2.out)
    rintro e w2_6 ⟨rfl, b2_6⟩
    have H2_6 := hid_mk (Below.trans (H1_2.out) (b2_6.mono (Below.size (H1_2.out))))
    clear b2_6
    cases x3
    case true =>
     go_wp2_with fail
     (try simp (config := {zetaDelta := true}) only [Exit.inBlock_ret, Exit.then_ret, Exit.noGoto_ret])
     go_ret
     rw [HR.out]
     exact ⟨rfl, H2_6.out⟩
    case false =>
     cases b4
     case false =>
      cases b6
      case false =>
       go_wp2_with fail
       (try simp (config := {zetaDelta := true}) only [Exit.inBlock_ret, Exit.then_ret, Exit.noGoto_ret])
       go_ret
       rw [HR.out]
       exact ⟨rfl, H2_6.out⟩
      case true =>
       go_wp2_with fail
       (with_reducible refine (h6.out _ ?_).mono ?_)
       ·exact HROW.out.below' (H2_6.out)
       rintro e w4_12 ⟨rfl, b4_12⟩
       have H4_12 := hid_mk (Below.trans (H2_6.out) (b4_12.mono (Below.size (H2_6.out))))
       clear b4_12
       cases x6
       case true =>
        go_wp2_with fail
        (try simp (config := {zetaDelta := true}) only [Exit.inBlock_ret, Exit.then_ret, Exit.noGoto_ret])
        go_ret
        rw [HR.out]
        exact ⟨rfl, H4_12.out⟩
       case false =>
        go_wp2_with fail
        (try simp (config := {zetaDelta := true}) only [Exit.inBlock_ret, Exit.then_ret, Exit.noGoto_ret])
        go_ret
        rw [HR.out]
        exact ⟨rfl, H4_12.out⟩
     case true =>
      go_wp2_with fail
      (with_reducible refine (ht.out _ ?_).mono ?_)
      ·exact HROW.out.below' (H2_6.out)
      rintro e w3_10 ⟨rfl, b3_10⟩
      have H3_10 := hid_mk (Below.trans (H2_6.out) (b3_10.mono (Below.size (H2_6.out))))
      clear b3_10
      cases bt
      case true =>
       go_wp2_with fail
       (try simp (config := {zetaDelta := true}) only [Exit.inBlock_ret, Exit.then_ret, Exit.noGoto_ret])
       go_ret
       rw [HR.out]
       exact ⟨rfl, H3_10.out⟩
      case false =>
       cases b6
       case false =>
        go_wp2_with fail
        (try simp (config := {zetaDelta := true}) only [Exit.inBlock_ret, Exit.then_ret, Exit.noGoto_ret])
        go_ret
        rw [HR.out]
        exact ⟨rfl, H3_10.out⟩
       case true =>
        go_wp2_with fail
        (with_reducible refine (h6.out _ ?_).mono ?_)
        ·exact HROW.out.below' (H3_10.out)
        rintro e w4_14 ⟨rfl, b4_14⟩
        have H4_14 := hid_mk (Below.trans (H3_10.out) (b4_14.mono (Below.size (H3_10.out))))
        clear b4_14
        cases x6
        case true =>
         go_wp2_with fail
         (try simp (config := {zetaDelta := true}) only [Exit.inBlock_ret, Exit.then_ret, Exit.noGoto_ret])
         go_ret
         rw [HR.out]
         exact ⟨rfl, H4_14.out⟩
        case false =>
         go_wp2_with fail
         (try simp (config := {zetaDelta := true}) only [Exit.inBlock_ret, Exit.then_ret, Exit.noGoto_ret])
         go_ret
         rw [HR.out]
         exact ⟨rfl, H4_14.out⟩
end Go.Proofs.YtlcijlklbabajaaGreatDoor
namespace Go.Proofs.YtlcijlklbabajaaGreatDoor
open Go.RowKit
theorem OpnRow.pop {B : Nat} {a : Option Addr} {n cap : Nat} {o : Opn} {st : List Opn} {w : World} (h : OpnRow B (.slice a (n + 1) cap) (o :: st) w) : OpnRow B (.slice a n cap) st w := by
 obtain ⟨h1, h2⟩ := h
 have hlen : ((Opn.doc :: st.reverse).flatMap opF).length = (st.length + 1) * 3 := by
  rw [List.length_flatMap]
  have : ∀ l : List Opn, (l.map fun x => (opF x).length).sum = l.length * 3 := fun l => by
   induction l with
   | nil => rfl
   | cons x t ih => rw [List.map_cons, List.sum_cons, ih]; simp [opF]; omega
  rw [this]
  simp
 refine ⟨hlen, ?_⟩
 rcases h2 with ⟨_, h0⟩ | ⟨g, cap', cur, hv, h3, h4, h5, h6, h7, h8⟩
 ·omega
 ·injection hv with hv hn hc
  obtain rfl : n = st.length + 1 := by simp at hn; omega
  subst hv hc
  refine .inr ⟨g, cap, cur, ?_, h3, h4, ?_, h6, h7, ?_⟩
  ·rfl
  ·simp at h5; omega
  ·have e1 : (Opn.doc :: (o :: st).reverse).flatMap opF = (Opn.doc :: st.reverse).flatMap opF ++ opF o := by simp
   rw [e1] at h8
   have := congrArg (List.take ((st.length + 1) * 3)) h8
   rw [List.take_take, Nat.min_eq_left (by simp only [List.length_cons]; omega), List.take_append_of_le_length (by omega)] at this
   rw [this, List.take_of_length_le (by omega)]
set_option maxHeartbeats 1000000 in
set_option maxRecDepth 100000 in
theorem close_any (b q g m cap : Nat) (w : World) (hc : w.cell? ⟨b, q, none⟩ = some (.slice (some ⟨g, 0, none⟩) m cap)) (hf : w.frozen? ⟨b, q, none⟩ = false) (hm : m ≤ 100000) (hm1 : 1 ≤ m) (hcap : m ≤ cap) :
 Calls Tryz.prog 128 #[.pointer (some ⟨b, q, none⟩)] w fun e w' => e = .returned (.tuple #[]) ∧ w' = (w.setCell ⟨b, q, none⟩ (.slice (some ⟨g, 0, none⟩) (m - 1) cap)).drew := by
 have ha : IntKind.i64.wrap ((m : Int) - 1) = (m : Int) - 1 := IntWalk.i64_in _ (by omega)
 have h0 : (0 : Int) ≤ (m : Int) - 1 := by omega
 have h1 : (1 : Int) ≤ (m : Int) := by omega
 have h3 : ((m : Int) - 1).toNat = m - 1 := by omega
 have h4 : (m : Int) - 1 ≤ (cap : Int) := by omega
 go_enter Tryz.func128, Tryz.ntmps128
 go_wp2_with fail
 go_region_law (fail)
 all_goals
  go_end0
  exact ⟨rfl, rfl⟩
end Go.Proofs.YtlcijlklbabajaaGreatDoor
namespace Go.Proofs.YtlcijlklbabajaaGreatDoor
open Go.RowKit
theorem infoOpn : (Tryz.prog.info? 119).map (fun i => (i.zero, i.size, i.bytes)) = some (some (.agg #[.int .i64 0, .string ⟨#[]⟩, .int .u8 0]), 3, 32) := by kernel_rfl
theorem grown_below {w w1 w2 : World} {row : Option Nat} (hb : Below w.heap.size w w1) (hg : w1.grownBy w2 row) : w.grownBy w2 row :=
 ⟨hg.os.trans hb.os, hg.tape.trans hb.tape, hg.output.trans hb.output, Nat.le_trans hb.size hg.size, fun k hk hne => (hg.block k (Nat.lt_of_lt_of_le hk hb.size) hne).trans (hb.block k hk)⟩
set_option maxHeartbeats 1000000 in
set_option maxRecDepth 100000 in
theorem push_any (B b q : Nat) (sv : Value) (st : List Opn) (o : Opn) (cs : Array Value) (T : TypeId) (w : World) (hrow : OpnRow B sv st w) (hb : w.heap[b]? = some (.cells cs T (0, 0))) (hT : 119 ≠ T) (hc : cs[q]? = some sv) (hl : st.length ≤ 100000) (hB : B ≤ w.heap.size) :
 Calls Tryz.prog 86 #[.pointer (some ⟨b, q, none⟩), opA o] w fun e w' => e = .returned (.tuple #[]) ∧ ∃ sv' w1, w.grownBy w1 sv.ownBlock ∧ OpnRow B sv' (o :: st) w1 ∧ w' = w1.setCell ⟨b, q, none⟩ sv' := by
 obtain ⟨g, cap, hv, hBg, hgl, _⟩ := hrow.some
 obtain ⟨i0, hi, hz0, hz1, hz2⟩ := info_parts infoOpn
 have hbl : b < w.heap.size := (Array.getElem?_eq_some_iff.1 hb).1
 have c0 : w.cell? ⟨b, q, none⟩ = some sv := by rw [cell_of_row w b q _ _ _ hb]; exact hc
 have f0 : w.frozen? ⟨b, q, none⟩ = false := Lib.frozen_of_heap hb _
 subst hv
 obtain ⟨O, hO⟩ : ∃ O, O = Obj.cells #[.int .i64 (o.node : Int), .string (strOf o.name), .int .u8 (o.kind : Int)] 119 (0, 0) := ⟨_, rfl⟩
 obtain ⟨W2, hW2⟩ : ∃ W2, W2 = ((w.alloc O).alloc O).drew := ⟨_, rfl⟩
 have hbel : Below w.heap.size w W2 := by rw [hW2]; exact (((Below.refl _ _).alloc (Nat.le_refl _) O).alloc (by simp) O).drew
 have hown : W2.ownsRow B 119 3 (.slice (some ⟨g, 0, none⟩) (st.length + 1) cap) (st.length + 1) ((Opn.doc :: st.reverse).flatMap opF) := own_below hrow hbel
 have hnew : W2.heap[w.heap.size + 1]? = some O := by
  rw [hW2]
  have := heap_alloc_new (w.alloc O) O
  rw [show (w.alloc O).heap.size = w.heap.size + 1 by simp] at this
  exact this
 have hsz : W2.heap.size = w.heap.size + 2 := by rw [hW2]; simp [World.drew]
 have hb2 : W2.heap[b]? = some (.cells cs T (0, 0)) := (hbel.block b hbl).trans hb
 have hgb : (some g : Option Nat) ≠ some b := own_ne hown hb2 hT
 rw [hO] at hnew
 have H := hid_mk (And.intro hbel (And.intro hown (And.intro hnew (And.intro hsz (And.intro hb2 hgb)))))
 have HW2 := hid_mk (show ((w.alloc (.cells #[.int .i64 (o.node : Int), .string (strOf o.name), .int .u8 (o.kind : Int)] 119)).alloc (.cells #[.int .i64 (o.node : Int), .string (strOf o.name), .int .u8 (o.kind : Int)] 119)).drew = W2 by rw [hW2, hO])
 have HI := hid_mk (And.intro hi (And.intro hz0 (And.intro hz1 hz2)))
 unfold opA
 clear hrow hbel hown hnew hsz hb2 hgb hO hW2 hi hz0 hz1 hz2
 go_enter Tryz.func86, Tryz.ntmps86
 go_wp2_with fail
 go_region_law
  (rw [HW2.out]
   obtain ⟨hbel, hown, hnew, hsz, hb2, hgb⟩ := H.out
   obtain ⟨hi, hz0, hz1, hz2⟩ := HI.out
   refine step_append_lies W2 rfl (.tmp 7) (.tmp 9) 91 rfl B 119 i0 _ 3 32 Tryz.underlying91 hi hz0 hz1 hz2 rfl (by decide) _ (st.length + 1) ((Opn.doc :: st.reverse).flatMap opF) rfl hown ⟨w.heap.size + 1, 0, none⟩ 1 1 (opF o) rfl rfl (by
    intro j u hu
    rw [addr_add0, cell_of_row W2 _ j _ _ _ hnew, ← hu, ← Array.getElem?_toList]
    rfl) (by
    intro u hu
    simp only [opF, List.mem_cons, List.not_mem_nil, or_false] at hu
    rcases hu with rfl | rfl | rfl <;> rfl) (by decide) (by unfold maxLen; omega) (by omega) (by omega) _ rfl ?_
   intro g5 cap5 w5 hown5 hgrow5 _ _
   have hb5 : w5.heap[b]? = some (.cells cs T (0, 0)) := (hgrow5.block b (by omega) (fun e => hgb e.symm)).trans hb2
   have c5 : w5.cell? ⟨b, q, none⟩ = some (.slice (some ⟨g, 0, none⟩) (st.length + 1) cap) := by rw [cell_of_row w5 b q _ _ _ hb5]; exact hc
   have f5 : w5.frozen? ⟨b, q, none⟩ = false := Lib.frozen_of_heap hb5 _
   have H5 := hid_mk (And.intro hown5 hgrow5)
   clear hbel hown hnew hsz hb2 hgb hi hz0 hz1 hz2 hown5 hgrow5 hb5)
 all_goals
  go_end0
  refine ⟨rfl, _, w5, grown_below H.out.1 H5.out.2, ?_, rfl⟩
  have h5 := H5.out.1
  have e1 : (Opn.doc :: st.reverse).flatMap opF ++ opF o = (Opn.doc :: (o :: st).reverse).flatMap opF := by simp
  rw [e1] at h5
  exact h5
end Go.Proofs.YtlcijlklbabajaaGreatDoor
