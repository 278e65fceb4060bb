/-
  Package token's functions over []byte(s): madeOf, small. Conditions: the texts' lengths are bounded.
-/
import Derived.Test.YtfjhljhgmbhklaaGreatDoorTSmall
import Derived.Lib.AtoiErrMem
namespace Go.Proofs.YtfjhljhgmbhklaaGreatDoor
open Go.RowKit
/-- Block g holds these bytes, and they may be written. -/
def ByRow (g : Nat) (bs : List UInt8) (w : World) : Prop :=
  ∃ (cs : Array Value) (fr : Nat × Nat), w.heap[g]? = some (.cells cs 5 fr) ∧ (∀ j, j < bs.length → cs[j]? = some (.int .u8 ((bs.getD j 0).toNat : Int))) ∧ bs.length ≤ fr.1
theorem ByRow.cell {g : Nat} {bs : List UInt8} {w : World} (h : ByRow g bs w) (j : Nat) (hj : j < bs.length) : w.cell? ⟨g, j, none⟩ = some (.int .u8 ((bs.getD j 0).toNat : Int)) := by
  obtain ⟨cs, fr, h1, h2, _⟩ := h
  rw [cell_of_row w g j _ _ _ h1]
  exact h2 j hj
theorem ByRow.frozen {g : Nat} {bs : List UInt8} {w : World} (h : ByRow g bs w) (j : Nat) (hj : j < bs.length) : w.frozen? ⟨g, j, none⟩ = false := by
  obtain ⟨cs, fr, h1, _, h3⟩ := h
  unfold World.frozen?
  simp only [h1]
  simp
  omega
theorem ByRow.has {g : Nat} {bs : List UInt8} {w : World} (h : ByRow g bs w) : HasBytes w (some ⟨g, 0, none⟩) bs := by
  refine .inr ⟨_, rfl, fun _ => ?_, fun j u hu => ?_⟩
  · obtain ⟨cs, fr, h1, _⟩ := h
    exact (Array.getElem?_eq_some_iff.1 h1).1
  · have hj := (List.getElem?_eq_some_iff.1 hu).1
    rw [Lib.byteCells_length] at hj
    rw [addr_add0, h.cell j hj, ← hu]
    unfold Lib.byteCells
    rw [List.getElem?_map, List.getElem?_eq_getElem hj]
    simp [List.getD, hj]
theorem ByRow.set {g : Nat} {bs : List UInt8} {w : World} (h : ByRow g bs w) (k : Nat) (hk : k < bs.length) (c : UInt8) : ByRow g (bs.set k c) (w.setCell ⟨g, k, none⟩ (.int .u8 (c.toNat : Int))) := by
  obtain ⟨cs, fr, h1, h2, h3⟩ := h
  have hlen : k < cs.size := by
    have := h2 k hk
    exact (Array.getElem?_eq_some_iff.1 this).1
  refine ⟨cs.set! k (.int .u8 (c.toNat : Int)), fr, ?_, fun j hj => ?_, by rw [List.length_set]; exact h3⟩
  · show (w.heap.modify g _)[g]? = _
    rw [Array.getElem?_modify, if_pos rfl, h1]
    rfl
  · rw [List.length_set] at hj
    by_cases e : j = k
    · subst e
      simp [hlen, List.getD, hj]
    · have := h2 j hj
      simp only [List.getD_eq_getElem?_getD] at this ⊢
      rw [List.getElem?_set_ne (by omega), ← this]
      simp [Array.getElem?_setIfInBounds_ne (show k ≠ j by omega)]
theorem byRow_world (w : World) (s : ByteArray) : ByRow w.heap.size (sl s) (Lib.bytesWorld w 5 s) := by
  refine ⟨_, _, Lib.bytesWorld_at_new w 5 s, fun j hj => ?_, ?_⟩
  · rw [len_sl] at hj
    have h := Lib.bytesWorld_cell w 5 s j hj
    rw [cell_of_row _ _ j _ _ _ (Lib.bytesWorld_at_new w 5 s)] at h
    exact h
  · unfold Lib.bytesCells
    simp [len_sl]
theorem madeL_take {l o : List UInt8} {k : Nat} (hk : k < l.length) : madeL (l.take (k + 1)) o = (madeL (l.take k) o && (isLet (l.getD k 0) || isDig (l.getD k 0) || o.contains (l.getD k 0))) := by
  rw [List.take_add_one]
  unfold madeL
  rw [List.all_append, List.getElem?_eq_getElem hk]
  simp [List.getD, hk]
theorem madeL_bad {l o : List UInt8} {k : Nat} (hk : k < l.length) (h : (isLet (l.getD k 0) || isDig (l.getD k 0) || o.contains (l.getD k 0)) = false) : madeL l o = false := by
  unfold madeL
  rw [List.all_eq_false]
  exact ⟨l.getD k 0, by simp [List.getD, hk], by rw [h]; simp⟩
set_option maxHeartbeats 2000000 in
set_option maxRecDepth 100000 in
theorem madeOf_any (s o : ByteArray) (w : World) (hs : s.size ≤ 1000000000) :
    Calls Tryz.prog 144 #[.string s, .string o] w fun e w' => e = .returned (.bool (madeL (sl s) (sl o))) ∧ Below w.heap.size w w' := by
  have hcv := Lib.run_convert_string_bytes (P := Tryz.prog) w 9 42 5 s Tryz.underlying9 Tryz.underlying42 Tryz.underlying5
  have HB := hid_mk (Lib.bytesWorld_below w 5 s)
  have HR := hid_mk (byRow_world w s)
  generalize grownCap w s.size 0 5 = gc at *
  generalize Lib.bytesWorld w 5 s = w1 at *
  go_enter Tryz.func144, Tryz.ntmps144
  go_wp2_with fail
  go_loop [6, 10] (fun _ i => ∃ k : Nat, k ≤ s.size ∧ i = .int .i64 k ∧ Hid (madeL ((sl s).take k) (sl o) = true)) (fun _ i => s.size - (intOf i).toNat)
  case atStart => exact ⟨0, Nat.zero_le _, rfl, hid_mk rfl⟩
  case round =>
    obtain ⟨k, hk, rfl, hm⟩ := hrel
    by_cases hlt : k < s.size
    · have hc := HR.out.cell k (by rw [len_sl]; exact hlt)
      have ht := madeL_take (l := sl s) (o := sl o) (k := k) (by rw [len_sl]; exact hlt)
      have hb := madeL_bad (l := sl s) (o := sl o) (k := k) (by rw [len_sl]; exact hlt)
      rw [hm.out, Bool.true_and] at ht
      generalize (sl s).getD k 0 = c at *
      have hi := indexByte_iff (sl o) c
      cases hlet : isLet c with
      | true =>
        have HT := hid_mk (ht.trans (by rw [hlet]; first | done | rfl))
        have HL := hid_mk (fun w => letter_any c w)
        rw [hlet] at HL
        clear ht hb hi hm hlet
        go_wp2_with fail
        refine (HL.out _).mono ?_
        rintro e w' ⟨rfl, rfl⟩
        go_wp2_with fail
        go_round
        case rel => exact ⟨k + 1, by omega, by go_num, HT⟩
        case measure => simp [intOf]; omega
      | false =>
        have HL := hid_mk (fun w => letter_any c w)
        rw [hlet] at HL
        have HD := hid_mk (fun w => dig_any c w)
        cases hdig : isDig c with
        | true =>
          have HT := hid_mk (ht.trans (by rw [hlet, hdig]; first | done | rfl))
          rw [hdig] at HD
          clear ht hb hi hm hlet hdig
          go_wp2_with fail
          refine (HL.out _).mono ?_
          rintro e w' ⟨rfl, rfl⟩
          go_wp2_with fail
          refine (HD.out _).mono ?_
          rintro e w' ⟨rfl, rfl⟩
          go_wp2_with fail
          go_round
          case rel => exact ⟨k + 1, by omega, by go_num, HT⟩
          case measure => simp [intOf]; omega
        | false =>
          rw [hdig] at HD
          have HI := hid_mk (fun w => Tryz.strings_IndexByte o (c.toNat : Int) w)
          rw [byte_back, show o.data.toList = sl o from rfl] at HI
          generalize Lib.indexByte (sl o) c = ix at *
          cases hin : (sl o).contains c with
          | true =>
            have HT := hid_mk (ht.trans (by rw [hlet, hdig, hin]; first | done | rfl))
            rw [hin] at hi
            have hge : ¬ ix < 0 := by have := of_decide_eq_true hi.symm; omega
            clear ht hb hi hm hlet hdig hin
            go_wp2_with fail
            refine (HL.out _).mono ?_
            rintro e w' ⟨rfl, rfl⟩
            go_wp2_with fail
            refine (HD.out _).mono ?_
            rintro e w' ⟨rfl, rfl⟩
            go_wp2_with fail
            refine (HI.out _).mono ?_
            rintro e w' ⟨rfl, rfl⟩
            go_wp2_with fail
            go_round
            case rel => exact ⟨k + 1, by omega, by go_num, HT⟩
            case measure => simp [intOf]; omega
          | false =>
            have HF := hid_mk (hb (by rw [hlet, hdig, hin]; first | done | rfl))
            rw [hin] at hi
            have hge : ix < 0 := by have := of_decide_eq_false hi.symm; omega
            clear ht hb hi hm hlet hdig hin
            go_wp2_with fail
            refine (HL.out _).mono ?_
            rintro e w' ⟨rfl, rfl⟩
            go_wp2_with fail
            refine (HD.out _).mono ?_
            rintro e w' ⟨rfl, rfl⟩
            go_wp2_with fail
            refine (HI.out _).mono ?_
            rintro e w' ⟨rfl, rfl⟩
            go_wp2_with fail
            go_ret
            rw [HF.out]
            exact ⟨rfl, HB.out⟩
    · have HF := hid_mk hm.out
      rw [List.take_of_length_le (by rw [len_sl]; omega)] at HF
      go_wp2_with fail
      go_ret
      rw [HF.out]
      exact ⟨rfl, HB.out⟩
theorem smL_at (l : List UInt8) (k : Nat) : (smL l).getD k 0 = smC (l.getD k 0) := by
  unfold smL
  simp only [List.getD_eq_getElem?_getD, List.getElem?_map]
  cases l[k]? with
  | none => rfl
  | some c => rfl
theorem mix_set (l : List UInt8) (k : Nat) (hk : k < l.length) : ((smL l).take k ++ l.drop k).set k (smC (l.getD k 0)) = (smL l).take (k + 1) ++ l.drop (k + 1) := by
  have hl : (smL l).length = l.length := List.length_map _
  apply List.ext_getElem?
  intro i
  rw [List.getElem?_set]
  have h1 : ((smL l).take k).length = k := by rw [List.length_take, hl]; omega
  have h2 : ((smL l).take (k + 1)).length = k + 1 := by rw [List.length_take, hl]; omega
  by_cases e : k = i
  · subst e
    rw [if_pos rfl, if_pos (by rw [List.length_append, h1, List.length_drop]; omega), List.getElem?_append_left (by rw [h2]; omega), List.getElem?_take, if_pos (by omega)]
    rw [← smL_at]
    rw [List.getD_eq_getElem?_getD, List.getElem?_eq_getElem (by rw [hl]; exact hk)]
    rfl
  · rw [if_neg e]
    by_cases hlt : i < k
    · rw [List.getElem?_append_left (by rw [h1]; exact hlt), List.getElem?_append_left (by rw [h2]; omega), List.getElem?_take, List.getElem?_take, if_pos hlt, if_pos (by omega)]
    · rw [List.getElem?_append_right (by rw [h1]; omega), List.getElem?_append_right (by rw [h2]; omega), h1, h2, List.getElem?_drop, List.getElem?_drop, show k + (i - k) = k + 1 + (i - (k + 1)) by omega]
theorem mix_same (l : List UInt8) (k : Nat) (hk : k < l.length) (h : smC (l.getD k 0) = l.getD k 0) : (smL l).take k ++ l.drop k = (smL l).take (k + 1) ++ l.drop (k + 1) := by
  rw [← mix_set l k hk, h]
  have hl : (smL l).length = l.length := List.length_map _
  have h1 : ((smL l).take k).length = k := by rw [List.length_take, hl]; omega
  apply List.ext_getElem?
  intro i
  rw [List.getElem?_set]
  split
  · rename_i e
    subst e
    rw [if_pos (by rw [List.length_append, h1, List.length_drop]; omega), List.getElem?_append_right (by rw [h1]; omega), h1, Nat.sub_self, List.getElem?_drop, Nat.add_zero, List.getD_eq_getElem?_getD, List.getElem?_eq_getElem hk]
    rfl
  · rfl
theorem mix_at (l : List UInt8) (k : Nat) (hk : k < l.length) : ((smL l).take k ++ l.drop k).getD k 0 = l.getD k 0 := by
  have hl : (smL l).length = l.length := List.length_map _
  have h1 : ((smL l).take k).length = k := by rw [List.length_take, hl]; omega
  rw [List.getD_eq_getElem?_getD, List.getElem?_append_right (by rw [h1]; omega), h1, Nat.sub_self, List.getElem?_drop, Nat.add_zero, ← List.getD_eq_getElem?_getD]
theorem mix_len (l : List UInt8) (k : Nat) (hk : k ≤ l.length) : ((smL l).take k ++ l.drop k).length = l.length := by
  have hl : (smL l).length = l.length := List.length_map _
  rw [List.length_append, List.length_take, hl, List.length_drop]
  omega
theorem smC_up (c : UInt8) (h : 65 ≤ c.toNat ∧ c.toNat ≤ 90) : ((smC c).toNat : Int) = (c.toNat : Int) - 65 + 97 := by
  unfold smC
  rw [if_pos h]
  have : (c + 32).toNat = (c.toNat + 32) % 256 := by rw [UInt8.toNat_add]; rfl
  omega
theorem smC_no (c : UInt8) (h : ¬ (65 ≤ c.toNat ∧ c.toNat ≤ 90)) : smC c = c := by unfold smC; rw [if_neg h]
set_option maxHeartbeats 2000000 in
set_option maxRecDepth 100000 in
theorem small_any (s : ByteArray) (w : World) (hs : s.size ≤ 1000000000) :
    Calls Tryz.prog 129 #[.string s] w fun e w' => e = .returned (.string (strOf (smL (sl s)))) ∧ Below w.heap.size w w' := by
  have hcv := Lib.run_convert_string_bytes (P := Tryz.prog) w 9 42 5 s Tryz.underlying9 Tryz.underlying42 Tryz.underlying5
  have HB := hid_mk (And.intro (byRow_world w s) (Lib.bytesWorld_below w 5 s))
  have hls := len_sl s
  have hsz : w.heap.size < (Lib.bytesWorld w 5 s).heap.size := by rw [Lib.bytesWorld_size]; omega
  generalize grownCap w s.size 0 5 = gc at *
  generalize Lib.bytesWorld w 5 s = w1 at *
  have HLS := hid_mk hls
  clear hls
  go_enter Tryz.func129, Tryz.ntmps129
  go_wp2_with fail
  go_loopw [4, 5, 10] (fun _ _ i wr => ∃ k : Nat, k ≤ s.size ∧ i = .int .i64 k ∧ Hid (ByRow w.heap.size ((smL (sl s)).take k ++ (sl s).drop k) wr ∧ Below w.heap.size w wr)) (fun _ _ i _ => s.size - (intOf i).toNat)
  case atStart => exact ⟨0, Nat.zero_le _, rfl, hid_mk (by rw [List.take_zero, List.drop_zero, List.nil_append]; exact HB.out)⟩
  case round =>
    obtain ⟨k, hk, rfl, hW⟩ := hrel
    by_cases hlt : k < s.size
    · have hkl : k < (sl s).length := by rw [HLS.out]; exact hlt
      have hc := hW.out.1.cell k (by rw [mix_len _ _ (by omega)]; exact hkl)
      have hf := hW.out.1.frozen k (by rw [mix_len _ _ (by omega)]; exact hkl)
      rw [mix_at _ _ hkl] at hc
      by_cases hup : 65 ≤ ((sl s).getD k 0).toNat ∧ ((sl s).getD k 0).toNat ≤ 90
      · have hset := hW.out.1.set k (by rw [mix_len _ _ (by omega)]; exact hkl) (smC ((sl s).getD k 0))
        rw [mix_set _ _ hkl] at hset
        have hv := smC_up _ hup
        rw [hv] at hset
        have HN := hid_mk (And.intro hset (hW.out.2.setCell (p := ⟨w.heap.size, k, none⟩) (Nat.le_refl _) (.int .u8 ((((sl s).getD k 0).toNat : Int) - 65 + 97))))
        generalize (sl s).getD k 0 = c at *
        clear hset hv hW
        obtain ⟨u1, u2⟩ := hup
        have u3 : (65 : Int) ≤ (c.toNat : Int) := by omega
        have u4 : (c.toNat : Int) ≤ 90 := by omega
        go_wp2_with fail
        go_roundw
        case rel => exact ⟨k + 1, by omega, by go_num, HN⟩
        case measure => simp [intOf]; omega
      · have HN := hid_mk (show ByRow w.heap.size ((smL (sl s)).take (k + 1) ++ (sl s).drop (k + 1)) wr ∧ Below w.heap.size w wr by rw [← mix_same _ _ hkl (smC_no _ hup)]; exact hW.out)
        generalize (sl s).getD k 0 = c at *
        clear hW
        have hcase : c.toNat < 65 ∨ (65 ≤ c.toNat ∧ 90 < c.toNat) := by omega
        clear hup
        rcases hcase with h1 | ⟨h1, h2⟩
        · have u3 : ¬ (65 : Int) ≤ (c.toNat : Int) := by omega
          go_wp2_with fail
          go_roundw
          case rel => exact ⟨k + 1, by omega, by go_num, HN⟩
          case measure => simp [intOf]; omega
        · have u3 : (65 : Int) ≤ (c.toNat : Int) := by omega
          have u4 : ¬ (c.toNat : Int) ≤ 90 := by omega
          go_wp2_with fail
          go_roundw
          case rel => exact ⟨k + 1, by omega, by go_num, HN⟩
          case measure => simp [intOf]; omega
    · obtain rfl : k = s.size := by omega
      have hh := hW.out.1
      have e0 : (smL (sl s)).take s.size ++ (sl s).drop s.size = smL (sl s) := by
        rw [List.take_of_length_le (by unfold smL; rw [List.length_map, len_sl]; exact Nat.le_refl _), List.drop_eq_nil_of_le (by rw [len_sl]; exact Nat.le_refl _), List.append_nil]
      rw [e0] at hh
      have hbc := bytes_conv wr (some ⟨w.heap.size, 0, none⟩) gc (smL (sl s)) hh.has
      rw [show (smL (sl s)).length = s.size by unfold smL; rw [List.length_map, len_sl]] at hbc
      clear hh e0
      have hlt' : ¬ (s.size : Int) < (s.size : Int) := by omega
      go_wp2_with fail
      go_ret
      exact ⟨rfl, hW.out.2⟩
end Go.Proofs.YtfjhljhgmbhklaaGreatDoor
