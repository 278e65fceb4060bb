/-
  The law of layer 4 about plain texts: it returns true for every text. Condition: the world holds what Tab says.
-/
import Derived.Test.YtnlbhifpmoemdaaDoorTWorks
namespace Go.Proofs.YtnlbhifpmoemdaaDoor
open Go.RowKit
/-- Has a text one of some bytes? -/
def hasL (l some : List UInt8) : Bool := l.any fun c => some.contains c
theorem hasL_take {l s : List UInt8} {k : Nat} (hk : k < l.length) : hasL (l.take (k + 1)) s = (hasL (l.take k) s || s.contains (l.getD k 0)) := by
  rw [List.take_add_one]
  unfold hasL
  rw [List.any_append, List.getElem?_eq_getElem hk]
  simp [List.getD, hk]
theorem hasL_hit {l s : List UInt8} {k : Nat} (hk : k < l.length) (h : s.contains (l.getD k 0) = true) : hasL l s = true := by
  unfold hasL
  rw [List.any_eq_true]
  exact ⟨l.getD k 0, by simp [List.getD, hk], h⟩
theorem contains_take {s : List UInt8} {c : UInt8} {k : Nat} (hk : k < s.length) : (s.take (k + 1)).contains c = ((s.take k).contains c || (c == s.getD k 0)) := by
  rw [List.take_add_one, List.getElem?_eq_getElem hk, Option.toList_some, Bool.eq_iff_iff]
  simp only [List.contains_iff_mem, List.mem_append, Bool.or_eq_true, List.mem_singleton, beq_iff_eq]
  rw [List.getD_eq_getElem?_getD, List.getElem?_eq_getElem hk]
  rfl
set_option maxHeartbeats 2000000 in
set_option maxRecDepth 100000 in
theorem has_any (s t : ByteArray) (w : World) (hs : s.size ≤ 1000000000) (ht : t.size ≤ 1000) :
    Calls Tryd.prog 11 #[.string s, .string t] w fun e w' => e = .returned (.bool (hasL (sl s) (sl t))) ∧ ∃ n, w' = w.drewN n := by
  obtain ⟨R, hR⟩ : ∃ R, R = hasL (sl s) (sl t) := ⟨_, rfl⟩
  rw [← hR]
  have HR := hid_mk hR
  clear hR
  go_enter Tryd.func11, Tryd.ntmps11
  go_wp2_with fail
  go_loopw [5, 6] (fun i _ wr => ∃ k : Nat, k ≤ s.size ∧ i = .int .i64 k ∧ Hid (hasL ((sl s).take k) (sl t) = false) ∧ Hid (∃ n, wr = w.drewN n)) (fun i _ _ => s.size - (intOf i).toNat)
  case atStart => exact ⟨0, Nat.zero_le _, rfl, hid_mk rfl, hid_mk ⟨0, rfl⟩⟩
  case round =>
    obtain ⟨k, hk, rfl, hm, hW⟩ := hrel
    by_cases hlt : k < s.size
    · have hlti : (k : Int) < (s.size : Int) := by omega
      have hkl : k < (sl s).length := by rw [len_sl]; exact hlt
      have HT := hid_mk (hasL_take (s := sl t) hkl)
      have HH := hid_mk (fun h => hasL_hit (s := sl t) hkl h)
      rw [getD_sl s k hlt] at HT HH
      generalize wr = wo at *
      go_wp2_with fail
      go_loopw [6] (fun j wr => ∃ q : Nat, q ≤ t.size ∧ j = .int .i64 q ∧ Hid (((sl t).take q).contains (s[k]'hlt) = false) ∧ Hid (∃ n, wr = w.drewN n)) (fun j _ => t.size - (intOf j).toNat)
      case atStart => exact ⟨0, Nat.zero_le _, rfl, hid_mk rfl, hW⟩
      case round =>
        obtain ⟨q, hq, rfl, hc, hW2⟩ := hrel
        by_cases hqt : q < t.size
        · have hqti : (q : Int) < (t.size : Int) := by omega
          have hct := contains_take (s := sl t) (c := s[k]'hlt) (k := q) (by rw [len_sl]; exact hqt)
          rw [hc.out, Bool.false_or, getD_sl t q hqt] at hct
          have hmem : (s[k]'hlt == t[q]'hqt) = true → (sl t).contains (s[k]'hlt) = true := fun h => by
            rw [beq_iff_eq] at h
            rw [h, List.contains_iff_mem]
            exact List.mem_iff_getElem?.2 ⟨q, Lib.data_getElem? t q hqt⟩
          cases he : (s[k]'hlt == t[q]'hqt) with
          | true =>
            have HF := hid_mk (show R = true from HR.out.trans (HH.out (hmem he)))
            have hqe : (((s[k]'hlt).toNat : Int) == ((t[q]'hqt).toNat : Int)) = true := by rw [beq_iff_eq] at he; rw [he]; exact beq_self_eq_true _
            clear hct hmem he
            go_wp2_with fail
            go_quiet (fail)
            obtain ⟨n0, hn0⟩ := hW2.out
            have HD := hid_mk (show ∃ n, wr.drewN nq = w.drewN n by rw [hn0]; exact drewN_drewN _ _ _)
            clear hn0
            go_wp2_with fail
            go_ret
            rw [HF.out]
            exact ⟨rfl, HD.out⟩
          | false =>
            have HC := hid_mk (hct.trans he)
            have hqe : (((s[k]'hlt).toNat : Int) == ((t[q]'hqt).toNat : Int)) = false := by
              refine beq_false_of_ne fun h => ?_
              have : s[k]'hlt = t[q]'hqt := UInt8.toNat_inj.1 (by omega)
              rw [this] at he
              simp at he
            clear hct hmem he
            go_wp2_with fail
            go_quiet (fail)
            obtain ⟨n0, hn0⟩ := hW2.out
            have HD := hid_mk (show ∃ n, wr.drewN nq = w.drewN n by rw [hn0]; exact drewN_drewN _ _ _)
            clear hn0
            go_wp2_with fail
            go_roundw
            case rel => exact ⟨q + 1, by omega, by go_num, HC, HD⟩
            case measure => simp [intOf]; omega
        · have hqti : ¬ (q : Int) < (t.size : Int) := by omega
          have hc2 := hc.out
          rw [List.take_of_length_le (by rw [len_sl]; omega)] at hc2
          have HM := hid_mk (show hasL ((sl s).take (k + 1)) (sl t) = false by rw [HT.out, hm.out, hc2]; rfl)
          clear hc2
          go_wp2_with fail
          go_roundw
          case rel => exact ⟨k + 1, by omega, by go_num, HM, hW2⟩
          case measure => simp [intOf]; omega
    · have hlti : ¬ (k : Int) < (s.size : Int) := by omega
      have hm2 := hm.out
      rw [List.take_of_length_le (by rw [len_sl]; omega)] at hm2
      have HF := hid_mk (show R = false from HR.out.trans hm2)
      clear hm2
      go_wp2_with fail
      go_ret
      rw [HF.out]
      exact ⟨rfl, hW.out⟩
theorem decL_no38 (attr : Bool) (l : List UInt8) (h : ∀ c ∈ l, c.toNat ≠ 38) : decL l attr = l := by
  have := decL_skip attr [] l h
  rwa [List.append_nil, decL_nil, List.append_nil] at this
theorem leavesL_no {l : List UInt8} (h : hasL l [60, 38, 0] = false) (k : Nat) : leavesL (l.drop k) = false := by
  cases hl : leavesL (l.drop k) with
  | false => rfl
  | true =>
    exfalso
    obtain ⟨h2, h60⟩ := leaves_facts hl
    rw [atL_drop, Nat.add_zero] at h60
    rw [List.length_drop] at h2
    have hk : k < l.length := by omega
    have := hasL_hit (l := l) (s := [60, 38, 0]) hk (by
      have e : l.getD k 0 = 60 := by
        apply UInt8.toNat_inj.1
        unfold atL at h60
        rw [List.getD_eq_getElem?_getD]
        exact h60
      rw [e]
      decide)
    rw [h] at this
    cases this
theorem textN_no {l : List UInt8} (h : hasL l [60, 38, 0] = false) : ∀ (n k : Nat), n = l.length - k → k ≤ l.length → textN (l.drop k) = n
  | 0, k, hn, hk => by
    rw [List.drop_eq_nil_of_le (by omega)]
    rfl
  | n + 1, k, hn, hk => by
    rw [textN_go (by omega) (leavesL_no h k), textN_no h n (k + 1) (by omega) (by omega)]
theorem tokens_plain {l : List UInt8} (h : hasL l [60, 38, 0] = false) (hl : l.length ≤ 65536) : tokensL l = (0, 0, if l = [] then [] else [⟨3, [], [], false, l⟩]) := by
  have h0 : ¬ 0 ≤ Lib.indexByte l 0 := by
    intro h0
    obtain ⟨k, hk⟩ : ∃ k : Nat, Lib.indexByte l 0 = (k : Int) := ⟨(Lib.indexByte l 0).toNat, by omega⟩
    have h1 := (Lib.indexByte_some hk).1
    have hkl := (List.getElem?_eq_some_iff.1 h1).1
    have := hasL_hit (l := l) (s := [60, 38, 0]) hkl (by rw [List.getD_eq_getElem?_getD, h1]; decide)
    rw [h] at this
    cases this
  unfold tokensL
  rw [if_neg (by omega), if_neg h0]
  by_cases hn : l = []
  · subst hn; rfl
  · have hpos : 0 < l.length := List.length_pos_iff.2 hn
    have hone : oneL l = (0, ⟨3, [], [], false, l⟩, []) := by
      unfold oneL
      rw [show leavesL l = false from by have := leavesL_no h 0; rwa [List.drop_zero] at this]
      have ht := textN_no h (l.length - 1) 1 rfl (by omega)
      rw [ht, show l.length - 1 + 1 = l.length by omega, List.take_length, List.drop_length]
      rw [decL_no38 false l (fun c hc h38 => by
        obtain ⟨k, hk, rfl⟩ := List.mem_iff_getElem.1 hc
        have := hasL_hit (l := l) (s := [60, 38, 0]) hk (by
          have e : l.getD k 0 = 38 := by
            apply UInt8.toNat_inj.1
            rw [List.getD_eq_getElem?_getD, List.getElem?_eq_getElem hk]
            exact h38
          rw [e]
          decide)
        rw [h] at this
        cases this)]
      rfl
    rw [toksL_step l hn, hone, if_neg hn]
    rfl
set_option maxHeartbeats 4000000 in
set_option maxRecDepth 100000 in
theorem tokenPlain_w (s : ByteArray) (w : World) (hT : Tab w) :
    Calls Tryd.prog 4 #[.string s] w fun e w' => e = .returned (.bool true) ∧ Next w w' := by
  have HT := hid_mk hT
  clear hT
  by_cases hbig : 5000 < s.size
  · have hb1 : decide (5000 < s.size) = true := decide_eq_true hbig
    have hb2 : decide ((5000 : Int) < (s.size : Int)) = true := decide_eq_true (by omega)
    clear hbig
    go_enter Tryd.func4, Tryd.ntmps4
    go_wp2_with fail
    refine (works_any w HT.out).mono ?_
    rintro e w1 ⟨rfl, hn1⟩
    have H1 := hid_mk hn1
    clear hn1
    go_wp2
    go_ret
    exact ⟨rfl, H1.out⟩
  have hb1 : decide (5000 < s.size) = false := decide_eq_false hbig
  have hb2 : decide ((5000 : Int) < (s.size : Int)) = false := decide_eq_false (by omega)
  have hha := hid_mk (has_any s ⟨#[60, 38, 0]⟩ w (by omega) (by decide))
  rw [show sl ⟨#[60, 38, 0]⟩ = [60, 38, 0] from rfl] at hha
  have hsz : s.size ≤ 5000 := by omega
  clear hbig
  cases hh : hasL (sl s) [60, 38, 0] with
  | true =>
    rw [hh] at hha
    clear hh
    go_enter Tryd.func4, Tryd.ntmps4
    go_wp2_with fail
    refine hha.out.mono ?_
    rintro e w1 ⟨rfl, n1, hw1⟩
    have H1 := hid_mk (Next.of HT.out (show Below w.heap.size w w1 by rw [hw1]; exact below_drewN (Below.refl _ _) n1))
    clear hw1
    go_wp2_with fail
    refine (works_any _ H1.out.2).mono ?_
    rintro e w2 ⟨rfl, hn2⟩
    have H2 := hid_mk (H1.out.trans hn2)
    clear hn2
    go_wp2
    go_ret
    exact ⟨rfl, H2.out⟩
  | false =>
    rw [hh] at hha
    have htk := tokens_plain hh (by rw [len_sl]; omega)
    have HK := hid_mk htk
    clear hh htk
    go_enter Tryd.func4, Tryd.ntmps4
    go_wp2_with fail
    refine hha.out.mono ?_
    rintro e w1 ⟨rfl, n1, hw1⟩
    have H1 := hid_mk (Next.of HT.out (show Below w.heap.size w w1 by rw [hw1]; exact below_drewN (Below.refl _ _) n1))
    clear hw1 hha
    have hto := hid_mk (tokens_any s w1 H1.out.2 (by omega))
    go_wp2_with fail
    refine hto.out.mono ?_
    rintro e w2 ⟨v, ps, rfl, hps, hrow, hn⟩
    rw [HK.out] at hps ⊢
    have H2 := hid_mk (And.intro (H1.out.trans hn) hrow)
    clear hto hrow hn
    by_cases hs0 : sl s = []
    · have he : s.toList = [] := by rw [Lib.toList_data]; exact hs0
      have he2 : s.toList.isEmpty = true := by rw [he]; rfl
      rw [if_pos hs0] at hps
      have hps0 : ps = [] := by simpa using hps.symm
      subst hps0
      obtain ⟨a, c, hv⟩ := own_slice H2.out.2.1
      subst hv
      clear hps hs0
      go_wp2_with fail
      refine (works_any w2 H2.out.1.2).mono ?_
      rintro e w3 ⟨rfl, hn3⟩
      have H3 := hid_mk (H2.out.1.trans hn3)
      clear hn3
      go_wp2
      go_ret
      exact ⟨rfl, H3.out⟩
    · have hne : s.toList.isEmpty = false := by
        rw [Lib.toList_data]
        show (sl s).isEmpty = false
        cases h : sl s with
        | nil => exact absurd h hs0
        | cons _ _ => rfl
      rw [if_neg hs0] at hps
      have hlen : ps.length = 1 := by simpa using (congrArg List.length hps).symm
      match ps, hlen, H2, hps with
      | [p], _, H2, hps =>
      obtain ⟨g, c, hv⟩ := H2.out.2.some (by simp)
      rw [show ([p] : List (Tk × Value)).length = 1 from rfl] at hv
      subst hv
      simp only [List.map_cons, List.map_nil, List.cons.injEq, and_true] at hps
      have c0 := fun j hj => H2.out.2.cells 0 (by simp) j hj
      simp only [List.getElem_cons_zero, tkF, ← hps] at c0
      have d0 : w2.cell? ⟨g, 0, none⟩ = some (.int .u8 3) := c0 0 (by decide)
      have d4 : w2.cell? ⟨g, 4, none⟩ = some (.string (strOf (sl s))) := c0 4 (by decide)
      rw [strOf_sl] at d4
      clear c0 hps hs0
      go_wp2_with fail
      refine (works_any w2 H2.out.1.2).mono ?_
      rintro e w3 ⟨rfl, hn3⟩
      have H3 := hid_mk (H2.out.1.trans hn3)
      clear hn3
      go_wp2
      go_ret
      exact ⟨rfl, H3.out⟩
theorem tokenPlain_c (s : ByteArray) (w : World) {c : Prop} (_ : c) (hT : Tab w) :
    Calls Tryd.prog 4 #[.string s] w fun e w' => e = .returned (.bool true) ∧ Next w w' := tokenPlain_w s w hT
end Go.Proofs.YtnlbhifpmoemdaaDoor
