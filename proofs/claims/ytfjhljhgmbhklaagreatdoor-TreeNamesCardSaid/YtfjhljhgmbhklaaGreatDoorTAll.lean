/-
  Tokens of package token: a text's tokens, or what is wrong, and where. Conditions: the text's length is bounded; the world holds what Tab says.
-/
import Derived.Test.YtfjhljhgmbhklaaGreatDoorTToks
namespace Go.Proofs.YtfjhljhgmbhklaaGreatDoor
open Go.RowKit
/-- What Tokens answers: the error, the place, the tokens. -/
def tokensL (l : List UInt8) : Nat × Nat × List Tk :=
  if 65536 < l.length then (3, 0, [])
  else if 0 ≤ Lib.indexByte l 0 then (42, (Lib.indexByte l 0).toNat, [])
  else if (toksL l).1 = 0 then (0, 0, (toksL l).2.2) else ((toksL l).1, l.length - (toksL l).2.1, [])
def tkF (p : Tk × Value) : List Value := (tkCells p.1 p.2).toList
/-- A row of the call's own of these tokens. -/
def TokRow (B : Nat) (v : Value) (ps : List (Tk × Value)) (w : World) : Prop :=
  w.ownsRow B 25 5 v ps.length (ps.flatMap tkF) ∧ ∀ p ∈ ps, AtRow B p.2 p.1.attrs w
theorem infoTok : (Tryz.prog.info? 25).map (fun i => (i.zero, i.size, i.bytes)) = some (some (.agg #[.int .u8 0, .string ⟨#[]⟩, .slice none 0 0, .bool false, .string ⟨#[]⟩]), 5, 72) := by kernel_rfl
theorem TokRow.below {B : Nat} {v : Value} {ps : List (Tk × Value)} {w w' : World} (h : TokRow B v ps w) (hb : Below w.heap.size w w') : TokRow B v ps w' :=
  ⟨own_below h.1 hb, fun p hp => (h.2 p hp).below hb⟩
theorem TokRow.upd {B b : Nat} {x : ByteArray} {v : Value} {ps : List (Tk × Value)} {w w' : World} (h : TokRow B v ps w) (hr : Rd b x w) (hu : Upd b w w') : TokRow B v ps w' :=
  ⟨World.ownsRow.kept h.1 hu.1 (.inr (own_ne h.1 hr.blk (by decide))), fun p hp => (h.2 p hp).upd hr hu⟩
theorem TokRow.nil (B : Nat) (w : World) : TokRow B (.slice none 0 0) [] w := ⟨⟨rfl, .inl ⟨rfl, rfl⟩⟩, fun p hp => by cases hp⟩
theorem own_kind {w : World} {base n size : Nat} {e : TypeId} {v : Value} {xs : List Value} (h : w.ownsRow base e size v n xs) {g : Nat} (hg : v.ownBlock = some g) : ∃ cs, w.heap[g]? = some (.cells cs e (0, 0)) := by
  rcases h.2 with ⟨rfl, _⟩ | ⟨g', cap, cur, rfl, h2, h3, _⟩
  · cases hg
  · have : g' = g := by simpa [Value.ownBlock] using hg
    subst this
    exact ⟨cur, h3⟩
theorem own_slice {w : World} {base n size : Nat} {e : TypeId} {v : Value} {xs : List Value} (h : w.ownsRow base e size v n xs) : ∃ a c, v = .slice a n c := by
  rcases h.2 with ⟨rfl, h0⟩ | ⟨g', cap, cur, rfl, _⟩
  · exact ⟨none, 0, by rw [h0]⟩
  · exact ⟨_, cap, rfl⟩
theorem TokRow.grown {B : Nat} {v v' : Value} {ps : List (Tk × Value)} {p : Tk × Value} {w w' : World} (h : TokRow B v ps w) (hp : AtRow B p.2 p.1.attrs w) (hg : w.grownBy w' v.ownBlock)
    (hn : w'.ownsRow B 25 5 v' (ps.length + 1) (ps.flatMap tkF ++ tkF p)) : TokRow B v' (ps ++ [p]) w' := by
  have keep : ∀ q : Tk × Value, AtRow B q.2 q.1.attrs w → AtRow B q.2 q.1.attrs w' := fun q hq => by
    refine World.ownsRow.kept hq hg ?_
    cases hv : v.ownBlock with
    | none =>
      cases hq2 : q.2.ownBlock with
      | none => exact .inl rfl
      | some g => exact .inr (by simp)
    | some g =>
      obtain ⟨cs, hcs⟩ := own_kind h.1 hv
      exact .inr (hq.ne hcs (by decide))
  refine ⟨?_, fun q hq => ?_⟩
  · rw [List.length_append, List.flatMap_append, List.flatMap_cons, List.flatMap_nil, List.append_nil]
    exact hn
  · rw [List.mem_append, List.mem_singleton] at hq
    rcases hq with hq | rfl
    · exact keep q (h.2 q hq)
    · exact keep _ hp
def prepT (acc : List Tk) (R : Nat × Nat × List Tk) : Nat × Nat × List Tk := (R.1, if R.1 = 0 then 0 else R.2.1, if R.1 = 0 then acc ++ R.2.2 else [])
theorem prepT_step (acc : List Tk) (l : List UInt8) (hl : l ≠ []) (h : (oneL l).1 = 0) : prepT acc (toksL l) = prepT (acc ++ [(oneL l).2.1]) (toksL (oneL l).2.2) := by
  rw [toksL_step l hl, if_pos h]
  generalize toksL (oneL l).2.2 = R
  obtain ⟨a, b, c⟩ := R
  unfold prepT
  by_cases h0 : a = 0
  · subst h0
    simp
  · simp [h0]
theorem prepT_bad (acc : List Tk) (l : List UInt8) (hl : l ≠ []) (h : (oneL l).1 ≠ 0) : prepT acc (toksL l) = ((oneL l).1, l.length, []) := by
  rw [toksL_step l hl, if_neg h]
  unfold prepT
  simp [h]
def ToksPost (s : List UInt8) (w : World) (e : Ending) (w' : World) : Prop :=
  ∃ (v : Value) (ps : List (Tk × Value)), e = .returned (.tuple #[v, .int .i64 ((tokensL s).1 : Int), .int .i64 ((tokensL s).2.1 : Int)]) ∧ (tokensL s).2.2 = ps.map (·.1) ∧ TokRow w.heap.size v ps w' ∧ Next w w'
set_option maxHeartbeats 4000000 in
set_option maxRecDepth 100000 in
theorem tokens_any (s : ByteArray) (w : World) (hT : Tab w) (hs : s.size ≤ 1000000000) :
    Calls Tryz.prog 39 #[.string s] w (ToksPost (sl s) w) := by
  have HT := hid_mk hT
  clear hT
  by_cases hbig : 65536 < s.size
  · have hb1 : decide (65536 < s.size) = true := decide_eq_true hbig
    have hb2 : decide ((65536 : Int) < (s.size : Int)) = true := decide_eq_true (by omega)
    have HF := hid_mk (show tokensL (sl s) = (3, 0, []) by unfold tokensL; rw [len_sl, if_pos hbig])
    clear hbig
    go_enter Tryz.func39, Tryz.ntmps39
    go_wp2_with fail
    go_ret3
    exact ⟨_, [], by rw [HF.out]; rfl, by rw [HF.out]; rfl, TokRow.nil _ _, Next.refl HT.out⟩
  have hb1 : decide (65536 < s.size) = false := decide_eq_false hbig
  have hb2 : decide ((65536 : Int) < (s.size : Int)) = false := decide_eq_false (by omega)
  have hib := hid_mk (fun w => Tryz.strings_IndexByte s 0 w)
  rw [show (0 : Int).toNat.toUInt8 = (0 : UInt8) from rfl, show s.data.toList = sl s from rfl] at hib
  obtain ⟨ix, hix⟩ : ∃ ix, ix = Lib.indexByte (sl s) 0 := ⟨_, rfl⟩
  rw [← hix] at hib
  have hge := Lib.indexByte_ge (sl s) 0
  rw [← hix] at hge
  by_cases h0 : 0 ≤ ix
  · have HF := hid_mk (show tokensL (sl s) = (42, ix.toNat, []) by unfold tokensL; rw [len_sl, if_neg hbig, ← hix, if_pos h0])
    have HI := hid_mk (show ((ix.toNat : Nat) : Int) = ix by omega)
    clear hbig hix hge
    go_enter Tryz.func39, Tryz.ntmps39
    go_wp2_with fail
    refine (hib.out _).mono ?_
    rintro e w1 ⟨rfl, hw⟩
    have hw := hw.symm
    subst hw
    go_wp2_with fail
    go_ret3
    exact ⟨_, [], by rw [HF.out, HI.out]; rfl, by rw [HF.out]; rfl, TokRow.nil _ _, Next.refl HT.out⟩
  have HF := hid_mk (show tokensL (sl s) = if (toksL (sl s)).1 = 0 then (0, 0, (toksL (sl s)).2.2) else ((toksL (sl s)).1, s.size - (toksL (sl s)).2.1, []) by
    unfold tokensL; rw [len_sl, if_neg hbig, ← hix, if_neg h0])
  have hn0 : ¬ (0 : Int) ≤ ix := h0
  clear hbig hix hge h0
  have hN0 : Now w.heap.size s w (w.alloc (.cells #[.string s] 104)) := ⟨heap_alloc_new w _, (Upd.refl HT.out).alloc _⟩
  have H0 := hid_mk (And.intro hN0 (TokRow.nil w.heap.size (w.alloc (.cells #[.string s] 104))))
  obtain ⟨b, hb⟩ : ∃ b, b = w.heap.size := ⟨_, rfl⟩
  obtain ⟨i0, hi, hz0, hz1, hz2⟩ := info_parts infoTok
  have HI := hid_mk (And.intro hi (And.intro hz0 (And.intro hz1 hz2)))
  have HB := hid_mk hb
  have hmf : ∀ (fn : Fn) (first cap : Array Value) (w : World), (Instr.makeFunc fn first cap).run Tryz.prog w = .ok (.func fn first cap) w := fun _ _ _ _ => rfl
  clear hN0 hi hz0 hz1 hz2 hb
  go_enter Tryz.func39, Tryz.ntmps39
  go_wp2_with fail
  refine (hib.out _).mono ?_
  rintro e w1 ⟨rfl, hw⟩
  have hw := hw.symm
  subst hw
  clear hib
  go_wp2_with fail
  rw [← HB.out]
  rw [← HB.out] at H0
  obtain ⟨w1, hw1⟩ : ∃ w1, w1 = w.alloc (.cells #[.string s] 104) := ⟨_, rfl⟩
  rw [← hw1] at H0 ⊢
  clear hw1
  go_loopg [6] s.size (fun g v6 wx => ∃ (x : ByteArray) (ps : List (Tk × Value)), g = x.size ∧ ps.length + x.size ≤ s.size ∧ Hid (Now b x w wx ∧ TokRow b v6 ps wx) ∧ Hid (prepT [] (toksL (sl s)) = prepT (ps.map (·.1)) (toksL (sl x))))
  case atStart => exact ⟨s, [], rfl, by simp, H0, hid_mk rfl⟩
  case round =>
    obtain ⟨x, ps, rfl, hps, HW, HQ⟩ := hrel
    clear H0
    have hrc := HW.out.1.1.cell
    obtain ⟨va, vc, hv⟩ := own_slice HW.out.2.1
    subst hv
    by_cases hx0 : x.size = 0
    · have hxn : sl x = [] := List.eq_nil_of_length_eq_zero (by rw [len_sl]; exact hx0)
      have he : x.toList = [] := by rw [Lib.toList_data]; exact hxn
      have he2 : x.toList.isEmpty = true := by rw [he]; rfl
      have hq := HQ.out
      rw [hxn, toksL_nil] at hq
      have hq1 : (toksL (sl s)).1 = 0 := congrArg (·.1) hq
      have hq2 : (toksL (sl s)).2.2 = ps.map (·.1) := by
        have := congrArg (·.2.2) hq
        unfold prepT at this
        simp only [hq1, if_true, List.nil_append, List.append_nil] at this
        exact this
      have HR := hid_mk (show tokensL (sl s) = (0, 0, ps.map (·.1)) by rw [HF.out, if_pos hq1, hq2])
      clear hq hq1 hq2 hxn HQ
      go_wp2_with fail
      go_ret3
      exact ⟨_, ps, by rw [HR.out]; rfl, by rw [HR.out], by rw [← HB.out]; exact HW.out.2, ⟨HW.out.1.2.below (by rw [HB.out]; exact Nat.le_refl _) (Nat.le_refl _), HW.out.1.tab⟩⟩
    · have hxne : sl x ≠ [] := fun e => hx0 (by rw [← len_sl, e]; rfl)
      have hne : x.toList.isEmpty = false := by
        rw [Lib.toList_data]
        show (sl x).isEmpty = false
        cases h : sl x with
        | nil => exact absurd h hxne
        | cons _ _ => rfl
      have hxs : x.size ≤ 1000000000 := by omega
      have hnx := hid_mk (next_any b x wr HW.out.1.1)
      have hle : (x.size : Int) ≤ (s.size : Int) := by omega
      have hent := hid_mk (nextF_enters (sl x))
      go_wp2_with fail
      refine hnx.out.mono ?_
      rintro e w2 ⟨rfl, hb2⟩
      have H2 := hid_mk (And.intro (HW.out.1.next hb2) (HW.out.2.below hb2))
      clear hnx hb2
      have hrd := hid_mk (read_any b x w2 H2.out.1.tab H2.out.1.1 hxs (by omega))
      obtain ⟨F, hF⟩ : ∃ F, F = nextF (sl x) := ⟨_, rfl⟩
      rw [← hF] at hent hrd ⊢
      have hen := hent.out
      clear hF
      go_wp2_with fail
      refine hrd.out.mono ?_
      rintro e w3 ⟨cs, err, y, rfl, hr3, hu3, hi3⟩
      have H3 := hid_mk (And.intro (H2.out.1.step hr3 hu3) (H2.out.2.upd H2.out.1.1 hu3))
      have hbw : b ≤ w2.heap.size := Nat.le_of_lt H2.out.1.1.lt
      have hcas := oneL_cases (sl x) hxne
      rw [len_sl] at hcas
      clear hrd hen hent hr3 hu3 H2 hrc hne hle
      rcases hi3.2 with ⟨h0, hy, v, rfl, har⟩ | ⟨h0, rfl⟩
      · obtain ⟨ta, tc, rfl, _⟩ := own_attrs har
        have he0 : err = 0 := by rw [hi3.1, h0]; rfl
        subst he0
        have HQ2 := hid_mk (HQ.out.trans (prepT_step _ _ hxne h0))
        have hlen : (oneL (sl x)).2.2.length < x.size := by omega
        have HAR := hid_mk (har.mono hbw)
        generalize hone : oneL (sl x) = T at *
        obtain ⟨T0, t, rest⟩ := T
        simp only at h0 hy HQ2 hlen HAR
        subst hy
        have H4 := hid_mk (And.intro (H3.out.1.alloc (.cells (tkCells t (.slice ta t.attrs.length tc)) 25)) (And.intro (H3.out.2.below ((Below.refl _ _).alloc (Nat.le_refl _) (.cells (tkCells t (.slice ta t.attrs.length tc)) 25))) (HAR.out.below ((Below.refl _ _).alloc (Nat.le_refl _) (.cells (tkCells t (.slice ta t.attrs.length tc)) 25)))))
        clear hi3 har HQ hone hcas hbw HAR
        obtain ⟨tk, tn, tat, tsf, td⟩ := t
        unfold tkCells
        simp only
        go_wp2_with (at_builtin; refine Classical.byContradiction fun hno => ?_)
        refine hno ?_
        clear hno
        obtain ⟨hi, hz0, hz1, hz2⟩ := HI.out
        obtain ⟨t, ht⟩ : ∃ t : Tk, t = ⟨tk, tn, tat, tsf, td⟩ := ⟨_, rfl⟩
        obtain ⟨w4, hw4⟩ : ∃ w4, w4 = w3.alloc (.cells #[.int .u8 (tk : Int), .string (strOf tn), .slice ta tat.length tc, .bool tsf, .string (strOf td)] 25) := ⟨_, rfl⟩
        have hsz4 : w3.heap.size + 1 = w4.heap.size := by rw [hw4]; simp
        have H4b : Now b (strOf rest) w w4 ∧ TokRow b (.slice va ps.length vc) ps w4 ∧ AtRow b (.slice ta t.attrs.length tc) t.attrs w4 := by rw [hw4, ht]; exact H4.out
        have hbe := Below.alloc (Below.refl w4.heap.size w4) (Nat.le_refl _) (.cells #[.int .u8 (tk : Int), .string (strOf tn), .slice ta tat.length tc, .bool tsf, .string (strOf td)] 25)
        have H5 := And.intro (H4b.1.next hbe) (And.intro (H4b.2.1.below hbe) (H4b.2.2.below hbe))
        have hws := Nat.le_of_lt H5.1.1.lt
        rw [← hw4, hsz4]
        refine wpList_append_own _ rfl (.tmp 41) (.tmp 43) _ rfl b 25 i0 _ 5 72 Tryz.underlying22 hi hz0 hz1 hz2 rfl (by decide) _ ps.length (ps.flatMap tkF) rfl H5.2.1.1 ⟨w4.heap.size, 0, none⟩ 1 1 (tkF (t, .slice ta t.attrs.length tc)) rfl rfl ?c1 ?c2 ?c3 ?c4 hws ?_
        case c1 =>
          intro j u hu
          rw [addr_add0, cell_of_row _ _ j _ _ _ (heap_alloc_new w4 _), ← hu, ht, ← Array.getElem?_toList]
          rfl
        case c2 =>
          intro u hu
          rw [ht] at hu
          simp only [tkF, tkCells, List.mem_cons, List.not_mem_nil, or_false] at hu
          rcases hu with rfl | rfl | rfl | rfl | rfl <;> rfl
        case c3 => unfold maxLen; omega
        case c4 => omega
        intro v' w6 hown' hgrow _
        have hrow := TokRow.grown H5.2.1 H5.2.2 hgrow hown'
        have hnb := own_ne H5.2.1.1 H5.1.1.blk (by decide)
        have hnow := H5.1.grown HT.out hgrow (fun k hk => ⟨by rw [← HB.out]; exact own_base H5.2.1.1 k hk, fun e => by subst e; exact hnb hk⟩)
        have HN := hid_mk (And.intro hnow hrow)
        have hgl : (ps ++ [(t, Value.slice ta t.attrs.length tc)]).length + (strOf rest).size ≤ s.size := by
          rw [List.length_append, size_strOf]
          show ps.length + 1 + rest.length ≤ s.size
          omega
        have HQ3 := hid_mk (show prepT [] (toksL (sl s)) = prepT ((ps ++ [(t, Value.slice ta t.attrs.length tc)]).map (·.1)) (toksL (sl (strOf rest))) by
          rw [List.map_append, sl_strOf, ht]
          exact HQ2.out)
        have hrs := size_strOf rest
        clear hown' hgrow hrow hnb hnow H5 hbe hws H4b hi hz0 hz1 hz2 H4 H3 hsz4 hw4 HQ2
        have HRS := hid_mk hrs
        clear hrs ht h0
        go_wp2_with fail
        go_roundg rest.length
        case measure => omega
        case rel => exact ⟨strOf rest, _, HRS.out.symm, hgl, HN, HQ3⟩
      · have he : err = ((oneL (sl x)).1 : Int) := hi3.1
        subst he
        have hq := HQ.out.trans (prepT_bad _ _ hxne h0)
        rw [len_sl] at hq
        have hq1 : (toksL (sl s)).1 = (oneL (sl x)).1 := congrArg (·.1) hq
        have hq2 : (toksL (sl s)).2.1 = x.size := by
          have := congrArg (·.2.1) hq
          unfold prepT at this
          rw [if_neg (by rw [hq1]; exact h0)] at this
          exact this
        have hpl : x.size ≤ s.size := by omega
        obtain ⟨n, hn⟩ : ∃ n, n = (oneL (sl x)).1 := ⟨_, rfl⟩
        rw [← hn] at h0 hq1 ⊢
        have HR := hid_mk (show tokensL (sl s) = (n, s.size - x.size, []) by rw [HF.out, if_neg (by rw [hq1]; exact h0), hq1, hq2])
        have HPL := hid_mk (show ((s.size - x.size : Nat) : Int) = (s.size : Int) - (x.size : Int) by omega)
        have e1 : ((n : Int) == 0) = false := beq_false_of_ne (by omega)
        have e2 : ((n : Int) != 0) = true := by rw [bne, e1]; rfl
        have H4 := hid_mk (H3.out.1.alloc (.cells zTok 25))
        clear hq hq1 hq2 hn hi3 HQ hcas hbw H3 h0
        unfold zTok
        go_wp2_with fail
        go_ret3
        exact ⟨_, [], by rw [HR.out, HPL.out]; rfl, by rw [HR.out]; rfl, TokRow.nil _ _, ⟨H4.out.2.below (by rw [HB.out]; exact Nat.le_refl _) (Nat.le_refl _), H4.out.tab⟩⟩
end Go.Proofs.YtfjhljhgmbhklaaGreatDoor
