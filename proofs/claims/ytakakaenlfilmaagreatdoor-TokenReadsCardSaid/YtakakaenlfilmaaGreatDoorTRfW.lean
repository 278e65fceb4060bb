/-
  same of the laws of layer 4, of two rows of the same tokens. Condition: the attributes' number is bounded.
-/
import Derived.Test.YtakakaenlfilmaaGreatDoorTRfO
import Derived.Deep.QuietTactic
import Derived.BigQuiet
import Derived.Test.YtakakaenlfilmaaGreatDoorTRight
namespace Go.Proofs.YtakakaenlfilmaaGreatDoor
open Go.RowKit
theorem RTokRow.has {B : Nat} {v : Value} {ps : List (Tk × Value)} {w : World} (h : RTokRow B v ps w) : ∃ a c, v = .slice a ps.length c ∧ HasToks w a ps := by
  rcases h.1.2 with ⟨rfl, h0⟩ | ⟨g, cap, cur, rfl, h2, h3, h4, h5, h6, h7⟩
  · exact ⟨none, 0, by rw [h0], .inl ⟨rfl, List.eq_nil_of_length_eq_zero h0⟩⟩
  · refine ⟨_, cap, rfl, .inr ⟨g, rfl, (Array.getElem?_eq_some_iff.1 h3).1, fun k hk j hj => ?_⟩⟩
    rw [cell_of_row w g _ _ _ _ h3, ← flat_get tkF 5 (fun _ => rfl) ps k j hk hj]
    have hlt : k * 5 + j < ps.length * 5 := by omega
    rw [← h7, List.getElem?_take, if_pos hlt, Array.getElem?_toList]
theorem HasToks.below {w w' : World} {a : Option Addr} {ps : List (Tk × Value)} (h : HasToks w a ps) (hb : Below w.heap.size w w') : HasToks w' a ps := by
  rcases h with h | ⟨g, h1, h2, h3⟩
  · exact .inl h
  · exact .inr ⟨g, h1, Nat.lt_of_lt_of_le h2 hb.size, fun k hk j hj => (hb.cell (p := ⟨g, _, none⟩) h2).trans (h3 k hk j hj)⟩
set_option maxHeartbeats 4000000 in
set_option maxRecDepth 100000 in
theorem sameAttrs_q (a1 a2 : Option Addr) (c1 c2 : Nat) (l : List Atr) (w : World) (h1 : HasAttrs w a1 l) (h2 : HasAttrs w a2 l) (hl : l.length ≤ 1000000) :
    Calls Tryz.prog 13 #[.slice a1 l.length c1, .slice a2 l.length c2] w fun e w' => e = .returned (.bool true) ∧ ∃ m, w' = w.drewN m := by
  obtain ⟨n, hn⟩ : ∃ n, n = l.length := ⟨_, rfl⟩
  have HN := hid_mk hn
  have H1 := hid_mk h1
  have H2 := hid_mk h2
  obtain ⟨i0, hi, hz0, hz1, hz2⟩ := info_parts infoAttr
  have HI := hid_mk (And.intro hi (And.intro hz0 (And.intro hz1 hz2)))
  rw [← hn] at hl ⊢
  clear hn h1 h2 hi hz0 hz1 hz2
  go_enter Tryz.func13, Tryz.ntmps13
  go_wp2_with fail
  go_loopw [5] (fun i wr => ∃ k : Nat, k ≤ n ∧ i = .int .i64 k ∧ Hid (∃ m, wr = w.drewN m)) (fun i _ => n - (intOf i).toNat)
  case atStart => exact ⟨0, Nat.zero_le _, rfl, hid_mk ⟨0, rfl⟩⟩
  case round =>
    obtain ⟨k, hk, rfl, HW⟩ := hrel
    by_cases hlt : k < n
    · have hlti : (k : Int) < (n : Int) := by omega
      have hkl : k < l.length := by rw [← HN.out]; exact hlt
      have hbl : Below w.heap.size w wr := by
        obtain ⟨m, hm⟩ := HW.out
        rw [hm]
        exact below_drewN (Below.refl _ _) m
      rcases H1.out.below hbl with ⟨_, hx⟩ | ⟨g1, hg1, _, hc1⟩
      · rw [hx] at hkl; simp at hkl
      rcases H2.out.below hbl with ⟨_, hx⟩ | ⟨g2, hg2, _, hc2⟩
      · rw [hx] at hkl; simp at hkl
      subst hg1 hg2
      have d1 := (hc1 k hkl).1
      have d2 := (hc1 k hkl).2
      have d3 := (hc2 k hkl).1
      have d4 := (hc2 k hkl).2
      obtain ⟨x, hx⟩ : ∃ x, x = strOf l[k].1 := ⟨_, rfl⟩
      obtain ⟨y, hy⟩ : ∃ y, y = strOf l[k].2 := ⟨_, rfl⟩
      rw [← hx] at d1 d3
      rw [← hy] at d2 d4
      clear hc1 hc2 hx hy hkl hbl
      go_wp2_with fail
      obtain ⟨hi, hz0, hz1, hz2⟩ := HI.out
      have hx0 : (x.toList == x.toList) = true := beq_self_eq_true _
      have hy0 : (y.toList == y.toList) = true := beq_self_eq_true _
      go_quiet (fail)
      have HD := hid_mk (show ∃ m, wr.drewN nq = w.drewN m by
        obtain ⟨m, hm⟩ := HW.out
        exact ⟨m + nq, by rw [hm, World.drewN_drewN]⟩)
      clear hi hz0 hz1 hz2
      go_wp2_with fail
      go_roundw
      case rel => exact ⟨k + 1, by omega, by go_num, HD⟩
      case measure => simp [intOf]; omega
    · have hlti : ¬ (k : Int) < (n : Int) := by omega
      go_wp2_with fail
      go_ret
      exact ⟨rfl, HW.out⟩
/-- Two rows of the same tokens, as they are read. -/
def SamePair (w : World) (t : Tk) (x y : Value) : Prop :=
  ∃ (a1 a2 : Option Addr) (c1 c2 : Nat), x = .slice a1 t.attrs.length c1 ∧ y = .slice a2 t.attrs.length c2 ∧ HasAttrs w a1 t.attrs ∧ HasAttrs w a2 t.attrs
set_option maxHeartbeats 4000000 in
set_option maxRecDepth 100000 in
theorem same_go (g1 g2 : Nat) (c1 c2 n : Nat) (ps qs : List (Tk × Value)) (w : World) (hn : n = ps.length) (hn2 : n = qs.length)
    (h1 : HasToks w (some ⟨g1, 0, none⟩) ps) (h2 : HasToks w (some ⟨g2, 0, none⟩) qs) (hpq : ∀ k (h : k < ps.length) (h' : k < qs.length), ps[k].1 = qs[k].1 ∧ SamePair w ps[k].1 ps[k].2 qs[k].2 ∧ ps[k].1.attrs.length ≤ 1000000) (hl : n ≤ 100000000) :
    Calls Tryz.prog 8 #[.slice (some ⟨g1, 0, none⟩) n c1, .slice (some ⟨g2, 0, none⟩) n c2] w fun e w' => e = .returned (.bool true) ∧ Below w.heap.size w w' := by
  have H := hid_mk (And.intro hn (And.intro hn2 (And.intro h1 (And.intro h2 hpq))))
  have hnn : ((n : Int) == (n : Int)) = true := beq_self_eq_true _
  have hnn2 : ((n : Int) != (n : Int)) = false := by rw [bne, hnn]; rfl
  clear hn hn2 h1 h2 hpq
  obtain ⟨i0, hi, hz0, hz1, hz2⟩ := info_parts infoTok
  have HI := hid_mk (And.intro hi (And.intro hz0 (And.intro hz1 hz2)))
  obtain ⟨j0, hj, hy0, hy1, hy2⟩ := info_parts infoRTok
  have HJ := hid_mk (And.intro hj (And.intro hy0 (And.intro hy1 hy2)))
  clear hi hz0 hz1 hz2 hj hy0 hy1 hy2
  go_enter Tryz.func8, Tryz.ntmps8
  go_wp2_with fail
  go_loopw [5] (fun i wr => ∃ k : Nat, k ≤ n ∧ i = .int .i64 (k : Int) ∧ Hid (Below w.heap.size w wr)) (fun i _ => n - (intOf i).toNat)
  case atStart => exact ⟨0, Nat.zero_le _, rfl, hid_mk (Below.refl _ _)⟩
  case round =>
    obtain ⟨k, hk, rfl, HW⟩ := hrel
    by_cases hlt : k < n
    · have hlti : (k : Int) < (n : Int) := by omega
      obtain ⟨e1, e2, h1, h2, hpq⟩ := H.out
      have hk1 : k < ps.length := by rw [← e1]; exact hlt
      have hk2 : k < qs.length := by rw [← e2]; exact hlt
      rcases h1.below HW.out with ⟨hx, _⟩ | ⟨g1', hg1, _, hc1⟩
      · cases hx
      obtain rfl : g1 = g1' := by injection hg1 with hg1; injection hg1
      rcases h2.below HW.out with ⟨hx, _⟩ | ⟨g2', hg2, _, hc2⟩
      · cases hx
      obtain rfl : g2 = g2' := by injection hg2 with hg2; injection hg2
      obtain ⟨hpe, ⟨a1, a2, d1, d2, hv1, hv2, ha1, ha2⟩, hal⟩ := hpq k hk1 hk2
      have hc1 := fun j hj => hc1 k hk1 j hj
      have hc2 := fun j hj => hc2 k hk2 j hj
      obtain ⟨P, hP⟩ : ∃ P, P = ps[k]'hk1 := ⟨_, rfl⟩
      obtain ⟨Q2, hQ⟩ : ∃ Q2, Q2 = qs[k]'hk2 := ⟨_, rfl⟩
      rw [← hP] at hc1 hpe hv1 hv2 ha1 ha2 hal
      rw [← hQ] at hc2 hpe hv2
      obtain ⟨t, v1⟩ := P
      obtain ⟨t2, v2⟩ := Q2
      simp only at hpe hv1 hv2 ha1 ha2 hal
      subst hpe hv1 hv2
      have hsa := hid_mk (fun n => sameAttrs_q a1 a2 d1 d2 t.attrs (wr.drewN n) ((ha1.below HW.out).below (below_drewN (Below.refl _ _) n)) ((ha2.below HW.out).below (below_drewN (Below.refl _ _) n)) hal)
      have x0 := hc1 0 (by decide)
      have x1 := hc1 1 (by decide)
      have x2 := hc1 2 (by decide)
      have x3 := hc1 3 (by decide)
      have x4 := hc1 4 (by decide)
      have y0 := hc2 0 (by decide)
      have y1 := hc2 1 (by decide)
      have y2 := hc2 2 (by decide)
      have y3 := hc2 3 (by decide)
      have y4 := hc2 4 (by decide)
      obtain ⟨tk, tn, tat, tsf, td⟩ := t
      obtain ⟨na, hna⟩ : ∃ na, na = tat.length := ⟨_, rfl⟩
      simp only [tkF, tkCells, Nat.add_zero, ← hna] at x0 x1 x2 x3 x4 y0 y1 y2 y3 y4 hsa
      obtain ⟨N1, hN1⟩ : ∃ N1, N1 = strOf tn := ⟨_, rfl⟩
      obtain ⟨D1, hD1⟩ : ∃ D1, D1 = strOf td := ⟨_, rfl⟩
      rw [← hN1] at x1 y1
      rw [← hD1] at x4 y4
      have x0 : wr.cell? ⟨g1, k * 5, none⟩ = some (.int .u8 (tk : Int)) := x0
      have x1 : wr.cell? ⟨g1, k * 5 + 1, none⟩ = some (.string N1) := x1
      have x2 : wr.cell? ⟨g1, k * 5 + 2, none⟩ = some (.slice a1 na d1) := x2
      have x3 : wr.cell? ⟨g1, k * 5 + 3, none⟩ = some (.bool tsf) := x3
      have x4 : wr.cell? ⟨g1, k * 5 + 4, none⟩ = some (.string D1) := x4
      have y0 : wr.cell? ⟨g2, k * 5, none⟩ = some (.int .u8 (tk : Int)) := y0
      have y1 : wr.cell? ⟨g2, k * 5 + 1, none⟩ = some (.string N1) := y1
      have y2 : wr.cell? ⟨g2, k * 5 + 2, none⟩ = some (.slice a2 na d2) := y2
      have y3 : wr.cell? ⟨g2, k * 5 + 3, none⟩ = some (.bool tsf) := y3
      have y4 : wr.cell? ⟨g2, k * 5 + 4, none⟩ = some (.string D1) := y4
      have q0 : ((tk : Int) == (tk : Int)) = true := beq_self_eq_true _
      have q0' : ((tk : Int) != (tk : Int)) = false := by rw [bne, q0]; rfl
      have q1 : (N1.toList == N1.toList) = true := beq_self_eq_true _
      have q1' : (N1.toList != N1.toList) = false := by rw [bne, q1]; rfl
      have q4 : (D1.toList == D1.toList) = true := beq_self_eq_true _
      have q4' : (D1.toList != D1.toList) = false := by rw [bne, q4]; rfl
      have q3 : (tsf == tsf) = true := beq_self_eq_true _
      have q3' : (tsf != tsf) = false := by rw [bne, q3]; rfl
      clear hc1 hc2 hP hQ hN1 hD1 hna ha1 ha2 hal h1 h2 hpq e1 e2 hk1 hk2
      go_wp2_with fail
      obtain ⟨hi, hz0, hz1, hz2⟩ := HI.out
      obtain ⟨hj, hy0, hy1, hy2⟩ := HJ.out
      go_quiet ((go_at_call 13; exact Calls.quiet_of (hsa.out _)))
      have HD := hid_mk (show Below w.heap.size w (wr.drewN nq) from below_drewN HW.out _)
      clear hi hz0 hz1 hz2 hj hy0 hy1 hy2
      go_wp2_with fail
      go_roundw
      case rel => exact ⟨k + 1, by omega, by go_num, HD⟩
      case measure => simp [intOf]; omega
    · have hlti : ¬ (k : Int) < (n : Int) := by omega
      go_wp2_with fail
      go_ret
      exact ⟨rfl, HW.out⟩
end Go.Proofs.YtakakaenlfilmaaGreatDoor
/-
  The law of layer 4 about any text: it returns true. Condition: the world holds what Tab says.
-/
namespace Go.Proofs.YtakakaenlfilmaaGreatDoor
open Go.RowKit
theorem same_nil (a1 a2 : Option Addr) (c1 c2 : Nat) (w : World) :
    Calls Tryz.prog 8 #[.slice a1 0 c1, .slice a2 0 c2] w fun e w' => e = .returned (.bool true) ∧ Below w.heap.size w w' := by
  go_enter Tryz.func8, Tryz.ntmps8
  go_wp2_with fail
  refine wp_loop_rounds 1 ?_
  rw [rounds_succ]
  go_wp2_with fail
  go_ret
  exact ⟨rfl, Below.refl _ _⟩
theorem same_any {B1 B2 : Nat} {v1 v2 : Value} {ps qs : List (Tk × Value)} {w : World} (h1 : TokRow B1 v1 ps w) (h2 : RTokRow B2 v2 qs w) (hpq : ps.map (·.1) = qs.map (·.1)) (hal : ∀ t ∈ ps.map (·.1), t.attrs.length ≤ 16) (hl : ps.length ≤ 100000000) :
    Calls Tryz.prog 8 #[v1, v2] w fun e w' => e = .returned (.bool true) ∧ Below w.heap.size w w' := by
  have hlen : ps.length = qs.length := by have := congrArg List.length hpq; simpa using this
  obtain ⟨a1, c1, rfl, k1⟩ := h1.has
  obtain ⟨a2, c2, rfl, k2⟩ := h2.has
  rw [← hlen]
  by_cases h0 : ps.length = 0
  · rw [h0]
    exact same_nil a1 a2 c1 c2 w
  · rcases k1 with ⟨_, hx⟩ | ⟨g1, rfl, e1, e2⟩
    · rw [hx] at h0; simp at h0
    rcases k2 with ⟨_, hx⟩ | ⟨g2, rfl, e3, e4⟩
    · exact absurd (by rw [hlen, hx]; rfl) h0
    refine same_go g1 g2 c1 c2 ps.length ps qs w rfl hlen (.inr ⟨g1, rfl, e1, e2⟩) (.inr ⟨g2, rfl, e3, e4⟩) (fun k hk hk' => ?_) hl
    have he : ps[k].1 = qs[k].1 := by
      have h1 : (ps.map (·.1))[k]? = (qs.map (·.1))[k]? := by rw [hpq]
      rw [List.getElem?_map, List.getElem?_map, List.getElem?_eq_getElem hk, List.getElem?_eq_getElem hk'] at h1
      simpa using h1
    obtain ⟨x1, y1, hx1, hy1⟩ := own_attrs (h1.2 ps[k] (List.getElem_mem hk))
    obtain ⟨x2, y2, hx2, hy2⟩ := own_attrs (h2.2 qs[k] (List.getElem_mem hk'))
    refine ⟨he, ⟨x1, x2, y1, y2, hx1, by rw [hx2, he], hy1, by rw [he]; exact hy2⟩, ?_⟩
    have := hal ps[k].1 (List.mem_map_of_mem (f := (·.1)) (List.getElem_mem hk))
    omega
/-- Behind writes into attributes' blocks from lo on, below hi. -/
structure Wiped (lo hi : Nat) (w w' : World) : Prop where
  os : w'.os = w.os
  tape : w'.tape = w.tape
  output : w'.output = w.output
  size : w'.heap.size = w.heap.size
  blocks : ∀ g, w'.heap[g]? = w.heap[g]? ∨ (lo ≤ g ∧ g < hi ∧ ∃ cs cs', w.heap[g]? = some (.cells cs 35 (0, 0)) ∧ w'.heap[g]? = some (.cells cs' 35 (0, 0)) ∧ cs'.size = cs.size)
theorem Wiped.refl (lo hi : Nat) (w : World) : Wiped lo hi w w := ⟨rfl, rfl, rfl, rfl, fun _ => .inl rfl⟩
/-- An attributes' block, as it may have been written. -/
theorem Wiped.at {lo hi g : Nat} {cs : Array Value} {w w' : World} (h : Wiped lo hi w w') (hg : w.heap[g]? = some (.cells cs 35 (0, 0))) : ∃ cs', w'.heap[g]? = some (.cells cs' 35 (0, 0)) ∧ cs'.size = cs.size := by
  rcases h.blocks g with h | ⟨_, _, cs1, cs2, h1, h2, h3⟩
  · exact ⟨cs, h.trans hg, rfl⟩
  · rw [hg] at h1
    injection h1 with h1
    injection h1 with h1 _ _
    subst h1
    exact ⟨cs2, h2, h3⟩
theorem Wiped.set {lo hi g : Nat} {cs : Array Value} {w w' : World} (h : Wiped lo hi w w') (hg : w.heap[g]? = some (.cells cs 35 (0, 0))) (h1 : lo ≤ g) (h2 : g < hi) (j : Nat) (v : Value) : Wiped lo hi w (w'.setCell ⟨g, j, none⟩ v) := by
  obtain ⟨cs', hc, hs⟩ := h.at hg
  refine ⟨h.os, h.tape, h.output, by rw [World.size_setCell]; exact h.size, fun k => ?_⟩
  by_cases hk : k = g
  · subst hk
    exact .inr ⟨h1, h2, cs, cs'.setIfInBounds j v, hg, (Blk.setAt (w := w') hc j v), by rw [Array.size_setIfInBounds]; exact hs⟩
  · rw [Below.heap_setCell _ _ _ _ (show k ≠ (⟨g, j, none⟩ : Addr).block from hk)]
    exact h.blocks k
theorem Wiped.below {lo hi : Nat} {w w' : World} (h : Wiped lo hi w w') : Below lo w w' :=
  ⟨h.os, h.tape, h.output, Nat.le_of_eq h.size.symm, fun k hk => by
    rcases h.blocks k with h | ⟨h1, _⟩
    · exact h
    · omega⟩
theorem Wiped.high {lo hi g : Nat} {w w' : World} (h : Wiped lo hi w w') (hg : hi ≤ g) : w'.heap[g]? = w.heap[g]? := by
  rcases h.blocks g with h | ⟨_, h1, _⟩
  · exact h
  · omega
theorem Wiped.other {lo hi g : Nat} {cs : Array Value} {t : TypeId} {fr : Nat × Nat} {w w' : World} (h : Wiped lo hi w w') (hg : w.heap[g]? = some (.cells cs t fr)) (ht : t ≠ 35) : w'.heap[g]? = w.heap[g]? := by
  rcases h.blocks g with h | ⟨_, _, cs1, _, h1, _⟩
  · exact h
  · rw [hg] at h1
    injection h1 with h1
    injection h1 with _ h1 _
    exact absurd h1 ht
theorem own_high {lo hi : Nat} {w w' : World} {n size : Nat} {e : TypeId} {v : Value} {xs : List Value} (h : w.ownsRow hi e size v n xs) (hw : Wiped lo hi w w') : w'.ownsRow hi e size v n xs := by
  refine ⟨h.1, ?_⟩
  rcases h.2 with h2 | ⟨g, cap, cur, h1, h2, h3, h4⟩
  · exact .inl h2
  · exact .inr ⟨g, cap, cur, h1, h2, (hw.high h2).trans h3, h4⟩
theorem RTokRow.wiped {lo hi : Nat} {w w' : World} {v : Value} {ps : List (Tk × Value)} (h : RTokRow hi v ps w) (hw : Wiped lo hi w w') : RTokRow hi v ps w' :=
  ⟨own_high h.1 hw, fun p hp => own_high (h.2 p hp) hw⟩
theorem tokens_len : ∀ (f : Nat) (l : List UInt8), (toksF f l).2.2.length ≤ l.length
  | 0, _ => Nat.zero_le _
  | _ + 1, [] => Nat.zero_le _
  | f + 1, c :: l => by
    have hc := oneL_cases (c :: l) (by simp)
    unfold toksF
    split
    · rename_i h0
      have ih := tokens_len f (oneL (c :: l)).2.2
      simp only [List.length_cons] at hc ⊢
      split
      · simp only [List.length_cons]
        omega
      · simp
    · simp
theorem tokensL_len (l : List UInt8) : (tokensL l).2.2.length ≤ 65536 := by
  unfold tokensL
  split
  · simp
  · split
    · simp
    · split
      · have := tokens_len l.length l
        unfold toksL
        simp only
        omega
      · simp
theorem tokens_all (s : ByteArray) (w : World) (hT : Tab w) :
    Calls Tryz.prog 6 #[.string s] w (ToksPost (sl s) w) := by
  by_cases hbig : 65536 < s.size
  · have HT := hid_mk hT
    clear hT
    have hb1 : decide (65536 < s.size) = true := decide_eq_true hbig
    have hb2 : decide ((65536 : Int) < (s.size : Int)) = true := decide_eq_true (by omega)
    have HF := hid_mk (show tokensL (sl s) = (3, 0, []) by unfold tokensL; rw [len_sl, if_pos hbig])
    clear hbig
    go_enter Tryz.func6, Tryz.ntmps6
    go_wp2_with fail
    go_ret3
    exact ⟨_, [], by rw [HF.out]; rfl, by rw [HF.out]; rfl, TokRow.nil _ _, Next.refl HT.out⟩
  · exact tokens_any s w hT (by omega)
theorem rTokens_all (s : ByteArray) (w : World) :
    Calls Tryz.prog 7 #[.string s] w (RToksPost (sl s) w) := by
  by_cases hbig : 65536 < s.size
  · have hb1 : decide (65536 < s.size) = true := decide_eq_true hbig
    have hb2 : decide ((65536 : Int) < (s.size : Int)) = true := decide_eq_true (by omega)
    have HF := hid_mk (show tokensL (sl s) = (3, 0, []) by unfold tokensL; rw [len_sl, if_pos hbig])
    clear hbig
    go_enter Tryz.func7, Tryz.ntmps7
    go_wp2_with fail
    go_ret3
    exact ⟨_, [], by rw [HF.out]; rfl, by rw [HF.out]; rfl, RTokRow.nil _ _, Below.refl _ _⟩
  · exact rTokens_any s w (by omega)
end Go.Proofs.YtakakaenlfilmaaGreatDoor
/-
  The law of layer 4 about any text: it returns true. Condition: the world holds what Tab says.
-/
namespace Go.Proofs.YtakakaenlfilmaaGreatDoor
open Go.RowKit
set_option maxHeartbeats 8000000 in
set_option maxRecDepth 100000 in
theorem tokenReads_w (s : ByteArray) (w : World) (hT : Tab w) :
    Calls Tryz.prog 3 #[.string s] w fun e w' => e = .returned (.bool true) ∧ Next w w' := by
  have HT := hid_mk hT
  clear hT
  by_cases hmid : 2000 < s.size ∧ s.size ≤ 65536
  · have hb1 : decide (2000 < s.size) = true := decide_eq_true hmid.1
    have hb2 : decide ((2000 : Int) < (s.size : Int)) = true := decide_eq_true (by omega)
    have hc1 : decide (s.size ≤ 65536) = true := decide_eq_true hmid.2
    have hc2 : decide ((s.size : Int) ≤ (65536 : Int)) = true := decide_eq_true (by omega)
    clear hmid
    go_enter Tryz.func3, Tryz.ntmps3
    go_wp2_with fail
    refine (works_any w HT.out).mono ?_
    rintro e w1 ⟨rfl, hn1⟩
    have H1 := hid_mk hn1
    clear hn1
    go_wp2
    go_ret
    exact ⟨rfl, H1.out⟩
  have hto := hid_mk (fun w hT => tokens_all s w hT)
  have hro := hid_mk (fun w => rTokens_all s w)
  have hor : (decide (2000 < s.size) = false ∧ decide ((2000 : Int) < (s.size : Int)) = false) ∨ (decide (2000 < s.size) = true ∧ decide ((2000 : Int) < (s.size : Int)) = true ∧ decide (s.size ≤ 65536) = false ∧ decide ((s.size : Int) ≤ (65536 : Int)) = false) := by
    by_cases h : 2000 < s.size
    · exact .inr ⟨decide_eq_true h, decide_eq_true (by omega), decide_eq_false (by omega), decide_eq_false (by omega)⟩
    · exact .inl ⟨decide_eq_false h, decide_eq_false (by omega)⟩
  have HAL := hid_mk (And.intro (tokensL_right (sl s)) (tokensL_len (sl s)))
  clear hmid
  obtain ⟨e1, he1⟩ : ∃ e1, e1 = (tokensL (sl s)).1 := ⟨_, rfl⟩
  obtain ⟨p1, hp1⟩ : ∃ p1, p1 = (tokensL (sl s)).2.1 := ⟨_, rfl⟩
  unfold ToksPost at hto
  unfold RToksPost at hro
  rw [← he1, ← hp1] at hto hro
  have q1 : ((e1 : Int) == (e1 : Int)) = true := beq_self_eq_true _
  have q1' : ((e1 : Int) != (e1 : Int)) = false := by rw [bne, q1]; rfl
  have q2 : ((p1 : Int) == (p1 : Int)) = true := beq_self_eq_true _
  have q2' : ((p1 : Int) != (p1 : Int)) = false := by rw [bne, q2]; rfl
  clear he1 hp1
  have key : ∀ (Q : Prop), ((decide (2000 < s.size) = false ∧ decide ((2000 : Int) < (s.size : Int)) = false) → Q) → ((decide (2000 < s.size) = true ∧ decide ((2000 : Int) < (s.size : Int)) = true ∧ decide (s.size ≤ 65536) = false ∧ decide ((s.size : Int) ≤ (65536 : Int)) = false) → Q) → Q := fun Q h1 h2 => hor.elim h1 h2
  clear hor
  refine key _ (fun hb => ?_) (fun hb => ?_)
  all_goals
    (try obtain ⟨hb1, hb2, hb3, hb4⟩ := hb)
    (try obtain ⟨hb1, hb2⟩ := hb)
    clear key
    go_enter Tryz.func3, Tryz.ntmps3
    go_wp2_with fail
    refine (hto.out w HT.out).mono ?_
    rintro e w2 ⟨v1, ps, rfl, hps, hrow, hn⟩
    have H2 := hid_mk (And.intro hn hrow)
    clear hn hrow
    go_wp2_with fail
    refine (hro.out w2).mono ?_
    rintro e w3 ⟨v2, qs, rfl, hqs, hrow2, hn2⟩
    have H3 := hid_mk (And.intro (Next.trans H2.out.1 (Next.of H2.out.1.2 hn2)) (And.intro (H2.out.2.below hn2) hrow2))
    have HPQ := hid_mk (hps.symm.trans hqs)
    have HPS := hid_mk hps
    have HW2 := hid_mk (show w.heap.size ≤ w2.heap.size ∧ w2.heap.size ≤ w3.heap.size from ⟨H2.out.1.1.size, hn2.size⟩)
    -- a's blocks lie below w2's end
    have HLO : Hid (∀ p ∈ ps, ∀ g, p.2.ownBlock = some g → g < w2.heap.size) := hid_mk (fun p hp g hg => by
      obtain ⟨cs, hcs⟩ := own_kind (H2.out.2.2 p hp) hg
      exact (Array.getElem?_eq_some_iff.1 hcs).1)
    clear hn2 hrow2 H2 hps hqs
    have hsm := hid_mk (same_any H3.out.2.1 H3.out.2.2 HPQ.out (fun t ht => (HAL.out.1.each t (by rw [HPS.out]; exact ht)).few) (by
      have := HAL.out.2
      rw [HPS.out, List.length_map] at this
      omega))
    obtain ⟨va, vc, hv1⟩ := own_slice H3.out.2.1.1
    obtain ⟨vb, vd, hv2⟩ := own_slice H3.out.2.2.1
    subst hv1 hv2
    go_wp2_with fail
    refine hsm.out.mono ?_
    rintro e w4 ⟨rfl, hb4⟩
    have H4 := hid_mk (And.intro (Next.trans H3.out.1 (Next.of H3.out.1.2 hb4)) (And.intro (H3.out.2.1.below hb4) (H3.out.2.2.below hb4)))
    clear hsm hb4 H3
    have HTW := hid_mk (fun (wx : World) (hw : Wiped w.heap.size w2.heap.size w4 wx) => (show Next w wx ∧ RTokRow w2.heap.size (.slice vb qs.length vd) qs wx from
      ⟨⟨H4.out.1.1.trans hw.below, HT.out.below (H4.out.1.1.trans hw.below)⟩, H4.out.2.2.wiped hw⟩))
    obtain ⟨x1, x2, hx1, hx2⟩ := H4.out.2.1.has
    injection hx1 with hxa _ hxc
    subst hxa hxc
    rcases hx2 with ⟨hva, hpn⟩ | ⟨gA, hva, hgl, hcell⟩
    · subst hva
      have hn0 : ps.length = 0 := by rw [hpn]; rfl
      rw [hn0]
      have HX := hid_mk (HTW.out w4 (Wiped.refl _ _ _))
      clear hpn hn0 H4
      go_wp2_with fail
      refine wp_loop_rounds 1 ?_
      rw [rounds_succ]
      go_wp2_with fail
      have HTX := hid_mk (hto.out _ HX.out.1.2)
      (with_reducible refine HTX.out.mono ?_)
      rintro e w5 ⟨v3, ps3, rfl, hps3, hrow3, hn5⟩
      have HP3 := hid_mk (hps3.symm.trans (HPS.out.trans HPQ.out))
      have HPS3 := hid_mk hps3
      have H5 := hid_mk (And.intro (HX.out.1.trans hn5) (And.intro hrow3 (HX.out.2.below hn5.1)))
      have hsm2 := hid_mk (same_any H5.out.2.1 H5.out.2.2 HP3.out (fun t ht => (HAL.out.1.each t (by rw [HPS3.out]; exact ht)).few) (by
        have := HAL.out.2
        rw [HPS3.out, List.length_map] at this
        omega))
      clear hps3 hrow3 hn5 HX HTX
      obtain ⟨ve, vf, hv3⟩ := own_slice H5.out.2.1.1
      subst hv3
      go_wp2_with fail
      (with_reducible refine hsm2.out.mono ?_)
      rintro e w6 ⟨rfl, hb6⟩
      have H6 := hid_mk (Next.trans H5.out.1 (Next.of H5.out.1.2 hb6))
      clear hb6 hsm2 H5
      go_wp2_with fail
      refine (works_any _ H6.out.2).mono ?_
      rintro e w7 ⟨rfl, hn7⟩
      have H7 := hid_mk (H6.out.trans hn7)
      clear hn7
      go_wp2
      go_ret
      exact ⟨rfl, H7.out⟩
    · subst hva
      obtain ⟨n, hn⟩ : ∃ n, n = ps.length := ⟨_, rfl⟩
      have HNN := hid_mk hn
      have HC := hid_mk hcell
      have hnl : n ≤ 65536 := by
        have := HAL.out.2
        rw [HPS.out, List.length_map] at this
        omega
      have HGA : Hid (∃ cur, w4.heap[gA]? = some (.cells cur 33 (0, 0))) := hid_mk (by
        obtain ⟨cs, hcs⟩ := own_kind H4.out.2.1.1 (g := gA) rfl
        rcases H4.out.2.1.1.2 with ⟨hx, _⟩ | ⟨g', cap, cur, hv, _, h3, _⟩
        · cases hx
        · injection hv with hv _ _
          injection hv with hv
          injection hv with hv
          subst hv
          exact ⟨cur, h3⟩)
      rw [← hn]
      clear hn hcell hgl
      go_wp2_with fail
      go_loopw [9, 10, 11] (fun v9 _ _ wx => ∃ i : Nat, i ≤ n ∧ v9 = .int .i64 (i : Int) ∧ Hid (Wiped w.heap.size w2.heap.size w4 wx)) (fun v9 _ _ _ => n - (intOf v9).toNat)
      case atStart => exact ⟨0, Nat.zero_le _, rfl, hid_mk (Wiped.refl _ _ _)⟩
      case round =>
        obtain ⟨i, hi, rfl, HW⟩ := hrel
        by_cases hlt : i < n
        · have hlti : (i : Int) < (n : Int) := by omega
          have hip : i < ps.length := by rw [← HNN.out]; exact hlt
          have d2 : wr.cell? ⟨gA, i * 5 + 2, none⟩ = some ps[i].2 := by
            obtain ⟨cur, hcur⟩ := HGA.out
            rw [World.cell?_of_block (w := w4) (a := ⟨gA, i * 5 + 2, none⟩) (HW.out.other hcur (by decide)), HC.out i hip 2 (by decide)]
            rfl
          have hrow : AtRow w.heap.size ps[i].2 ps[i].1.attrs w4 := H4.out.2.1.2 ps[i] (List.getElem_mem hip)
          have hlo : ∀ g, ps[i].2.ownBlock = some g → g < w2.heap.size := fun g hg => HLO.out ps[i] (List.getElem_mem hip) g hg
          have hfew : ps[i].1.attrs.length ≤ 16 := (HAL.out.1.each ps[i].1 (by rw [HPS.out]; exact List.mem_map_of_mem (f := (·.1)) (List.getElem_mem hip))).few
          obtain ⟨m, hm⟩ : ∃ m, m = ps[i].1.attrs.length := ⟨_, rfl⟩
          rcases hrow.2 with ⟨hv, h0⟩ | ⟨gl, cap, cur, hv, hbase, hblk, hcap, _, hsz, _⟩
          · rw [hv] at d2
            clear hv hrow hlo hfew hm h0
            go_wp2_with fail
            refine wp_loop_rounds 1 ?_
            rw [rounds_succ]
            go_wp2_with fail
            go_roundw
            case rel => exact ⟨i + 1, by omega, by go_num, HW⟩
            case measure => simp [intOf]; omega
          · have hgl : gl < w2.heap.size := hlo gl (by rw [hv]; rfl)
            rw [hv, ← hm] at d2
            rw [← hm] at hcap hfew
            have HB := hid_mk (And.intro hbase (And.intro hgl (And.intro hblk hsz)))
            clear hv hrow hlo hm hbase hblk hsz hgl
            generalize wr = wo at *
            go_wp2_with fail
            go_loopw [11] (fun v11 wx => ∃ k : Nat, k ≤ m ∧ v11 = .int .i64 (k : Int) ∧ Hid (Wiped w.heap.size w2.heap.size w4 wx)) (fun v11 _ => m - (intOf v11).toNat)
            case atStart => exact ⟨0, Nat.zero_le _, rfl, HW⟩
            case round =>
              obtain ⟨k, hk, rfl, HX⟩ := hrel
              by_cases hkm : k < m
              · have hkmi : (k : Int) < (m : Int) := by omega
                obtain ⟨cs, hcs, hcz⟩ := HX.out.at HB.out.2.2.1
                have hz := HB.out.2.2.2
                have hk1 : k * 2 < cs.size := by omega
                have hk2 : k * 2 + 1 < cs.size := by omega
                have f0 : wr.frozen? ⟨gl, k * 2, none⟩ = false := Lib.frozen_of_heap hcs _
                have f1 : wr.frozen? ⟨gl, k * 2 + 1, none⟩ = false := Lib.frozen_of_heap hcs _
                have c0 : wr.cell? ⟨gl, k * 2, none⟩ = some cs[k * 2] := by rw [cell_of_row wr gl _ _ _ _ hcs, Array.getElem?_eq_getElem hk1]
                have c1 : wr.cell? ⟨gl, k * 2 + 1, none⟩ = some cs[k * 2 + 1] := by rw [cell_of_row wr gl _ _ _ _ hcs, Array.getElem?_eq_getElem hk2]
                have HY := hid_mk ((HX.out.set HB.out.2.2.1 HB.out.1 HB.out.2.1 (k * 2) (.string ⟨#[]⟩)).set HB.out.2.2.1 HB.out.1 HB.out.2.1 (k * 2 + 1) (.string ⟨#[]⟩))
                generalize cs[k * 2] = u0 at *
                generalize cs[k * 2 + 1] = u1 at *
                clear hcs hcz hz hk1 hk2
                go_wp2_with fail
                go_roundw
                case rel => exact ⟨k + 1, by omega, by go_num, HY⟩
                case measure => simp [intOf]; omega
              · have hkmi : ¬ (k : Int) < (m : Int) := by omega
                clear d2
                go_wp2_with fail
                go_roundw
                case rel => exact ⟨i + 1, by omega, by go_num, HX⟩
                case measure => simp [intOf]; omega
        · have hlti : ¬ (i : Int) < (n : Int) := by omega
          have HX := hid_mk (HTW.out wr HW.out)
          clear HC HGA H4
          go_wp2_with fail
          have HTX := hid_mk (hto.out _ HX.out.1.2)
          (with_reducible refine HTX.out.mono ?_)
          rintro e w5 ⟨v3, ps3, rfl, hps3, hrow3, hn5⟩
          have HP3 := hid_mk (hps3.symm.trans (HPS.out.trans HPQ.out))
          have HPS3 := hid_mk hps3
          have H5 := hid_mk (And.intro (HX.out.1.trans hn5) (And.intro hrow3 (HX.out.2.below hn5.1)))
          have hsm2 := hid_mk (same_any H5.out.2.1 H5.out.2.2 HP3.out (fun t ht => (HAL.out.1.each t (by rw [HPS3.out]; exact ht)).few) (by
            have := HAL.out.2
            rw [HPS3.out, List.length_map] at this
            omega))
          clear hps3 hrow3 hn5 HX HTX
          obtain ⟨ve, vf, hv3⟩ := own_slice H5.out.2.1.1
          subst hv3
          go_wp2_with fail
          (with_reducible refine hsm2.out.mono ?_)
          rintro e w6 ⟨rfl, hb6⟩
          have H6 := hid_mk (Next.trans H5.out.1 (Next.of H5.out.1.2 hb6))
          clear hb6 hsm2 H5
          go_wp2_with fail
          refine (works_any _ H6.out.2).mono ?_
          rintro e w7 ⟨rfl, hn7⟩
          have H7 := hid_mk (H6.out.trans hn7)
          clear hn7
          go_wp2
          go_ret
          exact ⟨rfl, H7.out⟩
theorem tokenReads_c (s : ByteArray) (w : World) {c : Prop} (_ : c) (hT : Tab w) :
    Calls Tryz.prog 3 #[.string s] w fun e w' => e = .returned (.bool true) ∧ Next w w' := tokenReads_w s w hT
end Go.Proofs.YtakakaenlfilmaaGreatDoor
