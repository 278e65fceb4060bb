/-
  tag of package token. Conditions: the text's length is bounded; the world holds what Tab says.
-/
import Derived.Test.YtlcijlklbabajaaGreatDoorQTAt
import Derived.Test.YtlcijlklbabajaaGreatDoorQWords
import Derived.Maps.AppendAt
import Derived.OwnWalk
namespace Go.Proofs.YtlcijlklbabajaaGreatDoor
open Go.RowKit
def zTok : Array Value := #[.int .u8 0, .string ⟨#[]⟩, .slice none 0 0, .bool false, .string ⟨#[]⟩]
def tkCells (t : Tk) (v : Value) : Array Value := #[.int .u8 (t.kind : Int), .string (strOf t.name), v, .bool t.self, .string (strOf t.data)]
/-- A slice value v is a row of the call's own of these attributes. -/
def AtRow (B : Nat) (v : Value) (l : List Atr) (w : World) : Prop := w.ownsRow B 40 2 v l.length (atCells l)
/-- What a token's reader tells. -/
def TokIs (R : Nat × Tk × List UInt8) (cs : Array Value) (err : Int) (y : ByteArray) (B : Nat) (w : World) : Prop :=
 err = (R.1 : Int) ∧ ((R.1 = 0 ∧ y = strOf R.2.2 ∧ ∃ v, cs = tkCells R.2.1 v ∧ AtRow B v R.2.1.attrs w) ∨ (R.1 ≠ 0 ∧ cs = zTok))
def TokPost (b : Nat) (R : Nat × Tk × List UInt8) (w : World) (e : Ending) (w' : World) : Prop :=
 ∃ (cs : Array Value) (err : Int) (y : ByteArray), e = .returned (.tuple #[.agg cs, .int .i64 err]) ∧ Rd b y w' ∧ Upd b w w' ∧ TokIs R cs err y w.heap.size w'
theorem AtRow.below {B : Nat} {v : Value} {l : List Atr} {w w' : World} (h : AtRow B v l w) (hb : Below w.heap.size w w') : AtRow B v l w' := own_below h hb
theorem AtRow.ne {B : Nat} {v : Value} {l : List Atr} {w : World} (h : AtRow B v l w) {g : Nat} {cs : Array Value} {t : TypeId} {fr : Nat × Nat} (hg : Blk g (.cells cs t fr) w) (ht : 40 ≠ t) : v.ownBlock ≠ some g := own_ne h hg ht
theorem AtRow.upd {B b : Nat} {x : ByteArray} {v : Value} {l : List Atr} {w w' : World} (h : AtRow B v l w) (hr : Rd b x w) (hu : Upd b w w') : AtRow B v l w' :=
 World.ownsRow.kept h hu.1 (.inr (h.ne hr (by decide)))
theorem AtRow.setOther {B g : Nat} {v : Value} {l : List Atr} {w : World} (h : AtRow B v l w) {cs : Array Value} {t : TypeId} {fr : Nat × Nat} (hg : Blk g (.cells cs t fr) w) (ht : 40 ≠ t) (j : Nat) (u : Value) : AtRow B v l (w.setCell ⟨g, j, none⟩ u) := by
 refine World.ownsRow.kept (row := some g) h ⟨rfl, rfl, rfl, by rw [World.size_setCell]; exact Nat.le_refl _, fun k _ hne => Below.heap_setCell _ _ _ _ (fun e => hne (by rw [e]))⟩ (.inr (h.ne hg ht))
theorem Now.grown {b : Nat} {y : ByteArray} {w0 w w' : World} {row : Option Nat} (h : Now b y w0 w) (hT : Tab w0) (hg : w.grownBy w' row) (hr : ∀ k, row = some k → w0.heap.size ≤ k ∧ k ≠ b) : Now b y w0 w' := by
 have hs := h.2.1.size
 have t1 := tab_pos hT
 have t2 := max_lt hT
 refine ⟨(hg.block b h.1.lt (fun e => (hr b e.symm).2 rfl)).trans h.1, ⟨hg.os.trans h.2.1.os, hg.tape.trans h.2.1.tape, hg.output.trans h.2.1.output, Nat.le_trans hs hg.size, fun k hk hne => ?_⟩, h.2.2.of_blocks ?_ ?_⟩
 ·exact (hg.block k (by omega) (fun e => by have := (hr k e.symm).1; omega)).trans (h.2.1.block k hk hne)
 ·exact hg.block _ (by omega) (fun e => by have := (hr _ e.symm).1; omega)
 ·exact hg.block _ (by omega) (fun e => by have := (hr _ e.symm).1; omega)
theorem Loc.grown {b g : Nat} {cs : Array Value} {t : TypeId} {w0 w w' : World} {row : Option Nat} (h : Loc b g cs t w0 w) (hg : w.grownBy w' row) (hne : row ≠ some g) : Loc b g cs t w0 w' :=
 ⟨(hg.block g h.1.lt (fun e => hne e.symm)).trans h.1, h.2⟩
theorem tok_set {b r : Nat} {a0 a1 a2 a3 a4 : Value} {w0 w : World} (h : Loc b r #[a0, a1, a2, a3, a4] 25 w0 w) (u0 u1 u2 u3 u4 : Value) :
 Loc b r #[u0, u1, u2, u3, u4] 25 w0 (((((w.setCell ⟨r, 0, none⟩ u0).setCell ⟨r, 1, none⟩ u1).setCell ⟨r, 2, none⟩ u2).setCell ⟨r, 3, none⟩ u3).setCell ⟨r, 4, none⟩ u4) :=
 ((((h.setAt 0 u0).setAt 1 u1).setAt 2 u2).setAt 3 u3).setAt 4 u4
theorem tok_now {b r : Nat} {y : ByteArray} {cs : Array Value} {w0 w : World} (hn : Now b y w0 w) (hT : Tab w0) (h : Loc b r cs 25 w0 w) (u0 u1 u2 u3 u4 : Value) :
 Now b y w0 (((((w.setCell ⟨r, 0, none⟩ u0).setCell ⟨r, 1, none⟩ u1).setCell ⟨r, 2, none⟩ u2).setCell ⟨r, 3, none⟩ u3).setCell ⟨r, 4, none⟩ u4) :=
 ((((hn.set hT h 0 u0).set hT (h.setAt 0 u0) 1 u1).set hT ((h.setAt 0 u0).setAt 1 u1) 2 u2).set hT (((h.setAt 0 u0).setAt 1 u1).setAt 2 u2) 3 u3).set hT ((((h.setAt 0 u0).setAt 1 u1).setAt 2 u2).setAt 3 u3) 4 u4
theorem tok_row {b r B : Nat} {v : Value} {l : List Atr} {cs : Array Value} {w0 w : World} (ha : AtRow B v l w) (h : Loc b r cs 25 w0 w) (u0 u1 u2 u3 u4 : Value) :
 AtRow B v l (((((w.setCell ⟨r, 0, none⟩ u0).setCell ⟨r, 1, none⟩ u1).setCell ⟨r, 2, none⟩ u2).setCell ⟨r, 3, none⟩ u3).setCell ⟨r, 4, none⟩ u4) :=
 ((((ha.setOther h.1 (by decide) 0 u0).setOther (h.setAt 0 u0).1 (by decide) 1 u1).setOther ((h.setAt 0 u0).setAt 1 u1).1 (by decide) 2 u2).setOther (((h.setAt 0 u0).setAt 1 u1).setAt 2 u2).1 (by decide) 3 u3).setOther ((((h.setAt 0 u0).setAt 1 u1).setAt 2 u2).setAt 3 u3).1 (by decide) 4 u4
section
variable {n : Nat} {l S : List UInt8} {al : List Atr}
theorem attrsF_gt (hS : S = skB l) (h : Lib.hasPrefix S [62] = true) : attrsF (n + 1) l al = (0, al, false, S.drop 1) := by subst hS; unfold attrsF; rw [if_pos h]
theorem attrsF_self (hS : S = skB l) (h : Lib.hasPrefix S [62] = false) (h2 : Lib.hasPrefix S [47, 62] = true) : attrsF (n + 1) l al = (0, al, true, S.drop 2) := by subst hS; unfold attrsF; rw [if_neg (by rw [h]; exact Bool.false_ne_true), if_pos h2]
theorem attrsF_bad (hS : S = skB l) (h : Lib.hasPrefix S [62] = false) (h2 : Lib.hasPrefix S [47, 62] = false) (h3 : (S.isEmpty || atL S 0 == 47) = true) : attrsF (n + 1) l al = (40, [], false, []) := by subst hS; unfold attrsF; rw [if_neg (by rw [h]; exact Bool.false_ne_true), if_neg (by rw [h2]; exact Bool.false_ne_true), if_pos h3]
theorem attrsF_none (hS : S = skB l) (h : Lib.hasPrefix S [62] = false) (h2 : Lib.hasPrefix S [47, 62] = false) (h3 : (S.isEmpty || atL S 0 == 47) = false) (h4 : attrL S = none) : attrsF (n + 1) l al = (41, [], false, []) := by
 subst hS; unfold attrsF; rw [if_neg (by rw [h]; exact Bool.false_ne_true), if_neg (by rw [h2]; exact Bool.false_ne_true), if_neg (by rw [h3]; exact Bool.false_ne_true), h4]
theorem attrsF_dup (hS : S = skB l) (h : Lib.hasPrefix S [62] = false) (h2 : Lib.hasPrefix S [47, 62] = false) (h3 : (S.isEmpty || atL S 0 == 47) = false) {a : Atr} {r : List UInt8} (h4 : attrL S = some (a, r)) (h5 : al.any (fun b => b.1 == a.1) = true) : attrsF (n + 1) l al = (41, [], false, []) := by
 subst hS; unfold attrsF; rw [if_neg (by rw [h]; exact Bool.false_ne_true), if_neg (by rw [h2]; exact Bool.false_ne_true), if_neg (by rw [h3]; exact Bool.false_ne_true), h4]; simp only; rw [if_pos h5]
theorem attrsF_more (hS : S = skB l) (h : Lib.hasPrefix S [62] = false) (h2 : Lib.hasPrefix S [47, 62] = false) (h3 : (S.isEmpty || atL S 0 == 47) = false) {a : Atr} {r : List UInt8} (h4 : attrL S = some (a, r)) (h5 : al.any (fun b => b.1 == a.1) = false) : attrsF (n + 1) l al = attrsF n r (al ++ [a]) := by
 conv => lhs; unfold attrsF
 subst hS; rw [if_neg (by rw [h]; exact Bool.false_ne_true), if_neg (by rw [h2]; exact Bool.false_ne_true), if_neg (by rw [h3]; exact Bool.false_ne_true), h4]; simp only; rw [if_neg (by rw [h5]; exact Bool.false_ne_true)]
end
def tagOf (kind : Nat) (M : List UInt8) : Nat × List Atr × Bool × List UInt8 → Nat × Tk × List UInt8
 | (0, al, self, r) => (0, ⟨kind, M, al, self, []⟩, r)
 | (e + 1, _, _, _) => (e + 1, .none, [])
theorem oneMore_dup {l : List Atr} {nm : List UInt8} (h : l.any (fun b => b.1 == nm) = true) : oneMoreL l nm = 41 := by unfold oneMoreL; rw [if_pos h]
theorem oneMore_full {l : List Atr} {nm : List UInt8} (h : l.any (fun b => b.1 == nm) = false) (h2 : l.length = 16) : oneMoreL l nm = 3 := by unfold oneMoreL; rw [if_neg (by rw [h]; exact Bool.false_ne_true), if_pos h2]
theorem oneMore_ok {l : List Atr} {nm : List UInt8} (h : l.any (fun b => b.1 == nm) = false) (h2 : l.length ≠ 16) : oneMoreL l nm = 0 := by unfold oneMoreL; rw [if_neg (by rw [h]; exact Bool.false_ne_true), if_neg h2]
theorem atCells_snoc (l : List Atr) (a : Atr) : atCells l ++ [.string (strOf a.1), .string (strOf a.2)] = atCells (l ++ [a]) := by
 unfold atCells
 rw [List.flatMap_append, List.flatMap_cons, List.flatMap_nil, List.append_nil]
 rfl
def tkC (kind : Nat) (M : List UInt8) (v : Value) (sf : Bool) : Array Value := #[.int .u8 (kind : Int), .string (strOf M), v, .bool sf, .string ⟨#[]⟩]
theorem resTag : Tryz.f146.results = #[.cell 4 25, .tmp 5] := by kernel_rfl
set_option maxHeartbeats 8000000 in
set_option maxRecDepth 100000 in
theorem tag_any (b : Nat) (kind : Nat) (x : ByteArray) (w : World) (hT : Tab w) (hR : Rd b x w) (hx : x.size ≤ 1000000000) :
 Calls Tryz.prog 146 #[.pointer (some ⟨b, 0, none⟩), .int .u8 (kind : Int)] w (TokPost b (tagL kind (sl x)) w) := by
 obtain ⟨N, hN⟩ : ∃ N, N = upL (sl x) [9, 10, 12, 32, 47, 62] := ⟨_, rfl⟩
 obtain ⟨D, hD⟩ : ∃ D, D = downL (sl x) [9, 10, 12, 32, 47, 62] := ⟨_, rfl⟩
 have hND : N.length ≤ 1000000000 ∧ D.length ≤ 1000000000 := by
  have h1 := up_le (sl x) [9, 10, 12, 32, 47, 62]
  have h2 := down_le (sl x) [9, 10, 12, 32, 47, 62]
  rw [len_sl] at h1 h2
  rw [hN, hD]
  omega
 obtain ⟨M, hM⟩ : ∃ M, M = smL N := ⟨_, rfl⟩
 have HS := hid_mk hND
 have HMl := hid_mk (show M.length ≤ 1000000000 by rw [hM]; unfold smL; rw [List.length_map]; exact hND.1)
 obtain ⟨R, hRR⟩ : ∃ R, R = tagL kind (sl x) := ⟨_, rfl⟩
 have HA := hid_mk (show R = if !madeL M [] then (40, .none, [])
  else tagOf kind M (attrsF 17 D []) by rw [hRR, hM, hN, hD]; rfl)
 rw [← hRR]
 have HT := hid_mk hT
 have hN0 := Now.start hR hT
 have hL0 := Loc.new hN0 zTok 25
 have hN1 := hN0.alloc (.cells zTok 25)
 have hup := hid_mk (upTo_any b x [9, 10, 12, 32, 47, 62] _ hN1.tab hN1.1 hx (by decide) (by decide))
 rw [← hN, ← hD] at hup
 have HMN := hid_mk hM
 have H0 := hid_mk (And.intro hN1 hL0)
 have hzA := hid_mk (show (w.alloc (.cells zTok 25)) = (w.alloc (.cells #[.int .u8 0, .string ⟨#[]⟩, .slice none 0 0, .bool false, .string ⟨#[]⟩] 25)) from rfl)
 clear hN hD hND hT hR hN0 hL0 hN1 hM hRR
 go_enter Tryz.func146, Tryz.ntmps146
 go_wp2_with fail
 go_step3
 go_wp2_with fail
 rw [← hzA.out]
 refine hup.out.mono ?_
 rintro e w1 ⟨rfl, hr1, hu1⟩
 have H1 := hid_mk (And.intro (H0.out.1.step hr1 hu1) (H0.out.2.upd hu1))
 clear hup H0 hzA hr1 hu1
 go_wp2_with fail
 refine (small_any (strOf N) w1 (by rw [size_strOf]; exact HS.out.1)).mono ?_
 rintro e w2 ⟨rfl, hb2⟩
 rw [sl_strOf, ← HMN.out]
 have H2 := hid_mk (And.intro (H1.out.1.next hb2) (H1.out.2.next hb2))
 clear H1 hb2
 obtain ⟨r, hr⟩ : ∃ r, r = w.heap.size := ⟨_, rfl⟩
 rw [← hr] at H2 ⊢
 have HRr := hid_mk hr
 obtain ⟨g, hg⟩ : ∃ g, g = w2.heap.size := ⟨_, rfl⟩
 have hgr : r < g := by rw [hg]; exact H2.out.2.lt
 have H3 := hid_mk (And.intro (H2.out.1.alloc (.cells #[.int .u8 (kind : Int), .string (strOf M), .slice none 0 0, .bool false, .string ⟨#[]⟩] 25)) (And.intro (H2.out.2.alloc (.cells #[.int .u8 (kind : Int), .string (strOf M), .slice none 0 0, .bool false, .string ⟨#[]⟩] 25)) (Loc.new H2.out.1 #[.int .u8 (kind : Int), .string (strOf M), .slice none 0 0, .bool false, .string ⟨#[]⟩] 25)))
 rw [← hg] at H3
 have HG := hid_mk hg
 clear hr hg H2
 have hmo := hid_mk (madeOf_any (strOf M) ⟨#[]⟩ (w2.alloc (.cells #[.int .u8 (kind : Int), .string (strOf M), .slice none 0 0, .bool false, .string ⟨#[]⟩] 25)) (by rw [size_strOf]; exact HMl.out))
 rw [sl_strOf, show sl ⟨#[]⟩ = [] from rfl] at hmo
 go_wp2_with fail
 refine hmo.out.mono ?_
 rintro e w3 ⟨rfl, hb3⟩
 have H4 := hid_mk (And.intro (H3.out.1.next hb3) (And.intro (H3.out.2.1.next hb3) (H3.out.2.2.next hb3)))
 clear hb3 hmo H3
 cases hmd : madeL M [] with
 | false =>
   have HF := hid_mk (show R = (40, .none, []) by rw [HA.out, hmd]; rfl)
   have hL4 := H4.out.2.1
   have s0 := hL4.cell 0
   have s1 := hL4.cell 1
   have s2 := hL4.cell 2
   have s3 := hL4.cell 3
   have s4 := hL4.cell 4
   rw [show zTok[0]? = some (.int .u8 0) from rfl] at s0
   rw [show zTok[1]? = some (.string ⟨#[]⟩) from rfl] at s1
   rw [show zTok[2]? = some (.slice none 0 0) from rfl] at s2
   rw [show zTok[3]? = some (.bool false) from rfl] at s3
   rw [show zTok[4]? = some (.string ⟨#[]⟩) from rfl] at s4
   have t0 := hL4.frozen 0
   have t1 := hL4.frozen 1
   have t2 := hL4.frozen 2
   have t3 := hL4.frozen 3
   have t4 := hL4.frozen 4
   clear hL4 HA hmd
   go_wp2_with fail
   have HL := tok_set (a0 := .int .u8 0) (a1 := .string ⟨#[]⟩) (a2 := .slice none 0 0) (a3 := .bool false) (a4 := .string ⟨#[]⟩) H4.out.2.1 (.int .u8 0) (.string ⟨#[]⟩) (.slice none 0 0) (.bool false) (.string ⟨#[]⟩)
   have HN := tok_now H4.out.1 HT.out H4.out.2.1 (.int .u8 0) (.string ⟨#[]⟩) (.slice none 0 0) (.bool false) (.string ⟨#[]⟩)
   rw [Exit.noGoto_ret]
   refine bodyPost_ret (results_cell_tmp resTag _ _ r 25 _ (0, 0) _ rfl HL.1 Tryz.underlying25 rfl (by kernel_rfl) (.int .i64 40) rfl) rfl ?_
   exact ⟨_, _, _, rfl, HN.1, HN.2, by rw [HF.out]; exact ⟨rfl, .inr ⟨by decide, rfl⟩⟩⟩
 | true =>
   rw [hmd] at HA
   have HA2 := hid_mk (show R = tagOf kind M (attrsF 17 D []) from HA.out.trans rfl)
   obtain ⟨i0, hi, hz0, hz1, hz2⟩ := info_parts infoAttr
   have HI := hid_mk (And.intro hi (And.intro hz0 (And.intro hz1 hz2)))
   clear hi hz0 hz1 hz2 HA hmd
   have H5 := hid_mk (show Now b (strOf D) w w3 ∧ Loc b r zTok 25 w w3 ∧ Loc b g (tkC kind M (.slice none 0 0) false) 25 w w3 ∧ AtRow w.heap.size (.slice none 0 0) [] w3 from
    ⟨H4.out.1, H4.out.2.1, H4.out.2.2, ⟨rfl, .inl ⟨rfl, rfl⟩⟩⟩)
   clear H4
   have hDl : (strOf D).size ≤ 1000000000 := by rw [size_strOf]; exact HS.out.2
   go_wp2_with fail
   go_step3
   go_wp2_with fail
   rw [← HG.out]
   go_loopg [7] 17 (fun gh _ wx => ∃ (y : ByteArray) (al : List Atr) (v : Value), 1 ≤ gh ∧ gh + al.length = 17 ∧ y.size ≤ 1000000000 ∧ Hid (Now b y w wx ∧ Loc b r zTok 25 w wx ∧ Loc b g (tkC kind M v false) 25 w wx ∧ AtRow w.heap.size v al wx) ∧ Hid (attrsF 17 D [] = attrsF gh (sl y) al))
   case atStart => exact ⟨strOf D, [], .slice none 0 0, by omega, rfl, hDl, H5, hid_mk (by rw [sl_strOf])⟩
   case round =>
    obtain ⟨y, al, v, hg1, hga, hys, HW, HQ⟩ := hrel
    obtain ⟨va, vc, hv, _⟩ := own_attrs HW.out.2.2.2
    subst hv
    clear H5 hDl
    cases gk with
    | zero => omega
    | succ n =>
    obtain ⟨S, hS⟩ : ∃ S, S = skB (sl y) := ⟨_, rfl⟩
    have HSl := hid_mk (show S.length ≤ 1000000000 by rw [hS]; have := sk_le (sl y); rw [len_sl] at this; omega)
    have hsb := hid_mk (skipBlanks_any b y wr HW.out.1.tab HW.out.1.1)
    rw [← hS] at hsb
    have HSk := hid_mk hS
    clear hS
    go_wp2_with fail
    refine hsb.out.mono ?_
    rintro e w4 ⟨rfl, hrr, huu⟩
    have HB := hid_mk (And.intro (HW.out.1.step hrr huu) (And.intro (HW.out.2.1.upd huu) (And.intro (HW.out.2.2.1.upd huu) (HW.out.2.2.2.upd HW.out.1.1 huu))))
    clear hrr huu hsb HW
    cases hp1 : Lib.hasPrefix S [62] with
    | true =>
      have hsk := hid_mk (skip_yes b (strOf S) [62] w4 HB.out.1.tab HB.out.1.1 (by rw [sl_strOf]; exact hp1))
      rw [sl_strOf, show ([62] : List UInt8).length = 1 from rfl] at hsk
      have HF := hid_mk (show R = (0, ⟨kind, M, al, false, []⟩, S.drop 1) by rw [HA2.out, HQ.out, attrsF_gt HSk.out hp1]; rfl)
      obtain ⟨S1, hS1⟩ : ∃ S1, S1 = S.drop 1 := ⟨_, rfl⟩
      rw [← hS1] at hsk HF
      clear hp1 HQ HA2 hS1
      go_wp2_with fail
      refine hsk.out.mono ?_
      rintro e w5 ⟨rfl, hrr, huu⟩
      have HC := hid_mk (And.intro (HB.out.1.step hrr huu) (And.intro (HB.out.2.1.upd huu) (And.intro (HB.out.2.2.1.upd huu) (HB.out.2.2.2.upd HB.out.1.1 huu))))
      clear hrr huu hsk HB
      have hL4 := HC.out.2.1
      have s0 := hL4.cell 0
      have s1 := hL4.cell 1
      have s2 := hL4.cell 2
      have s3 := hL4.cell 3
      have s4 := hL4.cell 4
      rw [show zTok[0]? = some (.int .u8 0) from rfl] at s0
      rw [show zTok[1]? = some (.string ⟨#[]⟩) from rfl] at s1
      rw [show zTok[2]? = some (.slice none 0 0) from rfl] at s2
      rw [show zTok[3]? = some (.bool false) from rfl] at s3
      rw [show zTok[4]? = some (.string ⟨#[]⟩) from rfl] at s4
      have t0 := hL4.frozen 0
      have t1 := hL4.frozen 1
      have t2 := hL4.frozen 2
      have t3 := hL4.frozen 3
      have t4 := hL4.frozen 4
      clear hL4
      have hG4 := HC.out.2.2.1
      have g0 := hG4.cell 0
      have g1 := hG4.cell 1
      have g2 := hG4.cell 2
      have g3 := hG4.cell 3
      have g4 := hG4.cell 4
      rw [show (tkC kind M (.slice va al.length vc) false)[0]? = some (.int .u8 (kind : Int)) from rfl] at g0
      rw [show (tkC kind M (.slice va al.length vc) false)[1]? = some (.string (strOf M)) from rfl] at g1
      rw [show (tkC kind M (.slice va al.length vc) false)[2]? = some (.slice va al.length vc) from rfl] at g2
      rw [show (tkC kind M (.slice va al.length vc) false)[3]? = some (.bool false) from rfl] at g3
      rw [show (tkC kind M (.slice va al.length vc) false)[4]? = some (.string ⟨#[]⟩) from rfl] at g4
      have k2 := hG4.frozen 2
      have k3 := hG4.frozen 3
      clear hG4
      go_wp2_with fail
      have HL := tok_set (a0 := .int .u8 0) (a1 := .string ⟨#[]⟩) (a2 := .slice none 0 0) (a3 := .bool false) (a4 := .string ⟨#[]⟩) HC.out.2.1 (.int .u8 (kind : Int)) (.string (strOf M)) (.slice va al.length vc) (.bool false) (.string ⟨#[]⟩)
      have HN := tok_now HC.out.1 HT.out HC.out.2.1 (.int .u8 (kind : Int)) (.string (strOf M)) (.slice va al.length vc) (.bool false) (.string ⟨#[]⟩)
      have HO := tok_row HC.out.2.2.2 HC.out.2.1 (.int .u8 (kind : Int)) (.string (strOf M)) (.slice va al.length vc) (.bool false) (.string ⟨#[]⟩)
      (try simp (config := {zetaDelta := true}) only [])
      rw [Exit.noGoto_ret]
      refine bodyPost_ret (results_cell_tmp resTag _ _ r 25 _ (0, 0) _ rfl HL.1 Tryz.underlying25 rfl (by kernel_rfl) (.int .i64 0) rfl) rfl ?_
      exact ⟨_, _, _, rfl, HN.1, HN.2, by rw [HF.out]; exact ⟨rfl, .inl ⟨rfl, rfl, _, rfl, HO⟩⟩⟩
    | false =>
    have hsk := hid_mk (skip_no b (strOf S) [62] w4 HB.out.1.tab HB.out.1.1 (by rw [sl_strOf]; exact hp1))
    go_wp2_with fail
    refine hsk.out.mono ?_
    rintro e w5 ⟨rfl, hrr, huu⟩
    have HC := hid_mk (And.intro (HB.out.1.step hrr huu) (And.intro (HB.out.2.1.upd huu) (And.intro (HB.out.2.2.1.upd huu) (HB.out.2.2.2.upd HB.out.1.1 huu))))
    clear hrr huu hsk HB
    cases hp2 : Lib.hasPrefix S [47, 62] with
    | true =>
      have hsk := hid_mk (skip_yes b (strOf S) [47, 62] w5 HC.out.1.tab HC.out.1.1 (by rw [sl_strOf]; exact hp2))
      rw [sl_strOf, show ([47, 62] : List UInt8).length = 2 from rfl] at hsk
      have HF := hid_mk (show R = (0, ⟨kind, M, al, true, []⟩, S.drop 2) by rw [HA2.out, HQ.out, attrsF_self HSk.out hp1 hp2]; rfl)
      obtain ⟨S1, hS1⟩ : ∃ S1, S1 = S.drop 2 := ⟨_, rfl⟩
      rw [← hS1] at hsk HF
      clear hp1 hp2 HQ HA2 hS1
      go_wp2_with fail
      refine hsk.out.mono ?_
      rintro e w6 ⟨rfl, hrr, huu⟩
      have HC0 := hid_mk (And.intro (HC.out.1.step hrr huu) (And.intro (HC.out.2.1.upd huu) (And.intro (HC.out.2.2.1.upd huu) (HC.out.2.2.2.upd HC.out.1.1 huu))))
      clear hrr huu hsk HC
      have HC1 := hid_mk (And.intro (HC0.out.1.set HT.out HC0.out.2.2.1 3 (.bool true)) (And.intro (HC0.out.2.1.setOther ⟨g, 3, none⟩ (.bool true) (by show r ≠ g; omega)) (And.intro (show Loc b g (tkC kind M (.slice va al.length vc) true) 25 w _ from HC0.out.2.2.1.setAt 3 (.bool true)) (HC0.out.2.2.2.setOther HC0.out.2.2.1.1 (by decide) 3 (.bool true)))))
      have hL4 := HC0.out.2.1
      have s0 := hL4.cell 0
      have s1 := hL4.cell 1
      have s2 := hL4.cell 2
      have s3 := hL4.cell 3
      have s4 := hL4.cell 4
      rw [show zTok[0]? = some (.int .u8 0) from rfl] at s0
      rw [show zTok[1]? = some (.string ⟨#[]⟩) from rfl] at s1
      rw [show zTok[2]? = some (.slice none 0 0) from rfl] at s2
      rw [show zTok[3]? = some (.bool false) from rfl] at s3
      rw [show zTok[4]? = some (.string ⟨#[]⟩) from rfl] at s4
      have t0 := hL4.frozen 0
      have t1 := hL4.frozen 1
      have t2 := hL4.frozen 2
      have t3 := hL4.frozen 3
      have t4 := hL4.frozen 4
      clear hL4
      have hG4 := HC0.out.2.2.1
      have g0 := hG4.cell 0
      have g1 := hG4.cell 1
      have g2 := hG4.cell 2
      have g3 := hG4.cell 3
      have g4 := hG4.cell 4
      rw [show (tkC kind M (.slice va al.length vc) false)[0]? = some (.int .u8 (kind : Int)) from rfl] at g0
      rw [show (tkC kind M (.slice va al.length vc) false)[1]? = some (.string (strOf M)) from rfl] at g1
      rw [show (tkC kind M (.slice va al.length vc) false)[2]? = some (.slice va al.length vc) from rfl] at g2
      rw [show (tkC kind M (.slice va al.length vc) false)[3]? = some (.bool false) from rfl] at g3
      rw [show (tkC kind M (.slice va al.length vc) false)[4]? = some (.string ⟨#[]⟩) from rfl] at g4
      have k2 := hG4.frozen 2
      have k3 := hG4.frozen 3
      clear hG4
      have hgne : ¬ r = g := by omega
      go_wp2_with fail
      have HL := tok_set (a0 := .int .u8 0) (a1 := .string ⟨#[]⟩) (a2 := .slice none 0 0) (a3 := .bool false) (a4 := .string ⟨#[]⟩) HC1.out.2.1 (.int .u8 (kind : Int)) (.string (strOf M)) (.slice va al.length vc) (.bool true) (.string ⟨#[]⟩)
      have HN := tok_now HC1.out.1 HT.out HC1.out.2.1 (.int .u8 (kind : Int)) (.string (strOf M)) (.slice va al.length vc) (.bool true) (.string ⟨#[]⟩)
      have HO := tok_row HC1.out.2.2.2 HC1.out.2.1 (.int .u8 (kind : Int)) (.string (strOf M)) (.slice va al.length vc) (.bool true) (.string ⟨#[]⟩)
      (try simp (config := {zetaDelta := true}) only [])
      rw [Exit.noGoto_ret]
      refine bodyPost_ret (results_cell_tmp resTag _ _ r 25 _ (0, 0) _ rfl HL.1 Tryz.underlying25 rfl (by kernel_rfl) (.int .i64 0) rfl) rfl ?_
      exact ⟨_, _, _, rfl, HN.1, HN.2, by rw [HF.out]; exact ⟨rfl, .inl ⟨rfl, rfl, _, rfl, HO⟩⟩⟩
    | false =>
    have hsk := hid_mk (skip_no b (strOf S) [47, 62] w5 HC.out.1.tab HC.out.1.1 (by rw [sl_strOf]; exact hp2))
    go_wp2_with fail
    refine hsk.out.mono ?_
    rintro e w6 ⟨rfl, hrr, huu⟩
    have HD := hid_mk (And.intro (HC.out.1.step hrr huu) (And.intro (HC.out.2.1.upd huu) (And.intro (HC.out.2.2.1.upd huu) (HC.out.2.2.2.upd HC.out.1.1 huu))))
    clear hrr huu hsk HC
    obtain ⟨X, hX⟩ : ∃ X, X = strOf S := ⟨_, rfl⟩
    have hXS : sl X = S := by rw [hX, sl_strOf]
    rw [← hX] at HD
    have HXS := hid_mk hXS
    have hXs : X.size = S.length := by rw [hX, size_strOf]
    have HXz := hid_mk hXs
    clear hX
    have hrc := HD.out.1.1.cell
    by_cases hSe : S = []
    ·have he : X.toList = [] := by rw [Lib.toList_data]; show sl X = []; rw [hXS, hSe]
     have he2 : X.toList.isEmpty = true := by rw [he]; rfl
     have HF := hid_mk (show R = (40, .none, []) by rw [HA2.out, HQ.out, attrsF_bad HSk.out hp1 hp2 (by rw [hSe]; rfl)]; rfl)
     clear hp1 hp2 hSe hXS hXs
     have hL4 := HD.out.2.1
     have s0 := hL4.cell 0
     have s1 := hL4.cell 1
     have s2 := hL4.cell 2
     have s3 := hL4.cell 3
     have s4 := hL4.cell 4
     rw [show zTok[0]? = some (.int .u8 0) from rfl] at s0
     rw [show zTok[1]? = some (.string ⟨#[]⟩) from rfl] at s1
     rw [show zTok[2]? = some (.slice none 0 0) from rfl] at s2
     rw [show zTok[3]? = some (.bool false) from rfl] at s3
     rw [show zTok[4]? = some (.string ⟨#[]⟩) from rfl] at s4
     have t0 := hL4.frozen 0
     have t1 := hL4.frozen 1
     have t2 := hL4.frozen 2
     have t3 := hL4.frozen 3
     have t4 := hL4.frozen 4
     clear hL4
     go_wp2_with fail
     have HL := tok_set (a0 := .int .u8 0) (a1 := .string ⟨#[]⟩) (a2 := .slice none 0 0) (a3 := .bool false) (a4 := .string ⟨#[]⟩) HD.out.2.1 (.int .u8 0) (.string ⟨#[]⟩) (.slice none 0 0) (.bool false) (.string ⟨#[]⟩)
     have HN := tok_now HD.out.1 HT.out HD.out.2.1 (.int .u8 0) (.string ⟨#[]⟩) (.slice none 0 0) (.bool false) (.string ⟨#[]⟩)
     (try simp (config := {zetaDelta := true}) only [])
     rw [Exit.noGoto_ret]
     refine bodyPost_ret (results_cell_tmp resTag _ _ r 25 _ (0, 0) _ rfl (HL).1 Tryz.underlying25 rfl (by kernel_rfl) (.int .i64 40) rfl) rfl ?_
     exact ⟨_, _, _, rfl, (HN).1, (HN).2, by rw [HF.out]; exact ⟨rfl, .inr ⟨by decide, rfl⟩⟩⟩
    have hpos : 0 < S.length := List.length_pos_iff.2 hSe
    have hX0 : 0 < X.size := by omega
    have hX0i : (0 : Int) < (X.size : Int) := by omega
    have hne : X.toList.isEmpty = false := by
     rw [Lib.toList_data]
     show (sl X).isEmpty = false
     rw [hXS]
     cases S with
     | nil => exact absurd rfl hSe
     | cons _ _ => rfl
    have hSe2 : S.isEmpty = false := by
     cases S with
     | nil => exact absurd rfl hSe
     | cons _ _ => rfl
    have hb0 : (X[0]'hX0).toNat = atL S 0 := by rw [byte_atL X 0 hX0, hXS]
    by_cases h47 : atL S 0 = 47
    ·have hq : (((X[0]'hX0).toNat : Int) == 47) = true := by rw [hb0, h47]; rfl
     have HF := hid_mk (show R = (40, .none, []) by rw [HA2.out, HQ.out, attrsF_bad HSk.out hp1 hp2 (by rw [hSe2, h47]; rfl)]; rfl)
     clear hp1 hp2 hSe hXS hXs h47 hb0 hSe2
     have hL4 := HD.out.2.1
     have s0 := hL4.cell 0
     have s1 := hL4.cell 1
     have s2 := hL4.cell 2
     have s3 := hL4.cell 3
     have s4 := hL4.cell 4
     rw [show zTok[0]? = some (.int .u8 0) from rfl] at s0
     rw [show zTok[1]? = some (.string ⟨#[]⟩) from rfl] at s1
     rw [show zTok[2]? = some (.slice none 0 0) from rfl] at s2
     rw [show zTok[3]? = some (.bool false) from rfl] at s3
     rw [show zTok[4]? = some (.string ⟨#[]⟩) from rfl] at s4
     have t0 := hL4.frozen 0
     have t1 := hL4.frozen 1
     have t2 := hL4.frozen 2
     have t3 := hL4.frozen 3
     have t4 := hL4.frozen 4
     clear hL4
     go_wp2_with fail
     have HL := tok_set (a0 := .int .u8 0) (a1 := .string ⟨#[]⟩) (a2 := .slice none 0 0) (a3 := .bool false) (a4 := .string ⟨#[]⟩) HD.out.2.1 (.int .u8 0) (.string ⟨#[]⟩) (.slice none 0 0) (.bool false) (.string ⟨#[]⟩)
     have HN := tok_now HD.out.1 HT.out HD.out.2.1 (.int .u8 0) (.string ⟨#[]⟩) (.slice none 0 0) (.bool false) (.string ⟨#[]⟩)
     (try simp (config := {zetaDelta := true}) only [])
     rw [Exit.noGoto_ret]
     refine bodyPost_ret (results_cell_tmp resTag _ _ r 25 _ (0, 0) _ rfl (HL).1 Tryz.underlying25 rfl (by kernel_rfl) (.int .i64 40) rfl) rfl ?_
     exact ⟨_, _, _, rfl, (HN).1, (HN).2, by rw [HF.out]; exact ⟨rfl, .inr ⟨by decide, rfl⟩⟩⟩
    have hq : (((X[0]'hX0).toNat : Int) == 47) = false := beq_false_of_ne (by omega)
    have hbad : (S.isEmpty || atL S 0 == 47) = false := by rw [hSe2, Bool.false_or]; exact beq_false_of_ne h47
    have hat := hid_mk (attribute_any b X w6 HD.out.1.tab HD.out.1.1 (by rw [hXs]; exact HSl.out))
    rw [hXS] at hat
    have HPP := hid_mk (And.intro hp1 (And.intro hp2 hbad))
    clear hp1 hp2 hSe hXS hXs h47 hb0 hSe2 hbad
    go_wp2_with fail
    refine hat.out.mono ?_
    rintro e w7 ⟨x1, x2, err, y2, rfl, hrr, huu, hm⟩
    have HE := hid_mk (And.intro (HD.out.1.step hrr huu) (And.intro (HD.out.2.1.upd huu) (And.intro (HD.out.2.2.1.upd huu) (HD.out.2.2.2.upd HD.out.1.1 huu))))
    clear hrr huu hat HD hrc hq hne hX0i
    cases hal : attrL S with
    | none =>
      rw [hal] at hm
      subst hm
      have HF := hid_mk (show R = (41, .none, []) by rw [HA2.out, HQ.out, attrsF_none HSk.out HPP.out.1 HPP.out.2.1 HPP.out.2.2 hal]; rfl)
      clear hal
      have hlt7 := HE.out.2.1.lt
      have hL4 := HE.out.2.1
      have s0 := hL4.cell 0
      have s1 := hL4.cell 1
      have s2 := hL4.cell 2
      have s3 := hL4.cell 3
      have s4 := hL4.cell 4
      rw [show zTok[0]? = some (.int .u8 0) from rfl] at s0
      rw [show zTok[1]? = some (.string ⟨#[]⟩) from rfl] at s1
      rw [show zTok[2]? = some (.slice none 0 0) from rfl] at s2
      rw [show zTok[3]? = some (.bool false) from rfl] at s3
      rw [show zTok[4]? = some (.string ⟨#[]⟩) from rfl] at s4
      have t0 := hL4.frozen 0
      have t1 := hL4.frozen 1
      have t2 := hL4.frozen 2
      have t3 := hL4.frozen 3
      have t4 := hL4.frozen 4
      clear hL4
      go_wp2_with fail
      have HL := tok_set (a0 := .int .u8 0) (a1 := .string ⟨#[]⟩) (a2 := .slice none 0 0) (a3 := .bool false) (a4 := .string ⟨#[]⟩) HE.out.2.1 (.int .u8 0) (.string ⟨#[]⟩) (.slice none 0 0) (.bool false) (.string ⟨#[]⟩)
      have HN := tok_now HE.out.1 HT.out HE.out.2.1 (.int .u8 0) (.string ⟨#[]⟩) (.slice none 0 0) (.bool false) (.string ⟨#[]⟩)
      (try simp (config := {zetaDelta := true}) only [])
      rw [Exit.noGoto_ret]
      refine bodyPost_ret (results_cell_tmp resTag _ _ r 25 _ (0, 0) _ rfl (HL.alloc (.cells #[.string x1, .string x2] 40)).1 Tryz.underlying25 rfl (by kernel_rfl) (.int .i64 41) rfl) rfl ?_
      exact ⟨_, _, _, rfl, (HN.alloc (.cells #[.string x1, .string x2] 40)).1, (HN.alloc (.cells #[.string x1, .string x2] 40)).2, by rw [HF.out]; exact ⟨rfl, .inr ⟨by decide, rfl⟩⟩⟩
    | some p =>
    obtain ⟨at1, rest⟩ := p
    rw [hal] at hm
    simp only at hm
    obtain ⟨rfl, rfl, rfl, rfl⟩ := hm
    have hrl := attrL_le hal
    have hlt7 := HE.out.2.1.lt
    obtain ⟨ga, hga2⟩ : ∃ ga, ga = w7.heap.size := ⟨_, rfl⟩
    have HE1 := hid_mk (And.intro (HE.out.1.alloc (.cells #[.string (strOf at1.1), .string (strOf at1.2)] 40)) (And.intro (HE.out.2.1.alloc (.cells #[.string (strOf at1.1), .string (strOf at1.2)] 40)) (And.intro (HE.out.2.2.1.alloc (.cells #[.string (strOf at1.1), .string (strOf at1.2)] 40)) (And.intro (HE.out.2.2.2.below ((Below.refl _ _).alloc (Nat.le_refl _) (.cells #[.string (strOf at1.1), .string (strOf at1.2)] 40))) (Loc.new HE.out.1 #[.string (strOf at1.1), .string (strOf at1.2)] 40)))))
    have hom := hid_mk (oneMore_any _ w.heap.size al at1.1 _ HE1.out.2.2.2.1 (by omega))
    rw [← hga2] at HE1
    have HGA := hid_mk hga2
    clear hga2
    have hltg := HE.out.2.2.1.lt
    have hG4 := HE.out.2.2.1
    have g2 := hG4.cell 2
    rw [show (tkC kind M (.slice va al.length vc) false)[2]? = some (.slice va al.length vc) from rfl] at g2
    clear hG4 HE
    go_wp2_with fail
    refine hom.out.mono ?_
    rintro e w8 ⟨rfl, hb8⟩
    have HH := hid_mk (And.intro (HE1.out.1.next hb8) (And.intro (HE1.out.2.1.next hb8) (And.intro (HE1.out.2.2.1.next hb8) (And.intro (HE1.out.2.2.2.1.below hb8) (HE1.out.2.2.2.2.next hb8)))))
    clear hb8 hom HE1 g2
    cases hdp : al.any (fun b => b.1 == at1.1) with
    | true =>
      have HF := hid_mk (show R = (41, .none, []) by rw [HA2.out, HQ.out, attrsF_dup HSk.out HPP.out.1 HPP.out.2.1 HPP.out.2.2 hal hdp]; rfl)
      rw [oneMore_dup hdp]
      clear hal hdp
      have hL4 := HH.out.2.1
      have s0 := hL4.cell 0
      have s1 := hL4.cell 1
      have s2 := hL4.cell 2
      have s3 := hL4.cell 3
      have s4 := hL4.cell 4
      rw [show zTok[0]? = some (.int .u8 0) from rfl] at s0
      rw [show zTok[1]? = some (.string ⟨#[]⟩) from rfl] at s1
      rw [show zTok[2]? = some (.slice none 0 0) from rfl] at s2
      rw [show zTok[3]? = some (.bool false) from rfl] at s3
      rw [show zTok[4]? = some (.string ⟨#[]⟩) from rfl] at s4
      have t0 := hL4.frozen 0
      have t1 := hL4.frozen 1
      have t2 := hL4.frozen 2
      have t3 := hL4.frozen 3
      have t4 := hL4.frozen 4
      clear hL4
      go_wp2_with fail
      have HL := tok_set (a0 := .int .u8 0) (a1 := .string ⟨#[]⟩) (a2 := .slice none 0 0) (a3 := .bool false) (a4 := .string ⟨#[]⟩) HH.out.2.1 (.int .u8 0) (.string ⟨#[]⟩) (.slice none 0 0) (.bool false) (.string ⟨#[]⟩)
      have HN := tok_now HH.out.1 HT.out HH.out.2.1 (.int .u8 0) (.string ⟨#[]⟩) (.slice none 0 0) (.bool false) (.string ⟨#[]⟩)
      (try simp (config := {zetaDelta := true}) only [])
      rw [Exit.noGoto_ret]
      refine bodyPost_ret (results_cell_tmp resTag _ _ r 25 _ (0, 0) _ rfl (HL).1 Tryz.underlying25 rfl (by kernel_rfl) (.int .i64 41) rfl) rfl ?_
      exact ⟨_, _, _, rfl, (HN).1, (HN).2, by rw [HF.out]; exact ⟨rfl, .inr ⟨by decide, rfl⟩⟩⟩
    | false =>
    have HM := hid_mk (attrsF_more (n := n) HSk.out HPP.out.1 HPP.out.2.1 HPP.out.2.2 hal hdp)
    by_cases h16 : al.length = 16
    ·have hn0 : n = 0 := by omega
     have HF := hid_mk (show R = (3, .none, []) by rw [HA2.out, HQ.out, HM.out, hn0]; rfl)
     rw [oneMore_full hdp h16]
     clear hal hdp h16 hn0
     have hL4 := HH.out.2.1
     have s0 := hL4.cell 0
     have s1 := hL4.cell 1
     have s2 := hL4.cell 2
     have s3 := hL4.cell 3
     have s4 := hL4.cell 4
     rw [show zTok[0]? = some (.int .u8 0) from rfl] at s0
     rw [show zTok[1]? = some (.string ⟨#[]⟩) from rfl] at s1
     rw [show zTok[2]? = some (.slice none 0 0) from rfl] at s2
     rw [show zTok[3]? = some (.bool false) from rfl] at s3
     rw [show zTok[4]? = some (.string ⟨#[]⟩) from rfl] at s4
     have t0 := hL4.frozen 0
     have t1 := hL4.frozen 1
     have t2 := hL4.frozen 2
     have t3 := hL4.frozen 3
     have t4 := hL4.frozen 4
     clear hL4
     go_wp2_with fail
     have HL := tok_set (a0 := .int .u8 0) (a1 := .string ⟨#[]⟩) (a2 := .slice none 0 0) (a3 := .bool false) (a4 := .string ⟨#[]⟩) HH.out.2.1 (.int .u8 0) (.string ⟨#[]⟩) (.slice none 0 0) (.bool false) (.string ⟨#[]⟩)
     have HN := tok_now HH.out.1 HT.out HH.out.2.1 (.int .u8 0) (.string ⟨#[]⟩) (.slice none 0 0) (.bool false) (.string ⟨#[]⟩)
     (try simp (config := {zetaDelta := true}) only [])
     rw [Exit.noGoto_ret]
     refine bodyPost_ret (results_cell_tmp resTag _ _ r 25 _ (0, 0) _ rfl (HL).1 Tryz.underlying25 rfl (by kernel_rfl) (.int .i64 3) rfl) rfl ?_
     exact ⟨_, _, _, rfl, (HN).1, (HN).2, by rw [HF.out]; exact ⟨rfl, .inr ⟨by decide, rfl⟩⟩⟩
    rw [oneMore_ok hdp h16]
    have hn1 : 1 ≤ n := by omega
    clear hal hdp
    rw [← HGA.out]
    have hG4 := HH.out.2.2.1
    have g2 := hG4.cell 2
    rw [show (tkC kind M (.slice va al.length vc) false)[2]? = some (.slice va al.length vc) from rfl] at g2
    have k2 := hG4.frozen 2
    have hA4 := HH.out.2.2.2.2
    have a0 := hA4.cell 0
    have a1 := hA4.cell 1
    rw [show (#[Value.string (strOf at1.1), Value.string (strOf at1.2)] : Array Value)[0]? = some (.string (strOf at1.1)) from rfl] at a0
    rw [show (#[Value.string (strOf at1.1), Value.string (strOf at1.2)] : Array Value)[1]? = some (.string (strOf at1.2)) from rfl] at a1
    clear hG4 hA4
    go_wp2_with (at_builtin; refine Classical.byContradiction fun hno => ?_)
    refine hno ?_
    clear hno
    obtain ⟨hi, hz0, hz1, hz2⟩ := HI.out
    have hbe := Below.alloc (Below.refl w8.heap.size w8) (Nat.le_refl _) (.cells #[.string (strOf at1.1), .string (strOf at1.2)] 40)
    have H9 := And.intro (HH.out.1.next hbe) (And.intro (HH.out.2.1.next hbe) (And.intro (HH.out.2.2.1.next hbe) (HH.out.2.2.2.1.below hbe)))
    have hown9 := H9.2.2.2
    have hws : w.heap.size ≤ (w8.alloc (.cells #[.string (strOf at1.1), .string (strOf at1.2)] 40)).heap.size := H9.1.2.1.size
    refine wpList_append_own _ rfl (.tmp 60) (.tmp 62) _ rfl w.heap.size 40 i0 _ 2 32 Tryz.underlying23 hi hz0 hz1 hz2 rfl (by decide) _ al.length (atCells al) rfl hown9 ⟨w8.heap.size, 0, none⟩ 1 1 [.string (strOf at1.1), .string (strOf at1.2)] rfl rfl ?c1 ?c2 ?c3 ?c4 hws ?_
    case c1 =>
     intro j u hu
     rw [addr_add0, cell_of_row _ _ j _ _ _ (heap_alloc_new w8 _)]
     rw [← hu, ← Array.getElem?_toList]
    case c2 =>
     intro u hu
     simp only [List.mem_cons, List.not_mem_nil, or_false] at hu
     rcases hu with rfl | rfl <;> rfl
    case c3 => unfold maxLen; omega
    case c4 => omega
    intro v' w10 hown' hgrow _
    rw [atCells_snoc] at hown'
    have hrow : AtRow w.heap.size v' (al ++ [at1]) w10 := by
     unfold AtRow
     rw [List.length_append]
     exact hown'
    obtain ⟨va', vc', hv', _⟩ := own_attrs hrow
    subst hv'
    have hnb := hown9.ne H9.1.1 (by decide)
    have hng := hown9.ne H9.2.2.1.1 (by decide)
    have hnr := hown9.ne H9.2.1.1 (by decide)
    have HJ := hid_mk (And.intro (H9.1.grown HT.out hgrow (fun k hk => ⟨own_base hown9 k hk, fun e => by subst e; exact hnb hk⟩)) (And.intro (H9.2.1.grown hgrow hnr) (And.intro (H9.2.2.1.grown hgrow hng) hrow)))
    clear hown' hgrow hrow hown9 hnb hng hnr H9 hbe hws hi hz0 hz1 hz2 HH g2 k2 a0 a1
    have hG4 := HJ.out.2.2.1
    have g2 := hG4.cell 2
    rw [show (tkC kind M (.slice va al.length vc) false)[2]? = some (.slice va al.length vc) from rfl] at g2
    have k2 := hG4.frozen 2
    clear hG4
    have HK := hid_mk (And.intro (HJ.out.1.set HT.out HJ.out.2.2.1 2 (.slice va' (al ++ [at1]).length vc')) (And.intro (HJ.out.2.1.setOther ⟨g, 2, none⟩ (.slice va' (al ++ [at1]).length vc') (by show r ≠ g; omega)) (And.intro (show Loc b g (tkC kind M (.slice va' (al ++ [at1]).length vc') false) 25 w _ from HJ.out.2.2.1.setAt 2 (.slice va' (al ++ [at1]).length vc')) (HJ.out.2.2.2.setOther HJ.out.2.2.1.1 (by decide) 2 (.slice va' (al ++ [at1]).length vc')))))
    obtain ⟨al', hal'⟩ : ∃ al', al' = al ++ [at1] := ⟨_, rfl⟩
    have hgl : n + al'.length = 17 := by rw [hal', List.length_append]; show n + (al.length + 1) = 17; omega
    have HQ2 := hid_mk (show attrsF 17 D [] = attrsF n rest al' by rw [HQ.out, HM.out, hal'])
    have hrs : (strOf rest).size ≤ 1000000000 := by rw [size_strOf]; have := HSl.out; omega
    rw [← hal'] at HK ⊢
    clear hal' HM HQ HJ hrl
    go_wp2_with fail
    go_roundg n
    case measure => omega
    case rel => exact ⟨strOf rest, al', _, hn1, hgl, hrs, HK, by rw [sl_strOf]; exact HQ2⟩
end Go.Proofs.YtlcijlklbabajaaGreatDoor
namespace Go.Proofs.YtlcijlklbabajaaGreatDoor
open Go.RowKit
theorem own_mono {w : World} {base base' n size : Nat} {e : TypeId} {v : Value} {xs : List Value} (h : w.ownsRow base e size v n xs) (hb : base' ≤ base) : w.ownsRow base' e size v n xs := by
 refine ⟨h.1, ?_⟩
 rcases h.2 with hn | ⟨g, cap, cur, rfl, h2, rest⟩
 ·exact .inl hn
 ·exact .inr ⟨g, cap, cur, rfl, by omega, rest⟩
/-- append of a text to a row of the call's own, and where the new row lies. -/
theorem run_append_str_at {P : Program} (w : World) (base : Nat) (t u ty e : TypeId) (i : TypeInfo) (ht : P.underlying t = some (.slice e)) (hu : P.underlying u = some .string) (hi : P.info? e = some i) (hz : i.zero = some (.int .u8 0))
 (hsize : i.size = 1) (hby : i.bytes = 1) (v : Value) (n : Nat) (xs : List Value) (hown : w.ownsRow base e 1 v n xs) (s : ByteArray) (h63 : n + s.size ≤ maxLen) (hbytes : n + s.size ≤ 140737488355328) (hbase : base ≤ w.heap.size) :
 ∃ v' w', (Builtin.append_ #[t, u] ty #[v, .string s]).run P w = .ok v' w' ∧ w'.ownsRow base e 1 v' (n + s.size) (xs ++ Lib.strCells s) ∧ w.grownBy w' v.ownBlock ∧
  (v'.ownBlock = v.ownBlock ∨ ∀ g, v'.ownBlock = some g → w.heap.size ≤ g) := by
 have hm := h63
 unfold maxLen at hm
 rcases hown.2 with ⟨rfl, h0⟩ | ⟨g, cap, cur, rfl, hb, hg, hnc, hcap, hcur, htk⟩
 ·have hnil : w.ownsRow w.heap.size e 1 (.slice none 0 0) n xs := ⟨hown.1, .inl ⟨rfl, h0⟩⟩
  obtain ⟨v', w', hr, h2, h3, _⟩ := Lib.run_append_own_string (P := P) w w.heap.size t u ty e i ht hu hi hz hsize hby _ n xs hnil s h63 hbytes (Nat.le_refl _)
  exact ⟨v', w', hr, own_mono h2 hbase, h3, .inr fun k hk => own_base h2 k hk⟩
 ·obtain ⟨v', w', hr, h2, h3, _⟩ := Lib.run_append_own_string (P := P) w base t u ty e i ht hu hi hz hsize hby _ n xs hown s h63 hbytes hbase
  refine ⟨v', w', hr, h2, h3, ?_⟩
  by_cases hroom : n + s.size ≤ cap
  ·have hr2 := Lib.run_append_room_string (P := P) w t u ty e i ht hu hi hsize g n cap cur hg s hroom (by omega)
   rw [hr] at hr2
   injection hr2 with hv
   rw [hv]
   exact .inl rfl
  ·have holds : ∀ j y, xs[j]? = some y → w.cell? ((⟨g, 0, none⟩ : Addr).add j) = some y := hown.cells (g := g) rfl
   have hr2 := Lib.run_append_grow_string (P := P) w t u ty e i _ ht hu hi hz ⟨g, 0, none⟩ n cap xs (by rw [hown.1, hsize]) holds s (by omega) (by omega) (growslice_fits (by omega) (by rw [hby]; omega))
   rw [hr] at hr2
   injection hr2 with hv
   rw [hv]
   refine .inr fun k hk => ?_
   have : k = w.heap.size := by simpa [Value.ownBlock] using hk.symm
   omega
/-- The same at the operation. -/
theorem wpList_append_str_at {P : Program} {w : World} {ops : Array Oper} {rest : List Oper} {o : Oper} {a : Act} {Q : Exit → Act → World → Prop} (hgd : o.guard = none) (sl x : Operand) (t u : TypeId)
 (ho : o.op = .call { callee := .builtin .append, args := #[sl, x], argTypes := #[t, u] }) (base : Nat) (e : TypeId) (i : TypeInfo) (ht : P.underlying t = some (.slice e)) (hu : P.underlying u = some .string)
 (hi : P.info? e = some i) (hz : i.zero = some (.int .u8 0)) (hsize : i.size = 1) (hby : i.bytes = 1) (v : Value) (n : Nat) (xs : List Value) (hs : a.eval sl = v) (hown : w.ownsRow base e 1 v n xs) (s : ByteArray)
 (hx : a.eval x = .string s) (h63 : n + s.size ≤ maxLen) (hbytes : n + s.size ≤ 140737488355328) (hbase : base ≤ w.heap.size)
 (h : ∀ v' w', w'.ownsRow base e 1 v' (n + s.size) (xs ++ Lib.strCells s) → w.grownBy w' v.ownBlock → (v'.ownBlock = v.ownBlock ∨ ∀ g, v'.ownBlock = some g → w.heap.size ≤ g) → wpList P ops Q rest (a.put o.dst v') w') :
 wpList P ops Q (o :: rest) a w := by
 obtain ⟨v', w', hr, h2, h3, h4⟩ := run_append_str_at (P := P) w base t u o.type e i ht hu hi hz hsize hby v n xs hown s h63 hbytes hbase
 refine wpList_plain hgd fun K hK => ?_
 have hgo := hK _ _ (h v' w' h2 h3 h4)
 unfold Oper.wp execOp
 simp only [ho, resolve, invoke, builtin, Sem.run_bind, Sem.run_pure, Result.andThen_ok, List.map_toArray, List.map_cons, List.map_nil, hs, hx, hr]
 exact hgo
end Go.Proofs.YtlcijlklbabajaaGreatDoor
namespace Go.Proofs.YtlcijlklbabajaaGreatDoor
open Go.RowKit
theorem AtRow.mono {B B' : Nat} {v : Value} {l : List Atr} {w : World} (h : AtRow B v l w) (hb : B' ≤ B) : AtRow B' v l w := own_mono h hb
/-- A token's cells, one by one. -/
theorem TokIs.five {R : Nat × Tk × List UInt8} {cs : Array Value} {err : Int} {y : ByteArray} {B : Nat} {w : World} (h : TokIs R cs err y B w) :
 ∃ (k : Int) (n : ByteArray) (a : Option Addr) (l c : Nat) (s : Bool) (d : ByteArray), cs = #[.int .u8 k, .string n, .slice a l c, .bool s, .string d] := by
 rcases h.2 with ⟨_, _, v, rfl, hr⟩ | ⟨_, rfl⟩
 ·obtain ⟨a, c, rfl, _⟩ := own_attrs hr
  exact ⟨_, _, _, _, _, _, _, rfl⟩
 ·exact ⟨_, _, _, _, _, _, _, rfl⟩
theorem TokIs.to {R : Nat × Tk × List UInt8} {cs : Array Value} {err : Int} {y : ByteArray} {B B' : Nat} {w w' : World} (h : TokIs R cs err y B w) (hB : B' ≤ B) (hr : ∀ v l, AtRow B v l w → AtRow B v l w') : TokIs R cs err y B' w' := by
 refine ⟨h.1, ?_⟩
 rcases h.2 with ⟨h0, hy, v, hc, ha⟩ | hz
 ·exact .inl ⟨h0, hy, v, hc, (hr v _ ha).mono hB⟩
 ·exact .inr hz
theorem resStart : Tryz.f114.results = #[.cell 2 25, .tmp 3] := by kernel_rfl
theorem resEnd : Tryz.f115.results = #[.cell 2 25, .tmp 3] := by kernel_rfl
theorem resNo : Tryz.f120.results = #[.cell 2 25, .tmp 3] := by kernel_rfl
theorem noMark_any (b : Nat) (x : ByteArray) (w : World) (hT : Tab w) (hR : Rd b x w) :
 Calls Tryz.prog 120 #[.pointer (some ⟨b, 0, none⟩)] w (TokPost b (43, .none, []) w) := by
 have hN := Now.start hR hT
 have HN := hid_mk (hN.alloc (.cells zTok 25))
 clear hT hR hN
 go_enter Tryz.func120, Tryz.ntmps120
 go_wp2_with fail
 refine bodyPost_ret (results_cell_tmp resNo _ _ w.heap.size 25 _ (0, 0) _ rfl (heap_alloc_new w _) Tryz.underlying25 rfl (by kernel_rfl) (.int .i64 43) rfl) rfl ?_
 exact ⟨_, _, x, rfl, HN.out.1, HN.out.2, rfl, .inr ⟨by decide, rfl⟩⟩
set_option maxHeartbeats 4000000 in
set_option maxRecDepth 100000 in
theorem startTag_any (b : Nat) (x : ByteArray) (w : World) (hT : Tab w) (hR : Rd b x w) (hx : x.size ≤ 1000000000) (hp : Lib.hasPrefix (sl x) [60] = true) :
 Calls Tryz.prog 114 #[.pointer (some ⟨b, 0, none⟩)] w (TokPost b (tagL 1 ((sl x).drop 1)) w) := by
 have HT := hid_mk hT
 have hN0 := Now.start hR hT
 have hL0 := Loc.new hN0 zTok 25
 have hN1 := hN0.alloc (.cells zTok 25)
 have hsk := hid_mk (skip_yes b x [60] _ hN1.tab hN1.1 hp)
 rw [show ([60] : List UInt8).length = 1 from rfl] at hsk
 obtain ⟨S, hS⟩ : ∃ S, S = (sl x).drop 1 := ⟨_, rfl⟩
 have hSl : S.length ≤ 1000000000 := by rw [hS, List.length_drop, len_sl]; omega
 rw [← hS] at hsk ⊢
 obtain ⟨R, hRR⟩ : ∃ R, R = tagL 1 S := ⟨_, rfl⟩
 rw [← hRR]
 have HRR := hid_mk hRR
 have H0 := hid_mk (And.intro hN1 hL0)
 have hzA := hid_mk (show (w.alloc (.cells zTok 25)) = (w.alloc (.cells #[.int .u8 0, .string ⟨#[]⟩, .slice none 0 0, .bool false, .string ⟨#[]⟩] 25)) from rfl)
 clear hT hR hN0 hL0 hN1 hp hS hRR
 go_enter Tryz.func114, Tryz.ntmps114
 go_wp2_with fail
 rw [← hzA.out]
 refine hsk.out.mono ?_
 rintro e w1 ⟨rfl, hr1, hu1⟩
 have H1 := hid_mk (And.intro (H0.out.1.step hr1 hu1) (H0.out.2.upd hu1))
 clear hsk H0 hzA hr1 hu1
 have htg := hid_mk (tag_any b 1 (strOf S) w1 H1.out.1.tab H1.out.1.1 (by rw [size_strOf]; exact hSl))
 rw [sl_strOf, ← HRR.out] at htg
 go_wp2_with fail
 refine htg.out.mono ?_
 rintro e w2 ⟨cs, err, y, rfl, hr2, hu2, hi⟩
 have H2 := hid_mk (And.intro (H1.out.1.step hr2 hu2) (H1.out.2.upd hu2))
 have hws := H1.out.1.2.1.size
 obtain ⟨k, n, a, l, c, s, d, rfl⟩ := hi.five
 have HI := hid_mk hi
 have HWS := hid_mk hws
 clear hr2 hu2 hi htg H1 hws
 obtain ⟨r, hr⟩ : ∃ r, r = w.heap.size := ⟨_, rfl⟩
 rw [← hr] at H2 ⊢
 have HRr := hid_mk hr
 clear hr
 have hL4 := H2.out.2
 have s0 := hL4.cell 0
 have s1 := hL4.cell 1
 have s2 := hL4.cell 2
 have s3 := hL4.cell 3
 have s4 := hL4.cell 4
 rw [show zTok[0]? = some (.int .u8 0) from rfl] at s0
 rw [show zTok[1]? = some (.string ⟨#[]⟩) from rfl] at s1
 rw [show zTok[2]? = some (.slice none 0 0) from rfl] at s2
 rw [show zTok[3]? = some (.bool false) from rfl] at s3
 rw [show zTok[4]? = some (.string ⟨#[]⟩) from rfl] at s4
 have t0 := hL4.frozen 0
 have t1 := hL4.frozen 1
 have t2 := hL4.frozen 2
 have t3 := hL4.frozen 3
 have t4 := hL4.frozen 4
 clear hL4
 go_wp2_with fail
 have HL := tok_set (a0 := .int .u8 0) (a1 := .string ⟨#[]⟩) (a2 := .slice none 0 0) (a3 := .bool false) (a4 := .string ⟨#[]⟩) H2.out.2 (.int .u8 k) (.string n) (.slice a l c) (.bool s) (.string d)
 have HN := tok_now H2.out.1 HT.out H2.out.2 (.int .u8 k) (.string n) (.slice a l c) (.bool s) (.string d)
 refine bodyPost_ret (results_cell_tmp resStart _ _ r 25 _ (0, 0) _ rfl HL.1 Tryz.underlying25 rfl (by kernel_rfl) (.int .i64 err) rfl) rfl ?_
 exact ⟨_, _, _, rfl, HN.1, HN.2, HI.out.to HWS.out (fun v l h => tok_row h H2.out.2 _ _ _ _ _)⟩
set_option maxHeartbeats 4000000 in
set_option maxRecDepth 100000 in
theorem endTag_any (b : Nat) (x : ByteArray) (w : World) (hT : Tab w) (hR : Rd b x w) (hx : x.size ≤ 1000000000) (hp : Lib.hasPrefix (sl x) [60, 47] = true) :
 Calls Tryz.prog 115 #[.pointer (some ⟨b, 0, none⟩)] w (TokPost b (endL ((sl x).drop 2)) w) := by
 have HT := hid_mk hT
 have hN0 := Now.start hR hT
 have hL0 := Loc.new hN0 zTok 25
 have hN1 := hN0.alloc (.cells zTok 25)
 have hsk := hid_mk (skip_yes b x [60, 47] _ hN1.tab hN1.1 hp)
 rw [show ([60, 47] : List UInt8).length = 2 from rfl] at hsk
 obtain ⟨S, hS⟩ : ∃ S, S = (sl x).drop 2 := ⟨_, rfl⟩
 have hSl : S.length ≤ 1000000000 := by rw [hS, List.length_drop, len_sl]; omega
 rw [← hS] at hsk ⊢
 obtain ⟨R, hRR⟩ : ∃ R, R = endL S := ⟨_, rfl⟩
 rw [← hRR]
 obtain ⟨X, hX⟩ : ∃ X, X = strOf S := ⟨_, rfl⟩
 have hXS : sl X = S := by rw [hX, sl_strOf]
 have hXs : X.size = S.length := by rw [hX, size_strOf]
 have HXz := hid_mk (And.intro hXS hXs)
 rw [← hX] at hsk
 have HRR := hid_mk hRR
 have H0 := hid_mk (And.intro hN1 hL0)
 have hzA := hid_mk (show (w.alloc (.cells zTok 25)) = (w.alloc (.cells #[.int .u8 0, .string ⟨#[]⟩, .slice none 0 0, .bool false, .string ⟨#[]⟩] 25)) from rfl)
 clear hT hR hN0 hL0 hN1 hp hS hRR hX
 go_enter Tryz.func115, Tryz.ntmps115
 go_wp2_with fail
 rw [← hzA.out]
 refine hsk.out.mono ?_
 rintro e w1 ⟨rfl, hr1, hu1⟩
 have H1 := hid_mk (And.intro (H0.out.1.step hr1 hu1) (H0.out.2.upd hu1))
 clear hsk H0 hzA hr1 hu1
 obtain ⟨r, hr⟩ : ∃ r, r = w.heap.size := ⟨_, rfl⟩
 rw [← hr] at H1 ⊢
 have HRr := hid_mk hr
 clear hr
 have hrc := H1.out.1.1.cell
 by_cases hSe : S = []
 ·have he : X.toList = [] := by rw [Lib.toList_data]; show sl X = []; rw [hXS, hSe]
  have he2 : X.toList.isEmpty = true := by rw [he]; rfl
  have HF := hid_mk (show R = (40, .none, []) by rw [HRR.out, hSe]; rfl)
  clear hSe hXS hXs
  have hL4 := H1.out.2
  have s0 := hL4.cell 0
  have s1 := hL4.cell 1
  have s2 := hL4.cell 2
  have s3 := hL4.cell 3
  have s4 := hL4.cell 4
  rw [show zTok[0]? = some (.int .u8 0) from rfl] at s0
  rw [show zTok[1]? = some (.string ⟨#[]⟩) from rfl] at s1
  rw [show zTok[2]? = some (.slice none 0 0) from rfl] at s2
  rw [show zTok[3]? = some (.bool false) from rfl] at s3
  rw [show zTok[4]? = some (.string ⟨#[]⟩) from rfl] at s4
  have t0 := hL4.frozen 0
  have t1 := hL4.frozen 1
  have t2 := hL4.frozen 2
  have t3 := hL4.frozen 3
  have t4 := hL4.frozen 4
  clear hL4
  go_wp2_with fail
  have HL := tok_set (a0 := .int .u8 0) (a1 := .string ⟨#[]⟩) (a2 := .slice none 0 0) (a3 := .bool false) (a4 := .string ⟨#[]⟩) H1.out.2 (.int .u8 0) (.string ⟨#[]⟩) (.slice none 0 0) (.bool false) (.string ⟨#[]⟩)
  have HN := tok_now H1.out.1 HT.out H1.out.2 (.int .u8 0) (.string ⟨#[]⟩) (.slice none 0 0) (.bool false) (.string ⟨#[]⟩)
  refine bodyPost_ret (results_cell_tmp resEnd _ _ r 25 _ (0, 0) _ rfl HL.1 Tryz.underlying25 rfl (by kernel_rfl) (.int .i64 40) rfl) rfl ?_
  exact ⟨_, _, _, rfl, HN.1, HN.2, by rw [HF.out]; exact ⟨rfl, .inr ⟨by decide, rfl⟩⟩⟩
 have hpos : 0 < S.length := List.length_pos_iff.2 hSe
 have hX0 : 0 < X.size := by omega
 have hX0i : (0 : Int) < (X.size : Int) := by omega
 have hne : X.toList.isEmpty = false := by
  rw [Lib.toList_data]
  show (sl X).isEmpty = false
  rw [hXS]
  cases S with
  | nil => exact absurd rfl hSe
  | cons _ _ => rfl
 have hSe2 : S.isEmpty = false := by
  cases S with
  | nil => exact absurd rfl hSe
  | cons _ _ => rfl
 have hb0 : X[0]'hX0 = S.getD 0 0 := by rw [← hXS, getD_sl X 0 hX0]
 have hlet := hid_mk (fun w => letter_any (X[0]'hX0) w)
 rw [hb0] at hlet
 cases hL : isLet (S.getD 0 0) with
 | false =>
   rw [hL] at hlet
   have HF := hid_mk (show R = (40, .none, []) by rw [HRR.out]; unfold endL; rw [hSe2, hL]; rfl)
   rw [← hb0] at hlet
   clear hSe hXS hXs hSe2 hb0 hL
   go_wp2_with fail
   refine (hlet.out _).mono ?_
   rintro e w2 ⟨rfl, rfl⟩
   have hL4 := H1.out.2
   have s0 := hL4.cell 0
   have s1 := hL4.cell 1
   have s2 := hL4.cell 2
   have s3 := hL4.cell 3
   have s4 := hL4.cell 4
   rw [show zTok[0]? = some (.int .u8 0) from rfl] at s0
   rw [show zTok[1]? = some (.string ⟨#[]⟩) from rfl] at s1
   rw [show zTok[2]? = some (.slice none 0 0) from rfl] at s2
   rw [show zTok[3]? = some (.bool false) from rfl] at s3
   rw [show zTok[4]? = some (.string ⟨#[]⟩) from rfl] at s4
   have t0 := hL4.frozen 0
   have t1 := hL4.frozen 1
   have t2 := hL4.frozen 2
   have t3 := hL4.frozen 3
   have t4 := hL4.frozen 4
   clear hL4
   go_wp2_with fail
   have HL := tok_set (a0 := .int .u8 0) (a1 := .string ⟨#[]⟩) (a2 := .slice none 0 0) (a3 := .bool false) (a4 := .string ⟨#[]⟩) H1.out.2 (.int .u8 0) (.string ⟨#[]⟩) (.slice none 0 0) (.bool false) (.string ⟨#[]⟩)
   have HN := tok_now H1.out.1 HT.out H1.out.2 (.int .u8 0) (.string ⟨#[]⟩) (.slice none 0 0) (.bool false) (.string ⟨#[]⟩)
   refine bodyPost_ret (results_cell_tmp resEnd _ _ r 25 _ (0, 0) _ rfl HL.1 Tryz.underlying25 rfl (by kernel_rfl) (.int .i64 40) rfl) rfl ?_
   exact ⟨_, _, _, rfl, HN.1, HN.2, by rw [HF.out]; exact ⟨rfl, .inr ⟨by decide, rfl⟩⟩⟩
 | true =>
   rw [hL] at hlet
   have HE := hid_mk (show R = if !(tagL 2 S).2.1.attrs.isEmpty || (tagL 2 S).2.1.self then (40, .none, []) else tagL 2 S by rw [HRR.out]; unfold endL; rw [hSe2, hL]; rfl)
   rw [← hb0] at hlet
   have htg := hid_mk (tag_any b 2 X w1 H1.out.1.tab H1.out.1.1 (by rw [hXs]; exact hSl))
   rw [hXS] at htg
   clear hSe hXS hXs hSe2 hb0 hL
   go_wp2_with fail
   refine (hlet.out _).mono ?_
   rintro e w2 ⟨rfl, rfl⟩
   go_wp2_with fail
   refine htg.out.mono ?_
   rintro e w2 ⟨cs, err, y, rfl, hr2, hu2, hi⟩
   have H2 := hid_mk (And.intro (H1.out.1.step hr2 hu2) (H1.out.2.upd hu2))
   have hws := H1.out.1.2.1.size
   have hlt2 := H2.out.2.lt
   clear hr2 hu2 htg H1 hrc hne hX0i
   obtain ⟨g, hg⟩ : ∃ g, g = w2.heap.size := ⟨_, rfl⟩
   rcases hi.2 with ⟨h0, hy, v, rfl, har⟩ | ⟨h0, rfl⟩
   ·obtain ⟨va, vc, rfl, _⟩ := own_attrs har
    generalize htl : tagL 2 S = T at *
    obtain ⟨T0, ⟨tk, tn, tat, tsf, td⟩, tr⟩ := T
    simp only at h0 hy har HE
    obtain rfl := h0
    have he0 : err = 0 := hi.1
    subst he0
    have HI := hid_mk hi
    have HE2 := hid_mk (show R = if !tat.isEmpty || tsf then (40, .none, []) else (0, ⟨tk, tn, tat, tsf, td⟩, tr) from HE.out)
    have HY := hid_mk hy
    have HAR := hid_mk har
    have HWS := hid_mk hws
    clear hi hy har htl hg HE hws
    have hL4 := H2.out.2
    have s0 := hL4.cell 0
    have s1 := hL4.cell 1
    have s2 := hL4.cell 2
    have s3 := hL4.cell 3
    have s4 := hL4.cell 4
    rw [show zTok[0]? = some (.int .u8 0) from rfl] at s0
    rw [show zTok[1]? = some (.string ⟨#[]⟩) from rfl] at s1
    rw [show zTok[2]? = some (.slice none 0 0) from rfl] at s2
    rw [show zTok[3]? = some (.bool false) from rfl] at s3
    rw [show zTok[4]? = some (.string ⟨#[]⟩) from rfl] at s4
    have t0 := hL4.frozen 0
    have t1 := hL4.frozen 1
    have t2 := hL4.frozen 2
    have t3 := hL4.frozen 3
    have t4 := hL4.frozen 4
    clear hL4
    have hcase : (0 < tat.length) ∨ (tat = [] ∧ tsf = true) ∨ (tat = [] ∧ tsf = false) := by
     cases tat with
     | nil => cases tsf <;> simp
     | cons _ _ => simp
    rcases hcase with hc | ⟨hc, hc2⟩ | ⟨hc, hc2⟩
    ·have HF := hid_mk (show R = (40, .none, []) by
      rw [HE2.out]
      cases tat with
      | nil => simp at hc
      | cons _ _ => rfl)
     unfold tkCells
     simp only
     obtain ⟨ln, hln⟩ : ∃ ln, ln = tat.length := ⟨_, rfl⟩
     rw [← hln]
     have hc2 : 0 < ln := by omega
     have hci : (0 : Int) < (ln : Int) := by omega
     have HLN := hid_mk hln
     clear hc HE2 hln
     go_wp2_with fail
     have HL := tok_set (a0 := .int .u8 0) (a1 := .string ⟨#[]⟩) (a2 := .slice none 0 0) (a3 := .bool false) (a4 := .string ⟨#[]⟩) H2.out.2 (.int .u8 0) (.string ⟨#[]⟩) (.slice none 0 0) (.bool false) (.string ⟨#[]⟩)
     have HN := tok_now H2.out.1 HT.out H2.out.2 (.int .u8 0) (.string ⟨#[]⟩) (.slice none 0 0) (.bool false) (.string ⟨#[]⟩)
     refine bodyPost_ret (results_cell_tmp resEnd _ _ r 25 _ (0, 0) _ rfl (HL.alloc _).1 Tryz.underlying25 rfl (by kernel_rfl) (.int .i64 40) rfl) rfl ?_
     exact ⟨_, _, _, rfl, (HN.alloc _).1, (HN.alloc _).2, by rw [HF.out]; exact ⟨rfl, .inr ⟨by decide, rfl⟩⟩⟩
    ·subst hc hc2
     have HF := hid_mk (show R = (40, .none, []) from HE2.out.trans rfl)
     clear HE2
     unfold tkCells
     simp only
     go_wp2_with fail
     have HL := tok_set (a0 := .int .u8 0) (a1 := .string ⟨#[]⟩) (a2 := .slice none 0 0) (a3 := .bool false) (a4 := .string ⟨#[]⟩) H2.out.2 (.int .u8 0) (.string ⟨#[]⟩) (.slice none 0 0) (.bool false) (.string ⟨#[]⟩)
     have HN := tok_now H2.out.1 HT.out H2.out.2 (.int .u8 0) (.string ⟨#[]⟩) (.slice none 0 0) (.bool false) (.string ⟨#[]⟩)
     refine bodyPost_ret (results_cell_tmp resEnd _ _ r 25 _ (0, 0) _ rfl (HL.alloc _).1 Tryz.underlying25 rfl (by kernel_rfl) (.int .i64 40) rfl) rfl ?_
     exact ⟨_, _, _, rfl, (HN.alloc _).1, (HN.alloc _).2, by rw [HF.out]; exact ⟨rfl, .inr ⟨by decide, rfl⟩⟩⟩
    ·subst hc hc2
     have HF := hid_mk (show R = (0, ⟨tk, tn, [], false, td⟩, tr) from HE2.out.trans rfl)
     clear HE2
     unfold tkCells
     simp only
     go_wp2_with fail
     have HL := tok_set (a0 := .int .u8 0) (a1 := .string ⟨#[]⟩) (a2 := .slice none 0 0) (a3 := .bool false) (a4 := .string ⟨#[]⟩) H2.out.2 (.int .u8 (tk : Int)) (.string (strOf tn)) (.slice va 0 vc) (.bool false) (.string (strOf td))
     have HN := tok_now H2.out.1 HT.out H2.out.2 (.int .u8 (tk : Int)) (.string (strOf tn)) (.slice va 0 vc) (.bool false) (.string (strOf td))
     have HO := tok_row HAR.out H2.out.2 (.int .u8 (tk : Int)) (.string (strOf tn)) (.slice va 0 vc) (.bool false) (.string (strOf td))
     refine bodyPost_ret (results_cell_tmp resEnd _ _ r 25 _ (0, 0) _ rfl (HL.alloc _).1 Tryz.underlying25 rfl (by kernel_rfl) (.int .i64 0) rfl) rfl ?_
     exact ⟨_, _, _, rfl, (HN.alloc _).1, (HN.alloc _).2, by rw [HF.out]; exact ⟨rfl, .inl ⟨rfl, HY.out, _, rfl, (HO.mono HWS.out).below ((Below.refl _ _).alloc (Nat.le_refl _) _)⟩⟩⟩
   ·have he := hi.1
    subst he
    have HF := hid_mk (show ∃ e, R = (e + 1, .none, []) ∧ (tagL 2 S).1 = e + 1 by
     rw [HE.out]
     unfold tagL at h0 ⊢
     split
     ·exact ⟨39, rfl, rfl⟩
     ·rename_i hm
      rw [if_neg hm] at h0
      generalize attrsF 17 (downL S [9, 10, 12, 32, 47, 62]) [] = Q at *
      obtain ⟨q0, q1, q2, q3⟩ := Q
      cases q0 with
      | zero => exact absurd rfl h0
      | succ e => exact ⟨e, rfl, rfl⟩)
    obtain ⟨e1, he1, he2⟩ := HF.out
    rw [he2]
    have HG := hid_mk he1
    clear hi HE h0 HF he1 he2 hg
    have hL4 := H2.out.2
    have s0 := hL4.cell 0
    have s1 := hL4.cell 1
    have s2 := hL4.cell 2
    have s3 := hL4.cell 3
    have s4 := hL4.cell 4
    rw [show zTok[0]? = some (.int .u8 0) from rfl] at s0
    rw [show zTok[1]? = some (.string ⟨#[]⟩) from rfl] at s1
    rw [show zTok[2]? = some (.slice none 0 0) from rfl] at s2
    rw [show zTok[3]? = some (.bool false) from rfl] at s3
    rw [show zTok[4]? = some (.string ⟨#[]⟩) from rfl] at s4
    have t0 := hL4.frozen 0
    have t1 := hL4.frozen 1
    have t2 := hL4.frozen 2
    have t3 := hL4.frozen 3
    have t4 := hL4.frozen 4
    clear hL4
    unfold zTok
    go_wp2_with fail
    have HL := tok_set (a0 := .int .u8 0) (a1 := .string ⟨#[]⟩) (a2 := .slice none 0 0) (a3 := .bool false) (a4 := .string ⟨#[]⟩) H2.out.2 (.int .u8 0) (.string ⟨#[]⟩) (.slice none 0 0) (.bool false) (.string ⟨#[]⟩)
    have HN := tok_now H2.out.1 HT.out H2.out.2 (.int .u8 0) (.string ⟨#[]⟩) (.slice none 0 0) (.bool false) (.string ⟨#[]⟩)
    refine bodyPost_ret (results_cell_tmp resEnd _ _ r 25 _ (0, 0) _ rfl (HL.alloc _).1 Tryz.underlying25 rfl (by kernel_rfl) (.int .i64 ((e1 + 1 : Nat) : Int)) rfl) rfl ?_
    exact ⟨_, _, _, rfl, (HN.alloc _).1, (HN.alloc _).2, by rw [HG.out]; exact ⟨rfl, .inr ⟨by simp, rfl⟩⟩⟩
end Go.Proofs.YtlcijlklbabajaaGreatDoor
