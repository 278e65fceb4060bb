/-
  Package token: attributes and how they lie; oneMore, attribute. Conditions: the text's length is bounded; the world holds what Tab says.
-/
import Derived.Test.YtlcijlklbabajaaGreatDoorQTSbv
import Derived.Test.YtlcijlklbabajaaGreatDoorQFiDe
import Derived.Test.YtlcijlklbabajaaGreatDoorQFlEx
namespace Go.Proofs.YtlcijlklbabajaaGreatDoor
open Go.RowKit
abbrev Atr := List UInt8 × List UInt8
def atCell (a : Atr) : List Value := [.string (strOf a.1), .string (strOf a.2)]
def atCells (l : List Atr) : List Value := l.flatMap atCell
theorem infoAttr : (Tryz.prog.info? 40).map (fun i => (i.zero, i.size, i.bytes)) = some (some (.agg #[.string ⟨#[]⟩, .string ⟨#[]⟩]), 2, 32) := by kernel_rfl
/-- A slice value of these attributes, as it is read. -/
def HasAttrs (w : World) (a : Option Addr) (l : List Atr) : Prop :=
 (a = none ∧ l = []) ∨ ∃ g, a = some ⟨g, 0, none⟩ ∧ g < w.heap.size ∧ ∀ k (h : k < l.length), w.cell? ⟨g, k * 2, none⟩ = some (.string (strOf l[k].1)) ∧ w.cell? ⟨g, k * 2 + 1, none⟩ = some (.string (strOf l[k].2))
theorem HasAttrs.below {w w' : World} {a : Option Addr} {l : List Atr} (h : HasAttrs w a l) (hb : Below w.heap.size w w') : HasAttrs w' a l := by
 rcases h with h | ⟨g, h1, h2, h3⟩
 ·exact .inl h
 ·refine .inr ⟨g, h1, Nat.lt_of_lt_of_le h2 hb.size, fun k hk => ?_⟩
  have := h3 k hk
  exact ⟨(hb.cell (p := ⟨g, _, none⟩) h2).trans this.1, (hb.cell (p := ⟨g, _, none⟩) h2).trans this.2⟩
theorem own_attrs {w : World} {base : Nat} {v : Value} {l : List Atr} (h : w.ownsRow base 40 2 v l.length (atCells l)) : ∃ a cap, v = .slice a l.length cap ∧ HasAttrs w a l := by
 rcases h.2 with ⟨rfl, h0⟩ | ⟨g, cap, cur, rfl, h2, h3, h4, h5, h6, h7⟩
 ·exact ⟨none, 0, by rw [h0], .inl ⟨rfl, List.eq_nil_of_length_eq_zero h0⟩⟩
 ·refine ⟨_, cap, rfl, .inr ⟨g, rfl, (Array.getElem?_eq_some_iff.1 h3).1, fun k hk => ?_⟩⟩
  have cell : ∀ j, j < 2 → w.cell? ⟨g, k * 2 + j, none⟩ = (atCell l[k])[j]? := fun j hj => by
   rw [cell_of_row w g _ _ _ _ h3, ← flat_get atCell 2 (fun _ => rfl) l k j hk hj]
   have hlt : k * 2 + j < l.length * 2 := by omega
   show _ = (atCells l)[k * 2 + j]?
   rw [← h7, List.getElem?_take, if_pos hlt, Array.getElem?_toList]
  exact ⟨cell 0 (by omega), cell 1 (by omega)⟩
theorem toList_strOf (l : List UInt8) : (strOf l).toList = l := by rw [Lib.toList_data]; exact sl_strOf l
def oneMoreL (l : List Atr) (nm : List UInt8) : Int := if l.any (fun b => b.1 == nm) then 41 else if l.length = 16 then 3 else 0
theorem any_take {l : List Atr} {nm : List UInt8} {k : Nat} (hk : k < l.length) : (l.take (k + 1)).any (fun b => b.1 == nm) = ((l.take k).any (fun b => b.1 == nm) || (l[k].1 == nm)) := by
 rw [List.take_add_one, List.any_append, List.getElem?_eq_getElem hk]
 simp
set_option maxHeartbeats 2000000 in
set_option maxRecDepth 100000 in
theorem oneMore_go (g : Nat) (cap : Nat) (l : List Atr) (nm : List UInt8) (w : World) (h : HasAttrs w (some ⟨g, 0, none⟩) l) (hl2 : l.length ≤ 16) :
 Calls Tryz.prog 170 #[.slice (some ⟨g, 0, none⟩) l.length cap, .string (strOf nm)] w fun e w' => e = .returned (.int .i64 (oneMoreL l nm)) ∧ Below w.heap.size w w' := by
 obtain ⟨n, hn⟩ : ∃ n, n = l.length := ⟨_, rfl⟩
 obtain ⟨R, hR⟩ : ∃ R, R = oneMoreL l nm := ⟨_, rfl⟩
 rw [← hn] at hl2 ⊢
 rw [← hR]
 have HN := hid_mk hn
 have HH := hid_mk h
 have HR := hid_mk hR
 clear hn h hR
 go_enter Tryz.func170, Tryz.ntmps170
 go_wp2_with fail
 go_loopw [6, 9] (fun _ i wr => ∃ k : Nat, k ≤ n ∧ i = .int .i64 k ∧ Hid ((l.take k).any (fun b => b.1 == nm) = false) ∧ Hid (Below w.heap.size w wr)) (fun _ i _ => n - (intOf i).toNat)
 case atStart => exact ⟨0, Nat.zero_le _, rfl, hid_mk rfl, hid_mk (Below.refl _ _)⟩
 case round =>
  obtain ⟨k, hk, rfl, hm, hW⟩ := hrel
  by_cases hlt : k < n
  ·rcases HH.out with ⟨hx, _⟩ | ⟨g', hg, hgl, hcell⟩
   ·cases hx
   ·obtain rfl : g = g' := by injection hg with hg; injection hg
    have hkl : k < l.length := by rw [← HN.out]; exact hlt
    have hc := hcell k hkl
    have hat := any_take (nm := nm) hkl
    rw [hm.out, Bool.false_or] at hat
    have hall : (l[k].1 == nm) = true → l.any (fun b => b.1 == nm) = true := fun h => List.any_eq_true.2 ⟨_, List.getElem_mem hkl, h⟩
    obtain ⟨a, ha⟩ : ∃ a, a = l[k]'hkl := ⟨_, rfl⟩
    rw [← ha] at hc hat hall
    obtain ⟨hc1, hc2⟩ := hc
    have hd1 := (hW.out.cell (p := ⟨g, k * 2, none⟩) hgl).trans hc1
    have hd2 := (hW.out.cell (p := ⟨g, k * 2 + 1, none⟩) hgl).trans hc2
    have hbl := hid_mk (hW.out.alloc hW.out.size (.cells #[.string (strOf a.1), .string (strOf a.2)] 40))
    clear hc1 hc2 ha hcell hg hkl
    by_cases he : a.1 = nm
    ·have HE := hid_mk (show R = 41 by rw [HR.out]; unfold oneMoreL; rw [if_pos (hall (by rw [he]; exact beq_self_eq_true nm))])
     have heq : ((strOf a.1).toList == (strOf nm).toList) = true := by rw [he]; exact beq_self_eq_true _
     clear hat hall he
     go_wp2_with fail
     go_ret
     rw [HE.out]
     exact ⟨rfl, hbl.out⟩
    ·have heq : ((strOf a.1).toList == (strOf nm).toList) = false := by rw [toList_strOf, toList_strOf]; exact beq_false_of_ne he
     have HT := hid_mk (hat.trans (beq_false_of_ne he))
     clear hat hall he
     go_wp2_with fail
     go_roundw
     case rel => exact ⟨k + 1, by omega, by go_num, HT, hbl⟩
     case measure => simp [intOf]; omega
  ·obtain rfl : k = n := by omega
   have hm2 := hm.out
   rw [List.take_of_length_le (by rw [HN.out]; exact Nat.le_refl _)] at hm2
   have hlt' : ¬ (k : Int) < (k : Int) := by omega
   by_cases h16 : k = 16
   ·have HE := hid_mk (show R = 3 by rw [HR.out]; unfold oneMoreL; rw [if_neg (by rw [hm2]; exact Bool.false_ne_true), if_pos (by rw [← HN.out]; exact h16)])
    have h16' : ((k : Int) == 16) = true := by rw [h16]; rfl
    have h16n : (k == 16) = true := by rw [h16]; rfl
    clear hm2 h16
    go_wp2_with fail
    go_ret
    rw [HE.out]
    exact ⟨rfl, hW.out⟩
   ·have HE := hid_mk (show R = 0 by rw [HR.out]; unfold oneMoreL; rw [if_neg (by rw [hm2]; exact Bool.false_ne_true), if_neg (by rw [← HN.out]; exact h16)])
    have h16' : ((k : Int) == 16) = false := beq_false_of_ne (by omega)
    have h16n : (k == 16) = false := beq_false_of_ne h16
    clear hm2
    go_wp2_with fail
    go_ret
    rw [HE.out]
    exact ⟨rfl, hW.out⟩
set_option maxHeartbeats 1000000 in
theorem oneMore_nil (nm : ByteArray) (w : World) :
 Calls Tryz.prog 170 #[.slice none 0 0, .string nm] w fun e w' => e = .returned (.int .i64 0) ∧ Below w.heap.size w w' := by
 go_enter Tryz.func170, Tryz.ntmps170
 go_wp2_with fail
 refine wp_loop_rounds 1 ?_
 rw [rounds_succ]
 go_wp2_with fail
 go_ret
 exact ⟨rfl, Below.refl _ _⟩
theorem oneMore_any (v : Value) (base : Nat) (l : List Atr) (nm : List UInt8) (w : World) (h : w.ownsRow base 40 2 v l.length (atCells l)) (hl2 : l.length ≤ 16) :
 Calls Tryz.prog 170 #[v, .string (strOf nm)] w fun e w' => e = .returned (.int .i64 (oneMoreL l nm)) ∧ Below w.heap.size w w' := by
 rcases h.2 with ⟨rfl, h0⟩ | ⟨g, cap, cur, rfl, h2, h3, rest⟩
 ·have hn : l = [] := List.eq_nil_of_length_eq_zero h0
  subst hn
  exact oneMore_nil (strOf nm) w
 ·obtain ⟨a, cap', hv, hh⟩ := own_attrs h
  injection hv with ha _ hc
  subst ha
  exact oneMore_go g cap l nm w hh hl2
end Go.Proofs.YtlcijlklbabajaaGreatDoor
namespace Go.Proofs.YtlcijlklbabajaaGreatDoor
open Go.RowKit
/-- Block g is this object. -/
def Blk (g : Nat) (o : Obj) (w : World) : Prop := w.heap[g]? = some o
theorem Blk.lt {g : Nat} {o : Obj} {w : World} (h : Blk g o w) : g < w.heap.size := (Array.getElem?_eq_some_iff.1 h).1
theorem Blk.new (w : World) (o : Obj) : Blk w.heap.size o (w.alloc o) := heap_alloc_new w o
theorem Blk.next {g : Nat} {o : Obj} {w w' : World} (h : Blk g o w) (hb : Below w.heap.size w w') : Blk g o w' := (hb.block g h.lt).trans h
theorem Blk.upd {g b : Nat} {o : Obj} {w w' : World} (h : Blk g o w) (hu : Upd b w w') (hne : g ≠ b) : Blk g o w' := (hu.1.block g h.lt (fun e => hne (by injection e))).trans h
theorem Blk.set {g : Nat} {o : Obj} {w : World} (h : Blk g o w) (a : Addr) (v : Value) (hne : g ≠ a.block) : Blk g o (w.setCell a v) := (Below.heap_setCell _ _ _ _ hne).trans h
theorem Blk.cell {g : Nat} {cs : Array Value} {t : TypeId} {fr : Nat × Nat} {w : World} (h : Blk g (.cells cs t fr) w) (j : Nat) : w.cell? ⟨g, j, none⟩ = cs[j]? := cell_of_row w g j _ _ _ h
theorem Blk.frozen {g : Nat} {cs : Array Value} {t : TypeId} {w : World} (h : Blk g (.cells cs t (0, 0)) w) (j : Nat) : w.frozen? ⟨g, j, none⟩ = false := Lib.frozen_of_heap h j
theorem Blk.setAt {g : Nat} {cs : Array Value} {t : TypeId} {fr : Nat × Nat} {w : World} (h : Blk g (.cells cs t fr) w) (j : Nat) (v : Value) : Blk g (.cells (cs.setIfInBounds j v) t fr) (w.setCell ⟨g, j, none⟩ v) := by
 unfold Blk at h ⊢
 show (w.heap.modify g _)[g]? = _
 rw [Array.getElem?_modify, if_pos rfl, h]
 rfl
theorem Rd.blk {b : Nat} {x : ByteArray} {w : World} (h : Rd b x w) : Blk b (.cells #[.string x] 109 (0, 0)) w := h
theorem Rd.setOther {b : Nat} {x : ByteArray} {w : World} (h : Rd b x w) (a : Addr) (v : Value) (hne : b ≠ a.block) : Rd b x (w.setCell a v) := (Below.heap_setCell _ _ _ _ hne).trans h
/-- A write into a block that came later. -/
theorem Upd.setNew {b : Nat} {w w1 : World} (h : Upd b w w1) (hT : Tab w) (a : Addr) (ha : w.heap.size ≤ a.block) (v : Value) : Upd b w (w1.setCell a v) :=
 ⟨⟨h.1.os, h.1.tape, h.1.output, by rw [World.size_setCell]; exact h.1.size, fun k hk hne => (Below.heap_setCell _ _ _ _ (by omega)).trans (h.1.block k hk hne)⟩,
  h.2.of_blocks (Below.heap_setCell _ _ _ _ (by have := tab_pos hT; omega)) (Below.heap_setCell _ _ _ _ (by have := max_lt hT; omega))⟩
theorem Upd.alloc {b : Nat} {w w1 : World} (h : Upd b w w1) (o : Obj) : Upd b w (w1.alloc o) :=
 h.trans (Upd.of h.2 ((Below.refl _ _).alloc (Nat.le_refl _) o))
theorem Upd.below' {b : Nat} {w w1 w2 : World} (h : Upd b w w1) (hb : Below w1.heap.size w1 w2) : Upd b w w2 := h.trans (Upd.of h.2 hb)
/-- The reader in block b holds y; of what was there when the call began nothing else has turned. -/
def Now (b : Nat) (y : ByteArray) (w0 w : World) : Prop := Rd b y w ∧ Upd b w0 w
/-- A block of the call's own, made since w0. -/
def Loc (b g : Nat) (cs : Array Value) (t : TypeId) (w0 w : World) : Prop := Blk g (.cells cs t (0, 0)) w ∧ g ≠ b ∧ w0.heap.size ≤ g
theorem Now.start {b : Nat} {y : ByteArray} {w : World} (hR : Rd b y w) (hT : Tab w) : Now b y w w := ⟨hR, Upd.refl hT⟩
theorem Now.step {b : Nat} {y y' : ByteArray} {w0 w w' : World} (h : Now b y w0 w) (hr : Rd b y' w') (hu : Upd b w w') : Now b y' w0 w' := ⟨hr, h.2.trans hu⟩
theorem Now.next {b : Nat} {y : ByteArray} {w0 w w' : World} (h : Now b y w0 w) (hb : Below w.heap.size w w') : Now b y w0 w' := ⟨h.1.next hb, h.2.below' hb⟩
theorem Now.tab {b : Nat} {y : ByteArray} {w0 w : World} (h : Now b y w0 w) : Tab w := h.2.2
theorem Now.alloc {b : Nat} {y : ByteArray} {w0 w : World} (h : Now b y w0 w) (o : Obj) : Now b y w0 (w.alloc o) := h.next ((Below.refl _ _).alloc (Nat.le_refl _) o)
theorem Now.set {b g : Nat} {y : ByteArray} {w0 w : World} {cs : Array Value} {t : TypeId} (h : Now b y w0 w) (hT : Tab w0) (hl : Loc b g cs t w0 w) (j : Nat) (v : Value) : Now b y w0 (w.setCell ⟨g, j, none⟩ v) :=
 ⟨h.1.setOther _ _ hl.2.1.symm, h.2.setNew hT ⟨g, j, none⟩ hl.2.2 v⟩
theorem Loc.new {b : Nat} {y : ByteArray} {w0 w : World} (h : Now b y w0 w) (cs : Array Value) (t : TypeId) : Loc b w.heap.size cs t w0 (w.alloc (.cells cs t)) :=
 ⟨Blk.new _ _, by have := h.1.lt; omega, h.2.1.size⟩
theorem Loc.upd {b g : Nat} {cs : Array Value} {t : TypeId} {w0 w w' : World} (h : Loc b g cs t w0 w) (hu : Upd b w w') : Loc b g cs t w0 w' := ⟨h.1.upd hu h.2.1, h.2⟩
theorem Loc.next {b g : Nat} {cs : Array Value} {t : TypeId} {w0 w w' : World} (h : Loc b g cs t w0 w) (hb : Below w.heap.size w w') : Loc b g cs t w0 w' := ⟨h.1.next hb, h.2⟩
theorem Loc.alloc {b g : Nat} {cs : Array Value} {t : TypeId} {w0 w : World} (h : Loc b g cs t w0 w) (o : Obj) : Loc b g cs t w0 (w.alloc o) := h.next ((Below.refl _ _).alloc (Nat.le_refl _) o)
theorem Loc.setAt {b g : Nat} {cs : Array Value} {t : TypeId} {w0 w : World} (h : Loc b g cs t w0 w) (j : Nat) (v : Value) : Loc b g (cs.setIfInBounds j v) t w0 (w.setCell ⟨g, j, none⟩ v) := ⟨h.1.setAt j v, h.2⟩
theorem Loc.setOther {b g : Nat} {cs : Array Value} {t : TypeId} {w0 w : World} (h : Loc b g cs t w0 w) (a : Addr) (v : Value) (hne : g ≠ a.block) : Loc b g cs t w0 (w.setCell a v) := ⟨h.1.set a v hne, h.2⟩
theorem Loc.cell {b g : Nat} {cs : Array Value} {t : TypeId} {w0 w : World} (h : Loc b g cs t w0 w) (j : Nat) : w.cell? ⟨g, j, none⟩ = cs[j]? := h.1.cell j
theorem Loc.frozen {b g : Nat} {cs : Array Value} {t : TypeId} {w0 w : World} (h : Loc b g cs t w0 w) (j : Nat) : w.frozen? ⟨g, j, none⟩ = false := h.1.frozen j
theorem Loc.lt {b g : Nat} {cs : Array Value} {t : TypeId} {w0 w : World} (h : Loc b g cs t w0 w) : g < w.heap.size := h.1.lt
end Go.Proofs.YtlcijlklbabajaaGreatDoor
namespace Go.Proofs.YtlcijlklbabajaaGreatDoor
open Go.RowKit
def zAttr : Array Value := #[.string ⟨#[]⟩, .string ⟨#[]⟩]
/-- What the reader of an attribute leaves. -/
def AttrPost (b : Nat) (l : List UInt8) (w : World) (e : Ending) (w' : World) : Prop :=
 ∃ (x1 x2 : ByteArray) (err : Int) (y : ByteArray), e = .returned (.tuple #[.agg #[.string x1, .string x2], .int .i64 err]) ∧ Rd b y w' ∧ Upd b w w' ∧
  match attrL l with
  | some p => x1 = strOf p.1.1 ∧ x2 = strOf p.1.2 ∧ err = 0 ∧ y = strOf p.2
  | none => err = 41
theorem results_cell_tmp {P : Program} {fn : Func} {p q : Tmp} {ty : TypeId} (h : fn.results = #[.cell p ty, .tmp q]) (tmps : Array Value) (w : World) (g : Nat) (t : TypeId) (cs : Array Value) (fr : Nat × Nat) (d : TypeDesc)
 (hp : tmps.getD p undef = .pointer (some ⟨g, 0, none⟩)) (hg : w.heap[g]? = some (.cells cs t fr))
 (hu : P.underlying ty = some d) (hd : (match d with | .struct _ | .array _ _ => true | _ => false) = true) (hi : (P.info? ty).map (·.size) = some cs.size) (x : Value) (hx : tmps.getD q undef = x) :
 (results fn tmps).run P w = .ok (.tuple #[.agg cs, x]) w := by
 subst hx
 have hp' : tmps[p]?.getD undef = .pointer (some ⟨g, 0, none⟩) := by simpa using hp
 simp [results, h, hp', asAddr, run_loadVar_row w g t ty cs fr d hg hu hd hi]
theorem attr_set {b r : Nat} {u0 v0 : Value} {w0 w : World} (h : Loc b r #[u0, v0] 40 w0 w) (u v : Value) : Loc b r #[u, v] 40 w0 ((w.setCell ⟨r, 0, none⟩ u).setCell ⟨r, 1, none⟩ v) :=
 (h.setAt 0 u).setAt 1 v
theorem attr_now {b r : Nat} {y : ByteArray} {cs : Array Value} {w0 w : World} (hn : Now b y w0 w) (hT : Tab w0) (h : Loc b r cs 40 w0 w) (u v : Value) : Now b y w0 ((w.setCell ⟨r, 0, none⟩ u).setCell ⟨r, 1, none⟩ v) :=
 (hn.set hT h 0 u).set hT (h.setAt 0 u) 1 v
theorem resAttr : Tryz.f169.results = #[.cell 2 40, .tmp 3] := by kernel_rfl
set_option maxHeartbeats 4000000 in
set_option maxRecDepth 100000 in
theorem attribute_any (b : Nat) (x : ByteArray) (w : World) (hT : Tab w) (hR : Rd b x w) (hx : x.size ≤ 1000000000) :
 Calls Tryz.prog 169 #[.pointer (some ⟨b, 0, none⟩)] w (AttrPost b (sl x) w) := by
 obtain ⟨N, hN⟩ : ∃ N, N = upL (sl x) [9, 10, 12, 32, 61, 47, 62] := ⟨_, rfl⟩
 obtain ⟨D, hD⟩ : ∃ D, D = downL (sl x) [9, 10, 12, 32, 61, 47, 62] := ⟨_, rfl⟩
 have hND : N.length ≤ 1000000000 ∧ D.length ≤ 1000000000 := by
  have h1 := up_le (sl x) [9, 10, 12, 32, 61, 47, 62]
  have h2 := down_le (sl x) [9, 10, 12, 32, 61, 47, 62]
  rw [len_sl] at h1 h2
  rw [hN, hD]
  omega
 have HS := hid_mk hND
 have HA := hid_mk (show attrL (sl x) = if N.isEmpty || !madeL (smL N) [45, 95] then none
  else if Lib.hasPrefix (skB D) [61] then
   match valueL (skB ((skB D).drop 1)) with
   | none => none
   | some (v, r) => some ((smL N, decL v true), r)
  else some ((smL N, []), skB D) by rw [hN, hD]; rfl)
 have HT := hid_mk hT
 have hN0 := Now.start hR hT
 have hL0 := Loc.new hN0 zAttr 40
 have hN1 := hN0.alloc (.cells zAttr 40)
 have hup := hid_mk (upTo_any b x [9, 10, 12, 32, 61, 47, 62] _ hN1.tab hN1.1 hx (by decide) (by decide))
 rw [← hN, ← hD] at hup
 have H0 := hid_mk (And.intro hN1 hL0)
 have hzA := hid_mk (show (w.alloc (.cells zAttr 40)) = (w.alloc (.cells #[.string ⟨#[]⟩, .string ⟨#[]⟩] 40)) from rfl)
 clear hN hD hND hT hR hN0 hL0 hN1
 go_enter Tryz.func169, Tryz.ntmps169
 go_wp2_with fail
 rw [← hzA.out]
 refine hup.out.mono ?_
 rintro e w1 ⟨rfl, hr1, hu1⟩
 have H1 := hid_mk (And.intro (H0.out.1.step hr1 hu1) (H0.out.2.upd hu1))
 clear hup H0 hzA hr1 hu1
 go_wp2_with fail
 refine (small_any (strOf N) w1 (by rw [size_strOf]; exact HS.out.1)).mono ?_
 rintro e w2 ⟨rfl, hb2⟩
 rw [sl_strOf]
 have H2 := hid_mk (And.intro (H1.out.1.next hb2) (H1.out.2.next hb2))
 clear H1 hb2
 obtain ⟨M, hM⟩ : ∃ M, M = smL N := ⟨_, rfl⟩
 rw [← hM] at HA
 have HM := hid_mk (show M.length ≤ 1000000000 by rw [hM]; unfold smL; rw [List.length_map]; exact HS.out.1)
 have HE := hid_mk (show N.isEmpty = M.isEmpty by rw [hM]; cases N <;> rfl)
 rw [← hM]
 clear hM
 rw [HE.out] at HA
 clear HE
 obtain ⟨r, hr⟩ : ∃ r, r = w.heap.size := ⟨_, rfl⟩
 rw [← hr] at H2 ⊢
 have hL2 := H2.out.2
 have r0 := hL2.cell 0
 have r1 := hL2.cell 1
 rw [show zAttr[0]? = some (.string ⟨#[]⟩) from rfl] at r0
 rw [show zAttr[1]? = some (.string ⟨#[]⟩) from rfl] at r1
 have f0 := hL2.frozen 0
 have f1 := hL2.frozen 1
 have hlt := hL2.lt
 have HRr := hid_mk hr
 clear hL2 hr
 cases hE : M.isEmpty with
 | true =>
   have hMn : M = [] := by simpa using hE
   subst hMn
   have he : (strOf []).toList = [] := toList_strOf []
   have he2 : (strOf []).toList.isEmpty = true := by rw [he]; rfl
   have HF := hid_mk (show attrL (sl x) = none from HA.out.trans rfl)
   clear hE HA
   go_wp2_with fail
   have HL := attr_set (u0 := .string ⟨#[]⟩) (v0 := .string ⟨#[]⟩) H2.out.2 (.string ⟨#[]⟩) (.string ⟨#[]⟩)
   have HN := attr_now H2.out.1 HT.out H2.out.2 (.string ⟨#[]⟩) (.string ⟨#[]⟩)
   refine bodyPost_ret (results_cell_tmp resAttr _ _ r 40 _ (0, 0) _ rfl (HL.alloc _).1 Tryz.underlying40 rfl (by kernel_rfl) (.int .i64 41) rfl) rfl ?_
   exact ⟨_, _, _, _, rfl, (HN.alloc _).1, (HN.alloc _).2, by rw [HF.out]⟩
 | false =>
   have he2 : (strOf M).toList.isEmpty = false := by rw [toList_strOf]; exact hE
   have H3 := hid_mk (And.intro (H2.out.1.alloc (.cells #[.string (strOf M), .string ⟨#[]⟩] 40)) (And.intro (H2.out.2.alloc (.cells #[.string (strOf M), .string ⟨#[]⟩] 40)) (Loc.new H2.out.1 #[.string (strOf M), .string ⟨#[]⟩] 40)))
   obtain ⟨g, hg⟩ : ∃ g, g = w2.heap.size := ⟨_, rfl⟩
   rw [← hg] at H3
   have hgr : r ≠ g := by omega
   have HG := hid_mk hg
   rw [hE, Bool.false_or] at HA
   clear hE hg H2
   cases hmd : madeL M [45, 95] with
   | false =>
     have HF := hid_mk (show attrL (sl x) = none by rw [HA.out, hmd]; rfl)
     have hmo := hid_mk (madeOf_any (strOf M) (strOf [45, 95]) (w2.alloc (.cells #[.string (strOf M), .string ⟨#[]⟩] 40)) (by rw [size_strOf]; exact HM.out))
     rw [sl_strOf, sl_strOf, hmd] at hmo
     clear HA hmd
     go_wp2_with fail
     refine hmo.out.mono ?_
     rintro e w3 ⟨rfl, hb3⟩
     have H4 := hid_mk (And.intro (H3.out.1.next hb3) (H3.out.2.1.next hb3))
     have hL4 := H4.out.2
     have s0 := hL4.cell 0
     have s1 := hL4.cell 1
     rw [show zAttr[0]? = some (.string ⟨#[]⟩) from rfl] at s0
     rw [show zAttr[1]? = some (.string ⟨#[]⟩) from rfl] at s1
     have t0 := hL4.frozen 0
     have t1 := hL4.frozen 1
     have hlt3 := hL4.lt
     clear hL4 hb3 hmo r0 r1 f0 f1
     go_wp2_with fail
     have HL := attr_set (u0 := .string ⟨#[]⟩) (v0 := .string ⟨#[]⟩) H4.out.2 (.string ⟨#[]⟩) (.string ⟨#[]⟩)
     have HN := attr_now H4.out.1 HT.out H4.out.2 (.string ⟨#[]⟩) (.string ⟨#[]⟩)
     refine bodyPost_ret (results_cell_tmp resAttr _ _ r 40 _ (0, 0) _ rfl HL.1 Tryz.underlying40 rfl (by kernel_rfl) (.int .i64 41) rfl) rfl ?_
     exact ⟨_, _, _, _, rfl, HN.1, HN.2, by rw [HF.out]⟩
   | true =>
     have hmo := hid_mk (madeOf_any (strOf M) (strOf [45, 95]) (w2.alloc (.cells #[.string (strOf M), .string ⟨#[]⟩] 40)) (by rw [size_strOf]; exact HM.out))
     rw [sl_strOf, sl_strOf, hmd] at hmo
     rw [hmd] at HA
     obtain ⟨S, hS⟩ : ∃ S, S = skB D := ⟨_, rfl⟩
     rw [← hS] at HA
     have HSl := hid_mk (show S.length ≤ 1000000000 by rw [hS]; have := sk_le D; have := HS.out.2; omega)
     have HSk := hid_mk hS
     clear hmd hS
     go_wp2_with fail
     refine hmo.out.mono ?_
     rintro e w3 ⟨rfl, hb3⟩
     have H4 := hid_mk (And.intro (H3.out.1.next hb3) (And.intro (H3.out.2.1.next hb3) (H3.out.2.2.next hb3)))
     clear hb3 hmo r0 r1 f0 f1 H3 he2
     have hsb := hid_mk (skipBlanks_any b (strOf D) w3 H4.out.1.tab H4.out.1.1)
     rw [sl_strOf, ← HSk.out] at hsb
     go_wp2_with fail
     refine hsb.out.mono ?_
     rintro e w4 ⟨rfl, hr4, hu4⟩
     have H5 := hid_mk (And.intro (H4.out.1.step hr4 hu4) (And.intro (H4.out.2.1.upd hu4) (H4.out.2.2.upd hu4)))
     clear hr4 hu4 hsb H4
     cases hpre : Lib.hasPrefix S [61] with
     | false =>
       have HF := hid_mk (show attrL (sl x) = some ((M, []), S) by rw [HA.out, hpre]; rfl)
       have hsk := hid_mk (skip_no b (strOf S) [61] w4 H5.out.1.tab H5.out.1.1 (by rw [sl_strOf]; exact hpre))
       clear HA hpre
       go_wp2_with fail
       refine hsk.out.mono ?_
       rintro e w5 ⟨rfl, hr5, hu5⟩
       have H6 := hid_mk (And.intro (H5.out.1.step hr5 hu5) (And.intro (H5.out.2.1.upd hu5) (H5.out.2.2.upd hu5)))
       clear hr5 hu5 hsk H5
       have hL4 := H6.out.2.1
       have hG4 := H6.out.2.2
       have s0 := hL4.cell 0
       have s1 := hL4.cell 1
       rw [show zAttr[0]? = some (.string ⟨#[]⟩) from rfl] at s0
       rw [show zAttr[1]? = some (.string ⟨#[]⟩) from rfl] at s1
       have t0 := hL4.frozen 0
       have t1 := hL4.frozen 1
       have g0 := hG4.cell 0
       have g1 := hG4.cell 1
       rw [show (#[Value.string (strOf M), Value.string ⟨#[]⟩] : Array Value)[0]? = some (.string (strOf M)) from rfl] at g0
       rw [show (#[Value.string (strOf M), Value.string ⟨#[]⟩] : Array Value)[1]? = some (.string ⟨#[]⟩) from rfl] at g1
       clear hL4 hG4
       rw [← HG.out]
       go_wp2_with fail
       have HL := attr_set (u0 := .string ⟨#[]⟩) (v0 := .string ⟨#[]⟩) H6.out.2.1 (.string (strOf M)) (.string ⟨#[]⟩)
       have HN := attr_now H6.out.1 HT.out H6.out.2.1 (.string (strOf M)) (.string ⟨#[]⟩)
       refine bodyPost_ret (results_cell_tmp resAttr _ _ r 40 _ (0, 0) _ rfl HL.1 Tryz.underlying40 rfl (by kernel_rfl) (.int .i64 0) rfl) rfl ?_
       exact ⟨_, _, _, _, rfl, HN.1, HN.2, by rw [HF.out]; exact ⟨rfl, rfl, rfl, rfl⟩⟩
     | true =>
       rw [hpre] at HA
       have hsk := hid_mk (skip_yes b (strOf S) [61] w4 H5.out.1.tab H5.out.1.1 (by rw [sl_strOf]; exact hpre))
       rw [sl_strOf, show ([61] : List UInt8).length = 1 from rfl] at hsk
       obtain ⟨S1, hS1⟩ : ∃ S1, S1 = S.drop 1 := ⟨_, rfl⟩
       rw [← hS1] at HA hsk
       obtain ⟨S2, hS2⟩ : ∃ S2, S2 = skB S1 := ⟨_, rfl⟩
       rw [← hS2] at HA
       have HS2 := hid_mk (show S2.length ≤ 1000000000 by rw [hS2]; have := sk_le S1; rw [hS1, List.length_drop] at this; have := HSl.out; rw [hS1]; omega)
       have HSk2 := hid_mk hS2
       clear hpre hS1 hS2
       go_wp2_with fail
       refine hsk.out.mono ?_
       rintro e w5 ⟨rfl, hr5, hu5⟩
       have H6 := hid_mk (And.intro (H5.out.1.step hr5 hu5) (And.intro (H5.out.2.1.upd hu5) (H5.out.2.2.upd hu5)))
       clear hr5 hu5 hsk H5
       have hsb := hid_mk (skipBlanks_any b (strOf S1) w5 H6.out.1.tab H6.out.1.1)
       rw [sl_strOf, ← HSk2.out] at hsb
       go_wp2_with fail
       refine hsb.out.mono ?_
       rintro e w6 ⟨rfl, hr6, hu6⟩
       have H7 := hid_mk (And.intro (H6.out.1.step hr6 hu6) (And.intro (H6.out.2.1.upd hu6) (H6.out.2.2.upd hu6)))
       clear hr6 hu6 hsb H6
       have hva := hid_mk (value_any b (strOf S2) w6 H7.out.1.tab H7.out.1.1 (by rw [size_strOf]; exact HS2.out))
       rw [sl_strOf] at hva
       go_wp2_with fail
       refine hva.out.mono ?_
       rintro e w7 ⟨v, ok, y, rfl, hr7, hu7, hm⟩
       have H8 := hid_mk (And.intro (H7.out.1.step hr7 hu7) (And.intro (H7.out.2.1.upd hu7) (H7.out.2.2.upd hu7)))
       clear hr7 hu7 hva H7
       cases hvl : valueL S2 with
       | none =>
         rw [hvl] at hm
         subst hm
         have HF := hid_mk (show attrL (sl x) = none by rw [HA.out, hvl]; rfl)
         have hL4 := H8.out.2.1
         have s0 := hL4.cell 0
         have s1 := hL4.cell 1
         rw [show zAttr[0]? = some (.string ⟨#[]⟩) from rfl] at s0
         rw [show zAttr[1]? = some (.string ⟨#[]⟩) from rfl] at s1
         have t0 := hL4.frozen 0
         have t1 := hL4.frozen 1
         clear hL4 HA hvl
         go_wp2_with fail
         have HL := attr_set (u0 := .string ⟨#[]⟩) (v0 := .string ⟨#[]⟩) H8.out.2.1 (.string ⟨#[]⟩) (.string ⟨#[]⟩)
         have HN := attr_now H8.out.1 HT.out H8.out.2.1 (.string ⟨#[]⟩) (.string ⟨#[]⟩)
         refine bodyPost_ret (results_cell_tmp resAttr _ _ r 40 _ (0, 0) _ rfl HL.1 Tryz.underlying40 rfl (by kernel_rfl) (.int .i64 41) rfl) rfl ?_
         exact ⟨_, _, _, _, rfl, HN.1, HN.2, by rw [HF.out]⟩
       | some p =>
         obtain ⟨vl, rl⟩ := p
         rw [hvl] at hm
         simp only at hm
         obtain ⟨rfl, rfl, rfl⟩ := hm
         have HF := hid_mk (show attrL (sl x) = some ((M, decL vl true), rl) by rw [HA.out, hvl]; rfl)
         have hdec := hid_mk (decode_any (strOf vl) (by rw [size_strOf]; have := valueL_le hvl; have := HS2.out; omega) true w7 H8.out.1.tab)
         rw [sl_strOf] at hdec
         clear HA hvl
         go_wp2_with fail
         refine hdec.out.mono ?_
         rintro e w8 ⟨rfl, hn8⟩
         have H9 := hid_mk (And.intro (H8.out.1.next hn8.1) (And.intro (H8.out.2.1.next hn8.1) (H8.out.2.2.next hn8.1)))
         clear hn8 hdec H8
         obtain ⟨V, hV⟩ : ∃ V, V = decL vl true := ⟨_, rfl⟩
         rw [← hV] at HF ⊢
         clear hV
         have H10 := hid_mk (And.intro (H9.out.1.set HT.out H9.out.2.2 1 (.string (strOf V))) (And.intro (H9.out.2.1.setOther ⟨g, 1, none⟩ (.string (strOf V)) hgr) (H9.out.2.2.setAt 1 (.string (strOf V)))))
         have hL4 := H9.out.2.1
         have hG4 := H9.out.2.2
         have s0 := hL4.cell 0
         have s1 := hL4.cell 1
         rw [show zAttr[0]? = some (.string ⟨#[]⟩) from rfl] at s0
         rw [show zAttr[1]? = some (.string ⟨#[]⟩) from rfl] at s1
         have t0 := hL4.frozen 0
         have t1 := hL4.frozen 1
         have g0 := hG4.cell 0
         have g1 := hG4.cell 1
         have i1 := hG4.frozen 1
         rw [show (#[Value.string (strOf M), Value.string ⟨#[]⟩] : Array Value)[0]? = some (.string (strOf M)) from rfl] at g0
         rw [show (#[Value.string (strOf M), Value.string ⟨#[]⟩] : Array Value)[1]? = some (.string ⟨#[]⟩) from rfl] at g1
         clear hL4 hG4 H9
         rw [← HG.out]
         go_wp2_with fail
         have HL := attr_set (u0 := .string ⟨#[]⟩) (v0 := .string ⟨#[]⟩) H10.out.2.1 (.string (strOf M)) (.string (strOf V))
         have HN := attr_now H10.out.1 HT.out H10.out.2.1 (.string (strOf M)) (.string (strOf V))
         refine bodyPost_ret (results_cell_tmp resAttr _ _ r 40 _ (0, 0) _ rfl HL.1 Tryz.underlying40 rfl (by kernel_rfl) (.int .i64 0) rfl) rfl ?_
         exact ⟨_, _, _, _, rfl, HN.1, HN.2, by rw [HF.out]; exact ⟨rfl, rfl, rfl, rfl⟩⟩
end Go.Proofs.YtlcijlklbabajaaGreatDoor
