/-
  Package tree's closeTo. Condition: the stack's height is bounded.
-/
import Derived.Test.YtlcijlklbabajaaGreatDoorQRR12
import Derived.Test.YtlcijlklbabajaaGreatDoorQBStC
import Derived.Shelf.Abstract
import Derived.Test.YtlcijlklbabajaaGreatDoorQRRt3
namespace Go.Proofs.YtlcijlklbabajaaGreatDoor.R
open Go.RowKit
def ToPost (B b q : Nat) (cs : Array Value) (T : TypeId) (up : Int) (st : List Opn) (w : World) (e : Ending) (w' : World) : Prop :=
 match closeToX up st with
 | some st' => e = .returned (.bool true) ∧ StPost B b q cs T st' w w'
 | none => e = .returned (.bool false) ∧ ∃ st', StPost B b q cs T st' w w'
set_option maxHeartbeats 4000000 in
set_option maxRecDepth 100000 in
theorem closeTo_st {B b q : Nat} {cs : Array Value} {T : TypeId} (up : Int) {st : List Opn} {w : World} (h : StackAt B b q cs T st w) (hl : st.length ≤ 10000) :
 Calls Tryz.prog 80 #[.pointer (some ⟨b, q, none⟩), .int .i64 up] w (ToPost B b q cs T up st w) := by
 have H1 := hid_mk (StPost.refl h)
 clear h
 go_enter Tryz.func80, Tryz.ntmps80
 go_wp2_with fail
 go_loopg [] st.length (fun gh wx => ∃ st1 : List Opn, gh = st1.length ∧ st1.length ≤ 10000 ∧ Hid (closeToX up st = closeToX up st1) ∧ Hid (StPost B b q cs T st1 w wx))
 case atStart => exact ⟨st, rfl, hl, hid_mk rfl, H1⟩
 case round =>
  obtain ⟨st1, rfl, hl1, hdw, HP⟩ := hrel
  clear H1
  obtain ⟨cs1, hs1, hbu1, hch1⟩ := HP.out
  obtain ⟨sv1, c1, hr1⟩ := hs1.cell
  obtain ⟨gg, capp, hsv, _, _, _⟩ := hr1.some
  have hfd := opField0 (topO st1)
  have ht1 := hid_mk (top_any B sv1 st1 _ hr1 (by omega))
  have hdp := hid_mk (fun w' (hb : Below wr.heap.size wr w') => depth_any B sv1 st1 w' (hr1.below hb) (by omega))
  unfold opA at ht1
  have HX := hid_mk (And.intro hs1 (And.intro hbu1 hch1))
  have hck := hid_mk (fun w' (hb : Below wr.heap.size wr w') => (hb.cell (p := ⟨b, q, none⟩) (Array.getElem?_eq_some_iff.1 hs1.1).1).trans c1)
  clear hs1 hbu1 hch1 hr1 HP hsv
  go_wp2_with fail
  (with_reducible refine ht1.out.mono ?_)
  rintro e w2 ⟨rfl, hb2⟩
  have c2 := hck.out w2 hb2
  have hdp2 := hid_mk (hdp.out w2 hb2)
  have HY := hid_mk (And.intro (HX.out.1.below hb2) (And.intro HX.out.2.1 (HX.out.2.2.trans (.of hb2))))
  clear hb2 ht1 c1 HX hck hdp
  by_cases he : ((topO st1).node : Int) = up
  ·have hq1 : (((topO st1).node : Int) == up) = true := beq_iff_eq.2 he
   have hq2 : (((topO st1).node : Int) != up) = false := by rw [bne, hq1]; rfl
   have HF := hid_mk (show closeToX up st = some st1 by
    rw [hdw.out]
    cases st1 with
    | nil =>
      have : ((0 : Nat) : Int) = up := he
      unfold closeToX
      rw [if_pos (by omega)]
    | cons o t =>
      have : (o.node : Int) = up := he
      unfold closeToX
      rw [if_pos this])
   clear he hdw
   go_wp2_with fail
   go_ret
   unfold ToPost
   rw [HF.out]
   exact ⟨rfl, _, HY.out⟩
  ·have hq1 : (((topO st1).node : Int) == up) = false := beq_false_of_ne he
   have hq2 : (((topO st1).node : Int) != up) = true := by rw [bne, hq1]; rfl
   go_wp2_with fail
   (with_reducible refine hdp2.out.mono ?_)
   rintro e w3 ⟨rfl, rfl⟩
   clear hdp2
   by_cases hz : st1.length = 0
   ·have hnil : st1 = [] := List.eq_nil_of_length_eq_zero hz
    have hq3 : ((st1.length : Int) == 0) = true := by rw [hz]; rfl
    have HF := hid_mk (show closeToX up st = none by
     rw [hdw.out, hnil]
     unfold closeToX
     rw [if_neg]
     intro h0
     rw [hnil] at he
     exact he (by rw [h0]; rfl))
    have HY2 := hid_mk (show ∃ st', StPost B b q cs T st' w w2 from ⟨st1, _, HY.out⟩)
    clear he hdw hz hnil HY hq1 hq2
    go_wp2_with fail
    go_ret
    unfold ToPost
    rw [HF.out]
    exact ⟨rfl, HY2.out⟩
   ·have hq3 : ((st1.length : Int) == 0) = false := beq_false_of_ne (by omega)
    obtain ⟨o, t, hst⟩ : ∃ o t, st1 = o :: t := by
     cases hc : st1 with
     | nil => rw [hc] at hz; exact absurd rfl hz
     | cons o t => exact ⟨o, t, rfl⟩
    have hlen : t.length ≤ 10000 := by have := congrArg List.length hst; simp at this; omega
    have hglen : t.length < st1.length := by rw [hst]; simp
    have hcl := hid_mk (close_st (o := o) (st := t) (hst ▸ HY.out.1) hlen)
    have HD := hid_mk (show closeToX up st = closeToX up t by
     rw [hdw.out, hst]
     rw [hst] at he
     conv => lhs; unfold closeToX
     rw [if_neg (show ¬ (o.node : Int) = up from he)])
    clear hst hdw he hz
    go_wp2_with fail
    (with_reducible refine hcl.out.mono ?_)
    rintro e w4 ⟨rfl, hp⟩
    have HZ := hid_mk (StPost.trans HY.out.2.1 HY.out.2.2 hp)
    clear hp hcl HY hq1 hq2 hq3
    go_wp2_with fail
    go_roundg t.length
    case measure => omega
    case rel => exact ⟨t, rfl, hlen, HD, HZ⟩
end Go.Proofs.YtlcijlklbabajaaGreatDoor.R
namespace Go.Proofs.YtlcijlklbabajaaGreatDoor.R
open Go.RowKit
theorem below_drewR {B : Nat} {a w : World} (h : Below B a w) : ∀ n, Below B a (w.drewN n)
 | 0 => h
 | n + 1 => (below_drewR h n).drew
theorem newStackR_any (w : World) :
 Calls Tryz.prog 62 #[] w fun e w' => e = .returned (.slice (some ⟨w.heap.size, 0, none⟩) 1 1) ∧ w' = w.alloc (.cells #[.int .i64 0, .string ⟨#[]⟩, .int .u8 0] 119 (0, 0)) := by
 go_enter Tryz.func62, Tryz.ntmps62
 go_wp2_with fail
 go_ret
 exact ⟨rfl, rfl⟩
theorem own_freshR {w : World} {base size g : Nat} {e : TypeId} {cs : Array Value} (h : w.heap[g]? = some (.cells cs e (0, 0))) (hb : base ≤ g) (hs : cs.size = size) : w.ownsRow base e size (.slice (some ⟨g, 0, none⟩) 1 1) 1 cs.toList := by
 refine ⟨by simp [hs], .inr ⟨g, 1, cs, rfl, hb, h, Nat.le_refl _, by unfold maxLen; omega, by omega, ?_⟩⟩
 rw [List.take_of_length_le (by simp [hs])]
theorem schg_lowR {B b : Nat} {w w' : World} (h : SChg B b w w') (hb : B ≤ b) (hB : B ≤ w.heap.size) : Below B w w' :=
 ⟨h.os, h.tape, h.output, h.size, fun k hk => by
  have hk' : k < w.heap.size := by omega
  have := h.blocks k _ (Array.getElem?_eq_getElem hk') (by omega) (.inl hk)
  rw [this, Array.getElem?_eq_getElem hk']⟩
/-- A node in a block of its own. -/
def NodeAt (g : Nat) (n : Nx) (av kv : Value) (w : World) : Prop := w.heap[g]? = some (.cells #[.int .u8 (n.kind : Int), .string (strOf n.name), av, .string (strOf n.data), .int .i64 n.up, kv] 38 (0, 0))
theorem NodeAt.below {g : Nat} {n : Nx} {av kv : Value} {w w' : World} (h : NodeAt g n av kv w) (hb : Below w.heap.size w w') : NodeAt g n av kv w' := (hb.block g (Array.getElem?_eq_some_iff.1 h).1).trans h
theorem NodeAt.cells {g : Nat} {n : Nx} {av kv : Value} {w : World} (h : NodeAt g n av kv w) : w.cell? ⟨g, 0, none⟩ = some (.int .u8 (n.kind : Int)) ∧ w.cell? ⟨g, 1, none⟩ = some (.string (strOf n.name)) ∧ w.cell? ⟨g, 2, none⟩ = some av ∧ w.cell? ⟨g, 3, none⟩ = some (.string (strOf n.data)) ∧ w.cell? ⟨g, 4, none⟩ = some (.int .i64 n.up) ∧ w.cell? ⟨g, 5, none⟩ = some kv := by
 unfold NodeAt at h
 refine ⟨?_, ?_, ?_, ?_, ?_, ?_⟩
 ·rw [cell_of_row w g 0 _ _ _ h]; rfl
 ·rw [cell_of_row w g 1 _ _ _ h]; rfl
 ·rw [cell_of_row w g 2 _ _ _ h]; rfl
 ·rw [cell_of_row w g 3 _ _ _ h]; rfl
 ·rw [cell_of_row w g 4 _ _ _ h]; rfl
 ·rw [cell_of_row w g 5 _ _ _ h]; rfl
theorem NodeAt.schg {B b g : Nat} {n : Nx} {av kv : Value} {cs : Array Value} {w w' : World} (h : NodeAt g n av kv w) (hb : w.heap[b]? = some (.cells cs 91 (0, 0))) (hc : SChg B b w w') : NodeAt g n av kv w' :=
 hc.blocks g _ h (fun e => by
  unfold NodeAt at h
  rw [e, hb] at h
  injection h with h
  injection h with _ h _
  exact absurd h (by decide)) (.inr fun c2 f2 e => by
  injection e with _ e _
  exact absurd e (by decide))
/-- The cells of a node as the walk reads them. -/
theorem HasTree.six {w : World} {x : Addr} {ns : List NxM} (h : HasTree w (some x) ns) {k : Nat} (hk : k < ns.length) :
 w.cell? (x.add (k * 6)) = some (.int .u8 ((ns[k]).1.kind : Int)) ∧ w.cell? ⟨(x.add (k * 6)).block, (x.add (k * 6)).off + 1, none⟩ = some (.string (strOf (ns[k]).1.name)) ∧ w.cell? ⟨(x.add (k * 6)).block, (x.add (k * 6)).off + 2, none⟩ = some (ns[k]).2.1
 ∧ w.cell? ⟨(x.add (k * 6)).block, (x.add (k * 6)).off + 3, none⟩ = some (.string (strOf (ns[k]).1.data)) ∧ w.cell? ⟨(x.add (k * 6)).block, (x.add (k * 6)).off + 4, none⟩ = some (.int .i64 (ns[k]).1.up) ∧ w.cell? ⟨(x.add (k * 6)).block, (x.add (k * 6)).off + 5, none⟩ = some (ns[k]).2.2 := by
 obtain ⟨x', hx, _, hc⟩ := h.cell hk
 injection hx with hx
 subst hx
 have e : ∀ j, 1 ≤ j → (x.add (k * 6)).add j = ⟨(x.add (k * 6)).block, (x.add (k * 6)).off + j, none⟩ := fun j hj => by
  conv => lhs; unfold Addr.add
  rw [if_neg (by omega)]
  rfl
 refine ⟨?_, ?_, ?_, ?_, ?_, ?_⟩
 ·exact hc 0 (by omega)
 ·rw [← e 1 (by omega), Addr.add_add]; exact hc 1 (by omega)
 ·rw [← e 2 (by omega), Addr.add_add]; exact hc 2 (by omega)
 ·rw [← e 3 (by omega), Addr.add_add]; exact hc 3 (by omega)
 ·rw [← e 4 (by omega), Addr.add_add]; exact hc 4 (by omega)
 ·rw [← e 5 (by omega), Addr.add_add]; exact hc 5 (by omega)
def NxOk (n : Nx) : Prop := n.name.length ≤ 1000000000 ∧ n.data.length ≤ 1000000000 ∧ ∀ x ∈ n.attrs, x.1.length ≤ 1000000000 ∧ x.2.length ≤ 1000000000
theorem closeToX_suffix {up : Int} : ∀ {st st' : List Opn}, closeToX up st = some st' → st'.length ≤ st.length
 | [], st', h => by
   unfold closeToX at h
   split at h
   ·injection h with h; subst h; exact Nat.le_refl _
   ·cases h
 | o :: t, st', h => by
   unfold closeToX at h
   split at h
   ·injection h with h; subst h; exact Nat.le_refl _
   ·have := closeToX_suffix h
    simp only [List.length_cons]
    omega
set_option maxHeartbeats 8000000 in
set_option maxRecDepth 100000 in
theorem rightPlaces_any (a : Option Addr) (c : Nat) (ns : List NxM) (w : World) (hT : TabV w) (h : HasTree w a ns) (hne : 0 < ns.length) (hl : ns.length ≤ 16384) (hok : ∀ p ∈ ns, NxOk p.1) :
 Calls Tryz.prog 47 #[.slice a ns.length c] w fun e w' => e = .returned (.bool (placesX ((ns.map (·.1)).drop 1) 1 (ns[0]).1 [])) ∧ Below w.heap.size w w' := by
 obtain ⟨x, hx, hxx, hxy⟩ := h.cell hne
 clear hxx hxy
 subst hx
 obtain ⟨R, hR⟩ : ∃ R, R = placesX ((ns.map (·.1)).drop 1) 1 (ns[0]).1 [] := ⟨_, rfl⟩
 rw [← hR]
 obtain ⟨m, hm⟩ : ∃ m, m = ns.length := ⟨_, rfl⟩
 rw [← hm] at hl ⊢
 have HM := hid_mk hm
 have H := hid_mk h
 have HT := hid_mk hT
 have HOK := hid_mk hok
 obtain ⟨w1, hw1⟩ : ∃ w1, w1 = w.alloc (.cells #[.int .i64 0, .string ⟨#[]⟩, .int .u8 0] 119 (0, 0)) := ⟨_, rfl⟩
 obtain ⟨w2, hw2⟩ : ∃ w2, w2 = w1.alloc (.cells #[.slice (some ⟨w.heap.size, 0, none⟩) 1 1] 91 (0, 0)) := ⟨_, rfl⟩
 have s1 : w1.heap.size = w.heap.size + 1 := by rw [hw1]; simp
 have b1 : Below w.heap.size w w1 := by rw [hw1]; exact (Below.refl _ _).alloc (Nat.le_refl _) _
 have b2 : Below w1.heap.size w1 w2 := by rw [hw2]; exact (Below.refl _ _).alloc (Nat.le_refl _) _
 have n1 : w1.heap[w.heap.size]? = some (.cells #[.int .i64 0, .string ⟨#[]⟩, .int .u8 0] 119 (0, 0)) := by rw [hw1]; exact heap_alloc_new w _
 have n2 : w2.heap[w.heap.size + 1]? = some (.cells #[.slice (some ⟨w.heap.size, 0, none⟩) 1 1] 91 (0, 0)) := by rw [hw2, ← s1]; exact heap_alloc_new w1 _
 have n1' : w2.heap[w.heap.size]? = some (.cells #[.int .i64 0, .string ⟨#[]⟩, .int .u8 0] 119 (0, 0)) := (b2.block _ (by omega)).trans n1
 have hbel : Below w.heap.size w w2 := b1.trans (b2.mono b1.size)
 have H0 := hid_mk (show ∃ cs st p, StackAt w.heap.size (w.heap.size + 1) 0 cs 91 st w2 ∧ Below w.heap.size w w2 ∧ R = placesX ((ns.map (·.1)).drop 1) 1 p st ∧ st.length ≤ 200 ∧ ∃ hp : 1 - 1 < ns.length, p = (ns[1 - 1]).1 from
  ⟨_, [], (ns[0]).1, ⟨n2, by decide, by omega, _, rfl, own_freshR n1' (Nat.le_refl _) rfl⟩, hbel, hR, by simp, hne, rfl⟩)
 have HW1 := hid_mk hw1.symm
 have HW2 := hid_mk hw2.symm
 have hs1 := hid_mk s1
 have hm1 : 1 ≤ m := by omega
 clear hR h hT hok hw1 hw2 s1 b1 b2 n1 n2 n1' hbel hm hne
 go_enter Tryz.func47, Tryz.ntmps47
 go_wp2_with fail
 (with_reducible refine (newStackR_any _).mono ?_)
 rintro e wz ⟨rfl, rfl⟩
 rw [HW1.out]
 go_wp2_with fail
 rw [hs1.out, HW2.out]
 go_loopw [4] (fun i wr => ∃ k : Nat, 1 ≤ k ∧ k ≤ m ∧ i = .int .i64 k ∧ Hid (∃ cs st p, StackAt w.heap.size (w.heap.size + 1) 0 cs 91 st wr ∧ Below w.heap.size w wr ∧ R = placesX ((ns.map (·.1)).drop k) k p st ∧ st.length ≤ 200 ∧ ∃ hp : k - 1 < ns.length, p = (ns[k - 1]).1)) (fun i _ => m - (intOf i).toNat)
 case atStart => exact ⟨1, Nat.le_refl _, hm1, rfl, H0⟩
 case round =>
  obtain ⟨k, hk1, hk, rfl, hI⟩ := hrel
  generalize wr = wo at *
  obtain ⟨cs, st, p, hst, hlow, hpl, hsl, hpb, hp⟩ := hI.out
  clear hI H0
  by_cases hlt : k < m
  ·have hlti : (k : Int) < (m : Int) := by omega
   have hkl : k < ns.length := by rw [← HM.out]; exact hlt
   have htree := H.out.below hlow
   obtain ⟨n0, n1, n2, n3, n4, n5⟩ := htree.six hkl
   obtain ⟨t, ht⟩ : ∃ t, t = (ns[k]).1 := ⟨_, rfl⟩
   obtain ⟨av, hav⟩ : ∃ v, v = (ns[k]).2.1 := ⟨_, rfl⟩
   obtain ⟨kv, hkv⟩ : ∃ v, v = (ns[k]).2.2 := ⟨_, rfl⟩
   have hmem := List.getElem_mem hkl
   have hat0 := H.out.attrs _ hmem
   have hki0 := H.out.kids _ hmem
   have hokt := HOK.out _ hmem
   rw [← ht] at n0 n1 n3 n4 hat0 hki0 hokt
   rw [← hav] at n2 hat0
   rw [← hkv] at n5 hki0
   obtain ⟨aa, ac, rfl, hac, hrow⟩ := hat0
   obtain ⟨ka, kc, rfl, hkrow⟩ := hki0
   obtain ⟨NC, hNC⟩ : ∃ NC, NC = Obj.cells #[.int .u8 (t.kind : Int), .string (strOf t.name), .slice aa t.attrs.length ac, .string (strOf t.data), .int .i64 t.up, .slice ka t.kids.length kc] 38 (0, 0) := ⟨_, rfl⟩
   obtain ⟨wl, hwl⟩ : ∃ wl, wl = wo.alloc NC := ⟨_, rfl⟩
   have hol : Below wo.heap.size wo wl := by rw [hwl]; exact (Below.refl _ _).alloc (Nat.le_refl _) _
   have hNA : NodeAt wo.heap.size t (.slice aa t.attrs.length ac) (.slice ka t.kids.length kc) wl := by unfold NodeAt; rw [hwl, ← hNC]; exact heap_alloc_new wo NC
   obtain ⟨q0, q1, q2, q3, q4, q5⟩ := hNA.cells
   have hstl := hst.below hol
   have hcl := hid_mk (closeTo_st t.up hstl (by omega))
   have HWL := hid_mk hwl.symm
   have HNC := hid_mk hNC.symm
   have hlowl : Below w.heap.size w wl := hlow.trans (hol.mono hlow.size)
   have hpr : R = match closeToX t.up st with
    | none => false
    | some s1 =>
      if t.kind = 2 then (if (!textX t || (p.kind == 2 && p.up == t.up)) = true then false else placesX ((ns.map (·.1)).drop (k + 1)) (k + 1) t s1)
      else if t.kind = 1 then (if (!elemX t || decide (200 ≤ s1.length) || !admitsO (kindL t.name) s1) = true then false
       else placesX ((ns.map (·.1)).drop (k + 1)) (k + 1) t (if voidK (kindL t.name) = true then s1 else ⟨k, t.name, kindL t.name⟩ :: s1))
      else false := by
    rw [hpl, List.drop_eq_getElem_cons (by rw [List.length_map]; exact hkl), List.getElem_map, ← ht]
    rfl
   have HB := hid_mk (And.intro hlowl (And.intro hNA hstl))
   have HPR := hid_mk hpr
   have HP := hid_mk (show ∃ hp : k - 1 < ns.length, p = (ns[k - 1]).1 from ⟨hpb, hp⟩)
   have HN := hid_mk hokt
   have HTK := hid_mk ht
   have HAT := hid_mk (show ∀ w', Below w.heap.size w w' → HasAt w' (.slice aa t.attrs.length ac) t.attrs from fun w' hb => by
    have := (H.out.below hb).attrs _ hmem
    rw [← ht, ← hav] at this
    exact this)
   have HAC := hid_mk hac
   clear hol hwl hNC hNA hstl hlowl hpr hst hlow hpl hp hmem hokt htree hrow hkrow ht hav hkv hac
   go_wp2_with fail
   rw [HNC.out, HWL.out]
   (with_reducible refine hcl.out.mono ?_)
   intro e w3 hpost
   unfold ToPost at hpost
   cases hc : closeToX t.up st with
   | none =>
     rw [hc] at hpost HPR
     obtain ⟨rfl, st', cs', hs', hbu, hch⟩ := hpost
     have HF := hid_mk (show R = false from HPR.out)
     have HL := hid_mk (HB.out.1.trans (schg_lowR hch (by omega) HB.out.1.size))
     clear hs' hbu hch hc hcl
     go_wp2_with fail
     go_ret
     rw [HF.out]
     exact ⟨rfl, HL.out⟩
   | some s1 =>
     rw [hc] at hpost HPR
     obtain ⟨rfl, cs1, hs1, hbu, hch⟩ := hpost
     have hs1l : s1.length ≤ 200 := by have := closeToX_suffix hc; omega
     have HPR := hid_mk (show R = if t.kind = 2 then (if (!textX t || (p.kind == 2 && p.up == t.up)) = true then false else placesX ((ns.map (·.1)).drop (k + 1)) (k + 1) t s1)
      else if t.kind = 1 then (if (!elemX t || decide (200 ≤ s1.length) || !admitsO (kindL t.name) s1) = true then false
       else placesX ((ns.map (·.1)).drop (k + 1)) (k + 1) t (if voidK (kindL t.name) = true then s1 else ⟨k, t.name, kindL t.name⟩ :: s1))
      else false from HPR.out)
     have hN3 := HB.out.2.1.schg HB.out.2.2.1 hch
     have hl3 : Below w.heap.size w w3 := HB.out.1.trans (schg_lowR hch (by omega) HB.out.1.size)
     obtain ⟨r0, r1, r2, r3, r4, r5⟩ := hN3.cells
     have H3 := hid_mk (And.intro hl3 (And.intro hN3 hs1))
     have htr3 := H.out.below hl3
     clear hN3 hl3 hbu hch hc hcl hs1 q0 q1 q2 q3 q4 q5 n0 n1 n2 n3 n4 n5
     by_cases h2 : t.kind = 2
     ·have hq2 : ((t.kind : Int) == 2) = true := by rw [h2]; rfl
      have HPR2 := hid_mk (HPR.out.trans (if_pos h2))
      obtain ⟨hpb, hp⟩ := HP.out
      obtain ⟨v0, v1, v2, v3, v4, v5⟩ := htr3.six hpb
      rw [← hp] at v0 v4
      have hk1i : IntKind.i64.wrap ((k : Int) - 1) = (k : Int) - 1 := IntWalk.i64_in _ (by omega)
      have hk1a : (0 : Int) ≤ (k : Int) - 1 := by omega
      have hk1c : (1 : Int) ≤ (k : Int) := by omega
      have hk1b : ((k : Int) - 1).toNat = k - 1 := by omega
      have hk1d : (k : Int) - 1 < (m : Int) := by omega
      have htx := hid_mk (fun w' (hT : TabV w') => rightText_any t aa ac (.slice ka t.kids.length kc) w' hT HN.out.2.1)
      have HT3 := hid_mk (HT.out.below H3.out.1)
      have hkeep := hid_mk (show ∀ w', Below w3.heap.size w3 w' → w'.cell? (x.add ((k - 1) * 6)) = some (.int .u8 (p.kind : Int)) ∧ w'.cell? ⟨(x.add ((k - 1) * 6)).block, (x.add ((k - 1) * 6)).off + 4, none⟩ = some (.int .i64 p.up) ∧ w'.cell? ⟨wo.heap.size, 4, none⟩ = some (.int .i64 t.up) from fun w' hb => by
       obtain ⟨u0, u1, u2, u3, u4, u5⟩ := (htr3.below hb).six hpb
       rw [← hp] at u0 u4
       exact ⟨u0, u4, (H3.out.2.1.below hb).cells.2.2.2.2.1⟩)
      have hpk : ((p.kind : Int) == 2) = (p.kind == 2) := by rw [Bool.eq_iff_iff]; simp; omega
      clear hp htr3 v1 v2 v3 v5 h2
      generalize textX t = b1 at *
      generalize (p.kind == 2) = b2 at *
      generalize hb3 : (p.up == t.up) = b3 at *
      have hkS := hid_mk (show ∀ w', Below w3.heap.size w3 w' → w'.cell? ⟨wo.heap.size, 0, none⟩ = some (.int .u8 (t.kind : Int)) ∧ w'.cell? ⟨wo.heap.size, 1, none⟩ = some (.string (strOf t.name)) ∧ w'.cell? ⟨wo.heap.size, 2, none⟩ = some (.slice aa t.attrs.length ac) ∧ w'.cell? ⟨wo.heap.size, 3, none⟩ = some (.string (strOf t.data)) ∧ w'.cell? ⟨wo.heap.size, 4, none⟩ = some (.int .i64 t.up) ∧ w'.cell? ⟨wo.heap.size, 5, none⟩ = some (.slice ka t.kids.length kc) ∧ w'.cell? (x.add ((k - 1) * 6)) = some (.int .u8 (p.kind : Int)) ∧ w'.cell? ⟨(x.add ((k - 1) * 6)).block, (x.add ((k - 1) * 6)).off + 4, none⟩ = some (.int .i64 p.up) ∧ Below w3.heap.size w3 w' from fun w' hb => by
       obtain ⟨i0, i1, i2, i3, i4, i5⟩ := (H3.out.2.1.below hb).cells
       exact ⟨i0, i1, i2, i3, i4, i5, (hkeep.out w' hb).1, (hkeep.out w' hb).2.1, hb⟩)
      clear hkeep
      cases b1 with
      | false =>
        have HF := hid_mk (show R = false from HPR2.out.trans (by simp))
        clear HPR2 HPR
        go_wp2_with fail
        refine wp_region_held_drew (S := (fun w' => w'.cell? ⟨wo.heap.size, 0, none⟩ = some (.int .u8 (t.kind : Int)) ∧ w'.cell? ⟨wo.heap.size, 1, none⟩ = some (.string (strOf t.name)) ∧ w'.cell? ⟨wo.heap.size, 2, none⟩ = some (.slice aa t.attrs.length ac) ∧ w'.cell? ⟨wo.heap.size, 3, none⟩ = some (.string (strOf t.data)) ∧ w'.cell? ⟨wo.heap.size, 4, none⟩ = some (.int .i64 t.up) ∧ w'.cell? ⟨wo.heap.size, 5, none⟩ = some (.slice ka t.kids.length kc) ∧ w'.cell? (x.add ((k - 1) * 6)) = some (.int .u8 (p.kind : Int)) ∧ w'.cell? ⟨(x.add ((k - 1) * 6)).block, (x.add ((k - 1) * 6)).off + 4, none⟩ = some (.int .i64 p.up) ∧ Below w3.heap.size w3 w')) (by kernel_rfl) (hkS.out _ (below_drewR (Below.refl _ _) 1)) (fun hHeld => ?_)
        refine wpAnyH_take (i := 0) (oi := { dst := some 26, op := Op.load 38 (Operand.tmp 5), type := 38, pos := "right.go:25", after := #[], guard := none }) (v := ?val0A) rfl (by kernel_rfl) (by kernel_rfl) (by kernel_rfl) (fun _ _ _ h => h) (Or.inl ⟨by rfl, ?hy0A⟩) (by assumption) ?_
        case hy0A => (intro w hSw; (try dsimp only at hSw); go_split_ands; go_simp; try with_reducible rfl)
        try simp only [Act.put, List.setIfInBounds_toArray, List.set_cons_zero, List.set_cons_succ]
        refine wpAnyH_ready (rs := [1]) (by kernel_rfl) (by simp) ?_
        refine AllReadyH.cons (o := { dst := some 27, op := Op.call { callee := Callee.value (Operand.func 81), args := #[Operand.tmp 26], argTypes := #[38] }, type := 4, pos := "right.go:25", after := #[{ on := 0, ground := Ground.data }], guard := none }) rfl (fun K hK => ?_) AllReadyH.nil
        go_simp
        (with_reducible refine (htx.out _ (by exact HT3.out.below hHeld.2.2.2.2.2.2.2.2)).mono ?_)
        rintro e wA ⟨rfl, nA⟩
        try go_wp2_with fail
        refine hK.out _ _ ?_ (fun hHeld2 => ?_)
        ·exact hkS.out _ (hHeld.2.2.2.2.2.2.2.2.trans (nA.mono hHeld.2.2.2.2.2.2.2.2.size))
        clear hK K hHeld
        have hHeld := hHeld2
        clear hHeld2
        try simp only [Act.put, List.setIfInBounds_toArray, List.set_cons_zero, List.set_cons_succ]
        refine wpAnyH_take (i := 2) (oi := { dst := some 28, op := Op.unOp UnOp.not 4 (Operand.tmp 27), type := 4, pos := "right.go:25", after := #[{ on := 1, ground := Ground.data }], guard := none }) (v := ?val2A) rfl (by kernel_rfl) (by kernel_rfl) (by kernel_rfl) (fun _ _ _ h => h) (Or.inl ⟨by rfl, ?hy2A⟩) (by assumption) ?_
        case hy2A => (intro w hSw; (try dsimp only at hSw); go_split_ands; go_simp; try with_reducible rfl)
        try simp only [Act.put, List.setIfInBounds_toArray, List.set_cons_zero, List.set_cons_succ]
        refine wpAnyH_take (i := 3) (oi := { dst := some 29, op := Op.move (Operand.tmp 28), type := 4, pos := "right.go:25", after := #[{ on := 2, ground := Ground.data }, { on := 1, ground := Ground.chain }], guard := none }) (v := ?val3A) rfl (by kernel_rfl) (by kernel_rfl) (by kernel_rfl) (fun _ _ _ h => h) (Or.inl ⟨by rfl, ?hy3A⟩) (by assumption) ?_
        case hy3A => (intro w hSw; (try dsimp only at hSw); go_split_ands; go_simp; try with_reducible rfl)
        try simp only [Act.put, List.setIfInBounds_toArray, List.set_cons_zero, List.set_cons_succ]
        refine wpAnyH_take (i := 4) (oi := { dst := some 30, op := Op.move (Operand.tmp 0), type := 28, pos := "right.go:25", after := #[{ on := 3, ground := Ground.guard }], guard := some (3, false) }) (v := undef) rfl (by kernel_rfl) (by kernel_rfl) (by kernel_rfl) (fun _ _ _ h => h) (Or.inr ⟨by rfl, rfl⟩) (by assumption) ?_
        try simp only [Act.put, List.setIfInBounds_toArray, List.set_cons_zero, List.set_cons_succ]
        refine wpAnyH_take (i := 5) (oi := { dst := some 31, op := Op.move (Operand.tmp 4), type := 3, pos := "right.go:25", after := #[{ on := 3, ground := Ground.guard }], guard := some (3, false) }) (v := undef) rfl (by kernel_rfl) (by kernel_rfl) (by kernel_rfl) (fun _ _ _ h => h) (Or.inr ⟨by rfl, rfl⟩) (by assumption) ?_
        try simp only [Act.put, List.setIfInBounds_toArray, List.set_cons_zero, List.set_cons_succ]
        refine wpAnyH_take (i := 6) (oi := { dst := some 32, op := Op.binOp BinOp.sub 3 (Operand.tmp 31) (Operand.const (Value.int IntKind.i64 1)) 3, type := 3, pos := "right.go:25", after := #[{ on := 5, ground := Ground.data }, { on := 3, ground := Ground.guard }], guard := some (3, false) }) (v := undef) rfl (by kernel_rfl) (by kernel_rfl) (by kernel_rfl) (fun _ _ _ h => h) (Or.inr ⟨by rfl, rfl⟩) (by assumption) ?_
        try simp only [Act.put, List.setIfInBounds_toArray, List.set_cons_zero, List.set_cons_succ]
        refine wpAnyH_take (i := 7) (oi := { dst := some 33, op := Op.indexAddr 28 (Operand.tmp 30) (Operand.tmp 32), type := 0, pos := "right.go:25", after := #[{ on := 4, ground := Ground.data }, { on := 6, ground := Ground.data }, { on := 3, ground := Ground.guard }], guard := some (3, false) }) (v := undef) rfl (by kernel_rfl) (by kernel_rfl) (by kernel_rfl) (fun _ _ _ h => h) (Or.inr ⟨by rfl, rfl⟩) (by assumption) ?_
        try simp only [Act.put, List.setIfInBounds_toArray, List.set_cons_zero, List.set_cons_succ]
        refine wpAnyH_take (i := 8) (oi := { dst := some 34, op := Op.fieldAddr 38 (Operand.tmp 33) 0, type := 0, pos := "right.go:25", after := #[{ on := 7, ground := Ground.data }, { on := 3, ground := Ground.guard }], guard := some (3, false) }) (v := undef) rfl (by kernel_rfl) (by kernel_rfl) (by kernel_rfl) (fun _ _ _ h => h) (Or.inr ⟨by rfl, rfl⟩) (by assumption) ?_
        try simp only [Act.put, List.setIfInBounds_toArray, List.set_cons_zero, List.set_cons_succ]
        refine wpAnyH_take (i := 9) (oi := { dst := some 35, op := Op.load 5 (Operand.tmp 34), type := 5, pos := "right.go:25", after := #[{ on := 8, ground := Ground.data }, { on := 3, ground := Ground.guard }], guard := some (3, false) }) (v := undef) rfl (by kernel_rfl) (by kernel_rfl) (by kernel_rfl) (fun _ _ _ h => h) (Or.inr ⟨by rfl, rfl⟩) (by assumption) ?_
        try simp only [Act.put, List.setIfInBounds_toArray, List.set_cons_zero, List.set_cons_succ]
        refine wpAnyH_take (i := 10) (oi := { dst := some 36, op := Op.binOp BinOp.eql 5 (Operand.tmp 35) (Operand.const (Value.int IntKind.u8 2)) 5, type := 4, pos := "right.go:25", after := #[{ on := 9, ground := Ground.data }, { on := 3, ground := Ground.guard }], guard := some (3, false) }) (v := undef) rfl (by kernel_rfl) (by kernel_rfl) (by kernel_rfl) (fun _ _ _ h => h) (Or.inr ⟨by rfl, rfl⟩) (by assumption) ?_
        try simp only [Act.put, List.setIfInBounds_toArray, List.set_cons_zero, List.set_cons_succ]
        refine wpAnyH_take (i := 11) (oi := { dst := some 37, op := Op.move (Operand.tmp 36), type := 4, pos := "right.go:25", after := #[{ on := 10, ground := Ground.data }, { on := 3, ground := Ground.chain }, { on := 3, ground := Ground.guard }], guard := some (3, false) }) (v := undef) rfl (by kernel_rfl) (by kernel_rfl) (by kernel_rfl) (fun _ _ _ h => h) (Or.inr ⟨by rfl, rfl⟩) (by assumption) ?_
        try simp only [Act.put, List.setIfInBounds_toArray, List.set_cons_zero, List.set_cons_succ]
        refine wpAnyH_take (i := 12) (oi := { dst := some 38, op := Op.move (Operand.tmp 0), type := 28, pos := "right.go:25", after := #[{ on := 11, ground := Ground.guard }], guard := some (11, true) }) (v := undef) rfl (by kernel_rfl) (by kernel_rfl) (by kernel_rfl) (fun _ _ _ h => h) (Or.inr ⟨by rfl, rfl⟩) (by assumption) ?_
        try simp only [Act.put, List.setIfInBounds_toArray, List.set_cons_zero, List.set_cons_succ]
        refine wpAnyH_take (i := 13) (oi := { dst := some 39, op := Op.move (Operand.tmp 4), type := 3, pos := "right.go:25", after := #[{ on := 11, ground := Ground.guard }], guard := some (11, true) }) (v := undef) rfl (by kernel_rfl) (by kernel_rfl) (by kernel_rfl) (fun _ _ _ h => h) (Or.inr ⟨by rfl, rfl⟩) (by assumption) ?_
        try simp only [Act.put, List.setIfInBounds_toArray, List.set_cons_zero, List.set_cons_succ]
        refine wpAnyH_take (i := 14) (oi := { dst := some 40, op := Op.binOp BinOp.sub 3 (Operand.tmp 39) (Operand.const (Value.int IntKind.i64 1)) 3, type := 3, pos := "right.go:25", after := #[{ on := 13, ground := Ground.data }, { on := 11, ground := Ground.guard }], guard := some (11, true) }) (v := undef) rfl (by kernel_rfl) (by kernel_rfl) (by kernel_rfl) (fun _ _ _ h => h) (Or.inr ⟨by rfl, rfl⟩) (by assumption) ?_
        try simp only [Act.put, List.setIfInBounds_toArray, List.set_cons_zero, List.set_cons_succ]
        refine wpAnyH_take (i := 15) (oi := { dst := some 41, op := Op.indexAddr 28 (Operand.tmp 38) (Operand.tmp 40), type := 0, pos := "right.go:25", after := #[{ on := 12, ground := Ground.data }, { on := 14, ground := Ground.data }, { on := 11, ground := Ground.guard }], guard := some (11, true) }) (v := undef) rfl (by kernel_rfl) (by kernel_rfl) (by kernel_rfl) (fun _ _ _ h => h) (Or.inr ⟨by rfl, rfl⟩) (by assumption) ?_
        try simp only [Act.put, List.setIfInBounds_toArray, List.set_cons_zero, List.set_cons_succ]
        refine wpAnyH_take (i := 16) (oi := { dst := some 42, op := Op.fieldAddr 38 (Operand.tmp 41) 4, type := 0, pos := "right.go:25", after := #[{ on := 15, ground := Ground.data }, { on := 11, ground := Ground.guard }], guard := some (11, true) }) (v := undef) rfl (by kernel_rfl) (by kernel_rfl) (by kernel_rfl) (fun _ _ _ h => h) (Or.inr ⟨by rfl, rfl⟩) (by assumption) ?_
        try simp only [Act.put, List.setIfInBounds_toArray, List.set_cons_zero, List.set_cons_succ]
        refine wpAnyH_take (i := 17) (oi := { dst := some 43, op := Op.load 3 (Operand.tmp 42), type := 3, pos := "right.go:25", after := #[{ on := 16, ground := Ground.data }, { on := 11, ground := Ground.guard }], guard := some (11, true) }) (v := undef) rfl (by kernel_rfl) (by kernel_rfl) (by kernel_rfl) (fun _ _ _ h => h) (Or.inr ⟨by rfl, rfl⟩) (by assumption) ?_
        try simp only [Act.put, List.setIfInBounds_toArray, List.set_cons_zero, List.set_cons_succ]
        refine wpAnyH_take (i := 18) (oi := { dst := some 44, op := Op.fieldAddr 38 (Operand.tmp 5) 4, type := 0, pos := "right.go:25", after := #[{ on := 11, ground := Ground.guard }], guard := some (11, true) }) (v := undef) rfl (by kernel_rfl) (by kernel_rfl) (by kernel_rfl) (fun _ _ _ h => h) (Or.inr ⟨by rfl, rfl⟩) (by assumption) ?_
        try simp only [Act.put, List.setIfInBounds_toArray, List.set_cons_zero, List.set_cons_succ]
        refine wpAnyH_take (i := 19) (oi := { dst := some 45, op := Op.load 3 (Operand.tmp 44), type := 3, pos := "right.go:25", after := #[{ on := 18, ground := Ground.data }, { on := 11, ground := Ground.guard }], guard := some (11, true) }) (v := undef) rfl (by kernel_rfl) (by kernel_rfl) (by kernel_rfl) (fun _ _ _ h => h) (Or.inr ⟨by rfl, rfl⟩) (by assumption) ?_
        try simp only [Act.put, List.setIfInBounds_toArray, List.set_cons_zero, List.set_cons_succ]
        refine wpAnyH_take (i := 20) (oi := { dst := some 46, op := Op.binOp BinOp.eql 3 (Operand.tmp 43) (Operand.tmp 45) 3, type := 4, pos := "right.go:25", after := #[{ on := 17, ground := Ground.data }, { on := 19, ground := Ground.data }, { on := 11, ground := Ground.guard }], guard := some (11, true) }) (v := undef) rfl (by kernel_rfl) (by kernel_rfl) (by kernel_rfl) (fun _ _ _ h => h) (Or.inr ⟨by rfl, rfl⟩) (by assumption) ?_
        try simp only [Act.put, List.setIfInBounds_toArray, List.set_cons_zero, List.set_cons_succ]
        refine wpAnyH_take (i := 21) (oi := { dst := some 47, op := Op.pick (Operand.tmp 37) (Operand.tmp 46) (Operand.const (Value.bool false)), type := 4, pos := "right.go:25", after := #[{ on := 11, ground := Ground.data }, { on := 20, ground := Ground.data }, { on := 3, ground := Ground.guard }], guard := some (3, false) }) (v := undef) rfl (by kernel_rfl) (by kernel_rfl) (by kernel_rfl) (fun _ _ _ h => h) (Or.inr ⟨by rfl, rfl⟩) (by assumption) ?_
        try simp only [Act.put, List.setIfInBounds_toArray, List.set_cons_zero, List.set_cons_succ]
        refine wpAnyH_take (i := 22) (oi := { dst := some 48, op := Op.pick (Operand.tmp 29) (Operand.const (Value.bool true)) (Operand.tmp 47), type := 4, pos := "right.go:25", after := #[{ on := 3, ground := Ground.data }, { on := 21, ground := Ground.data }], guard := none }) (v := ?val22A) rfl (by kernel_rfl) (by kernel_rfl) (by kernel_rfl) (fun _ _ _ h => h) (Or.inl ⟨by rfl, ?hy22A⟩) (by assumption) ?_
        case hy22A => (intro w hSw; (try dsimp only at hSw); go_split_ands; go_simp; try with_reducible rfl)
        try simp only [Act.put, List.setIfInBounds_toArray, List.set_cons_zero, List.set_cons_succ]
        refine wpAnyH_done (by kernel_rfl) ?_ _
        all_goals
         go_split_ands
         go_wp2_with fail
         go_ret
         rw [HF.out]
         exact ⟨rfl, H3.out.1.trans ((‹Below w3.heap.size w3 wA›).mono H3.out.1.size)⟩
      | true =>
      cases b2 with
      | false =>
        have HF := hid_mk (show R = placesX ((ns.map (·.1)).drop (k + 1)) (k + 1) t s1 from HPR2.out.trans (by simp))
        clear HPR2 HPR
        go_wp2_with fail
        refine wp_region_held_drew (S := (fun w' => w'.cell? ⟨wo.heap.size, 0, none⟩ = some (.int .u8 (t.kind : Int)) ∧ w'.cell? ⟨wo.heap.size, 1, none⟩ = some (.string (strOf t.name)) ∧ w'.cell? ⟨wo.heap.size, 2, none⟩ = some (.slice aa t.attrs.length ac) ∧ w'.cell? ⟨wo.heap.size, 3, none⟩ = some (.string (strOf t.data)) ∧ w'.cell? ⟨wo.heap.size, 4, none⟩ = some (.int .i64 t.up) ∧ w'.cell? ⟨wo.heap.size, 5, none⟩ = some (.slice ka t.kids.length kc) ∧ w'.cell? (x.add ((k - 1) * 6)) = some (.int .u8 (p.kind : Int)) ∧ w'.cell? ⟨(x.add ((k - 1) * 6)).block, (x.add ((k - 1) * 6)).off + 4, none⟩ = some (.int .i64 p.up) ∧ Below w3.heap.size w3 w')) (by kernel_rfl) (hkS.out _ (below_drewR (Below.refl _ _) 1)) (fun hHeld => ?_)
        refine wpAnyH_take (i := 0) (oi := { dst := some 26, op := Op.load 38 (Operand.tmp 5), type := 38, pos := "right.go:25", after := #[], guard := none }) (v := ?val0B) rfl (by kernel_rfl) (by kernel_rfl) (by kernel_rfl) (fun _ _ _ h => h) (Or.inl ⟨by rfl, ?hy0B⟩) (by assumption) ?_
        case hy0B => (intro w hSw; (try dsimp only at hSw); go_split_ands; go_simp; try with_reducible rfl)
        try simp only [Act.put, List.setIfInBounds_toArray, List.set_cons_zero, List.set_cons_succ]
        refine wpAnyH_ready (rs := [1]) (by kernel_rfl) (by simp) ?_
        refine AllReadyH.cons (o := { dst := some 27, op := Op.call { callee := Callee.value (Operand.func 81), args := #[Operand.tmp 26], argTypes := #[38] }, type := 4, pos := "right.go:25", after := #[{ on := 0, ground := Ground.data }], guard := none }) rfl (fun K hK => ?_) AllReadyH.nil
        go_simp
        (with_reducible refine (htx.out _ (by exact HT3.out.below hHeld.2.2.2.2.2.2.2.2)).mono ?_)
        rintro e wA ⟨rfl, nA⟩
        try go_wp2_with fail
        refine hK.out _ _ ?_ (fun hHeld2 => ?_)
        ·exact hkS.out _ (hHeld.2.2.2.2.2.2.2.2.trans (nA.mono hHeld.2.2.2.2.2.2.2.2.size))
        clear hK K hHeld
        have hHeld := hHeld2
        clear hHeld2
        try simp only [Act.put, List.setIfInBounds_toArray, List.set_cons_zero, List.set_cons_succ]
        refine wpAnyH_take (i := 2) (oi := { dst := some 28, op := Op.unOp UnOp.not 4 (Operand.tmp 27), type := 4, pos := "right.go:25", after := #[{ on := 1, ground := Ground.data }], guard := none }) (v := ?val2B) rfl (by kernel_rfl) (by kernel_rfl) (by kernel_rfl) (fun _ _ _ h => h) (Or.inl ⟨by rfl, ?hy2B⟩) (by assumption) ?_
        case hy2B => (intro w hSw; (try dsimp only at hSw); go_split_ands; go_simp; try with_reducible rfl)
        try simp only [Act.put, List.setIfInBounds_toArray, List.set_cons_zero, List.set_cons_succ]
        refine wpAnyH_take (i := 3) (oi := { dst := some 29, op := Op.move (Operand.tmp 28), type := 4, pos := "right.go:25", after := #[{ on := 2, ground := Ground.data }, { on := 1, ground := Ground.chain }], guard := none }) (v := ?val3B) rfl (by kernel_rfl) (by kernel_rfl) (by kernel_rfl) (fun _ _ _ h => h) (Or.inl ⟨by rfl, ?hy3B⟩) (by assumption) ?_
        case hy3B => (intro w hSw; (try dsimp only at hSw); go_split_ands; go_simp; try with_reducible rfl)
        try simp only [Act.put, List.setIfInBounds_toArray, List.set_cons_zero, List.set_cons_succ]
        refine wpAnyH_take (i := 4) (oi := { dst := some 30, op := Op.move (Operand.tmp 0), type := 28, pos := "right.go:25", after := #[{ on := 3, ground := Ground.guard }], guard := some (3, false) }) (v := ?val4B) rfl (by kernel_rfl) (by kernel_rfl) (by kernel_rfl) (fun _ _ _ h => h) (Or.inl ⟨by rfl, ?hy4B⟩) (by assumption) ?_
        case hy4B => (intro w hSw; (try dsimp only at hSw); go_split_ands; go_simp; try with_reducible rfl)
        try simp only [Act.put, List.setIfInBounds_toArray, List.set_cons_zero, List.set_cons_succ]
        refine wpAnyH_take (i := 5) (oi := { dst := some 31, op := Op.move (Operand.tmp 4), type := 3, pos := "right.go:25", after := #[{ on := 3, ground := Ground.guard }], guard := some (3, false) }) (v := ?val5B) rfl (by kernel_rfl) (by kernel_rfl) (by kernel_rfl) (fun _ _ _ h => h) (Or.inl ⟨by rfl, ?hy5B⟩) (by assumption) ?_
        case hy5B => (intro w hSw; (try dsimp only at hSw); go_split_ands; go_simp; try with_reducible rfl)
        try simp only [Act.put, List.setIfInBounds_toArray, List.set_cons_zero, List.set_cons_succ]
        refine wpAnyH_take (i := 6) (oi := { dst := some 32, op := Op.binOp BinOp.sub 3 (Operand.tmp 31) (Operand.const (Value.int IntKind.i64 1)) 3, type := 3, pos := "right.go:25", after := #[{ on := 5, ground := Ground.data }, { on := 3, ground := Ground.guard }], guard := some (3, false) }) (v := ?val6B) rfl (by kernel_rfl) (by kernel_rfl) (by kernel_rfl) (fun _ _ _ h => h) (Or.inl ⟨by rfl, ?hy6B⟩) (by assumption) ?_
        case hy6B => (intro w hSw; (try dsimp only at hSw); go_split_ands; go_simp; try with_reducible rfl)
        try simp only [Act.put, List.setIfInBounds_toArray, List.set_cons_zero, List.set_cons_succ]
        refine wpAnyH_take (i := 7) (oi := { dst := some 33, op := Op.indexAddr 28 (Operand.tmp 30) (Operand.tmp 32), type := 0, pos := "right.go:25", after := #[{ on := 4, ground := Ground.data }, { on := 6, ground := Ground.data }, { on := 3, ground := Ground.guard }], guard := some (3, false) }) (v := ?val7B) rfl (by kernel_rfl) (by kernel_rfl) (by kernel_rfl) (fun _ _ _ h => h) (Or.inl ⟨by rfl, ?hy7B⟩) (by assumption) ?_
        case hy7B => (intro w hSw; (try dsimp only at hSw); go_split_ands; go_simp; try with_reducible rfl)
        try simp only [Act.put, List.setIfInBounds_toArray, List.set_cons_zero, List.set_cons_succ]
        refine wpAnyH_take (i := 8) (oi := { dst := some 34, op := Op.fieldAddr 38 (Operand.tmp 33) 0, type := 0, pos := "right.go:25", after := #[{ on := 7, ground := Ground.data }, { on := 3, ground := Ground.guard }], guard := some (3, false) }) (v := ?val8B) rfl (by kernel_rfl) (by kernel_rfl) (by kernel_rfl) (fun _ _ _ h => h) (Or.inl ⟨by rfl, ?hy8B⟩) (by assumption) ?_
        case hy8B => (intro w hSw; (try dsimp only at hSw); go_split_ands; go_simp; try with_reducible rfl)
        try simp only [Act.put, List.setIfInBounds_toArray, List.set_cons_zero, List.set_cons_succ]
        refine wpAnyH_take (i := 9) (oi := { dst := some 35, op := Op.load 5 (Operand.tmp 34), type := 5, pos := "right.go:25", after := #[{ on := 8, ground := Ground.data }, { on := 3, ground := Ground.guard }], guard := some (3, false) }) (v := ?val9B) rfl (by kernel_rfl) (by kernel_rfl) (by kernel_rfl) (fun _ _ _ h => h) (Or.inl ⟨by rfl, ?hy9B⟩) (by assumption) ?_
        case hy9B => (intro w hSw; (try dsimp only at hSw); go_split_ands; go_simp; try with_reducible rfl)
        try simp only [Act.put, List.setIfInBounds_toArray, List.set_cons_zero, List.set_cons_succ]
        refine wpAnyH_take (i := 10) (oi := { dst := some 36, op := Op.binOp BinOp.eql 5 (Operand.tmp 35) (Operand.const (Value.int IntKind.u8 2)) 5, type := 4, pos := "right.go:25", after := #[{ on := 9, ground := Ground.data }, { on := 3, ground := Ground.guard }], guard := some (3, false) }) (v := ?val10B) rfl (by kernel_rfl) (by kernel_rfl) (by kernel_rfl) (fun _ _ _ h => h) (Or.inl ⟨by rfl, ?hy10B⟩) (by assumption) ?_
        case hy10B => (intro w hSw; (try dsimp only at hSw); go_split_ands; go_simp; try with_reducible rfl)
        try simp only [Act.put, List.setIfInBounds_toArray, List.set_cons_zero, List.set_cons_succ]
        refine wpAnyH_take (i := 11) (oi := { dst := some 37, op := Op.move (Operand.tmp 36), type := 4, pos := "right.go:25", after := #[{ on := 10, ground := Ground.data }, { on := 3, ground := Ground.chain }, { on := 3, ground := Ground.guard }], guard := some (3, false) }) (v := ?val11B) rfl (by kernel_rfl) (by kernel_rfl) (by kernel_rfl) (fun _ _ _ h => h) (Or.inl ⟨by rfl, ?hy11B⟩) (by assumption) ?_
        case hy11B => (intro w hSw; (try dsimp only at hSw); go_split_ands; go_simp; try with_reducible rfl)
        try simp only [Act.put, List.setIfInBounds_toArray, List.set_cons_zero, List.set_cons_succ]
        refine wpAnyH_take (i := 12) (oi := { dst := some 38, op := Op.move (Operand.tmp 0), type := 28, pos := "right.go:25", after := #[{ on := 11, ground := Ground.guard }], guard := some (11, true) }) (v := undef) rfl (by kernel_rfl) (by kernel_rfl) (by kernel_rfl) (fun _ _ _ h => h) (Or.inr ⟨by rfl, rfl⟩) (by assumption) ?_
        try simp only [Act.put, List.setIfInBounds_toArray, List.set_cons_zero, List.set_cons_succ]
        refine wpAnyH_take (i := 13) (oi := { dst := some 39, op := Op.move (Operand.tmp 4), type := 3, pos := "right.go:25", after := #[{ on := 11, ground := Ground.guard }], guard := some (11, true) }) (v := undef) rfl (by kernel_rfl) (by kernel_rfl) (by kernel_rfl) (fun _ _ _ h => h) (Or.inr ⟨by rfl, rfl⟩) (by assumption) ?_
        try simp only [Act.put, List.setIfInBounds_toArray, List.set_cons_zero, List.set_cons_succ]
        refine wpAnyH_take (i := 14) (oi := { dst := some 40, op := Op.binOp BinOp.sub 3 (Operand.tmp 39) (Operand.const (Value.int IntKind.i64 1)) 3, type := 3, pos := "right.go:25", after := #[{ on := 13, ground := Ground.data }, { on := 11, ground := Ground.guard }], guard := some (11, true) }) (v := undef) rfl (by kernel_rfl) (by kernel_rfl) (by kernel_rfl) (fun _ _ _ h => h) (Or.inr ⟨by rfl, rfl⟩) (by assumption) ?_
        try simp only [Act.put, List.setIfInBounds_toArray, List.set_cons_zero, List.set_cons_succ]
        refine wpAnyH_take (i := 15) (oi := { dst := some 41, op := Op.indexAddr 28 (Operand.tmp 38) (Operand.tmp 40), type := 0, pos := "right.go:25", after := #[{ on := 12, ground := Ground.data }, { on := 14, ground := Ground.data }, { on := 11, ground := Ground.guard }], guard := some (11, true) }) (v := undef) rfl (by kernel_rfl) (by kernel_rfl) (by kernel_rfl) (fun _ _ _ h => h) (Or.inr ⟨by rfl, rfl⟩) (by assumption) ?_
        try simp only [Act.put, List.setIfInBounds_toArray, List.set_cons_zero, List.set_cons_succ]
        refine wpAnyH_take (i := 16) (oi := { dst := some 42, op := Op.fieldAddr 38 (Operand.tmp 41) 4, type := 0, pos := "right.go:25", after := #[{ on := 15, ground := Ground.data }, { on := 11, ground := Ground.guard }], guard := some (11, true) }) (v := undef) rfl (by kernel_rfl) (by kernel_rfl) (by kernel_rfl) (fun _ _ _ h => h) (Or.inr ⟨by rfl, rfl⟩) (by assumption) ?_
        try simp only [Act.put, List.setIfInBounds_toArray, List.set_cons_zero, List.set_cons_succ]
        refine wpAnyH_take (i := 17) (oi := { dst := some 43, op := Op.load 3 (Operand.tmp 42), type := 3, pos := "right.go:25", after := #[{ on := 16, ground := Ground.data }, { on := 11, ground := Ground.guard }], guard := some (11, true) }) (v := undef) rfl (by kernel_rfl) (by kernel_rfl) (by kernel_rfl) (fun _ _ _ h => h) (Or.inr ⟨by rfl, rfl⟩) (by assumption) ?_
        try simp only [Act.put, List.setIfInBounds_toArray, List.set_cons_zero, List.set_cons_succ]
        refine wpAnyH_take (i := 18) (oi := { dst := some 44, op := Op.fieldAddr 38 (Operand.tmp 5) 4, type := 0, pos := "right.go:25", after := #[{ on := 11, ground := Ground.guard }], guard := some (11, true) }) (v := undef) rfl (by kernel_rfl) (by kernel_rfl) (by kernel_rfl) (fun _ _ _ h => h) (Or.inr ⟨by rfl, rfl⟩) (by assumption) ?_
        try simp only [Act.put, List.setIfInBounds_toArray, List.set_cons_zero, List.set_cons_succ]
        refine wpAnyH_take (i := 19) (oi := { dst := some 45, op := Op.load 3 (Operand.tmp 44), type := 3, pos := "right.go:25", after := #[{ on := 18, ground := Ground.data }, { on := 11, ground := Ground.guard }], guard := some (11, true) }) (v := undef) rfl (by kernel_rfl) (by kernel_rfl) (by kernel_rfl) (fun _ _ _ h => h) (Or.inr ⟨by rfl, rfl⟩) (by assumption) ?_
        try simp only [Act.put, List.setIfInBounds_toArray, List.set_cons_zero, List.set_cons_succ]
        refine wpAnyH_take (i := 20) (oi := { dst := some 46, op := Op.binOp BinOp.eql 3 (Operand.tmp 43) (Operand.tmp 45) 3, type := 4, pos := "right.go:25", after := #[{ on := 17, ground := Ground.data }, { on := 19, ground := Ground.data }, { on := 11, ground := Ground.guard }], guard := some (11, true) }) (v := undef) rfl (by kernel_rfl) (by kernel_rfl) (by kernel_rfl) (fun _ _ _ h => h) (Or.inr ⟨by rfl, rfl⟩) (by assumption) ?_
        try simp only [Act.put, List.setIfInBounds_toArray, List.set_cons_zero, List.set_cons_succ]
        refine wpAnyH_take (i := 21) (oi := { dst := some 47, op := Op.pick (Operand.tmp 37) (Operand.tmp 46) (Operand.const (Value.bool false)), type := 4, pos := "right.go:25", after := #[{ on := 11, ground := Ground.data }, { on := 20, ground := Ground.data }, { on := 3, ground := Ground.guard }], guard := some (3, false) }) (v := ?val21B) rfl (by kernel_rfl) (by kernel_rfl) (by kernel_rfl) (fun _ _ _ h => h) (Or.inl ⟨by rfl, ?hy21B⟩) (by assumption) ?_
        case hy21B => (intro w hSw; (try dsimp only at hSw); go_split_ands; go_simp; try with_reducible rfl)
        try simp only [Act.put, List.setIfInBounds_toArray, List.set_cons_zero, List.set_cons_succ]
        refine wpAnyH_take (i := 22) (oi := { dst := some 48, op := Op.pick (Operand.tmp 29) (Operand.const (Value.bool true)) (Operand.tmp 47), type := 4, pos := "right.go:25", after := #[{ on := 3, ground := Ground.data }, { on := 21, ground := Ground.data }], guard := none }) (v := ?val22B) rfl (by kernel_rfl) (by kernel_rfl) (by kernel_rfl) (fun _ _ _ h => h) (Or.inl ⟨by rfl, ?hy22B⟩) (by assumption) ?_
        case hy22B => (intro w hSw; (try dsimp only at hSw); go_split_ands; go_simp; try with_reducible rfl)
        try simp only [Act.put, List.setIfInBounds_toArray, List.set_cons_zero, List.set_cons_succ]
        refine wpAnyH_done (by kernel_rfl) ?_ _
        all_goals
         go_split_ands
         have HNX := hid_mk (show ∃ cs st p, StackAt w.heap.size (w.heap.size + 1) 0 cs 91 st wA ∧ Below w.heap.size w wA ∧ R = placesX ((ns.map (·.1)).drop (k + 1)) (k + 1) p st ∧ st.length ≤ 200 ∧ ∃ hp : k + 1 - 1 < ns.length, p = (ns[k + 1 - 1]).1 from
          ⟨cs1, s1, t, H3.out.2.2.below ‹Below w3.heap.size w3 wA›, H3.out.1.trans ((‹Below w3.heap.size w3 wA›).mono H3.out.1.size), HF.out, hs1l, hkl, HTK.out⟩)
         go_wp2_with fail
         go_roundw
         case rel => exact ⟨k + 1, by omega, by omega, by go_num, HNX⟩
         case measure => simp [intOf]; omega
      | true =>
      cases b3 with
      | true =>
        have HF := hid_mk (show R = false from HPR2.out.trans (by simp))
        clear HPR2 HPR
        go_wp2_with fail
        go_region_held3 (fun w' => w'.cell? ⟨wo.heap.size, 0, none⟩ = some (.int .u8 (t.kind : Int)) ∧ w'.cell? ⟨wo.heap.size, 1, none⟩ = some (.string (strOf t.name)) ∧ w'.cell? ⟨wo.heap.size, 2, none⟩ = some (.slice aa t.attrs.length ac) ∧ w'.cell? ⟨wo.heap.size, 3, none⟩ = some (.string (strOf t.data)) ∧ w'.cell? ⟨wo.heap.size, 4, none⟩ = some (.int .i64 t.up) ∧ w'.cell? ⟨wo.heap.size, 5, none⟩ = some (.slice ka t.kids.length kc) ∧ w'.cell? (x.add ((k - 1) * 6)) = some (.int .u8 (p.kind : Int)) ∧ w'.cell? ⟨(x.add ((k - 1) * 6)).block, (x.add ((k - 1) * 6)).off + 4, none⟩ = some (.int .i64 p.up) ∧ Below w3.heap.size w3 w')
         (first
          | exact hkS.out _ (below_drewR (Below.refl _ _) 1)
          | (go_split_ands; exact hkS.out _ ((‹Below w3.heap.size w3 _›).trans (nA.mono (‹Below w3.heap.size w3 _›).size))))
         (first
          | (go_at_call 81; go_split_ands; (with_reducible refine (htx.out _ (by exact HT3.out.below ‹Below w3.heap.size w3 _›)).mono ?_); rintro e wA ⟨rfl, nA⟩))
        all_goals
         go_split_ands
         go_wp2_with fail
         go_ret
         rw [HF.out]
         exact ⟨rfl, H3.out.1.trans ((‹Below w3.heap.size w3 wA›).mono H3.out.1.size)⟩
      | false =>
        have HF := hid_mk (show R = placesX ((ns.map (·.1)).drop (k + 1)) (k + 1) t s1 from HPR2.out.trans (by simp))
        clear HPR2 HPR
        go_wp2_with fail
        go_region_held3 (fun w' => w'.cell? ⟨wo.heap.size, 0, none⟩ = some (.int .u8 (t.kind : Int)) ∧ w'.cell? ⟨wo.heap.size, 1, none⟩ = some (.string (strOf t.name)) ∧ w'.cell? ⟨wo.heap.size, 2, none⟩ = some (.slice aa t.attrs.length ac) ∧ w'.cell? ⟨wo.heap.size, 3, none⟩ = some (.string (strOf t.data)) ∧ w'.cell? ⟨wo.heap.size, 4, none⟩ = some (.int .i64 t.up) ∧ w'.cell? ⟨wo.heap.size, 5, none⟩ = some (.slice ka t.kids.length kc) ∧ w'.cell? (x.add ((k - 1) * 6)) = some (.int .u8 (p.kind : Int)) ∧ w'.cell? ⟨(x.add ((k - 1) * 6)).block, (x.add ((k - 1) * 6)).off + 4, none⟩ = some (.int .i64 p.up) ∧ Below w3.heap.size w3 w')
         (first
          | exact hkS.out _ (below_drewR (Below.refl _ _) 1)
          | (go_split_ands; exact hkS.out _ ((‹Below w3.heap.size w3 _›).trans (nA.mono (‹Below w3.heap.size w3 _›).size))))
         (first
          | (go_at_call 81; go_split_ands; (with_reducible refine (htx.out _ (by exact HT3.out.below ‹Below w3.heap.size w3 _›)).mono ?_); rintro e wA ⟨rfl, nA⟩))
        all_goals
         go_split_ands
         have HNX := hid_mk (show ∃ cs st p, StackAt w.heap.size (w.heap.size + 1) 0 cs 91 st wA ∧ Below w.heap.size w wA ∧ R = placesX ((ns.map (·.1)).drop (k + 1)) (k + 1) p st ∧ st.length ≤ 200 ∧ ∃ hp : k + 1 - 1 < ns.length, p = (ns[k + 1 - 1]).1 from
          ⟨cs1, s1, t, H3.out.2.2.below ‹Below w3.heap.size w3 wA›, H3.out.1.trans ((‹Below w3.heap.size w3 wA›).mono H3.out.1.size), HF.out, hs1l, hkl, HTK.out⟩)
         go_wp2_with fail
         go_roundw
         case rel => exact ⟨k + 1, by omega, by omega, by go_num, HNX⟩
         case measure => simp [intOf]; omega
     ·have hq2 : ((t.kind : Int) == 2) = false := beq_false_of_ne (by omega)
      have HPR2 := hid_mk (HPR.out.trans (if_neg h2))
      by_cases h1 : t.kind = 1
      ·have hq1 : ((t.kind : Int) == 1) = true := by rw [h1]; rfl
       have HPR3 := hid_mk (HPR2.out.trans (if_pos h1))
       clear h1 h2 htr3
       obtain ⟨sv, csv, hop⟩ := H3.out.2.2.cell
       have HT3 := hid_mk (HT.out.below H3.out.1)
       have hkd := hid_mk (fun w => kind_any (strOf t.name) w (by rw [size_strOf]; exact HN.out.1))
       rw [sl_strOf] at hkd
       have hre := hid_mk (fun w' (hb : Below w3.heap.size w3 w') => rightElement_any t aa ac (.slice ka t.kids.length kc) w' (HT3.out.below hb) (HAT.out w' (H3.out.1.trans (hb.mono H3.out.1.size))) HN.out.1 HN.out.2.2)
       have hdp := hid_mk (fun w' (hb : Below w3.heap.size w3 w') => depth_any w.heap.size sv s1 w' (hop.below hb) (by omega))
       have had := hid_mk (fun w' (hb : Below w3.heap.size w3 w') => admits_any w.heap.size sv (kindL t.name) s1 w' (hop.below hb) (by omega))
       have hkeep := hid_mk (show ∀ w', Below w3.heap.size w3 w' → w'.cell? ⟨w.heap.size + 1, 0, none⟩ = some sv ∧ NodeAt wo.heap.size t (.slice aa t.attrs.length ac) (.slice ka t.kids.length kc) w' from fun w' hb => ⟨(hb.cell (p := ⟨w.heap.size + 1, 0, none⟩) (Array.getElem?_eq_some_iff.1 H3.out.2.2.1).1).trans csv, H3.out.2.1.below hb⟩)
       obtain ⟨sg, scap, hsv, _, _, _⟩ := hop.some
       subst hsv
       obtain ⟨K, hK⟩ : ∃ K, K = kindL t.name := ⟨_, rfl⟩
       rw [← hK] at hkd had HPR3
       have HK := hid_mk hK
       clear hK hop
       go_wp2_with fail
       (with_reducible refine (hkd.out _).mono ?_)
       rintro e w4 ⟨rfl, hb4⟩
       obtain ⟨y1, y2⟩ := hkeep.out w4 hb4
       obtain ⟨u0, u1, u2, u3, u4, u5⟩ := y2.cells
       have hre4 := hid_mk (hre.out w4 hb4)
       have H4 := hid_mk hb4
       clear y2 hb4 r0 r1 r2 r3 r4 r5 hkd hre
       go_wp2_with fail
       (with_reducible refine hre4.out.mono ?_)
       rintro e w5 ⟨rfl, hb5⟩
       have H5 := hid_mk (H4.out.trans (hb5.mono H4.out.size))
       have HL5 := hid_mk (show Below w.heap.size w w5 from H3.out.1.trans (H5.out.mono H3.out.1.size))
       obtain ⟨y1', y2⟩ := hkeep.out w5 H5.out
       obtain ⟨t0, t1, t2, t3, t4, t5⟩ := y2.cells
       have hdp5 := hid_mk (hdp.out w5 H5.out)
       have had5 := hid_mk (had.out w5 H5.out)
       clear y2 hb5 u0 u1 u2 u3 u4 u5 y1 hre4 hdp had csv
       cases he : elemX t with
       | false =>
         rw [he] at HPR3
         have HF := hid_mk (show R = false from HPR3.out.trans (by simp))
         clear he
         go_wp2_with fail
         go_ret
         rw [HF.out]
         exact ⟨rfl, HL5.out⟩
       | true =>
       rw [he] at HPR3
       clear he
       go_wp2_with fail
       (with_reducible refine hdp5.out.mono ?_)
       rintro e w6 ⟨rfl, rfl⟩
       clear hdp5
       by_cases hd : 200 ≤ s1.length
       ·have hdi : (200 : Int) ≤ (s1.length : Int) := by omega
        have HF := hid_mk (show R = false from HPR3.out.trans (by rw [decide_eq_true hd]; simp))
        clear hd
        go_wp2_with fail
        go_ret
        rw [HF.out]
        exact ⟨rfl, HL5.out⟩
       have hdi : ¬ (200 : Int) ≤ (s1.length : Int) := by omega
       rw [decide_eq_false hd] at HPR3
       have hsl200 : s1.length < 200 := by omega
       clear hd
       go_wp2_with fail
       (with_reducible refine had5.out.mono ?_)
       rintro e w7 ⟨rfl, hb7⟩
       have H7 := hid_mk (H5.out.trans (hb7.mono H5.out.size))
       have HL7 := hid_mk (show Below w.heap.size w w7 from H3.out.1.trans (H7.out.mono H3.out.1.size))
       obtain ⟨g1, y2⟩ := hkeep.out w7 H7.out
       obtain ⟨g2, g3, g4, g5, g6, g7⟩ := y2.cells
       have hst7 := H3.out.2.2.below H7.out
       have hpu := hid_mk (push_st ⟨k, t.name, K⟩ hst7 (by omega))
       dsimp only [opA] at hpu
       have HS7 := hid_mk hst7
       clear y2 hb7 had5 t0 t1 t2 t3 t4 t5 y1' hst7
       cases ha : admitsO K s1 with
       | false =>
         rw [ha] at HPR3
         have HF := hid_mk (show R = false from HPR3.out.trans (by simp))
         clear ha
         go_wp2_with fail
         go_ret
         rw [HF.out]
         exact ⟨rfl, HL7.out⟩
       | true =>
       rw [ha] at HPR3
       have HPR4 := hid_mk (show R = placesX ((ns.map (·.1)).drop (k + 1)) (k + 1) t (if voidK K = true then s1 else ⟨k, t.name, K⟩ :: s1) from HPR3.out.trans (by simp))
       have hvo := hid_mk (fun w => isVoid_any K w)
       clear ha HPR3
       go_wp2_with fail
       (with_reducible refine (hvo.out _).mono ?_)
       rintro e w8 ⟨rfl, rfl⟩
       cases hv : voidK K with
       | true =>
         rw [hv] at HPR4
         have HNX := hid_mk (show ∃ cs st p, StackAt w.heap.size (w.heap.size + 1) 0 cs 91 st w7 ∧ Below w.heap.size w w7 ∧ R = placesX ((ns.map (·.1)).drop (k + 1)) (k + 1) p st ∧ st.length ≤ 200 ∧ ∃ hp : k + 1 - 1 < ns.length, p = (ns[k + 1 - 1]).1 from
          ⟨cs1, s1, t, HS7.out, HL7.out, HPR4.out, hs1l, hkl, HTK.out⟩)
         clear hv hpu
         go_wp2_with fail
         go_roundw
         case rel => exact ⟨k + 1, by omega, by omega, by go_num, HNX⟩
         case measure => simp [intOf]; omega
       | false =>
         rw [hv] at HPR4
         clear hv
         go_wp2_with fail
         (with_reducible refine hpu.out.mono ?_)
         rintro e w9 ⟨rfl, cs9, hs9, hbu9, hch9⟩
         have HNX := hid_mk (show ∃ cs st p, StackAt w.heap.size (w.heap.size + 1) 0 cs 91 st w9 ∧ Below w.heap.size w w9 ∧ R = placesX ((ns.map (·.1)).drop (k + 1)) (k + 1) p st ∧ st.length ≤ 200 ∧ ∃ hp : k + 1 - 1 < ns.length, p = (ns[k + 1 - 1]).1 from
          ⟨cs9, _, t, hs9, HL7.out.trans (schg_lowR hch9 (by omega) HL7.out.size), HPR4.out, by simp; omega, hkl, HTK.out⟩)
         clear hs9 hbu9 hch9 hpu
         go_wp2_with fail
         go_roundw
         case rel => exact ⟨k + 1, by omega, by omega, by go_num, HNX⟩
         case measure => simp [intOf]; omega
      ·have hq1 : ((t.kind : Int) == 1) = false := beq_false_of_ne (by omega)
       have HF := hid_mk (HPR2.out.trans (if_neg h1))
       clear h1 h2 htr3
       go_wp2_with fail
       go_ret
       rw [HF.out]
       exact ⟨rfl, H3.out.1⟩
  ·have hlti : ¬ (k : Int) < (m : Int) := by omega
   have HF := hid_mk (show R = true by
    rw [hpl, List.drop_eq_nil_of_le (by rw [List.length_map, ← HM.out]; omega)]
    rfl)
   have HL := hid_mk hlow
   clear hst hlow hpl hp
   go_wp2_with fail
   go_ret
   rw [HF.out]
   exact ⟨rfl, HL.out⟩
end Go.Proofs.YtlcijlklbabajaaGreatDoor.R
