/-
  Package tree's start. Condition: Kind's contract; what is bounded.
-/
import Derived.Test.YtlcijlklbabajaaGreatDoorQBTFi
import Derived.Test.YtlcijlklbabajaaGreatDoorQTHRi
import Derived.Test.YtlcijlklbabajaaGreatDoorQKKind
namespace Go.Proofs.YtlcijlklbabajaaGreatDoor
open Go.RowKit
def startPost (B b : Nat) (ns : List NdM) (st : List Opn) (bs : List UInt8) (p : NdM) (t : Tk) (w : World) (e : Ending) (w' : World) : Prop :=
 Below B w w' ∧
 if kindL t.name = 0 then e = .returned (.int .i64 50)
 else if (t.self && !voidK (kindL t.name)) = true then e = .returned (.int .i64 51)
 else if admitsO (kindL t.name) (closeS (kindL t.name) st) = false then e = .returned (.int .i64 51)
 else if 200 ≤ (closeS (kindL t.name) st).length then e = .returned (.int .i64 52)
 else if 16384 ≤ ns.length then e = .returned (.int .i64 3)
 else e = .returned (.int .i64 0) ∧ ∃ kv av, BdM B b (kidN (endNs ns bs p) (topO (closeS (kindL t.name) st)).node kv ns.length ++ [(⟨1, t.name, t.attrs, [], ((topO (closeS (kindL t.name) st)).node : Int), []⟩, av, .slice none 0 0)]) (if voidK (kindL t.name) then closeS (kindL t.name) st else ⟨ns.length, t.name, kindL t.name⟩ :: closeS (kindL t.name) st) (endBs bs p) w'
theorem closeS_length (k : Nat) (st : List Opn) : (closeS k st).length ≤ st.length := by
 unfold closeS
 have h1 : (if (endsP k && (topO st).kind == 2) = true then st.tail else st).length ≤ st.length := by
  split
  ·rw [List.length_tail]; omega
  ·exact Nat.le_refl _
 generalize (if (endsP k && (topO st).kind == 2) = true then st.tail else st) = s1 at *
 show (if (k == 3 && (topO s1).kind == 3) = true then s1.tail else s1).length ≤ _
 split
 ·rw [List.length_tail]; omega
 ·exact h1
/-- Amid start: the builder, the token's own block, its attributes. -/
structure StAt (B b g cap : Nat) (cs : Array Value) (ns : List NdM) (st : List Opn) (bs : List UInt8) (t : Tk) (B0 : Nat) (av : Value) (TB : Nat) (w0 w : World) : Prop where
 bd : BdU B b cs g cap ns st bs w
 tok : w.heap[TB]? = some (.cells (tkCells t av) 25 (0, 0))
 atr : AtRow B0 av t.attrs w
 low : Below B w0 w
 size : B ≤ w.heap.size
theorem StAt.below {B b g cap : Nat} {cs : Array Value} {ns : List NdM} {st : List Opn} {bs : List UInt8} {t : Tk} {B0 : Nat} {av : Value} {TB : Nat} {w0 w w' : World} (h : StAt B b g cap cs ns st bs t B0 av TB w0 w) (hb : Below w.heap.size w w') : StAt B b g cap cs ns st bs t B0 av TB w0 w' :=
 ⟨h.bd.below hb, (hb.block _ (Array.getElem?_eq_some_iff.1 h.tok).1).trans h.tok, h.atr.below hb, h.low.trans (hb.mono h.size), Nat.le_trans h.size hb.size⟩
theorem StAt.stpost {B b g cap : Nat} {cs : Array Value} {ns : List NdM} {st st' : List Opn} {bs : List UInt8} {t : Tk} {B0 : Nat} {av : Value} {TB : Nat} {w0 w w' : World} (h : StAt B b g cap cs ns st bs t B0 av TB w0 w) (hp : StPost B b 1 cs 94 st' w w') : ∃ cs', StAt B b g cap cs' ns st' bs t B0 av TB w0 w' := by
 obtain ⟨⟨cs', hb⟩, hl⟩ := h.bd.stpost hp h.size
 obtain ⟨_, _, _, hch⟩ := hp
 have hb1 := h.bd.1.1
 refine ⟨cs', hb, hch.blocks _ _ h.tok (fun e => ?_) (.inr fun c2 f2 e => ?_), own_blocks h.atr (hch.keeps hb1 (by decide) (by decide)), h.low.trans hl, Nat.le_trans h.size hl.size⟩
 ·have := h.tok
  rw [e, hb1] at this
  injection this with this
  injection this with _ this _
  exact absurd this (by decide)
 ·injection e with _ e _
  exact absurd e (by decide)
theorem StAt.cells {B b g cap : Nat} {cs : Array Value} {ns : List NdM} {st : List Opn} {bs : List UInt8} {t : Tk} {B0 : Nat} {av : Value} {TB : Nat} {w0 w : World} (h : StAt B b g cap cs ns st bs t B0 av TB w0 w) :
 w.cell? ⟨TB, 1, none⟩ = some (.string (strOf t.name)) ∧ w.cell? ⟨TB, 2, none⟩ = some av ∧ w.cell? ⟨TB, 3, none⟩ = some (.bool t.self) ∧ w.cell? ⟨b, 0, none⟩ = some (.slice (some ⟨g, 0, none⟩) ns.length cap) ∧ ∃ sv, w.cell? ⟨b, 1, none⟩ = some sv ∧ OpnRow B sv st w := by
 obtain ⟨hd, htv, htr, ⟨s1, s2, s3, sv, s4, s5⟩, _⟩ := h.bd
 refine ⟨?_, ?_, ?_, ?_, sv, ?_, s5⟩
 ·rw [cell_of_row w TB 1 _ _ _ h.tok]; rfl
 ·rw [cell_of_row w TB 2 _ _ _ h.tok]; rfl
 ·rw [cell_of_row w TB 3 _ _ _ h.tok]; rfl
 ·rw [cell_of_row w b 0 _ _ _ s1]; exact htv
 ·rw [cell_of_row w b 1 _ _ _ s1]; exact s4
end Go.Proofs.YtlcijlklbabajaaGreatDoor
namespace Go.Proofs.YtlcijlklbabajaaGreatDoor
open Go.RowKit
theorem closeS_mem {k : Nat} {st : List Opn} {o : Opn} (h : o ∈ closeS k st) : o ∈ st := by
 unfold closeS at h
 have h1 : ∀ x, x ∈ (if (endsP k && (topO st).kind == 2) = true then st.tail else st) → x ∈ st := by
  intro x hx
  split at hx
  ·exact List.mem_of_mem_tail hx
  ·exact hx
 generalize (if (endsP k && (topO st).kind == 2) = true then st.tail else st) = s1 at *
 have h : o ∈ (if (k == 3 && (topO s1).kind == 3) = true then s1.tail else s1) := h
 split at h
 ·exact h1 _ (List.mem_of_mem_tail h)
 ·exact h1 _ h
theorem topO_lt {st : List Opn} {n : Nat} (h : ∀ o ∈ st, o.node < n) (h0 : 0 < n) : (topO st).node < n := by
 cases st with
 | nil => exact h0
 | cons o t => exact h o (List.mem_cons_self ..)
theorem BdM.un {B b : Nat} {ns : List NdM} {st : List Opn} {bs : List UInt8} {w : World} (h : BdM B b ns st bs w) : ∃ cs g cap, BdU B b cs g cap ns st bs w := by
 obtain ⟨cs, tv, h1, h2, h3, h4, h5⟩ := h
 obtain ⟨g, cap, cur, hv, _⟩ := h3.look h5
 subst hv
 exact ⟨cs, g, cap, h1, h2, h3, h4, h5⟩
theorem BdU.pack {B b g cap : Nat} {cs : Array Value} {ns : List NdM} {st : List Opn} {bs : List UInt8} {w : World} (h : BdU B b cs g cap ns st bs w) : BdM B b ns st bs w := by
 obtain ⟨h1, h2, h3, h4, h5⟩ := h
 exact ⟨cs, _, h1, h2, h3, h4, h5⟩
/-- What start's own add leaves. -/
def addR (B b : Nat) (ns : List NdM) (s2 : List Opn) (bs : List UInt8) (p : NdM) (t : Tk) (k : Nat) (E : Nat) (w : World) (r : Int) (w' : World) : Prop :=
 Below B w w' ∧ ((16384 ≤ ns.length ∧ r = 3) ∨ (¬ 16384 ≤ ns.length ∧ r = 0 ∧ w'.heap[E]? = some (.cells #[.int .i64 (ns.length : Int), .string (strOf t.name), .int .u8 (k : Int)] 119 (0, 0)) ∧ ∃ kv av, BdM B b (kidN (endNs ns bs p) (topO s2).node kv ns.length ++ [(⟨1, t.name, t.attrs, [], ((topO s2).node : Int), []⟩, av, .slice none 0 0)]) s2 (endBs bs p) w'))
set_option maxHeartbeats 4000000 in
set_option maxRecDepth 100000 in
theorem start_any (hK : KindC) {B b g cap : Nat} {cs : Array Value} {ns : List NdM} {st : List Opn} {bs : List UInt8} {w : World} (h : BdU B b cs g cap ns st bs w) (hn : ns.length ≤ 16384) (p : NdM) (hp : ns[ns.length - 1]? = some p) (h2 : p.1.kind = 2 → bs ≠ []) (hst : st.length ≤ 10000) (hup : ∀ o ∈ st, o.node < ns.length) (hks : ∀ q ∈ ns, q.1.kids.length ≤ 16384)
 (t : Tk) (B0 : Nat) (av : Value) (hav : AtRow B0 av t.attrs w) (hsn : t.name.length ≤ 1000000000) (hal : t.attrs.length ≤ 100000) (has : ∀ a ∈ t.attrs, a.1.length ≤ 1000000000 ∧ a.2.length ≤ 1000000000) (hB : B ≤ w.heap.size) :
 Calls Tryz.prog 64 #[.pointer (some ⟨b, 0, none⟩), .agg (tkCells t av)] w (startPost B b ns st bs p t w) := by
 obtain ⟨aa, ac, rfl⟩ := own_slice hav
 obtain ⟨k, hk⟩ : ∃ k, k = kindL t.name := ⟨_, rfl⟩
 have HK := hid_mk hk
 obtain ⟨O, hO⟩ : ∃ O, O = Obj.cells (tkCells t (.slice aa t.attrs.length ac)) 25 (0, 0) := ⟨_, rfl⟩
 have hal0 : Below w.heap.size w (w.alloc O) := (Below.refl _ _).alloc (Nat.le_refl _) O
 have h0 : StAt B b g cap cs ns st bs t B0 (.slice aa t.attrs.length ac) w.heap.size w (w.alloc O) := ⟨h.below hal0, by rw [← hO]; exact heap_alloc_new w O, hav.below hal0, hal0.mono hB, Nat.le_trans hB hal0.size⟩
 have HO := hid_mk hO.symm
 have H := hid_mk (And.intro hn (And.intro hp (And.intro h2 (And.intro hst (And.intro hup (And.intro hks (And.intro hsn (And.intro hal (And.intro has hB)))))))))
 have H0 := hid_mk h0
 have hkc := hid_mk (fun w => hK (strOf t.name) w (by rw [size_strOf]; exact hsn))
 rw [sl_strOf, ← hk] at hkc
 unfold tkCells
 clear h hn hp h2 hst hup hks hav hsn hal has hB hal0 hO hk h0
 go_enter Tryz.func64, Tryz.ntmps64
 go_wp2_with fail
 (with_reducible refine (hkc.out _).mono ?_)
 rintro e w1 ⟨rfl, hb1⟩
 have hb1' : Below (w.alloc O).heap.size (w.alloc O) w1 := by rw [← HO.out]; exact hb1
 have h1 := H0.out.below hb1'
 obtain ⟨c1, c2, c3, cb, _⟩ := h1.cells
 have H1 := hid_mk h1
 clear hb1 hb1' h1
 by_cases hk0 : k = 0
 ·have hq : ((k : Int) == 0) = true := by rw [hk0]; rfl
  have HK0 := hid_mk hk0
  clear hk0
  go_wp2_with fail
  go_ret
  unfold startPost
  rw [← HK.out, if_pos HK0.out]
  exact ⟨H1.out.low, rfl⟩
 ·have hq : ((k : Int) == 0) = false := beq_false_of_ne (by omega)
  have HK0 := hid_mk hk0
  clear hk0
  obtain ⟨sf, hsf⟩ : ∃ sf, sf = t.self := ⟨_, rfl⟩
  obtain ⟨vd, hvd⟩ : ∃ vd, vd = voidK k := ⟨_, rfl⟩
  rw [← hsf] at c3 ⊢
  have hvoid := hid_mk (fun w => isVoid_any k w)
  rw [← hvd] at hvoid
  have HSV := hid_mk (And.intro hsf hvd)
  clear hsf hvd
  go_upto_region 4 with fail
  go_cut [19] from 13 to 19 (fun s19 wx => s19 = .bool (sf && !vd) ∧ wx = w1)
  case first =>
   cases sf
   ·go_wp2_with fail
    go_meet
    exact ⟨rfl, rfl⟩
   ·go_wp2_with fail
    (with_reducible refine (hvoid.out _).mono ?_)
    rintro e w9 ⟨rfl, rfl⟩
    go_wp2_with fail
    go_meet
    exact ⟨rfl, rfl⟩
  case rest =>
   obtain ⟨rfl, rfl⟩ := hcut
   cases hx : (sf && !vd)
   ·have HX := hid_mk hx
    clear hx c1 c2 c3 cb
    obtain ⟨_, _, _, hsk, _⟩ := H1.out.bd
    have hcs := hid_mk (closeForStart_st k hsk H.out.2.2.2.1)
    clear hsk
    go_wp2_with fail
    (with_reducible refine hcs.out.mono ?_)
    rintro e w2 ⟨rfl, hpo⟩
    obtain ⟨cs2, hS2⟩ := H1.out.stpost hpo
    obtain ⟨s2, hs2⟩ : ∃ s2, s2 = closeS k st := ⟨_, rfl⟩
    rw [← hs2] at hS2
    have hl2 : s2.length ≤ 10000 := by have := closeS_length k st; have := H.out.2.2.2.1; rw [hs2]; omega
    obtain ⟨c1, c2, c3, cb, sv, cv, hrow⟩ := hS2.cells
    have H2 := hid_mk hS2
    have HS2 := hid_mk (And.intro hs2 hl2)
    have hadm := hid_mk (admits_any B sv k s2 w2 hrow (by omega))
    have hdep := hid_mk (fun w' (hb : Below w2.heap.size w2 w') => depth_any B sv s2 w' (hrow.below hb) (by omega))
    obtain ⟨ad, had⟩ : ∃ ad, ad = admitsO k s2 := ⟨_, rfl⟩
    rw [← had] at hadm
    have HAD := hid_mk had
    clear hpo hS2 hs2 hl2 hrow had
    go_wp2_with fail
    (with_reducible refine hadm.out.mono ?_)
    rintro e w3 ⟨rfl, hb3⟩
    cases ad
    ·have H3 := hid_mk (H2.out.below hb3)
     clear hb3
     go_wp2_with fail
     go_ret
     unfold startPost
     rw [← HK.out, if_neg HK0.out, ← HSV.out.1, ← HSV.out.2, if_neg (by rw [HX.out]; exact Bool.false_ne_true), ← HS2.out.1, if_pos HAD.out.symm]
     exact ⟨H3.out.low, rfl⟩
    ·have hS3 := H2.out.below hb3
     have hdw := hid_mk (hdep.out w3 hb3)
     have cv3 : w3.cell? ⟨b, 1, none⟩ = some sv := (hb3.cell (p := ⟨b, 1, none⟩) (by obtain ⟨hd, _⟩ := H2.out.bd; exact (Array.getElem?_eq_some_iff.1 hd.1).1)).trans cv
     obtain ⟨d1, d2, d3, db, _⟩ := hS3.cells
     have H3 := hid_mk hS3
     obtain ⟨dl, hdl⟩ : ∃ dl, dl = s2.length := ⟨_, rfl⟩
     rw [← hdl] at hdw
     have HDL := hid_mk hdl
     clear hb3 hS3 hdl c1 c2 c3 cb cv hdep
     go_wp2_with fail
     (with_reducible refine hdw.out.mono ?_)
     rintro e w4 ⟨rfl, rfl⟩
     by_cases hdd : 200 ≤ dl
     ·have hdi : (200 : Int) ≤ (dl : Int) := by omega
      have HDD := hid_mk hdd
      clear hdd
      go_wp2_with fail
      go_ret
      unfold startPost
      rw [← HK.out, if_neg HK0.out, ← HSV.out.1, ← HSV.out.2, if_neg (by rw [HX.out]; exact Bool.false_ne_true), ← HS2.out.1, if_neg (by rw [← HAD.out]; exact Bool.noConfusion), ← HDL.out, if_pos HDD.out]
      exact ⟨H3.out.low, rfl⟩
     ·have hdi : ¬ (200 : Int) ≤ (dl : Int) := by omega
      have HDD := hid_mk hdd
      clear hdd
      obtain ⟨n, hnn⟩ : ∃ n, n = ns.length := ⟨_, rfl⟩
      have HN := hid_mk hnn
      have hbl3 : b < w3.heap.size := by obtain ⟨hd, _⟩ := H3.out.bd; exact (Array.getElem?_eq_some_iff.1 hd.1).1
      have htl3 : w.heap.size < w3.heap.size := (Array.getElem?_eq_some_iff.1 H3.out.tok).1
      rw [← hnn] at db
      clear hnn
      go_upto_region 11 with fail
      go_cut [6] from 38 to 46 (fun s6 wx => s6 = .pointer (some ⟨w3.heap.size, 0, none⟩) ∧ wx = (w3.alloc (.cells #[.int .i64 (n : Int), .string (strOf t.name), .int .u8 (k : Int)] 119 (0, 0))).drew)
      case first =>
       go_region_law (fail)
       all_goals
        go_wp2_with fail
        go_meet
        exact ⟨rfl, rfl⟩
      case rest =>
       obtain ⟨rfl, hwc⟩ := hcut
       have h3c : Below w3.heap.size w3 wc := by rw [hwc]; exact ((Below.refl _ _).alloc (Nat.le_refl _) _).drew
       have hE : wc.heap[w3.heap.size]? = some (.cells #[.int .i64 (n : Int), .string (strOf t.name), .int .u8 (k : Int)] 119 (0, 0)) := by rw [hwc]; exact heap_alloc_new w3 _
       have hSc := H3.out.below h3c
       obtain ⟨c1, c2, c3, cb, _⟩ := hSc.cells
       have Hc := hid_mk (And.intro hSc hE)
       have hkeep := hid_mk (show ∀ w', Below wc.heap.size wc w' → w'.cell? ⟨w.heap.size, 1, none⟩ = some (.string (strOf t.name)) ∧ w'.cell? ⟨w.heap.size, 2, none⟩ = some (.slice aa t.attrs.length ac) from fun w' hb' => ⟨(hSc.below hb').cells.1, (hSc.below hb').cells.2.1⟩)
       have hcl := hid_mk (fun w => clone_any (strOf t.name) w (by rw [size_strOf]; exact H.out.2.2.2.2.2.2.1))
       have hca := hid_mk (fun w' (hb : Below wc.heap.size wc w') => cloneAttrs_any (hSc.below hb).atr H.out.2.2.2.2.2.2.2.1 H.out.2.2.2.2.2.2.2.2.1)
       clear hwc h3c hE hSc d1 d2 d3 db cv3
       go_upto_region 12 with fail
       go_cut [7] from 47 to 55 (fun s7 wx => ∃ r : Int, s7 = .int .i64 r ∧ Hid (addR B b ns s2 bs p t k w3.heap.size w r wx))
       case first =>
        go_region_law
         (first
          | (go_simp
             go_at_call 101
             have hadd := add_any (Hc.out.1.below bB).bd H.out.1 p H.out.2.1 H.out.2.2.1 HS2.out.2 (topO_lt (fun o ho => H.out.2.2.2.2.1 o (closeS_mem (by rw [← HS2.out.1]; exact ho))) (by obtain ⟨_, _, _, _, hps⟩ := H3.out.bd; exact hps)) H.out.2.2.2.2.2.1 1 t.name [] t.attrs _ 0 (hvA.mono hvs) (by have := (Hc.out.1.below bB).size; exact this)
             unfold nodeA at hadd
             rw [show ((1 : Nat) : Int) = 1 from rfl, show strOf [] = ⟨#[]⟩ from rfl] at hadd
             (with_reducible refine hadd.mono ?_)
             intro e wC hpost
             have hx : ∃ r : Int, e = .returned (.int .i64 r) ∧ addR B b ns s2 bs p t k w3.heap.size w r wC := by
              by_cases hlim : 16384 ≤ ns.length
              ·rw [if_pos hlim] at hpost
               exact ⟨3, hpost.1, (Hc.out.1.below bB).low.trans (hpost.2.mono (Hc.out.1.below bB).size), .inl ⟨hlim, rfl⟩⟩
              ·rw [if_neg hlim] at hpost
               obtain ⟨h1, h2, h3, kv, h4⟩ := hpost
               refine ⟨0, h1, (Hc.out.1.below bB).low.trans h2, .inr ⟨hlim, rfl, ?_, kv, _, h4⟩⟩
               rw [← HN.out]
               exact h3 _ _ _ ((bB.block _ (Array.getElem?_eq_some_iff.1 Hc.out.2).1).trans Hc.out.2)
             obtain ⟨r, rfl, hr⟩ := hx
             have HR := hid_mk hr
             clear hadd hpost hr)
          | (go_simp
             go_at_call 103
             (with_reducible refine (hcl.out _).mono ?_)
             rintro e wA ⟨rfl, nA⟩
             have bA : Below wc.heap.size wc wA := ⟨nA.os, nA.tape, nA.output, nA.size, nA.block⟩
             obtain ⟨x1, x2⟩ := hkeep.out wA bA
             clear nA)
          | (go_simp
             go_at_call 104
             (with_reducible refine (hca.out _ bA).mono ?_)
             rintro e wB ⟨v2, rfl, hv2, nB⟩
             obtain ⟨va, vc, rfl⟩ := own_slice hv2
             have bB : Below wc.heap.size wc wB := bA.trans (nB.mono bA.size)
             have hvA := hv2
             have hvs : B ≤ wA.heap.size := (Hc.out.1.below bA).size
             clear nB hv2))
        all_goals
         go_wp2_with fail
         go_meet
         exact ⟨r, rfl, HR⟩
       case rest =>
        obtain ⟨r, rfl, HR⟩ := hcut
        clear c1 c2 c3 cb hkeep hcl hca
        rcases HR.out with ⟨hlow, ⟨hlim, rfl⟩ | ⟨hlim, rfl, hE, kv, av, hbd⟩⟩
        ·have HF := hid_mk (And.intro hlow hlim)
         clear hlow hlim HR
         go_wp2_with fail
         go_ret
         unfold startPost
         rw [← HK.out, if_neg HK0.out, ← HSV.out.1, ← HSV.out.2, if_neg (by rw [HX.out]; exact Bool.false_ne_true), ← HS2.out.1, if_neg (by rw [← HAD.out]; exact Bool.noConfusion), ← HDL.out, if_neg HDD.out, if_pos HF.out.2]
         exact ⟨HF.out.1, rfl⟩
        ·obtain ⟨cs5, g5, cap5, hbu⟩ := hbd.un
         have q0 : wc.cell? ⟨w3.heap.size, 0, none⟩ = some (.int .i64 (ns.length : Int)) := by rw [cell_of_row wc _ 0 _ _ _ hE]; rfl
         have q1 : wc.cell? ⟨w3.heap.size, 1, none⟩ = some (.string (strOf t.name)) := by rw [cell_of_row wc _ 1 _ _ _ hE]; rfl
         have q2 : wc.cell? ⟨w3.heap.size, 2, none⟩ = some (.int .u8 (k : Int)) := by rw [cell_of_row wc _ 2 _ _ _ hE]; rfl
         have HF := hid_mk (And.intro hlow (And.intro hlim hbu))
         clear hlow hlim hE hbd hbu HR
         go_wp2_with fail
         (with_reducible refine (hvoid.out _).mono ?_)
         rintro e w6 ⟨rfl, rfl⟩
         cases vd
         ·obtain ⟨hd5, htv5, htr5, hsk5, hps5⟩ := HF.out.2.2
          have hB6 : B ≤ wc.heap.size := by have := hd5.2.2.1; have := (Array.getElem?_eq_some_iff.1 hd5.1).1; omega
          have hpu := hid_mk (fun w' (hb : Below wc.heap.size wc w') => push_st ⟨ns.length, t.name, k⟩ (hsk5.below hb) HS2.out.2)
          dsimp only [opA] at hpu
          have HB6 := hid_mk hB6
          have hdr : Below wc.heap.size wc wc.drew := (Below.refl _ _).drew
          clear hd5 htv5 htr5 hsk5 hps5 hB6
          go_wp2_with fail
          go_region_law
           (go_simp
            go_at_call 86
            (with_reducible refine (hpu.out _ hdr).mono ?_)
            rintro e w7 ⟨rfl, hpo⟩
            have HP := hid_mk (HF.out.2.2.stpost (w' := w7) (by obtain ⟨cs8, y1, y2, y3⟩ := hpo; exact ⟨cs8, y1, y2, ⟨y3.os, y3.tape, y3.output, y3.size, y3.blocks⟩⟩) HB6.out)
            clear hpo)
          all_goals
           go_wp2_with fail
           go_ret
           unfold startPost
           rw [← HK.out, if_neg HK0.out, ← HSV.out.1, ← HSV.out.2, if_neg (by rw [HX.out]; exact Bool.false_ne_true), ← HS2.out.1, if_neg (by rw [← HAD.out]; exact Bool.noConfusion), ← HDL.out, if_neg HDD.out, if_neg HF.out.2.1]
           obtain ⟨⟨cs8, hb8⟩, hl8⟩ := HP.out
           exact ⟨HF.out.1.trans hl8, rfl, kv, av, hb8.pack⟩
         ·go_wp2_with fail
          go_ret
          unfold startPost
          rw [← HK.out, if_neg HK0.out, ← HSV.out.1, ← HSV.out.2, if_neg (by rw [HX.out]; exact Bool.false_ne_true), ← HS2.out.1, if_neg (by rw [← HAD.out]; exact Bool.noConfusion), ← HDL.out, if_neg HDD.out, if_neg HF.out.2.1]
          exact ⟨HF.out.1, rfl, kv, av, HF.out.2.2.pack⟩
   ·have HX := hid_mk hx
    go_wp2_with fail
    go_ret
    unfold startPost
    rw [← HK.out, if_neg HK0.out, ← HSV.out.1, ← HSV.out.2, if_pos HX.out]
    exact ⟨H1.out.low, rfl⟩
end Go.Proofs.YtlcijlklbabajaaGreatDoor
namespace Go.Proofs.YtlcijlklbabajaaGreatDoor
open Go.RowKit
def tokO (t : Tk) (av : Value) : Obj := .cells (tkCells t av) 25 (0, 0)
def takePost (B b g cap : Nat) (ns : List NdM) (st : List Opn) (bs : List UInt8) (p : NdM) (t : Tk) (first : Bool) (w w1 : World) (e : Ending) (w' : World) : Prop :=
 if t.kind = 5 then e = .returned (.int .i64 (if first then 0 else 51)) ∧ Below w.heap.size w w'
 else if t.kind = 3 then textPost B b ns st bs t.data p w1 e w'
 else if t.kind = 1 then startPost B b ns st bs p t w1 e w'
 else if t.kind = 2 then bendPost B b g cap ns st bs t.name w1 e w'
 else e = .returned (.int .i64 0) ∧ Below w.heap.size w w'
theorem textPost.ret {B b : Nat} {ns : List NdM} {st : List Opn} {bs d : List UInt8} {p : NdM} {w : World} {e : Ending} {w' : World} (h : textPost B b ns st bs d p w e w') : ∃ r : Int, e = .returned (.int .i64 r) := by
 unfold textPost at h
 split at h
 ·exact ⟨_, h.1⟩
 ·split at h
  ·exact ⟨_, h.1⟩
  ·split at h
   ·exact ⟨_, h.1⟩
   ·exact ⟨_, h.1⟩
theorem startPost.ret {B b : Nat} {ns : List NdM} {st : List Opn} {bs : List UInt8} {p : NdM} {t : Tk} {w : World} {e : Ending} {w' : World} (h : startPost B b ns st bs p t w e w') : ∃ r : Int, e = .returned (.int .i64 r) := by
 unfold startPost at h
 have h := h.2
 split at h
 ·exact ⟨_, h⟩
 ·split at h
  ·exact ⟨_, h⟩
  ·split at h
   ·exact ⟨_, h⟩
   ·split at h
    ·exact ⟨_, h⟩
    ·split at h
     ·exact ⟨_, h⟩
     ·exact ⟨_, h.1⟩
theorem bendPost.ret {B b g cap : Nat} {ns : List NdM} {st : List Opn} {bs nm : List UInt8} {w : World} {e : Ending} {w' : World} (h : bendPost B b g cap ns st bs nm w e w') : ∃ r : Int, e = .returned (.int .i64 r) := by
 unfold bendPost at h
 have h := h.2
 split at h
 ·exact ⟨_, h⟩
 ·split at h
  ·exact ⟨_, h.1⟩
  ·exact ⟨_, h⟩
set_option maxHeartbeats 4000000 in
set_option maxRecDepth 100000 in
theorem btake_any (hK : KindC) {B b g cap : Nat} {cs : Array Value} {ns : List NdM} {st : List Opn} {bs : List UInt8} {w : World} (h : BdU B b cs g cap ns st bs w) (hn : ns.length ≤ 16384) (p : NdM) (hp : ns[ns.length - 1]? = some p) (h2 : p.1.kind = 2 → bs ≠ []) (h2n : p.1.kind ≠ 2 → bs = []) (hst : st.length ≤ 10000) (hup : ∀ o ∈ st, o.node < ns.length) (hks : ∀ q ∈ ns, q.1.kids.length ≤ 16384)
 (t : Tk) (B0 : Nat) (av : Value) (first : Bool) (hav : AtRow B0 av t.attrs w) (hsm : bs.length + t.data.length ≤ 1000000000) (hsn : t.name.length ≤ 1000000000) (hne : t.kind = 2 → t.name ≠ []) (hal : t.attrs.length ≤ 100000) (has : ∀ a ∈ t.attrs, a.1.length ≤ 1000000000 ∧ a.2.length ≤ 1000000000) (hB : B ≤ w.heap.size) :
 Calls Tryz.prog 36 #[.pointer (some ⟨b, 0, none⟩), .agg (tkCells t av), .bool first] w (takePost B b g cap ns st bs p t first w (w.alloc (tokO t av))) := by
 obtain ⟨aa, ac, rfl⟩ := own_slice hav
 have hal0 : Below w.heap.size w (w.alloc (tokO t (.slice aa t.attrs.length ac))) := (Below.refl _ _).alloc (Nat.le_refl _) _
 have hbu := h.below hal0
 have hav0 := hav.below hal0
 have hB0 := Nat.le_trans hB hal0.size
 have hup0 : (topO st).node < ns.length := topO_lt hup (by obtain ⟨_, _, _, _, hps⟩ := h; exact hps)
 have htx := hid_mk (btext_any hbu hn p hp h2 h2n hst hup0 hks t.data hsm hB0)
 have hstt := hid_mk (start_any hK hbu hn p hp h2 hst hup hks t B0 _ hav0 hsn hal has hB0)
 have hen := hid_mk (fun hk2 : t.kind = 2 => bend_any hK hbu (strOf t.name) hst (by rw [size_strOf]; exact hsn) (by rw [sl_strOf]; exact hne hk2) hB0)
 rw [sl_strOf] at hen
 have HA := hid_mk hal0
 unfold tokO at htx hstt hen HA
 unfold tokO
 unfold tkCells at htx hstt hen HA ⊢
 obtain ⟨k, hk⟩ : ∃ k, k = t.kind := ⟨_, rfl⟩
 rw [← hk] at htx hstt hen HA ⊢
 have HK := hid_mk hk
 clear h hn hp h2 h2n hst hup hks hav hsm hsn hne hal has hB hal0 hbu hav0 hB0 hup0 hk
 by_cases h5 : k = 5
 ·have q5 : ((k : Int) == 5) = true := by rw [h5]; rfl
  have HP := hid_mk h5
  clear h5 htx hstt hen
  cases first
  all_goals
   go_enter Tryz.func36, Tryz.ntmps36
   go_wp2_with fail
   go_ret
   unfold takePost
   rw [← HK.out, if_pos HP.out]
   exact ⟨rfl, HA.out⟩
 ·have q5 : ((k : Int) == 5) = false := beq_false_of_ne (by omega)
  by_cases h3 : k = 3
  ·have q3 : ((k : Int) == 3) = true := by rw [h3]; rfl
   have HP := hid_mk (And.intro h5 h3)
   clear h5 h3 hstt hen
   go_enter Tryz.func36, Tryz.ntmps36
   go_wp2_with fail
   (with_reducible refine htx.out.mono ?_)
   intro e w1 hpost
   obtain ⟨r, rfl⟩ := hpost.ret
   have HX := hid_mk hpost
   clear hpost
   go_wp2_with fail
   go_ret
   unfold takePost
   rw [← HK.out, if_neg HP.out.1, if_pos HP.out.2]
   exact HX.out
  ·have q3 : ((k : Int) == 3) = false := beq_false_of_ne (by omega)
   by_cases h1 : k = 1
   ·have q1 : ((k : Int) == 1) = true := by rw [h1]; rfl
    have HP := hid_mk (And.intro h5 (And.intro h3 h1))
    clear h5 h3 h1 htx hen
    go_enter Tryz.func36, Tryz.ntmps36
    go_wp2_with fail
    (with_reducible refine hstt.out.mono ?_)
    intro e w1 hpost
    obtain ⟨r, rfl⟩ := hpost.ret
    have HX := hid_mk hpost
    clear hpost
    go_wp2_with fail
    go_ret
    unfold takePost
    rw [← HK.out, if_neg HP.out.1, if_neg HP.out.2.1, if_pos HP.out.2.2]
    exact HX.out
   ·have q1 : ((k : Int) == 1) = false := beq_false_of_ne (by omega)
    by_cases h2 : k = 2
    ·have q2 : ((k : Int) == 2) = true := by rw [h2]; rfl
     have HP := hid_mk (And.intro h5 (And.intro h3 (And.intro h1 h2)))
     have hen := hid_mk (hen.out h2)
     clear h5 h3 h1 h2 htx hstt
     go_enter Tryz.func36, Tryz.ntmps36
     go_wp2_with fail
     (with_reducible refine hen.out.mono ?_)
     intro e w1 hpost
     obtain ⟨r, rfl⟩ := hpost.ret
     have HX := hid_mk hpost
     clear hpost
     go_wp2_with fail
     go_ret
     unfold takePost
     rw [← HK.out, if_neg HP.out.1, if_neg HP.out.2.1, if_neg HP.out.2.2.1, if_pos HP.out.2.2.2]
     exact HX.out
    ·have q2 : ((k : Int) == 2) = false := beq_false_of_ne (by omega)
     have HP := hid_mk (And.intro h5 (And.intro h3 (And.intro h1 h2)))
     clear h5 h3 h1 h2 htx hstt hen
     go_enter Tryz.func36, Tryz.ntmps36
     go_wp2_with fail
     go_ret
     unfold takePost
     rw [← HK.out, if_neg HP.out.1, if_neg HP.out.2.1, if_neg HP.out.2.2.1, if_neg HP.out.2.2.2]
     exact ⟨rfl, HA.out⟩
end Go.Proofs.YtlcijlklbabajaaGreatDoor
namespace Go.Proofs.YtlcijlklbabajaaGreatDoor
theorem kidN_map (ns : List NdM) (up k : Nat) (kv : Value) : (kidN ns up kv k).map (·.1) = addKid (ns.map (·.1)) up k := by
 apply List.ext_getElem?
 intro i
 unfold kidN addKid
 rw [List.getElem?_map, List.getElem?_modify, List.getElem?_modify, List.getElem?_map]
 split <;> cases ns[i]? <;> rfl
theorem endN_snoc (l : List NdM) (q : NdM) (d : List UInt8) : endN (l ++ [q]) d = l ++ [({ q.1 with data := d }, q.2)] := by
 unfold endN
 apply List.ext_getElem?
 intro i
 rw [List.getElem?_modify, List.length_append, List.length_singleton, Nat.add_sub_cancel]
 by_cases e : l.length = i
 ·subst e
  simp
 ·by_cases h : i < l.length
  ·rw [List.getElem?_append_left h, List.getElem?_append_left h]
   cases l[i]? <;> simp [e]
  ·rw [List.getElem?_eq_none (by simp; omega), List.getElem?_eq_none (by simp; omega)]
   rfl
theorem endN_map (ns : List NdM) (d : List UInt8) : (endN ns d).map (·.1) = (ns.map (·.1)).modify (ns.length - 1) fun n => { n with data := d } := by
 apply List.ext_getElem?
 intro i
 unfold endN
 rw [List.getElem?_map, List.getElem?_modify, List.getElem?_modify, List.getElem?_map]
 split <;> cases ns[i]? <;> rfl
/-- The plain tree of what lies there: the last text with its bytes. -/
def plN (ns : List NdM) (bs : List UInt8) (p : NdM) : List Nd := (endNs ns bs p).map (·.1)
theorem plN_length (ns : List NdM) (bs : List UInt8) (p : NdM) : (plN ns bs p).length = ns.length := by unfold plN; rw [List.length_map, endNs_length]
/-- A node more that is no text. -/
theorem plN_add {ns : List NdM} {bs bs' : List UInt8} {p q : NdM} {up : Nat} {kv : Value} (hq : q.1.kind ≠ 2) :
 plN (kidN (endNs ns bs p) up kv ns.length ++ [q]) bs' q = addKid (plN ns bs p) up (plN ns bs p).length ++ [q.1] := by
 rw [plN_length]
 unfold plN
 rw [show endNs (kidN (endNs ns bs p) up kv ns.length ++ [q]) bs' q = kidN (endNs ns bs p) up kv ns.length ++ [q] from if_neg hq, List.map_append, kidN_map]
 rfl
/-- A text more. -/
theorem plN_text {ns : List NdM} {bs d : List UInt8} {p q : NdM} {up : Nat} {kv : Value} (hq : q.1.kind = 2) :
 plN (kidN (endNs ns bs p) up kv ns.length ++ [q]) d q = addKid (plN ns bs p) up (plN ns bs p).length ++ [{ q.1 with data := d }] := by
 rw [plN_length]
 unfold plN
 rw [show endNs (kidN (endNs ns bs p) up kv ns.length ++ [q]) d q = endN (kidN (endNs ns bs p) up kv ns.length ++ [q]) d from if_pos hq, endN_snoc, List.map_append, kidN_map]
 rfl
/-- The last text grows. -/
theorem plN_grow {ns : List NdM} {bs d : List UInt8} {p : NdM} (hp : p.1.kind = 2) :
 plN ns (bs ++ d) p = (plN ns bs p).modify ((plN ns bs p).length - 1) fun n => { n with data := n.data ++ d } := by
 rw [plN_length]
 unfold plN
 rw [show endNs ns (bs ++ d) p = endN ns (bs ++ d) from if_pos hp, show endNs ns bs p = endN ns bs from if_pos hp, endN_map, endN_map]
 apply List.ext_getElem?
 intro i
 rw [List.getElem?_modify, List.getElem?_modify, List.getElem?_modify]
 by_cases e : ns.length - 1 = i
 ·cases (List.map (fun x => x.1) ns)[i]? <;> simp [e]
 ·cases (List.map (fun x => x.1) ns)[i]? <;> simp [e]
end Go.Proofs.YtlcijlklbabajaaGreatDoor
namespace Go.Proofs.YtlcijlklbabajaaGreatDoor
open Go.RowKit
/-- The builder in block b is the plain one; n bounds the last text's bytes. -/
def BInv (B b : Nat) (bd : Bd) (n : Nat) (ns : List NdM) (bs : List UInt8) (p : NdM) (w : World) : Prop :=
 BdM B b ns bd.opn bs w ∧ bd.tree = plN ns bs p ∧ ns[ns.length - 1]? = some p ∧ (p.1.kind = 2 → bs ≠ []) ∧ (p.1.kind ≠ 2 → bs = []) ∧ bd.opn.length ≤ 200 ∧ (∀ o ∈ bd.opn, o.node < ns.length) ∧ ns.length ≤ 16384 ∧ (∀ q ∈ ns, q.1.kids.length ≤ ns.length) ∧ bs.length ≤ n ∧ B ≤ w.heap.size
theorem plN_last {ns : List NdM} {bs : List UInt8} {p : NdM} (hp : ns[ns.length - 1]? = some p) (d : Nd) : ((plN ns bs p).getLastD d).kind = p.1.kind ∧ ((plN ns bs p).getLastD d).up = p.1.up := by
 have hne : ns ≠ [] := by rintro rfl; simp at hp
 have hl : (plN ns bs p).getLastD d = ((plN ns bs p)[(plN ns bs p).length - 1]?).getD d := by
  rw [List.getLastD_eq_getLast?, List.getLast?_eq_getElem?]
 rw [hl, plN_length]
 unfold plN
 rw [List.getElem?_map]
 unfold endNs
 split
 ·unfold endN
  rw [List.getElem?_modify, hp]
  simp
 ·rw [hp]
  exact ⟨rfl, rfl⟩
theorem kidN_length (ns : List NdM) (up : Nat) (kv : Value) (k : Nat) : (kidN ns up kv k).length = ns.length := by unfold kidN; rw [List.length_modify]
theorem kids_next {ns : List NdM} {bs : List UInt8} {p q : NdM} {up : Nat} {kv : Value} (h : ∀ r ∈ ns, r.1.kids.length ≤ ns.length) (hq : q.1.kids = []) :
 ∀ r ∈ kidN (endNs ns bs p) up kv ns.length ++ [q], r.1.kids.length ≤ (kidN (endNs ns bs p) up kv ns.length ++ [q]).length := by
 intro r hr
 rw [List.length_append, kidN_length, endNs_length]
 rw [List.mem_append] at hr
 rcases hr with hr | hr
 ·have h1 : ∀ r ∈ endNs ns bs p, r.1.kids.length ≤ ns.length := by
   unfold endNs endN
   intro r hr
   split at hr
   ·obtain ⟨i, hi⟩ := List.mem_iff_getElem?.1 hr
    rw [List.getElem?_modify] at hi
    cases hx : ns[i]? with
    | none => rw [hx] at hi; split at hi <;> cases hi
    | some x =>
      rw [hx] at hi
      have := h x (List.mem_of_getElem? hx)
      split at hi
      ·obtain rfl := Option.some.inj (show some _ = some r from hi)
       exact this
      ·obtain rfl := Option.some.inj (show some _ = some r from hi)
       exact this
   ·exact h r hr
  unfold kidN at hr
  obtain ⟨i, hi⟩ := List.mem_iff_getElem?.1 hr
  rw [List.getElem?_modify] at hi
  cases hx : (endNs ns bs p)[i]? with
  | none => rw [hx] at hi; split at hi <;> cases hi
  | some x =>
    rw [hx] at hi
    have := h1 x (List.mem_of_getElem? hx)
    split at hi
    ·obtain rfl := Option.some.inj (show some _ = some r from hi)
     simp
     omega
    ·obtain rfl := Option.some.inj (show some _ = some r from hi)
     simp
     omega
 ·rw [List.mem_singleton.1 hr, hq]
  simp
theorem BInv.below {B b n : Nat} {bd : Bd} {ns : List NdM} {bs : List UInt8} {p : NdM} {w w' : World} (h : BInv B b bd n ns bs p w) (hb : Below w.heap.size w w') : BInv B b bd n ns bs p w' := by
 obtain ⟨h0, h⟩ := h
 refine ⟨?_, h.1, h.2.1, h.2.2.1, h.2.2.2.1, h.2.2.2.2.1, h.2.2.2.2.2.1, h.2.2.2.2.2.2.1, h.2.2.2.2.2.2.2.1, h.2.2.2.2.2.2.2.2.1, Nat.le_trans h.2.2.2.2.2.2.2.2.2 hb.size⟩
 obtain ⟨cs, g, cap, hu⟩ := h0.un
 exact (hu.below hb).pack
theorem BInv.more {B b n m : Nat} {bd : Bd} {ns : List NdM} {bs : List UInt8} {p : NdM} {w : World} (h : BInv B b bd n ns bs p w) (hm : n ≤ m) : BInv B b bd m ns bs p w :=
 ⟨h.1, h.2.1, h.2.2.1, h.2.2.2.1, h.2.2.2.2.1, h.2.2.2.2.2.1, h.2.2.2.2.2.2.1, h.2.2.2.2.2.2.2.1, h.2.2.2.2.2.2.2.2.1, Nat.le_trans h.2.2.2.2.2.2.2.2.2.1 hm, h.2.2.2.2.2.2.2.2.2.2⟩
theorem last_snoc {α : Type} (l : List α) (a : α) : (l ++ [a])[(l ++ [a]).length - 1]? = some a := by
 rw [List.length_append, List.length_singleton, Nat.add_sub_cancel]
 simp
theorem closeE_suffix {nm : List UInt8} {st st' : List Opn} (h : closeE nm st = some st') : (∀ o ∈ st', o ∈ st) ∧ st'.length ≤ st.length := by
 unfold closeE at h
 have h1 := List.dropWhile_suffix (l := st) fun o => endsToo (kindL nm) o.kind
 generalize (st.dropWhile fun o => endsToo (kindL nm) o.kind) = s1 at *
 have h : (if ((topO s1).name == nm) = true then some s1.tail else none) = some st' := h
 split at h
 ·injection h with h
  subst h
  refine ⟨fun o ho => h1.subset (List.mem_of_mem_tail ho), ?_⟩
  have := h1.length_le
  rw [List.length_tail]
  omega
 ·cases h
/-- What a token's step leaves. -/
def StepR (B b : Nat) (bd : Bd) (n : Nat) (t : Tk) (first : Bool) (w : World) (e : Ending) (w' : World) : Prop :=
 e = .returned (.int .i64 ((takeB bd t first).1 : Int)) ∧ Below B w w' ∧ ((takeB bd t first).1 = 0 → ∃ ns bs p, BInv B b (takeB bd t first).2 (n + t.data.length) ns bs p w')
theorem BInv.text {B b n : Nat} {bd : Bd} {ns : List NdM} {bs d : List UInt8} {p : NdM} {w : World} {e : Ending} {w' : World} (h : BInv B b bd n ns bs p w) (hp : textPost B b ns bd.opn bs d p w e w') :
 e = .returned (.int .i64 ((textB bd d).1 : Int)) ∧ Below B w w' ∧ ((textB bd d).1 = 0 → ∃ ns bs p, BInv B b (textB bd d).2 (n + d.length) ns bs p w') := by
 have hB := h.2.2.2.2.2.2.2.2.2.2
 have hlast := plN_last (bs := bs) h.2.2.1 ⟨0, [], [], [], -1, []⟩
 rw [← h.2.1] at hlast
 have hlen : bd.tree.length = ns.length := by rw [h.2.1, plN_length]
 unfold textPost at hp
 unfold textB
 by_cases hd : d = []
 ·rw [if_pos hd] at hp ⊢
  obtain ⟨rfl, hb⟩ := hp
  exact ⟨rfl, hb.mono hB, fun _ => ⟨ns, bs, p, (h.below hb).more (by omega)⟩⟩
 ·rw [if_neg hd] at hp ⊢
  rw [hlast.1, hlast.2]
  by_cases hk : p.1.kind = 2 ∧ p.1.up = ((topO bd.opn).node : Int)
  ·rw [if_pos hk] at hp
   rw [if_pos (by rw [hk.1, hk.2]; simp)]
   obtain ⟨rfl, hb, hm⟩ := hp
   refine ⟨rfl, hb, fun _ => ⟨ns, bs ++ d, p, hm, ?_, h.2.2.1, fun _ => by simp [hd], fun hx => absurd hk.1 hx, h.2.2.2.2.2.1, h.2.2.2.2.2.2.1, h.2.2.2.2.2.2.2.1, h.2.2.2.2.2.2.2.2.1, ?_, Nat.le_trans hB hb.size⟩⟩
   ·rw [plN_grow hk.1, h.2.1]
   ·rw [List.length_append]
    have := h.2.2.2.2.2.2.2.2.2.1
    omega
  ·rw [if_neg hk] at hp
   rw [if_neg (by rw [Bool.and_eq_true, beq_iff_eq, beq_iff_eq]; exact hk)]
   unfold addN
   rw [hlen]
   by_cases hn : 16384 ≤ ns.length
   ·rw [if_pos hn] at hp ⊢
    obtain ⟨rfl, hb⟩ := hp
    exact ⟨rfl, hb.mono hB, fun h0 => Nat.noConfusion h0⟩
   ·rw [if_neg hn] at hp ⊢
    obtain ⟨rfl, hb, kv, hm⟩ := hp
    refine ⟨rfl, hb, fun _ => ⟨_, d, _, hm, ?_, last_snoc _ _, fun _ => hd, fun hx => absurd rfl hx, h.2.2.2.2.2.1, ?_, ?_, kids_next h.2.2.2.2.2.2.2.2.1 rfl, by omega, Nat.le_trans hB hb.size⟩⟩
    ·rw [plN_text rfl]
     show addKid bd.tree _ _ ++ _ = _
     rw [h.2.1, plN_length]
    ·intro o ho
     have := h.2.2.2.2.2.2.1 o ho
     rw [List.length_append, kidN_length, endNs_length]
     simp
     omega
    ·rw [List.length_append, kidN_length, endNs_length]
     simp
     omega
theorem BInv.start {B b n : Nat} {bd : Bd} {ns : List NdM} {bs : List UInt8} {p : NdM} {t : Tk} {w : World} {e : Ending} {w' : World} (h : BInv B b bd n ns bs p w) (hp : startPost B b ns bd.opn bs p t w e w') :
 e = .returned (.int .i64 ((startB bd t).1 : Int)) ∧ Below B w w' ∧ ((startB bd t).1 = 0 → ∃ ns bs p, BInv B b (startB bd t).2 n ns bs p w') := by
 have hB := h.2.2.2.2.2.2.2.2.2.2
 have hlen : bd.tree.length = ns.length := by rw [h.2.1, plN_length]
 unfold startPost at hp
 unfold startB
 obtain ⟨hb, hp⟩ := hp
 by_cases h0 : kindL t.name = 0
 ·rw [if_pos h0] at hp ⊢
  exact ⟨hp, hb, fun hx => Nat.noConfusion hx⟩
 rw [if_neg h0] at hp ⊢
 by_cases h1 : (t.self && !voidK (kindL t.name)) = true
 ·rw [if_pos h1] at hp ⊢
  exact ⟨hp, hb, fun hx => Nat.noConfusion hx⟩
 rw [if_neg h1] at hp ⊢
 by_cases h2 : admitsO (kindL t.name) (closeS (kindL t.name) bd.opn) = false
 ·rw [if_pos h2] at hp
  rw [if_pos (by rw [h2]; rfl)]
  exact ⟨hp, hb, fun hx => Nat.noConfusion hx⟩
 rw [if_neg h2] at hp
 rw [if_neg (by simpa using h2)]
 by_cases h3 : 200 ≤ (closeS (kindL t.name) bd.opn).length
 ·rw [if_pos h3] at hp ⊢
  exact ⟨hp, hb, fun hx => Nat.noConfusion hx⟩
 rw [if_neg h3] at hp ⊢
 unfold addN
 simp only [hlen]
 by_cases h4 : 16384 ≤ ns.length
 ·rw [if_pos h4] at hp ⊢
  exact ⟨hp, hb, fun hx => Nat.noConfusion hx⟩
 rw [if_neg h4] at hp ⊢
 obtain ⟨rfl, kv, av, hm⟩ := hp
 have hcl := closeS_length (kindL t.name) bd.opn
 have hend : endBs bs p = [] := by
  unfold endBs
  split
  ·rfl
  ·rename_i hx
   exact h.2.2.2.2.1 hx
 have hop : (if voidK (kindL t.name) = true then (⟨addKid bd.tree (topO (closeS (kindL t.name) bd.opn)).node ns.length ++ [({ (⟨1, t.name, t.attrs, [], 0, []⟩ : Nd) with up := ((topO (closeS (kindL t.name) bd.opn)).node : Int) } : Nd)], closeS (kindL t.name) bd.opn⟩ : Bd)
  else ⟨addKid bd.tree (topO (closeS (kindL t.name) bd.opn)).node ns.length ++ [({ (⟨1, t.name, t.attrs, [], 0, []⟩ : Nd) with up := ((topO (closeS (kindL t.name) bd.opn)).node : Int) } : Nd)], ⟨ns.length, t.name, kindL t.name⟩ :: closeS (kindL t.name) bd.opn⟩).opn =
  (if voidK (kindL t.name) = true then closeS (kindL t.name) bd.opn else ⟨ns.length, t.name, kindL t.name⟩ :: closeS (kindL t.name) bd.opn) := by
  split <;> rfl
 have htr : (if voidK (kindL t.name) = true then (⟨addKid bd.tree (topO (closeS (kindL t.name) bd.opn)).node ns.length ++ [({ (⟨1, t.name, t.attrs, [], 0, []⟩ : Nd) with up := ((topO (closeS (kindL t.name) bd.opn)).node : Int) } : Nd)], closeS (kindL t.name) bd.opn⟩ : Bd)
  else ⟨addKid bd.tree (topO (closeS (kindL t.name) bd.opn)).node ns.length ++ [({ (⟨1, t.name, t.attrs, [], 0, []⟩ : Nd) with up := ((topO (closeS (kindL t.name) bd.opn)).node : Int) } : Nd)], ⟨ns.length, t.name, kindL t.name⟩ :: closeS (kindL t.name) bd.opn⟩).tree =
  addKid bd.tree (topO (closeS (kindL t.name) bd.opn)).node ns.length ++ [(⟨1, t.name, t.attrs, [], ((topO (closeS (kindL t.name) bd.opn)).node : Int), []⟩ : Nd)] := by
  split <;> rfl
 refine ⟨rfl, hb, fun _ => ⟨kidN (endNs ns bs p) (topO (closeS (kindL t.name) bd.opn)).node kv ns.length ++ [(⟨1, t.name, t.attrs, [], ((topO (closeS (kindL t.name) bd.opn)).node : Int), []⟩, av, .slice none 0 0)], [], (⟨1, t.name, t.attrs, [], ((topO (closeS (kindL t.name) bd.opn)).node : Int), []⟩, av, .slice none 0 0), ?_, ?_, last_snoc _ _, fun hx => absurd (show (1 : Nat) = 2 from hx) (by decide), fun _ => rfl, ?_, ?_, ?_, kids_next h.2.2.2.2.2.2.2.2.1 rfl, Nat.zero_le _, Nat.le_trans hB hb.size⟩⟩
 ·show BdM B b _ _ [] w'
  rw [hend] at hm
  exact hop ▸ hm
 ·show (_ : List Nd) = _
  rw [plN_add (show (1 : Nat) ≠ 2 by decide), plN_length, ← h.2.1]
  exact htr
 ·show (_ : List Opn).length ≤ 200
  have hle : ∀ (x y : List Opn), x = y → y.length ≤ 200 → x.length ≤ 200 := fun x y e h => by rw [e]; exact h
  refine hle _ _ hop ?_
  split
  ·omega
  ·simp
   omega
 ·intro o ho
  have ho : o ∈ (if voidK (kindL t.name) = true then closeS (kindL t.name) bd.opn else ⟨ns.length, t.name, kindL t.name⟩ :: closeS (kindL t.name) bd.opn) := hop ▸ ho
  rw [List.length_append, kidN_length, endNs_length]
  have hcm : ∀ o ∈ closeS (kindL t.name) bd.opn, o.node < ns.length := fun o ho => h.2.2.2.2.2.2.1 o (closeS_mem ho)
  split at ho
  ·have := hcm o ho
   simp
   omega
  ·rw [List.mem_cons] at ho
   rcases ho with rfl | ho
   ·simp
   ·have := hcm o ho
    simp
    omega
 ·rw [List.length_append, kidN_length, endNs_length]
  simp
  omega
theorem BInv.ends {B b n g cap : Nat} {bd : Bd} {ns : List NdM} {bs nm : List UInt8} {p : NdM} {w : World} {e : Ending} {w' : World} (h : BInv B b bd n ns bs p w) (hp : bendPost B b g cap ns bd.opn bs nm w e w') :
 e = .returned (.int .i64 ((endB bd nm).1 : Int)) ∧ Below B w w' ∧ ((endB bd nm).1 = 0 → ∃ ns bs p, BInv B b (endB bd nm).2 n ns bs p w') := by
 have hB := h.2.2.2.2.2.2.2.2.2.2
 unfold bendPost at hp
 unfold endB
 obtain ⟨hb, hp⟩ := hp
 by_cases h0 : kindL nm = 0
 ·rw [if_pos h0] at hp ⊢
  exact ⟨hp, hb, fun hx => Nat.noConfusion hx⟩
 rw [if_neg h0] at hp ⊢
 cases hc : closeE nm bd.opn with
 | none =>
   rw [hc] at hp
   exact ⟨hp, hb, fun hx => Nat.noConfusion hx⟩
 | some st' =>
   rw [hc] at hp
   obtain ⟨rfl, cs', hm⟩ := hp
   obtain ⟨hs1, hs2⟩ := closeE_suffix hc
   refine ⟨rfl, hb, fun _ => ⟨ns, bs, p, hm.pack, h.2.1, h.2.2.1, h.2.2.2.1, h.2.2.2.2.1, ?_, fun o ho => h.2.2.2.2.2.2.1 o (hs1 o ho), h.2.2.2.2.2.2.2.1, h.2.2.2.2.2.2.2.2.1, h.2.2.2.2.2.2.2.2.2.1, Nat.le_trans hB hb.size⟩⟩
   have := h.2.2.2.2.2.1
   show st'.length ≤ 200
   omega
theorem BInv.step {B b n g cap : Nat} {bd : Bd} {ns : List NdM} {bs : List UInt8} {p : NdM} {t : Tk} {av : Value} {first : Bool} {w : World} {e : Ending} {w' : World} (h : BInv B b bd n ns bs p w) (hp : takePost B b g cap ns bd.opn bs p t first w (w.alloc (tokO t av)) e w') : StepR B b bd n t first w e w' := by
 have hB := h.2.2.2.2.2.2.2.2.2.2
 have hal : Below w.heap.size w (w.alloc (tokO t av)) := (Below.refl _ _).alloc (Nat.le_refl _) _
 have h' := h.below hal
 unfold takePost at hp
 unfold StepR takeB
 by_cases h5 : t.kind = 5
 ·rw [if_pos h5] at hp ⊢
  obtain ⟨rfl, hb⟩ := hp
  cases first with
  | true => exact ⟨rfl, hb.mono hB, fun _ => ⟨ns, bs, p, (h.below hb).more (by omega)⟩⟩
  | false => exact ⟨rfl, hb.mono hB, fun hx => Nat.noConfusion hx⟩
 rw [if_neg h5] at hp ⊢
 by_cases h3 : t.kind = 3
 ·rw [if_pos h3] at hp ⊢
  obtain ⟨a, b, c⟩ := h'.text hp
  exact ⟨a, (hal.mono hB).trans b, c⟩
 rw [if_neg h3] at hp ⊢
 by_cases h1 : t.kind = 1
 ·rw [if_pos h1] at hp ⊢
  obtain ⟨a, b, c⟩ := h'.start hp
  exact ⟨a, (hal.mono hB).trans b, fun h0 => by obtain ⟨x, y, z, q⟩ := c h0; exact ⟨x, y, z, q.more (by omega)⟩⟩
 rw [if_neg h1] at hp ⊢
 by_cases h2 : t.kind = 2
 ·rw [if_pos h2] at hp ⊢
  obtain ⟨a, b, c⟩ := h'.ends hp
  exact ⟨a, (hal.mono hB).trans b, fun h0 => by obtain ⟨x, y, z, q⟩ := c h0; exact ⟨x, y, z, q.more (by omega)⟩⟩
 rw [if_neg h2] at hp ⊢
 obtain ⟨rfl, hb⟩ := hp
 exact ⟨rfl, hb.mono hB, fun _ => ⟨ns, bs, p, (h.below hb).more (by omega)⟩⟩
end Go.Proofs.YtlcijlklbabajaaGreatDoor
namespace Go.Proofs.YtlcijlklbabajaaGreatDoor
theorem tag_name {k : Nat} {l r : List UInt8} {t : Tk} (h : tagL k l = (0, t, r)) : t.name.length ≤ l.length := by
 unfold tagL at h
 split at h
 ·injection h with h _; cases h
 ·split at h
  ·injection h with _ h
   injection h with h1 _
   subst h1
   show (smL (upL l _)).length ≤ _
   unfold smL
   rw [List.length_map]
   exact up_le l _
  ·injection h with h _; cases h
theorem one_name {l r : List UInt8} {t : Tk} (h : oneL l = (0, t, r)) : t.name.length ≤ l.length := by
 have hd : ∀ n, (l.drop n).length ≤ l.length := fun n => by rw [List.length_drop]; omega
 unfold oneL at h
 split at h
 ·injection h with _ h; injection h with h1 _; subst h1; exact Nat.zero_le _
 ·split at h
  ·exact Nat.le_trans (tag_name h) (hd 1)
  ·split at h
   ·unfold endL at h
    split at h
    ·injection h with h _; cases h
    ·split at h
     ·injection h with h _; cases h
     ·exact Nat.le_trans (tag_name h) (hd 2)
   ·split at h
    ·unfold comL at h
     split at h
     ·injection h with h _; cases h
     ·injection h with _ h; injection h with h1 _; subst h1; exact Nat.zero_le _
    ·split at h
     ·unfold docL at h
      split at h
      ·injection h with _ h; injection h with h1 _; subst h1; exact Nat.zero_le _
      ·injection h with h _; cases h
     ·injection h with h _; cases h
theorem toks_size : ∀ (ts : List Tk) {l : List UInt8}, toksL l = (0, 0, ts) → ts.length ≤ l.length ∧ ∀ t ∈ ts, t.name.length ≤ l.length
 | [], _, _ => ⟨Nat.zero_le _, fun t h => nomatch h⟩
 | t :: ts, l, h => by
   have hl : l ≠ [] := by
    intro e
    rw [e, toksL_nil] at h
    injection h with _ h; injection h with _ h; cases h
   rw [toksL_step l hl] at h
   split at h
   ·rename_i h1
    split at h
    ·rename_i h2
     injection h with _ h
     injection h with _ h
     injection h with h3 h4
     have hone : oneL l = (0, t, (oneL l).2.2) := by rw [← h3, ← h1]
     have hr : toksL (oneL l).2.2 = (0, 0, ts) := by
      have h5 : (toksL (oneL l).2.2).2.1 = 0 := toksL_place h2
      generalize toksL (oneL l).2.2 = R at *
      obtain ⟨r1, r2, r3⟩ := R
      simp only at h2 h4 h5
      rw [h2, h4, h5]
     have hlt : (oneL l).2.2.length < l.length := by
      rcases oneL_cases l hl with ⟨_, h⟩ | h | h | h | h
      ·exact h
      all_goals omega
     obtain ⟨d, e⟩ := toks_size ts hr
     refine ⟨by rw [List.length_cons]; omega, fun u hu => ?_⟩
     rcases List.mem_cons.1 hu with rfl | hu
     ·exact one_name hone
     ·have := e u hu; omega
    ·rename_i h2
     injection h with h _
     exact absurd h h2
   ·rename_i h1
    injection h with h _
    exact absurd h h1
theorem tokensL_size (l : List UInt8) : (tokensL l).2.2.length ≤ 65536 ∧ ∀ t ∈ (tokensL l).2.2, t.name.length ≤ 65536 := by
 have hn : ([] : List Tk).length ≤ 65536 ∧ ∀ t ∈ ([] : List Tk), t.name.length ≤ 65536 := ⟨by simp, fun t h => nomatch h⟩
 unfold tokensL
 split
 ·exact hn
 ·rename_i hl
  split
  ·exact hn
  ·split
   ·rename_i h
    have hp := toksL_place h
    have := toks_size (toksL l).2.2 (l := l) (by
     generalize toksL l = R at *
     obtain ⟨r1, r2, r3⟩ := R
     simp only at h hp
     rw [h, hp])
    exact ⟨Nat.le_trans this.1 (by omega), fun t ht => Nat.le_trans (this.2 t ht) (by omega)⟩
   ·exact hn
theorem trimS_len (l s : List UInt8) : (Lib.trimS l s).length ≤ l.length := by
 unfold Lib.trimS Lib.trimLeftS Lib.trimRightS
 have h1 := (List.dropWhile_suffix (l := l.reverse) (s.contains ·)).length_le
 have h2 := (List.dropWhile_suffix (l := (l.reverse.dropWhile (s.contains ·)).reverse) (s.contains ·)).length_le
 rw [List.length_reverse] at h1
 rw [List.length_reverse] at h2
 exact Nat.le_trans h2 h1
theorem value_len {l v r : List UInt8} (h : valueL l = some (v, r)) : v.length ≤ l.length := by have := valueL_le h; omega
theorem attr_len {l r : List UInt8} {a : List UInt8 × List UInt8} (h : attrL l = some (a, r)) : a.1.length ≤ l.length ∧ a.2.length ≤ 4 * l.length ∧ r.length ≤ l.length := by
 have hr := attrL_le h
 unfold attrL at h
 have u1 := up_le l [9, 10, 12, 32, 61, 47, 62]
 have d1 := down_le l [9, 10, 12, 32, 61, 47, 62]
 have s1 := sk_le (downL l [9, 10, 12, 32, 61, 47, 62])
 have s2 := sk_le ((skB (downL l [9, 10, 12, 32, 61, 47, 62])).drop 1)
 simp only [List.length_drop] at s2
 split at h
 ·cases h
 ·split at h
  ·split at h
   ·cases h
   ·rename_i v r' hv
    have hvl := value_len hv
    have hd := decL_len true v.length v (Nat.le_refl _)
    injection h with h; injection h with ha hb
    rw [← ha]
    refine ⟨?_, ?_, by omega⟩
    ·show (smL _).length ≤ _
     unfold smL
     rw [List.length_map]
     exact u1
    ·show (decL v true).length ≤ _
     omega
  ·injection h with h; injection h with ha hb
   rw [← ha]
   refine ⟨?_, Nat.zero_le _, by omega⟩
   show (smL _).length ≤ _
   unfold smL
   rw [List.length_map]
   exact u1
theorem attrs_len (M : Nat) : ∀ (n : Nat) {l : List UInt8} {al al' : List (List UInt8 × List UInt8)} {sf : Bool} {r : List UInt8}, l.length ≤ M → attrsF n l al = (0, al', sf, r) → (∀ a ∈ al, a.1.length ≤ 4 * M ∧ a.2.length ≤ 4 * M) → ∀ a ∈ al', a.1.length ≤ 4 * M ∧ a.2.length ≤ 4 * M
 | 0, _, _, _, _, _, _, h, _ => by cases h
 | n + 1, l, al, al', sf, r, hM, h, hd => by
   unfold attrsF at h
   have s1 := sk_le l
   split at h
   ·injection h with _ h; injection h with h2 _
    subst h2
    exact hd
   ·split at h
    ·injection h with _ h; injection h with h2 _
     subst h2
     exact hd
    ·split at h
     ·injection h with h _; cases h
     ·cases ha : attrL (skB l) with
      | none => rw [ha] at h; injection h with h _; cases h
      | some p =>
        obtain ⟨a, r'⟩ := p
        rw [ha] at h
        simp only at h
        have hl := attr_len ha
        split at h
        ·injection h with h _; cases h
        ·refine attrs_len M n (by omega) h (fun b hb => ?_)
         rw [List.mem_append, List.mem_singleton] at hb
         rcases hb with hb | rfl
         ·exact hd b hb
         ·omega
theorem tag_len {k : Nat} {l r : List UInt8} {t : Tk} (h : tagL k l = (0, t, r)) : t.data = [] ∧ ∀ a ∈ t.attrs, a.1.length ≤ 4 * l.length ∧ a.2.length ≤ 4 * l.length := by
 unfold tagL at h
 have hd := down_le l [9, 10, 12, 32, 47, 62]
 split at h
 ·injection h with h _; cases h
 ·cases ha : attrsF 17 (downL l [9, 10, 12, 32, 47, 62]) [] with
  | mk e q =>
    obtain ⟨al, sf, r'⟩ := q
    rw [ha] at h
    cases e with
    | succ e => injection h with h _; cases h
    | zero =>
      injection h with _ h
      injection h with h1 h2
      subst h1
      exact ⟨rfl, attrs_len l.length 17 hd ha (fun a ha => nomatch ha)⟩
theorem one_len {l r : List UInt8} {t : Tk} (hl : l ≠ []) (h : oneL l = (0, t, r)) : t.data.length + 4 * r.length ≤ 4 * l.length ∧ ∀ a ∈ t.attrs, a.1.length ≤ 4 * l.length ∧ a.2.length ≤ 4 * l.length := by
 have hd : ∀ n, (l.drop n).length ≤ l.length := fun n => by rw [List.length_drop]; omega
 have hc := oneL_cases l hl
 rw [h] at hc
 have hlt : r.length < l.length := by
  rcases hc with ⟨_, h⟩ | h | h | h | h
  ·exact h
  all_goals (simp only at h; omega)
 unfold oneL at h
 split at h
 ·injection h with _ h; injection h with h1 h2; subst h1 h2
  refine ⟨?_, fun a ha => nomatch ha⟩
  have h3 := decL_len false _ (l.take (textN (l.drop 1) + 1)) (Nat.le_refl _)
  show (decL _ false).length + _ ≤ _
  rw [List.length_drop] at hlt ⊢
  rw [List.length_take] at h3
  omega
 ·split at h
  ·obtain ⟨a, b⟩ := tag_len h
   rw [a]
   refine ⟨by simp; omega, fun x hx => ?_⟩
   have := b x hx
   have := hd 1
   omega
  ·split at h
   ·have he : tagL 2 (l.drop 2) = (0, t, r) := by
     unfold endL at h
     split at h
     ·injection h with h _; cases h
     ·split at h
      ·injection h with h _; cases h
      ·exact h
    obtain ⟨a, b⟩ := tag_len he
    rw [a]
    refine ⟨by simp; omega, fun x hx => ?_⟩
    have := b x hx
    have := hd 2
    omega
   ·split at h
    ·unfold comL at h
     split at h
     ·injection h with h _; cases h
     ·rename_i hcc
      injection h with _ h; injection h with h1 h2; subst h1 h2
      refine ⟨?_, fun a ha => nomatch ha⟩
      show (Lib.cut (l.drop 4) [45, 45, 62]).1.length + _ ≤ _
      have hcut : (Lib.cut (l.drop 4) [45, 45, 62]).1.length + (Lib.cut (l.drop 4) [45, 45, 62]).2.1.length ≤ (l.drop 4).length := by
       unfold Lib.cut
       split
       ·simp only [List.length_take, List.length_drop]; omega
       ·simp
      have := hd 4
      omega
    ·split at h
     ·unfold docL at h
      split at h
      ·injection h with _ h; injection h with h1 h2; subst h1 h2
       refine ⟨?_, fun a ha => nomatch ha⟩
       show (Lib.trimS (Lib.cut (l.drop 9) [62]).1 blanksL).length + _ ≤ _
       have ht := trimS_len (Lib.cut (l.drop 9) [62]).1 blanksL
       have hcut : (Lib.cut (l.drop 9) [62]).1.length + (Lib.cut (l.drop 9) [62]).2.1.length ≤ (l.drop 9).length := by
        unfold Lib.cut
        split
        ·simp only [List.length_take, List.length_drop]; omega
        ·simp
       have := hd 9
       omega
      ·injection h with h _; cases h
     ·injection h with h _; cases h
def sumTk (l : List Tk) : Nat := (l.map fun t => t.data.length).sum
theorem toks_len : ∀ (ts : List Tk) {l : List UInt8}, toksL l = (0, 0, ts) → sumTk ts ≤ 4 * l.length ∧ ∀ t ∈ ts, ∀ a ∈ t.attrs, a.1.length ≤ 4 * l.length ∧ a.2.length ≤ 4 * l.length
 | [], _, _ => ⟨Nat.zero_le _, fun t h => nomatch h⟩
 | t :: ts, l, h => by
   have hl : l ≠ [] := by
    intro e
    rw [e, toksL_nil] at h
    injection h with _ h; injection h with _ h; cases h
   rw [toksL_step l hl] at h
   split at h
   ·rename_i h1
    split at h
    ·rename_i h2
     injection h with _ h
     injection h with _ h
     injection h with h3 h4
     have hone : oneL l = (0, t, (oneL l).2.2) := by rw [← h3, ← h1]
     have hr : toksL (oneL l).2.2 = (0, 0, ts) := by
      have h5 : (toksL (oneL l).2.2).2.1 = 0 := toksL_place h2
      generalize toksL (oneL l).2.2 = R at *
      obtain ⟨r1, r2, r3⟩ := R
      simp only at h2 h4 h5
      rw [h2, h4, h5]
     obtain ⟨a, b⟩ := one_len hl hone
     obtain ⟨d, e⟩ := toks_len ts hr
     refine ⟨?_, fun u hu => ?_⟩
     ·unfold sumTk at d ⊢
      rw [List.map_cons, List.sum_cons]
      omega
     ·rcases List.mem_cons.1 hu with rfl | hu
      ·exact b
      ·intro x hx
       have := e u hu x hx
       omega
    ·rename_i h2
     injection h with h _
     exact absurd h h2
   ·rename_i h1
    injection h with h _
    exact absurd h h1
theorem tokensL_len (l : List UInt8) : sumTk (tokensL l).2.2 ≤ 262144 ∧ ∀ t ∈ (tokensL l).2.2, ∀ a ∈ t.attrs, a.1.length ≤ 262144 ∧ a.2.length ≤ 262144 := by
 have hn : sumTk [] ≤ 262144 ∧ ∀ t ∈ ([] : List Tk), ∀ a ∈ t.attrs, a.1.length ≤ 262144 ∧ a.2.length ≤ 262144 := ⟨by decide, fun t h => nomatch h⟩
 unfold tokensL
 split
 ·exact hn
 ·rename_i hl
  split
  ·exact hn
  ·split
   ·rename_i h
    have hp := toksL_place h
    obtain ⟨a, b⟩ := toks_len (toksL l).2.2 (l := l) (by
     generalize toksL l = R at *
     obtain ⟨r1, r2, r3⟩ := R
     simp only at h hp
     rw [h, hp])
    exact ⟨Nat.le_trans a (by omega), fun t ht x hx => by have := b t ht x hx; omega⟩
   ·exact hn
end Go.Proofs.YtlcijlklbabajaaGreatDoor
namespace Go.Proofs.YtlcijlklbabajaaGreatDoor
open Go.RowKit
def TokOk (t : Tk) : Prop := t.name.length ≤ 1000000000 ∧ (t.kind = 2 → t.name ≠ []) ∧ t.attrs.length ≤ 100000 ∧ ∀ a ∈ t.attrs, a.1.length ≤ 1000000000 ∧ a.2.length ≤ 1000000000
theorem sumTk_take {l : List Tk} {k : Nat} (h : k < l.length) : sumTk (l.take (k + 1)) = sumTk (l.take k) + l[k].data.length := by
 unfold sumTk
 rw [List.take_add_one, List.getElem?_eq_getElem h, List.map_append, List.sum_append]
 simp
theorem sumTk_le (l : List Tk) (k : Nat) : sumTk (l.take k) ≤ sumTk l := by
 have : sumTk l = sumTk (l.take k) + sumTk (l.drop k) := by
  unfold sumTk
  rw [← List.sum_append, ← List.map_append, List.take_append_drop]
 omega
def BuildPost (ts : List Tk) (w : World) (e : Ending) (w' : World) : Prop :=
 ∃ v ns, e = .returned (.tuple #[v, .int .i64 ((buildL ts).1 : Int), .int .i64 ((buildL ts).2.1 : Int)]) ∧ (buildL ts).2.2 = ns.map (·.1) ∧ TreeRow w.heap.size v ns w' ∧ Below w.heap.size w w'
theorem TreeRow.nil (B : Nat) (w : World) : TreeRow B (.slice none 0 0) [] w := ⟨World.ownsRow_nil _ _ _ _, fun _ hp => (nomatch hp), fun _ hp => (nomatch hp), List.Pairwise.nil⟩
theorem BInv.new {B b g : Nat} {cs : Array Value} {w : World} (h : BdU B b cs g 1 [(⟨0, [], [], [], -1, []⟩, .slice none 0 0, .slice none 0 0)] [] [] w) (hB : B ≤ w.heap.size) : BInv B b .new 0 [(⟨0, [], [], [], -1, []⟩, .slice none 0 0, .slice none 0 0)] [] (⟨0, [], [], [], -1, []⟩, .slice none 0 0, .slice none 0 0) w :=
 ⟨h.pack, rfl, rfl, fun h => absurd h (by decide), fun _ => rfl, by decide, fun o ho => (nomatch ho), by decide, fun q hq => by rw [List.mem_singleton.1 hq]; decide, Nat.le_refl _, hB⟩
theorem buildF_step {ts : List Tk} {k : Nat} (h : k < ts.length) (b : Bd) : buildF (ts.drop k) k b = if (takeB b ts[k] (k == 0)).1 = 0 then buildF (ts.drop (k + 1)) (k + 1) (takeB b ts[k] (k == 0)).2 else ((takeB b ts[k] (k == 0)).1, k, []) := by
 rw [List.drop_eq_getElem_cons h]
 rfl
set_option maxHeartbeats 4000000 in
set_option maxRecDepth 100000 in
theorem build_any {B0 : Nat} {v : Value} {ps : List (Tk × Value)} {w : World} (h : TokRow B0 v ps w) (hl : ps.length ≤ 1000000000) (hok : ∀ p ∈ ps, TokOk p.1) (hsum : sumTk (ps.map (·.1)) ≤ 500000000) :
 Calls Tryz.prog 13 #[v] w (BuildPost (ps.map (·.1)) w) := by
 obtain ⟨ta, tc, rfl, _⟩ := h.has
 obtain ⟨n, hn⟩ : ∃ n, n = ps.length := ⟨_, rfl⟩
 obtain ⟨ts, hts⟩ : ∃ ts, ts = ps.map (·.1) := ⟨_, rfl⟩
 have hnt : ts.length = n := by rw [hts, List.length_map, hn]
 rw [← hts] at hsum ⊢
 rw [← hn] at hl ⊢
 have HN := hid_mk (And.intro hn (And.intro hts hnt))
 have H := hid_mk (show TokRow B0 (.slice ta n tc) ps w by rw [hn]; exact h)
 have HOK := hid_mk (And.intro hok hsum)
 obtain ⟨G, hG⟩ : ∃ G, G = buildL ts := ⟨_, rfl⟩
 have HG := hid_mk hG
 clear h hok hsum hn hts hnt hG
 have hnb := hid_mk (newBuilder_any w)
 go_enter Tryz.func13, Tryz.ntmps13
 go_wp2_with fail
 (with_reducible refine hnb.out.mono ?_)
 rintro e w1 ⟨b, g, cs, rfl, hb1, hbu⟩
 have H1 := hid_mk (show ∃ bd ns bs p, BInv w.heap.size b bd (sumTk (ts.take 0)) ns bs p w1 ∧ Below w.heap.size w w1 ∧ G = buildF (ts.drop 0) 0 bd from ⟨.new, _, _, _, BInv.new hbu hb1.size, hb1, by rw [HG.out]; rfl⟩)
 clear hb1 hbu hnb
 go_wp2_with fail
 go_loopw [12] (fun i wr => ∃ k : Nat, k ≤ n ∧ i = .int .i64 k ∧ Hid (∃ bd ns bs p, BInv w.heap.size b bd (sumTk (ts.take k)) ns bs p wr ∧ Below w.heap.size w wr ∧ G = buildF (ts.drop k) k bd)) (fun i _ => n - (intOf i).toNat)
 case atStart => exact ⟨0, Nat.zero_le _, rfl, H1⟩
 case round =>
  obtain ⟨k, hk, rfl, hI⟩ := hrel
  generalize wr = wo at *
  obtain ⟨bd, ns, bs, p, hinv, hlow, hgb⟩ := hI.out
  clear hI H1
  by_cases hlt : k < n
  ·have hlti : (k : Int) < (n : Int) := by omega
   have hrow := H.out.below hlow
   have hkp : k < ps.length := by rw [← HN.out.1]; exact hlt
   have hkt : k < ts.length := by rw [HN.out.2.2]; exact hlt
   obtain ⟨tg, tcc, hvv⟩ := hrow.some (by omega)
   injection hvv with hta hvn hvc
   subst hta
   clear hvn hvc
   have hcell := fun j hj => hrow.cells k hkp j hj
   obtain ⟨t, ht⟩ : ∃ t, t = ts[k] := ⟨_, rfl⟩
   obtain ⟨av, hav⟩ : ∃ av, av = (ps[k]).2 := ⟨_, rfl⟩
   have hpt : (ps[k]).1 = t := by rw [ht]; simp only [HN.out.2.1, List.getElem_map]
   have hatr := hrow.2 _ (List.getElem_mem hkp)
   have hokk := HOK.out.1 _ (List.getElem_mem hkp)
   simp only [tkF, tkCells] at hcell
   rw [hpt, ← hav] at hcell hatr
   rw [hpt] at hokk
   have c0 : wo.cell? ⟨tg, k * 5, none⟩ = some (.int .u8 (t.kind : Int)) := hcell 0 (by decide)
   have c1 : wo.cell? ⟨tg, k * 5 + 1, none⟩ = some (.string (strOf t.name)) := hcell 1 (by decide)
   have c2 : wo.cell? ⟨tg, k * 5 + 2, none⟩ = some av := hcell 2 (by decide)
   have c3 : wo.cell? ⟨tg, k * 5 + 3, none⟩ = some (.bool t.self) := hcell 3 (by decide)
   have c4 : wo.cell? ⟨tg, k * 5 + 4, none⟩ = some (.string (strOf t.data)) := hcell 4 (by decide)
   obtain ⟨ba, bc, hav2⟩ := own_slice hatr
   subst hav2
   have hal : Below wo.heap.size wo (wo.alloc (tokO t (.slice ba t.attrs.length bc))) := (Below.refl _ _).alloc (Nat.le_refl _) _
   have hinv' := hinv.below hal
   obtain ⟨cs, g, cap, hun⟩ := hinv'.1.un
   have hnm := sumTk_take hkt
   have hsl := sumTk_le ts (k + 1)
   have hbl := hinv.2.2.2.2.2.2.2.2.2.1
   rw [← ht] at hnm
   have htk := hid_mk (fun first => btake_any kind_any hun hinv.2.2.2.2.2.2.2.1 p hinv.2.2.1 hinv.2.2.2.1 hinv.2.2.2.2.1 (by have := hinv.2.2.2.2.2.1; omega) hinv.2.2.2.2.2.2.1 (fun q hq => by have := hinv.2.2.2.2.2.2.2.2.1 q hq; have := hinv.2.2.2.2.2.2.2.1; omega) t B0 _ first (hatr.below hal) (by have := HOK.out.2; omega) hokk.1 hokk.2.1 hokk.2.2.1 hokk.2.2.2 hinv'.2.2.2.2.2.2.2.2.2.2)
   have HI := hid_mk (fun (first : Bool) e w' (hp : takePost w.heap.size b g cap ns bd.opn bs p t first (wo.alloc (tokO t (.slice ba t.attrs.length bc))) ((wo.alloc (tokO t (.slice ba t.attrs.length bc))).alloc (tokO t (.slice ba t.attrs.length bc))) e w') => hinv'.step hp)
   have HB := hid_mk (And.intro hlow (hal.mono hlow.size))
   have HS := hid_mk (show G = (if (takeB bd t (k == 0)).1 = 0 then buildF (ts.drop (k + 1)) (k + 1) (takeB bd t (k == 0)).2 else ((takeB bd t (k == 0)).1, k, [])) by rw [hgb, buildF_step hkt, ht])
   have HM := hid_mk hnm
   unfold tokO tkCells at htk HI HB
   clear hinv hinv' hun hal hlow hgb hrow hcell hatr hokk hnm hsl hbl hkp hkt hav hpt ht
   obtain ⟨f, hf⟩ : ∃ f, f = (k == 0) := ⟨_, rfl⟩
   have hq : ((k : Int) == 0) = f := by
    rw [hf, Bool.eq_iff_iff]
    simp
   rw [← hf] at HS
   clear hf
   have hps : (0 : Int) < (n : Int) := by omega
   have hps0 : 0 < n := by omega
   go_wp2_with fail
   (with_reducible refine (htk.out f).mono ?_)
   intro e w2 hp2
   obtain ⟨he, hl2, hnx⟩ := HI.out f e w2 hp2
   subst he
   have HL := hid_mk (HB.out.1.trans (HB.out.2.trans hl2))
   obtain ⟨R, hR⟩ : ∃ R, R = takeB bd t f := ⟨_, rfl⟩
   rw [← hR] at hnx HS ⊢
   clear hp2 hR htk HI hl2 c0 c1 c2 c3 c4 hps hps0 hq
   obtain ⟨r, bd2⟩ := R
   simp only at hnx HS
   have HNX := hid_mk hnx
   clear hnx
   by_cases hr : r = 0
   ·have hq1 : ((r : Int) == 0) = true := by rw [hr]; rfl
    have hq2 : ((r : Int) != 0) = false := by rw [bne, hq1]; rfl
    have HF := hid_mk (show ∃ bd ns bs p, BInv w.heap.size b bd (sumTk (ts.take (k + 1))) ns bs p w2 ∧ Below w.heap.size w w2 ∧ G = buildF (ts.drop (k + 1)) (k + 1) bd from by
     obtain ⟨ns, bs, p, hb⟩ := HNX.out hr
     exact ⟨bd2, ns, bs, p, by rw [HM.out]; exact hb, HL.out, by rw [HS.out, if_pos hr]⟩)
    clear hr
    go_wp2_with fail
    go_roundw
    case rel => exact ⟨k + 1, by omega, by go_num, HF⟩
    case measure => simp [intOf]; omega
   ·have hq1 : ((r : Int) == 0) = false := beq_false_of_ne (by omega)
    have hq2 : ((r : Int) != 0) = true := by rw [bne, hq1]; rfl
    have HF := hid_mk (show buildL ts = (r, k, []) by rw [← HG.out, HS.out, if_neg hr])
    clear hr
    go_wp2_with fail
    go_ret3
    exact ⟨_, [], by rw [HF.out]; rfl, by rw [HF.out]; rfl, .nil _ _, HL.out⟩
  ·have hlti : ¬ (k : Int) < (n : Int) := by omega
   have hkn : k = n := by omega
   obtain ⟨cs, g, cap, hun⟩ := hinv.1.un
   have hfi := hid_mk (finish_any hun (by have := hinv.2.2.2.2.2.2.2.1; omega) p hinv.2.2.1 hinv.2.2.2.1)
   have HF := hid_mk (show buildL ts = (0, 0, (endNs ns bs p).map (·.1)) by
    rw [← HG.out, hgb, hkn, List.drop_eq_nil_of_le (by rw [HN.out.2.2]; exact Nat.le_refl _)]
    show (0, 0, bd.tree) = _
    rw [hinv.2.1]
    rfl)
   have HL := hid_mk hlow
   clear hinv hlow hgb hun hkn
   go_wp2_with fail
   (with_reducible refine hfi.out.mono ?_)
   rintro e w2 ⟨rfl, hl2, htr⟩
   have H2 := hid_mk (And.intro (HL.out.trans hl2) htr)
   clear hl2 htr hfi
   go_wp2_with fail
   go_ret3
   exact ⟨_, _, by rw [HF.out]; rfl, by rw [HF.out], H2.out.2, H2.out.1⟩
end Go.Proofs.YtlcijlklbabajaaGreatDoor
