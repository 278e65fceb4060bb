/-
  Package tree's start. Condition: Kind's contract; what is bounded.
-/
import Derived.Test.YtfjhljhgmbhklaaGreatDoorBFinA
namespace Go.Proofs.YtfjhljhgmbhklaaGreatDoor
open Go.RowKit
def startPost (B b : Nat) (ns : List NdM) (st : List Opn) (bs : List UInt8) (p : NdM) (t : Tk) (w : World) (e : Ending) (w' : World) : Prop :=
  Below B w w' ∧
  if kindL t.name = 0 then e = .returned (.int .i64 50)
  else if (t.self && !voidK (kindL t.name)) = true then e = .returned (.int .i64 51)
  else if admitsO (kindL t.name) (closeS (kindL t.name) st) = false then e = .returned (.int .i64 51)
  else if 200 ≤ (closeS (kindL t.name) st).length then e = .returned (.int .i64 52)
  else if 16384 ≤ ns.length then e = .returned (.int .i64 3)
  else e = .returned (.int .i64 0) ∧ ∃ kv av, BdM B b (kidN (endNs ns bs p) (topO (closeS (kindL t.name) st)).node kv ns.length ++ [(⟨1, t.name, t.attrs, [], ((topO (closeS (kindL t.name) st)).node : Int), []⟩, av, .slice none 0 0)]) (if voidK (kindL t.name) then closeS (kindL t.name) st else ⟨ns.length, t.name, kindL t.name⟩ :: closeS (kindL t.name) st) (endBs bs p) w'
theorem closeS_length (k : Nat) (st : List Opn) : (closeS k st).length ≤ st.length := by
  unfold closeS
  have h1 : (if (endsP k && (topO st).kind == 2) = true then st.tail else st).length ≤ st.length := by
    split
    · rw [List.length_tail]; omega
    · exact Nat.le_refl _
  generalize (if (endsP k && (topO st).kind == 2) = true then st.tail else st) = s1 at *
  show (if (k == 3 && (topO s1).kind == 3) = true then s1.tail else s1).length ≤ _
  split
  · rw [List.length_tail]; omega
  · exact h1
/-- Amid start: the builder, the token's own block, its attributes. -/
structure StAt (B b g cap : Nat) (cs : Array Value) (ns : List NdM) (st : List Opn) (bs : List UInt8) (t : Tk) (B0 : Nat) (av : Value) (TB : Nat) (w0 w : World) : Prop where
  bd : BdU B b cs g cap ns st bs w
  tok : w.heap[TB]? = some (.cells (tkCells t av) 25 (0, 0))
  atr : AtRow B0 av t.attrs w
  low : Below B w0 w
  size : B ≤ w.heap.size
theorem StAt.below {B b g cap : Nat} {cs : Array Value} {ns : List NdM} {st : List Opn} {bs : List UInt8} {t : Tk} {B0 : Nat} {av : Value} {TB : Nat} {w0 w w' : World} (h : StAt B b g cap cs ns st bs t B0 av TB w0 w) (hb : Below w.heap.size w w') : StAt B b g cap cs ns st bs t B0 av TB w0 w' :=
  ⟨h.bd.below hb, (hb.block _ (Array.getElem?_eq_some_iff.1 h.tok).1).trans h.tok, h.atr.below hb, h.low.trans (hb.mono h.size), Nat.le_trans h.size hb.size⟩
theorem StAt.stpost {B b g cap : Nat} {cs : Array Value} {ns : List NdM} {st st' : List Opn} {bs : List UInt8} {t : Tk} {B0 : Nat} {av : Value} {TB : Nat} {w0 w w' : World} (h : StAt B b g cap cs ns st bs t B0 av TB w0 w) (hp : StPost B b 1 cs 89 st' w w') : ∃ cs', StAt B b g cap cs' ns st' bs t B0 av TB w0 w' := by
  obtain ⟨⟨cs', hb⟩, hl⟩ := h.bd.stpost hp h.size
  obtain ⟨_, _, _, hch⟩ := hp
  have hb1 := h.bd.1.1
  refine ⟨cs', hb, hch.blocks _ _ h.tok (fun e => ?_) (.inr fun c2 f2 e => ?_), own_blocks h.atr (hch.keeps hb1 (by decide) (by decide)), h.low.trans hl, Nat.le_trans h.size hl.size⟩
  · have := h.tok
    rw [e, hb1] at this
    injection this with this
    injection this with _ this _
    exact absurd this (by decide)
  · injection e with _ e _
    exact absurd e (by decide)
theorem StAt.cells {B b g cap : Nat} {cs : Array Value} {ns : List NdM} {st : List Opn} {bs : List UInt8} {t : Tk} {B0 : Nat} {av : Value} {TB : Nat} {w0 w : World} (h : StAt B b g cap cs ns st bs t B0 av TB w0 w) :
    w.cell? ⟨TB, 1, none⟩ = some (.string (strOf t.name)) ∧ w.cell? ⟨TB, 2, none⟩ = some av ∧ w.cell? ⟨TB, 3, none⟩ = some (.bool t.self) ∧ w.cell? ⟨b, 0, none⟩ = some (.slice (some ⟨g, 0, none⟩) ns.length cap) ∧ ∃ sv, w.cell? ⟨b, 1, none⟩ = some sv ∧ OpnRow B sv st w := by
  obtain ⟨hd, htv, htr, ⟨s1, s2, s3, sv, s4, s5⟩, _⟩ := h.bd
  refine ⟨?_, ?_, ?_, ?_, sv, ?_, s5⟩
  · rw [cell_of_row w TB 1 _ _ _ h.tok]; rfl
  · rw [cell_of_row w TB 2 _ _ _ h.tok]; rfl
  · rw [cell_of_row w TB 3 _ _ _ h.tok]; rfl
  · rw [cell_of_row w b 0 _ _ _ s1]; exact htv
  · rw [cell_of_row w b 1 _ _ _ s1]; exact s4
end Go.Proofs.YtfjhljhgmbhklaaGreatDoor
/-
  Package tree's start. Condition: Kind's contract; what is bounded.
-/
namespace Go.Proofs.YtfjhljhgmbhklaaGreatDoor
open Go.RowKit
theorem closeS_mem {k : Nat} {st : List Opn} {o : Opn} (h : o ∈ closeS k st) : o ∈ st := by
  unfold closeS at h
  have h1 : ∀ x, x ∈ (if (endsP k && (topO st).kind == 2) = true then st.tail else st) → x ∈ st := by
    intro x hx
    split at hx
    · exact List.mem_of_mem_tail hx
    · exact hx
  generalize (if (endsP k && (topO st).kind == 2) = true then st.tail else st) = s1 at *
  have h : o ∈ (if (k == 3 && (topO s1).kind == 3) = true then s1.tail else s1) := h
  split at h
  · exact h1 _ (List.mem_of_mem_tail h)
  · exact h1 _ h
theorem topO_lt {st : List Opn} {n : Nat} (h : ∀ o ∈ st, o.node < n) (h0 : 0 < n) : (topO st).node < n := by
  cases st with
  | nil => exact h0
  | cons o t => exact h o (List.mem_cons_self ..)
theorem BdM.un {B b : Nat} {ns : List NdM} {st : List Opn} {bs : List UInt8} {w : World} (h : BdM B b ns st bs w) : ∃ cs g cap, BdU B b cs g cap ns st bs w := by
  obtain ⟨cs, tv, h1, h2, h3, h4, h5⟩ := h
  obtain ⟨g, cap, cur, hv, _⟩ := h3.look h5
  subst hv
  exact ⟨cs, g, cap, h1, h2, h3, h4, h5⟩
theorem BdU.pack {B b g cap : Nat} {cs : Array Value} {ns : List NdM} {st : List Opn} {bs : List UInt8} {w : World} (h : BdU B b cs g cap ns st bs w) : BdM B b ns st bs w := by
  obtain ⟨h1, h2, h3, h4, h5⟩ := h
  exact ⟨cs, _, h1, h2, h3, h4, h5⟩
/-- What start's own add leaves. -/
def addR (B b : Nat) (ns : List NdM) (s2 : List Opn) (bs : List UInt8) (p : NdM) (t : Tk) (k : Nat) (E : Nat) (w : World) (r : Int) (w' : World) : Prop :=
  Below B w w' ∧ ((16384 ≤ ns.length ∧ r = 3) ∨ (¬ 16384 ≤ ns.length ∧ r = 0 ∧ w'.heap[E]? = some (.cells #[.int .i64 (ns.length : Int), .string (strOf t.name), .int .u8 (k : Int)] 114 (0, 0)) ∧ ∃ kv av, BdM B b (kidN (endNs ns bs p) (topO s2).node kv ns.length ++ [(⟨1, t.name, t.attrs, [], ((topO s2).node : Int), []⟩, av, .slice none 0 0)]) s2 (endBs bs p) w'))
set_option maxHeartbeats 4000000 in
set_option maxRecDepth 100000 in
theorem start_any (hK : KindC) {B b g cap : Nat} {cs : Array Value} {ns : List NdM} {st : List Opn} {bs : List UInt8} {w : World} (h : BdU B b cs g cap ns st bs w) (hn : ns.length ≤ 16384) (p : NdM) (hp : ns[ns.length - 1]? = some p) (h2 : p.1.kind = 2 → bs ≠ []) (hst : st.length ≤ 10000) (hup : ∀ o ∈ st, o.node < ns.length) (hks : ∀ q ∈ ns, q.1.kids.length ≤ 16384)
    (t : Tk) (B0 : Nat) (av : Value) (hav : AtRow B0 av t.attrs w) (hsn : t.name.length ≤ 1000000000) (hal : t.attrs.length ≤ 100000) (has : ∀ a ∈ t.attrs, a.1.length ≤ 1000000000 ∧ a.2.length ≤ 1000000000) (hB : B ≤ w.heap.size) :
    Calls Tryz.prog 53 #[.pointer (some ⟨b, 0, none⟩), .agg (tkCells t av)] w (startPost B b ns st bs p t w) := by
  obtain ⟨aa, ac, rfl⟩ := own_slice hav
  obtain ⟨k, hk⟩ : ∃ k, k = kindL t.name := ⟨_, rfl⟩
  have HK := hid_mk hk
  obtain ⟨O, hO⟩ : ∃ O, O = Obj.cells (tkCells t (.slice aa t.attrs.length ac)) 25 (0, 0) := ⟨_, rfl⟩
  have hal0 : Below w.heap.size w (w.alloc O) := (Below.refl _ _).alloc (Nat.le_refl _) O
  have h0 : StAt B b g cap cs ns st bs t B0 (.slice aa t.attrs.length ac) w.heap.size w (w.alloc O) := ⟨h.below hal0, by rw [← hO]; exact heap_alloc_new w O, hav.below hal0, hal0.mono hB, Nat.le_trans hB hal0.size⟩
  have HO := hid_mk hO.symm
  have H := hid_mk (And.intro hn (And.intro hp (And.intro h2 (And.intro hst (And.intro hup (And.intro hks (And.intro hsn (And.intro hal (And.intro has hB)))))))))
  have H0 := hid_mk h0
  have hkc := hid_mk (fun w => hK (strOf t.name) w (by rw [size_strOf]; exact hsn))
  rw [sl_strOf, ← hk] at hkc
  unfold tkCells
  clear h hn hp h2 hst hup hks hav hsn hal has hB hal0 hO hk h0
  go_enter Tryz.func53, Tryz.ntmps53
  go_wp2_with fail
  (with_reducible refine (hkc.out _).mono ?_)
  rintro e w1 ⟨rfl, hb1⟩
  have hb1' : Below (w.alloc O).heap.size (w.alloc O) w1 := by rw [← HO.out]; exact hb1
  have h1 := H0.out.below hb1'
  obtain ⟨c1, c2, c3, cb, _⟩ := h1.cells
  have H1 := hid_mk h1
  clear hb1 hb1' h1
  by_cases hk0 : k = 0
  · have hq : ((k : Int) == 0) = true := by rw [hk0]; rfl
    have HK0 := hid_mk hk0
    clear hk0
    go_wp2_with fail
    go_ret
    unfold startPost
    rw [← HK.out, if_pos HK0.out]
    exact ⟨H1.out.low, rfl⟩
  · have hq : ((k : Int) == 0) = false := beq_false_of_ne (by omega)
    have HK0 := hid_mk hk0
    clear hk0
    obtain ⟨sf, hsf⟩ : ∃ sf, sf = t.self := ⟨_, rfl⟩
    obtain ⟨vd, hvd⟩ : ∃ vd, vd = voidK k := ⟨_, rfl⟩
    rw [← hsf] at c3 ⊢
    have hvoid := hid_mk (fun w => isVoid_any k w)
    rw [← hvd] at hvoid
    have HSV := hid_mk (And.intro hsf hvd)
    clear hsf hvd
    go_upto_region 4 with fail
    go_cut [19] from 13 to 19 (fun s19 wx => s19 = .bool (sf && !vd) ∧ wx = w1)
    case first =>
      cases sf
      · go_wp2_with fail
        go_meet
        exact ⟨rfl, rfl⟩
      · go_wp2_with fail
        (with_reducible refine (hvoid.out _).mono ?_)
        rintro e w9 ⟨rfl, rfl⟩
        go_wp2_with fail
        go_meet
        exact ⟨rfl, rfl⟩
    case rest =>
      obtain ⟨rfl, rfl⟩ := hcut
      cases hx : (sf && !vd)
      · have HX := hid_mk hx
        clear hx c1 c2 c3 cb
        obtain ⟨_, _, _, hsk, _⟩ := H1.out.bd
        have hcs := hid_mk (closeForStart_st k hsk H.out.2.2.2.1)
        clear hsk
        go_wp2_with fail
        (with_reducible refine hcs.out.mono ?_)
        rintro e w2 ⟨rfl, hpo⟩
        obtain ⟨cs2, hS2⟩ := H1.out.stpost hpo
        obtain ⟨s2, hs2⟩ : ∃ s2, s2 = closeS k st := ⟨_, rfl⟩
        rw [← hs2] at hS2
        have hl2 : s2.length ≤ 10000 := by have := closeS_length k st; have := H.out.2.2.2.1; rw [hs2]; omega
        obtain ⟨c1, c2, c3, cb, sv, cv, hrow⟩ := hS2.cells
        have H2 := hid_mk hS2
        have HS2 := hid_mk (And.intro hs2 hl2)
        have hadm := hid_mk (admits_any B sv k s2 w2 hrow (by omega))
        have hdep := hid_mk (fun w' (hb : Below w2.heap.size w2 w') => depth_any B sv s2 w' (hrow.below hb) (by omega))
        obtain ⟨ad, had⟩ : ∃ ad, ad = admitsO k s2 := ⟨_, rfl⟩
        rw [← had] at hadm
        have HAD := hid_mk had
        clear hpo hS2 hs2 hl2 hrow had
        go_wp2_with fail
        (with_reducible refine hadm.out.mono ?_)
        rintro e w3 ⟨rfl, hb3⟩
        cases ad
        · have H3 := hid_mk (H2.out.below hb3)
          clear hb3
          go_wp2_with fail
          go_ret
          unfold startPost
          rw [← HK.out, if_neg HK0.out, ← HSV.out.1, ← HSV.out.2, if_neg (by rw [HX.out]; exact Bool.false_ne_true), ← HS2.out.1, if_pos HAD.out.symm]
          exact ⟨H3.out.low, rfl⟩
        · have hS3 := H2.out.below hb3
          have hdw := hid_mk (hdep.out w3 hb3)
          have cv3 : w3.cell? ⟨b, 1, none⟩ = some sv := (hb3.cell (p := ⟨b, 1, none⟩) (by obtain ⟨hd, _⟩ := H2.out.bd; exact (Array.getElem?_eq_some_iff.1 hd.1).1)).trans cv
          obtain ⟨d1, d2, d3, db, _⟩ := hS3.cells
          have H3 := hid_mk hS3
          obtain ⟨dl, hdl⟩ : ∃ dl, dl = s2.length := ⟨_, rfl⟩
          rw [← hdl] at hdw
          have HDL := hid_mk hdl
          clear hb3 hS3 hdl c1 c2 c3 cb cv hdep
          go_wp2_with fail
          (with_reducible refine hdw.out.mono ?_)
          rintro e w4 ⟨rfl, rfl⟩
          by_cases hdd : 200 ≤ dl
          · have hdi : (200 : Int) ≤ (dl : Int) := by omega
            have HDD := hid_mk hdd
            clear hdd
            go_wp2_with fail
            go_ret
            unfold startPost
            rw [← HK.out, if_neg HK0.out, ← HSV.out.1, ← HSV.out.2, if_neg (by rw [HX.out]; exact Bool.false_ne_true), ← HS2.out.1, if_neg (by rw [← HAD.out]; exact Bool.noConfusion), ← HDL.out, if_pos HDD.out]
            exact ⟨H3.out.low, rfl⟩
          · have hdi : ¬ (200 : Int) ≤ (dl : Int) := by omega
            have HDD := hid_mk hdd
            clear hdd
            obtain ⟨n, hnn⟩ : ∃ n, n = ns.length := ⟨_, rfl⟩
            have HN := hid_mk hnn
            have hbl3 : b < w3.heap.size := by obtain ⟨hd, _⟩ := H3.out.bd; exact (Array.getElem?_eq_some_iff.1 hd.1).1
            have htl3 : w.heap.size < w3.heap.size := (Array.getElem?_eq_some_iff.1 H3.out.tok).1
            rw [← hnn] at db
            clear hnn
            go_upto_region 11 with fail
            go_cut [6] from 38 to 46 (fun s6 wx => s6 = .pointer (some ⟨w3.heap.size, 0, none⟩) ∧ wx = (w3.alloc (.cells #[.int .i64 (n : Int), .string (strOf t.name), .int .u8 (k : Int)] 114 (0, 0))).drew)
            case first =>
              go_region_law (fail)
              all_goals
                go_wp2_with fail
                go_meet
                exact ⟨rfl, rfl⟩
            case rest =>
              obtain ⟨rfl, hwc⟩ := hcut
              have h3c : Below w3.heap.size w3 wc := by rw [hwc]; exact ((Below.refl _ _).alloc (Nat.le_refl _) _).drew
              have hE : wc.heap[w3.heap.size]? = some (.cells #[.int .i64 (n : Int), .string (strOf t.name), .int .u8 (k : Int)] 114 (0, 0)) := by rw [hwc]; exact heap_alloc_new w3 _
              have hSc := H3.out.below h3c
              obtain ⟨c1, c2, c3, cb, _⟩ := hSc.cells
              have Hc := hid_mk (And.intro hSc hE)
              have hkeep := hid_mk (show ∀ w', Below wc.heap.size wc w' → w'.cell? ⟨w.heap.size, 1, none⟩ = some (.string (strOf t.name)) ∧ w'.cell? ⟨w.heap.size, 2, none⟩ = some (.slice aa t.attrs.length ac) from fun w' hb' => ⟨(hSc.below hb').cells.1, (hSc.below hb').cells.2.1⟩)
              have hcl := hid_mk (fun w => clone_any (strOf t.name) w (by rw [size_strOf]; exact H.out.2.2.2.2.2.2.1))
              have hca := hid_mk (fun w' (hb : Below wc.heap.size wc w') => cloneAttrs_any (hSc.below hb).atr H.out.2.2.2.2.2.2.2.1 H.out.2.2.2.2.2.2.2.2.1)
              clear hwc h3c hE hSc d1 d2 d3 db cv3
              go_upto_region 12 with fail
              go_cut [7] from 47 to 55 (fun s7 wx => ∃ r : Int, s7 = .int .i64 r ∧ Hid (addR B b ns s2 bs p t k w3.heap.size w r wx))
              case first =>
                go_region_law
                  (first
                    | (go_simp
                       go_at_call 81
                       have hadd := add_any (Hc.out.1.below bB).bd H.out.1 p H.out.2.1 H.out.2.2.1 HS2.out.2 (topO_lt (fun o ho => H.out.2.2.2.2.1 o (closeS_mem (by rw [← HS2.out.1]; exact ho))) (by obtain ⟨_, _, _, _, hps⟩ := H3.out.bd; exact hps)) H.out.2.2.2.2.2.1 1 t.name [] t.attrs _ 0 (hvA.mono hvs) (by have := (Hc.out.1.below bB).size; exact this)
                       unfold nodeA at hadd
                       rw [show ((1 : Nat) : Int) = 1 from rfl, show strOf [] = ⟨#[]⟩ from rfl] at hadd
                       (with_reducible refine hadd.mono ?_)
                       intro e wC hpost
                       have hx : ∃ r : Int, e = .returned (.int .i64 r) ∧ addR B b ns s2 bs p t k w3.heap.size w r wC := by
                         by_cases hlim : 16384 ≤ ns.length
                         · rw [if_pos hlim] at hpost
                           exact ⟨3, hpost.1, (Hc.out.1.below bB).low.trans (hpost.2.mono (Hc.out.1.below bB).size), .inl ⟨hlim, rfl⟩⟩
                         · rw [if_neg hlim] at hpost
                           obtain ⟨h1, h2, h3, kv, h4⟩ := hpost
                           refine ⟨0, h1, (Hc.out.1.below bB).low.trans h2, .inr ⟨hlim, rfl, ?_, kv, _, h4⟩⟩
                           rw [← HN.out]
                           exact h3 _ _ _ ((bB.block _ (Array.getElem?_eq_some_iff.1 Hc.out.2).1).trans Hc.out.2)
                       obtain ⟨r, rfl, hr⟩ := hx
                       have HR := hid_mk hr
                       clear hadd hpost hr)
                    | (go_simp
                       go_at_call 84
                       (with_reducible refine (hcl.out _).mono ?_)
                       rintro e wA ⟨rfl, nA⟩
                       have bA : Below wc.heap.size wc wA := ⟨nA.os, nA.tape, nA.output, nA.size, nA.block⟩
                       obtain ⟨x1, x2⟩ := hkeep.out wA bA
                       clear nA)
                    | (go_simp
                       go_at_call 85
                       (with_reducible refine (hca.out _ bA).mono ?_)
                       rintro e wB ⟨v2, rfl, hv2, nB⟩
                       obtain ⟨va, vc, rfl⟩ := own_slice hv2
                       have bB : Below wc.heap.size wc wB := bA.trans (nB.mono bA.size)
                       have hvA := hv2
                       have hvs : B ≤ wA.heap.size := (Hc.out.1.below bA).size
                       clear nB hv2))
                all_goals
                  go_wp2_with fail
                  go_meet
                  exact ⟨r, rfl, HR⟩
              case rest =>
                obtain ⟨r, rfl, HR⟩ := hcut
                clear c1 c2 c3 cb hkeep hcl hca
                rcases HR.out with ⟨hlow, ⟨hlim, rfl⟩ | ⟨hlim, rfl, hE, kv, av, hbd⟩⟩
                · have HF := hid_mk (And.intro hlow hlim)
                  clear hlow hlim HR
                  go_wp2_with fail
                  go_ret
                  unfold startPost
                  rw [← HK.out, if_neg HK0.out, ← HSV.out.1, ← HSV.out.2, if_neg (by rw [HX.out]; exact Bool.false_ne_true), ← HS2.out.1, if_neg (by rw [← HAD.out]; exact Bool.noConfusion), ← HDL.out, if_neg HDD.out, if_pos HF.out.2]
                  exact ⟨HF.out.1, rfl⟩
                · obtain ⟨cs5, g5, cap5, hbu⟩ := hbd.un
                  have q0 : wc.cell? ⟨w3.heap.size, 0, none⟩ = some (.int .i64 (ns.length : Int)) := by rw [cell_of_row wc _ 0 _ _ _ hE]; rfl
                  have q1 : wc.cell? ⟨w3.heap.size, 1, none⟩ = some (.string (strOf t.name)) := by rw [cell_of_row wc _ 1 _ _ _ hE]; rfl
                  have q2 : wc.cell? ⟨w3.heap.size, 2, none⟩ = some (.int .u8 (k : Int)) := by rw [cell_of_row wc _ 2 _ _ _ hE]; rfl
                  have HF := hid_mk (And.intro hlow (And.intro hlim hbu))
                  clear hlow hlim hE hbd hbu HR
                  go_wp2_with fail
                  (with_reducible refine (hvoid.out _).mono ?_)
                  rintro e w6 ⟨rfl, rfl⟩
                  cases vd
                  · obtain ⟨hd5, htv5, htr5, hsk5, hps5⟩ := HF.out.2.2
                    have hB6 : B ≤ wc.heap.size := by have := hd5.2.2.1; have := (Array.getElem?_eq_some_iff.1 hd5.1).1; omega
                    have hpu := hid_mk (fun w' (hb : Below wc.heap.size wc w') => push_st ⟨ns.length, t.name, k⟩ (hsk5.below hb) HS2.out.2)
                    dsimp only [opA] at hpu
                    have HB6 := hid_mk hB6
                    have hdr : Below wc.heap.size wc wc.drew := (Below.refl _ _).drew
                    clear hd5 htv5 htr5 hsk5 hps5 hB6
                    go_wp2_with fail
                    go_region_law
                      (go_simp
                       go_at_call 76
                       (with_reducible refine (hpu.out _ hdr).mono ?_)
                       rintro e w7 ⟨rfl, hpo⟩
                       have HP := hid_mk (HF.out.2.2.stpost (w' := w7) (by obtain ⟨cs8, y1, y2, y3⟩ := hpo; exact ⟨cs8, y1, y2, ⟨y3.os, y3.tape, y3.output, y3.size, y3.blocks⟩⟩) HB6.out)
                       clear hpo)
                    all_goals
                      go_wp2_with fail
                      go_ret
                      unfold startPost
                      rw [← HK.out, if_neg HK0.out, ← HSV.out.1, ← HSV.out.2, if_neg (by rw [HX.out]; exact Bool.false_ne_true), ← HS2.out.1, if_neg (by rw [← HAD.out]; exact Bool.noConfusion), ← HDL.out, if_neg HDD.out, if_neg HF.out.2.1]
                      obtain ⟨⟨cs8, hb8⟩, hl8⟩ := HP.out
                      exact ⟨HF.out.1.trans hl8, rfl, kv, av, hb8.pack⟩
                  · go_wp2_with fail
                    go_ret
                    unfold startPost
                    rw [← HK.out, if_neg HK0.out, ← HSV.out.1, ← HSV.out.2, if_neg (by rw [HX.out]; exact Bool.false_ne_true), ← HS2.out.1, if_neg (by rw [← HAD.out]; exact Bool.noConfusion), ← HDL.out, if_neg HDD.out, if_neg HF.out.2.1]
                    exact ⟨HF.out.1, rfl, kv, av, HF.out.2.2.pack⟩
      · have HX := hid_mk hx
        go_wp2_with fail
        go_ret
        unfold startPost
        rw [← HK.out, if_neg HK0.out, ← HSV.out.1, ← HSV.out.2, if_pos HX.out]
        exact ⟨H1.out.low, rfl⟩
end Go.Proofs.YtfjhljhgmbhklaaGreatDoor
