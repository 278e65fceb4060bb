/-
  Package serial's page: writeEscaped; isVoid. Condition: the text's size is bounded.
-/
import Derived.Test.YtnooofnlbfhopaaDoorSPage
import Derived.Test.YtnooofnlbfhopaaDoorKKind
import Derived.Deep.RegionHeld3
namespace Go.Proofs.YtnooofnlbfhopaaDoor.Pg
open Go.RowKit
theorem own_belowF {w w' : World} {base n : Nat} {v : Value} {xs : List Value} (h : w.ownsRowF base 5 1 v n xs) (hb : Below w.heap.size w w') : w'.ownsRowF base 5 1 v n xs := by
  refine ⟨h.1, ?_⟩
  rcases h.2 with h2 | ⟨g, cap, cur, fz, h1, h2, h3, h4⟩
  · exact .inl h2
  · exact .inr ⟨g, cap, cur, fz, h1, h2, (hb.block g (Array.getElem?_eq_some_iff.1 h3).1).trans h3, h4⟩
theorem DataAt.below {B b : Nat} {cs : Array Value} {bs : List UInt8} {w w' : World} (h : DataAt B b cs bs w) (hb : Below w.heap.size w w') : DataAt B b cs bs w' := by
  obtain ⟨h1, h2, h3, h4, v, h5, h6⟩ := h
  exact ⟨(hb.block b (Array.getElem?_eq_some_iff.1 h1).1).trans h1, h2, h3, h4, v, h5, own_belowF h6 hb⟩
theorem PageM.below {B b : Nat} {st : Pst} {w w' : World} (h : PageM B b st w) (hb : Below w.heap.size w w') : PageM B b st w' := by
  obtain ⟨cs, h1, h2, h3⟩ := h
  exact ⟨cs, h1.below hb, h2, h3⟩
theorem strs_new (w : World) (l : List (List UInt8)) (C : Array Value) (fr : Nat × Nat) (hC : C.toList = l.map fun s => Value.string (strOf s)) : Strs w.heap.size l (w.alloc (.cells C 9 fr)) := by
  refine ⟨fr, ?_⟩
  rw [← hC, Array.toArray_toList]
  exact heap_alloc_new w _
theorem wrL_one (st : Pst) (s : List UInt8) : wrL st [s] = wr1 st s := rfl
set_option maxHeartbeats 2000000 in
set_option maxRecDepth 100000 in
theorem writeEscaped_any {B b : Nat} (v : Bool) (f : Nat) (st : Pst) (s : ByteArray) (w : World) (h : PageM B b st w)
    (hent : ∀ args w, (callFunc f args).run Tryd.prog w = .ok (.enter f args) w)
    (hcall : ∀ w, Calls Tryd.prog f #[.string s] w fun e w' => e = .returned (.string (strOf (escL v (sl s)))) ∧ Below w.heap.size w w') :
    Calls Tryd.prog 39 #[.pointer (some ⟨b, 0, none⟩), .string s, .func (.func f) #[] #[]] w fun e w' => e = .returned (.tuple #[]) ∧ PageM B b (wrE v st (sl s)) w' ∧ DChg B b w w' := by
  have htk := hid_mk (takes_any st (sl s) w h)
  rw [strOf_sl] at htk
  obtain ⟨T, hT⟩ : ∃ T, T = tk st (sl s) := ⟨_, rfl⟩
  have HE := hid_mk (show wrE v st (sl s) = if T.2 then T else wr1 T (escL v (sl s)) by unfold wrE; rw [← hT])
  obtain ⟨F, hF⟩ : ∃ F, F = wrE v st (sl s) := ⟨_, rfl⟩
  rw [← hT] at htk
  rw [← hF] at HE ⊢
  have HC := hid_mk hcall
  generalize escL v (sl s) = x at *
  clear hT hF hcall h
  go_enter Tryd.func39, Tryd.ntmps39
  go_wp2_with fail
  with_reducible refine htk.out.mono ?_
  rintro e1 w1 ⟨rfl, hp1, hd1⟩
  have H1 := hid_mk (And.intro hp1 hd1)
  clear hp1 hd1 htk
  cases hf : T.2 with
  | true =>
    have HP := hid_mk (show F = T by rw [HE.out, hf, if_pos rfl])
    clear hf
    go_wp2_with fail
    go_end0
    rw [HP.out]
    exact ⟨rfl, H1.out⟩
  | false =>
    have HP := hid_mk (show F = wr1 T x by rw [HE.out, hf, if_neg (by simp)])
    clear hf
    go_wp2_with fail
    with_reducible refine (HC.out w1).mono ?_
    rintro e2 w2 ⟨rfl, hb2⟩
    have H2 := hid_mk (And.intro (H1.out.1.below hb2) (H1.out.2.trans (.of hb2)))
    clear hb2
    obtain ⟨C, hC⟩ : ∃ C : Array Value, C = #[.string (strOf x)] := ⟨_, rfl⟩
    have HCC := hid_mk hC.symm
    have hb3 : ∀ fr, Below w2.heap.size w2 (w2.alloc (.cells C 9 fr)) := fun fr => (Below.refl _ _).alloc (Nat.le_refl _) _
    have H3 := hid_mk (fun fr => write_n (c := 1) (g := w2.heap.size) 1 T [x] (w2.alloc (.cells C 9 fr)) (H2.out.1.below (hb3 fr)) (strs_new w2 [x] C fr (by rw [hC]; rfl)) (by simp) rfl)
    have H4 := hid_mk (fun fr => H2.out.2.trans (DChg.of (B := B) (b := b) (hb3 fr)))
    clear hb3 hC
    go_wp2_with fail
    rw [HCC.out]
    with_reducible refine (H3.out _).mono ?_
    rintro e3 w3 ⟨rfl, hp3, hd3⟩
    have H5 := hid_mk (And.intro hp3 ((H4.out _).trans hd3))
    clear hp3 hd3
    go_wp2_with fail
    go_end0
    rw [HP.out, ← wrL_one]
    exact ⟨rfl, H5.out⟩
set_option maxHeartbeats 1000000 in
theorem voidS_any (s : ByteArray) (hs : s.size ≤ 1000000000) (w : World) :
    Calls Tryd.prog 41 #[.string s] w fun e w' => e = .returned (.bool (kindL (sl s) == 7 || kindL (sl s) == 8)) ∧ Below w.heap.size w w' := by
  have hk := hid_mk (kind_any s w hs)
  generalize kindL (sl s) = k at *
  obtain ⟨R, hR⟩ : ∃ R, R = (k == 7 || k == 8) := ⟨_, rfl⟩
  rw [← hR]
  have q7 : ((k : Int) == 7) = (k == 7) := by rw [Bool.eq_iff_iff]; simp; omega
  have q8 : ((k : Int) == 8) = (k == 8) := by rw [Bool.eq_iff_iff]; simp; omega
  generalize (k == 7) = a7 at *
  generalize (k == 8) = a8 at *
  have HR := hid_mk hR
  clear hR
  go_enter Tryd.func41, Tryd.ntmps41
  go_wp2_with fail
  with_reducible refine hk.out.mono ?_
  rintro e1 w1 ⟨rfl, hb⟩
  cases a7 <;> cases a8
  all_goals
    go_wp2_with fail
    go_ret
    rw [HR.out]
    exact ⟨rfl, hb⟩
end Go.Proofs.YtnooofnlbfhopaaDoor.Pg
