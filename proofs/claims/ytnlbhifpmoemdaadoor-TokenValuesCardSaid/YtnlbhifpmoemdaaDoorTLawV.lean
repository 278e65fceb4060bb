/-
  The law of layer 4 about values in quotes: it returns true for every text. Condition: the world holds what Tab says.
-/
import Derived.Test.YtnlbhifpmoemdaaDoorTMathT
namespace Go.Proofs.YtnlbhifpmoemdaaDoor
open Go.RowKit
set_option maxHeartbeats 8000000 in
set_option maxRecDepth 100000 in
theorem tokenValues_w (s : ByteArray) (w : World) (hT : Tab w) :
    Calls Tryd.prog 6 #[.string s] w fun e w' => e = .returned (.bool true) ∧ Next w w' := by
  have HT := hid_mk hT
  clear hT
  by_cases hbig : 2000 < s.size
  · have hb1 : decide (2000 < s.size) = true := decide_eq_true hbig
    have hb2 : decide ((2000 : Int) < (s.size : Int)) = true := decide_eq_true (by omega)
    clear hbig
    go_enter Tryd.func6, Tryd.ntmps6
    go_wp2_with fail
    refine (works_any w HT.out).mono ?_
    rintro e w1 ⟨rfl, hn1⟩
    have H1 := hid_mk hn1
    clear hn1
    go_wp2
    go_ret
    exact ⟨rfl, H1.out⟩
  have hb1 : decide (2000 < s.size) = false := decide_eq_false hbig
  have hb2 : decide ((2000 : Int) < (s.size : Int)) = false := decide_eq_false (by omega)
  have hha := hid_mk (has_any s ⟨#[34, 39, 38, 0]⟩ w (by omega) (by decide))
  rw [show sl ⟨#[34, 39, 38, 0]⟩ = [34, 39, 38, 0] from rfl] at hha
  have hsz : s.size ≤ 2000 := by omega
  clear hbig
  cases hh : hasL (sl s) [34, 39, 38, 0] with
  | true =>
    rw [hh] at hha
    clear hh
    go_enter Tryd.func6, Tryd.ntmps6
    go_wp2_with fail
    refine hha.out.mono ?_
    rintro e w1 ⟨rfl, n1, hw1⟩
    have H1 := hid_mk (Next.of HT.out (show Below w.heap.size w w1 by rw [hw1]; exact below_drewN (Below.refl _ _) n1))
    clear hw1
    go_wp2_with fail
    refine (works_any _ H1.out.2).mono ?_
    rintro e w2 ⟨rfl, hn2⟩
    have H2 := hid_mk (H1.out.trans hn2)
    clear hn2
    go_wp2
    go_ret
    exact ⟨rfl, H2.out⟩
  | false =>
    rw [hh] at hha
    have HK := hid_mk (toks_val hh (by rw [len_sl]; exact hsz))
    obtain ⟨X, hX⟩ : ∃ X, X = ⟨#[60, 112, 32, 97, 61, 34]⟩ ++ s ++ ⟨#[34, 32, 98, 32, 61, 32, 39]⟩ ++ s ++ ⟨#[39, 62]⟩ := ⟨_, rfl⟩
    have hXl : sl X = valText (sl s) := by
      rw [hX, sl_append, sl_append, sl_append, sl_append]
      unfold valText
      show [60, 112, 32, 97, 61, 34] ++ sl s ++ [34, 32, 98, 32, 61, 32, 39] ++ sl s ++ [39, 62] = _
      simp
    have hXs : X.size ≤ 10000 := by
      rw [hX]
      simp only [ByteArray.size_append]
      show 6 + s.size + 7 + s.size + 2 ≤ 10000
      omega
    have HX := hid_mk hX.symm
    have HXl := hid_mk hXl
    clear hX hXl hh
    go_enter Tryd.func6, Tryd.ntmps6
    go_wp2_with fail
    refine hha.out.mono ?_
    rintro e w1 ⟨rfl, n1, hw1⟩
    have H1 := hid_mk (Next.of HT.out (show Below w.heap.size w w1 by rw [hw1]; exact below_drewN (Below.refl _ _) n1))
    clear hw1 hha
    have hto := hid_mk (tokens_any X w1 H1.out.2 (by omega))
    rw [HXl.out] at hto
    go_wp2_with fail
    rw [HX.out]
    refine hto.out.mono ?_
    rintro e w2 ⟨v, ps, rfl, hps, hrow, hn⟩
    rw [HK.out] at hps ⊢
    have H2 := hid_mk (And.intro (H1.out.trans hn) hrow)
    clear hto hrow hn H1
    have hlen : ps.length = 1 := by simpa using (congrArg List.length hps).symm
    match ps, hlen, H2, hps with
    | [p0], _, H2, hps =>
    obtain ⟨g, c, hv⟩ := H2.out.2.some (by simp)
    rw [show ([p0] : List (Tk × Value)).length = 1 from rfl] at hv
    subst hv
    simp only [List.map_cons, List.map_nil, List.cons.injEq, and_true] at hps
    have c0 := fun j hj => H2.out.2.cells 0 (by simp) j hj
    simp only [List.getElem_cons_zero, tkF, ← hps] at c0
    have r0 := H2.out.2.2 p0 (by simp)
    rw [← hps] at r0
    obtain ⟨a0, k0, hv0, hat⟩ := own_attrs r0
    rcases hat with ⟨_, hx⟩ | ⟨ga, rfl, hga, hat⟩
    · cases hx
    have e0 := hat 0 (by simp)
    have e1 := hat 1 (by simp)
    simp only [List.getElem_cons_zero, List.getElem_cons_succ] at e0 e1
    have d02 : w2.cell? ⟨g, 2, none⟩ = some (.slice (some ⟨ga, 0, none⟩) 2 k0) := (c0 2 (by decide)).trans (by rw [hv0]; rfl)
    have q0 : w2.cell? ⟨ga, 0, none⟩ = some (.string (strOf [97])) := e0.1
    have q1 : w2.cell? ⟨ga, 1, none⟩ = some (.string s) := by rw [e0.2, strOf_sl]
    have q2 : w2.cell? ⟨ga, 2, none⟩ = some (.string (strOf [98])) := e1.1
    have q3 : w2.cell? ⟨ga, 3, none⟩ = some (.string s) := by rw [e1.2, strOf_sl]
    have l1 : (strOf [97]).toList = [97] := toList_strOf _
    have l2 : (strOf [98]).toList = [98] := toList_strOf _
    clear c0 r0 hps hv0 hat e0 e1
    go_wp2_with fail
    refine (works_any w2 H2.out.1.2).mono ?_
    rintro e w3 ⟨rfl, hn3⟩
    have H3 := hid_mk (H2.out.1.trans hn3)
    clear hn3
    go_wp2
    go_ret
    exact ⟨rfl, H3.out⟩
theorem tokenValues_c (s : ByteArray) (w : World) {c : Prop} (_ : c) (hT : Tab w) :
    Calls Tryd.prog 6 #[.string s] w fun e w' => e = .returned (.bool true) ∧ Next w w' := tokenValues_w s w hT
end Go.Proofs.YtnlbhifpmoemdaaDoor
