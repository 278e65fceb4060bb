/-
  Runes of the program: the characters of the parts, in a slice of the call's own. Condition: the text's length is bounded.
-/
import Derived.Test.YtflgiejnklbjnaaEach
import Derived.WalkSmall
import Derived.Deep.AppendLies
namespace Go.Proofs.Ytflgiejnklbjnaa
open Go.RowKit
theorem infoRune : (Try.prog.info? 21).map (fun i => (i.zero, i.size, i.bytes)) = some (some (.int .i32 0), 1, 4) := by kernel_rfl
def runeVals (rs : List Nat) : List Value := rs.map fun (r : Nat) => Value.int .i32 (r : Int)
/-- What the closure of Runes keeps: its slice lies in block b, and owns the characters so far. -/
def RunI (W : World) (b : Nat) (rs : List Nat) (w : World) : Prop :=
  Below W.heap.size W w ∧ W.heap.size ≤ b ∧ ∃ v, w.heap[b]? = some (.cells #[v] 23 (0, 0)) ∧ w.ownsRow W.heap.size 21 1 v rs.length (runeVals rs) ∧ v.ownBlock ≠ some b
theorem own_ne {w : World} {base b n size : Nat} {e t : TypeId} {v : Value} {xs : List Value} {cs : Array Value} {fr : Nat × Nat} (h : w.ownsRow base e size v n xs) (hb : w.heap[b]? = some (.cells cs t fr)) (hne : e ≠ t) : v.ownBlock ≠ some b := by
  rcases h.2 with ⟨rfl, _⟩ | ⟨g, cap, cur, rfl, _, hg, _⟩
  · simp [Value.ownBlock]
  · intro he
    have : g = b := by simpa [Value.ownBlock] using he
    subst this
    rw [hg] at hb
    injection hb with hb
    injection hb with _ ht
    exact hne ht
set_option maxHeartbeats 2000000 in
theorem runesFn_any (W : World) (b : Nat) (rs : List Nat) (r : Nat) (w : World) (hn : rs.length < 140737488) (h : RunI W b rs w) :
    Calls Try.prog 20 #[.int .i32 r, .pointer (some ⟨b, 0, none⟩)] w fun e w' => e = .returned (.tuple #[]) ∧ RunI W b (rs ++ [r]) w' ∧ IterKept w w' := by
  obtain ⟨i0, hi, hz0, hz1, hz2⟩ := info_parts infoRune
  obtain ⟨hbel, hWb, v, hb, hown, hne⟩ := h
  have hlt : b < w.heap.size := (Array.getElem?_eq_some_iff.1 hb).1
  have hsz := hbel.size
  have c0 : w.cell? ⟨b, 0, none⟩ = some v := by rw [cell_of_row w b 0 _ _ _ hb]; rfl
  go_enter Try.func20, Try.ntmps20
  go_wp2_with (at_builtin; refine Classical.byContradiction fun hno => ?_)
  refine hno ?_
  clear hno
  refine wpList_append_own _ rfl (.tmp 3) (.tmp 5) _ rfl W.heap.size 21 i0 _ 1 4 Try.underlying23 hi hz0 hz1 hz2 rfl (by decide) v rs.length (runeVals rs) rfl (hown.alloc _) ⟨w.heap.size, 0, none⟩ 1 1 [.int .i32 r] rfl rfl ?c1 ?c2 ?c3 ?c4 ?c5 ?_
  case c1 =>
    intro j u hu
    match j, hu with
    | 0, hu => simp at hu; subst hu; simp [Addr.add]
  case c2 => intro u hu; simp at hu; subst hu; rfl
  case c3 => unfold maxLen; omega
  case c4 => omega
  case c5 => simp; omega
  intro v' w1 hown1 hgrow _
  clear hi hz0 hz1 hz2
  clear i0
  have hb1 : w1.heap[b]? = some (.cells #[v] 23 (0, 0)) := by
    rw [hgrow.block b (by simp; omega) (fun e => hne e.symm), Below.heap_alloc w _ _ hlt]
    exact hb
  have d0 : w1.cell? ⟨b, 0, none⟩ = some v := by rw [cell_of_row w1 b 0 _ _ _ hb1]; rfl
  have f0 : w1.frozen? ⟨b, 0, none⟩ = false := frozen_of_row w1 b 0 _ _ hb1
  obtain ⟨g, cap, hv, hcap, hgl⟩ := hown1.form (by omega)
  have hne1 : v'.ownBlock ≠ some b := own_ne hown1 hb1 (by decide)
  have hbel1 : Below W.heap.size W w1 := (hbel.alloc hsz _).grown hgrow (by simp; omega) (fun k hk => by
    rcases hown.2 with ⟨rfl, _⟩ | ⟨g0, cap0, cur0, rfl, hg0, _⟩
    · simp [Value.ownBlock] at hk
    · simp [Value.ownBlock] at hk; omega)
  have hkeep : IterKept w w1 := fun k s pos hk => by
    have hkl : k < w.heap.size := (Array.getElem?_eq_some_iff.1 hk).1
    rw [hgrow.block k (by simp; omega) (fun e => by
      rcases hown.2 with ⟨rfl, _⟩ | ⟨g0, cap0, cur0, rfl, _, hh, _⟩
      · simp [Value.ownBlock] at e
      · have : g0 = k := by simpa [Value.ownBlock] using e.symm
        subst this
        rw [hk] at hh
        cases hh), Below.heap_alloc w _ _ hkl]
    exact hk
  have hfin : RunI W b (rs ++ [r]) (w1.setCell ⟨b, 0, none⟩ v') ∧ IterKept w (w1.setCell ⟨b, 0, none⟩ v') := by
    refine ⟨⟨hbel1.setCell hWb _, hWb, v', ?_, ?_, hne1⟩, fun k s pos hk => ?_⟩
    · rw [heap_setCell_same w1 b 0 _ _ _ hb1]; rfl
    · have := ownsRow_setCell_other hown1 (a := ⟨b, 0, none⟩) hne1 v'
      simpa [runeVals] using this
    · have h1 := hkeep k s pos hk
      by_cases hkb : k = b
      · subst hkb; rw [hb1] at h1; cases h1
      · rw [heap_setCell_other w1 _ k _ hkb]; exact h1
  have HF : Hid _ := hfin
  clear hfin hkeep hbel1 hown1 hgrow hb hown hbel
  rw [hv] at HF ⊢
  clear hv hne1
  go_wp2
  go_end0
  exact ⟨rfl, HF.out⟩
theorem RunI.iter {W : World} {b : Nat} {rs : List Nat} {w : World} (h : RunI W b rs w) (s : ByteArray) : RunI W b rs (w.iter s 0) := by
  obtain ⟨hbel, hWb, v, hb, hown, hne⟩ := h
  have hlt : b < w.heap.size := (Array.getElem?_eq_some_iff.1 hb).1
  exact ⟨hbel.alloc hbel.size _, hWb, v, (Below.heap_alloc w _ _ hlt).trans hb, hown.alloc _, hne⟩
theorem RunI.iterAt {W : World} {b : Nat} {rs : List Nat} {w : World} (h : RunI W b rs w) {k : Nat} {s : ByteArray} {pos : Nat} (hk : w.heap[k]? = some (.stringIter s pos)) (pos' : Nat) (hWk : W.heap.size ≤ k) : RunI W b rs (w.iterAt k s pos') := by
  obtain ⟨hbel, hWb, v, hb, hown, hne⟩ := h
  refine ⟨Lib.below_iterAt hbel hWk s pos', hWb, v, ?_, ?_, hne⟩
  · rw [Lib.iterAt_other w k b s pos' (fun e => by subst e; rw [hb] at hk; cases hk)]; exact hb
  · refine ⟨hown.1, ?_⟩
    rcases hown.2 with h2 | ⟨g, cap, cur, h1, h2, h3, h4⟩
    · exact .inl h2
    · refine .inr ⟨g, cap, cur, h1, h2, ?_, h4⟩
      rw [Lib.iterAt_other w k g s pos' (fun e => by subst e; rw [h3] at hk; cases hk)]; exact h3
set_option maxHeartbeats 2000000 in
theorem runes_any (s : ByteArray) (hs : s.size ≤ 100000000) (w : World) :
    Calls Try.prog 10 #[.string s] w fun e w' => ∃ v, e = .returned v ∧ w'.ownsRow w.heap.size 21 1 v (runesL (sl s)).length (runeVals (runesL (sl s))) ∧ Below w.heap.size w w' := by
  have h0 : RunI w w.heap.size [] (w.alloc (.cells #[.slice none 0 0] 23)) :=
    ⟨(Below.refl _ _).alloc (Nat.le_refl _) _, Nat.le_refl _, _, heap_alloc_new w _, ⟨rfl, .inl ⟨rfl, rfl⟩⟩, by simp [Value.ownBlock]⟩
  have hE := eachPart_any (fun rs w' => RunI w w.heap.size rs w') 20 #[.pointer (some ⟨w.heap.size, 0, none⟩)] s (by omega)
    (fun args w' => by kernel_rfl) (fun rs r w' hl _ hI => runesFn_any w w.heap.size rs r w' (by omega) hI) (fun rs w' hI => hI.iter s) (w.alloc (.cells #[.slice none 0 0] 23)) (fun rs w' pos pos' hI hk => hI.iterAt hk pos' (by simp)) h0
  have HE := hid_mk hE
  clear hE h0
  go_enter Try.func10, Try.ntmps10
  go_wp2_with fail
  refine HE.out.mono ?_
  rintro e w1 ⟨rfl, hbel, _, v, hb, hown, _⟩
  have c0 : w1.cell? ⟨w.heap.size, 0, none⟩ = some v := by rw [cell_of_row w1 _ 0 _ _ _ hb]; rfl
  have HO : Hid _ := hown
  have HB : Hid _ := hbel
  clear hown hbel hb HE
  go_wp2
  go_ret
  exact ⟨v, rfl, HO.out, HB.out⟩
end Go.Proofs.Ytflgiejnklbjnaa
