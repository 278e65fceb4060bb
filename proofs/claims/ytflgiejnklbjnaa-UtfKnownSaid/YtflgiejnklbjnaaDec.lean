/-
  Decode of the program: line ends made one, each part's character written. Condition: none (beyond the limit it is refused).
-/
import Derived.Test.YtflgiejnklbjnaaRun
import Derived.Test.YtflgiejnklbjnaaBuf
namespace Go.Proofs.Ytflgiejnklbjnaa
open Go.RowKit
def piece (before r : Nat) : List UInt8 := if r = 13 then [10] else if r = 10 ∧ before = 13 then [] else Lib.encodeRune r
def decStep (st : Nat × List UInt8) (r : Nat) : Nat × List UInt8 := (r, st.2 ++ piece st.1 r)
def decSt (rs : List Nat) : Nat × List UInt8 := rs.foldl decStep (0, [])
theorem decSt_snoc (rs : List Nat) (r : Nat) : decSt (rs ++ [r]) = decStep (decSt rs) r := by
  unfold decSt
  rw [List.foldl_append]
  rfl
theorem piece_len (b r : Nat) : (piece b r).length ≤ 4 := by
  unfold piece
  have := Lib.runeCells_le r
  rw [Lib.runeCells_length] at this
  (repeat' split) <;> simp <;> omega
theorem decSt_len : ∀ (rs : List Nat) (st : Nat × List UInt8), (rs.foldl decStep st).2.length ≤ st.2.length + 4 * rs.length
  | [], st => by simp
  | r :: rs, st => by
    have h1 := decSt_len rs (decStep st r)
    have h2 := piece_len st.1 r
    simp only [List.foldl_cons, List.length_cons]
    have h3 : (decStep st r).2.length = st.2.length + (piece st.1 r).length := by simp [decStep]
    omega
/-- What the closure of Decode keeps: the builder holds what has been told, 'before' the last character. -/
def DecI (W : World) (rs : List Nat) (w : World) : Prop :=
  Below W.heap.size W w ∧ Lib.IsBuilderF 38 5 W.heap.size W.heap.size (Lib.byteCells (decSt rs).2) w ∧ w.heap[W.heap.size + 1]? = some (.cells #[.int .i32 ((decSt rs).1 : Nat)] 21 (0, 0))
theorem DecI.iter {W : World} {rs : List Nat} {w : World} (h : DecI W rs w) (s : ByteArray) : DecI W rs (w.iter s 0) := by
  obtain ⟨hbel, hB, hq⟩ := h
  have hlt : W.heap.size + 1 < w.heap.size := (Array.getElem?_eq_some_iff.1 hq).1
  exact ⟨hbel.alloc hbel.size _, hB.alloc _, (Below.heap_alloc w _ _ hlt).trans hq⟩
theorem DecI.iterAt {W : World} {rs : List Nat} {w : World} (h : DecI W rs w) {k : Nat} {s : ByteArray} {pos : Nat} (hk : w.heap[k]? = some (.stringIter s pos)) (pos' : Nat) (hWk : W.heap.size ≤ k) : DecI W rs (w.iterAt k s pos') := by
  obtain ⟨hbel, hB, hq⟩ := h
  refine ⟨Lib.below_iterAt hbel hWk s pos', hB.iterAt hk pos', ?_⟩
  rw [Lib.iterAt_other w k _ s pos' (fun e => by subst e; rw [hq] at hk; cases hk)]
  exact hq
theorem kept_q {w w' : World} {b q : Nat} {v : Value} (hk : Lib.OthersKept 5 (some b) w w') (hq : w.heap[q]? = some (.cells #[v] 21 (0, 0))) (hne : q ≠ b) : w'.heap[q]? = some (.cells #[v] 21 (0, 0)) :=
  hk q _ hq (fun e => hne (Option.some.inj e)) (fun c fz e => by injection e with _ h; exact absurd h (by decide))
theorem builder_set {B b q : Nat} {bs : List Value} {w : World} {x v : Value} (h : Lib.IsBuilderF 38 5 B b bs w) (hq : w.heap[q]? = some (.cells #[x] 21 (0, 0))) : Lib.IsBuilderF 38 5 B b bs (w.setCell ⟨q, 0, none⟩ v) := by
  have one : ∀ p, Lib.BuilderAtF 38 5 B b p bs w → Lib.BuilderAtF 38 5 B b p bs (w.setCell ⟨q, 0, none⟩ v) := by
    rintro p ⟨hB, u, hb, hown, hne⟩
    have hbq : b ≠ q := fun e => by
      subst e
      rw [hb] at hq
      injection hq with hq
      injection hq with _ ht
      exact absurd ht (by decide)
    refine ⟨hB, u, ?_, ⟨hown.1, ?_⟩, hne⟩
    · rw [heap_setCell_other w _ b _ hbq]; exact hb
    · rcases hown.2 with h2 | ⟨g, cap, cur, fz, h1, h2, h3, h4⟩
      · exact .inl h2
      · refine .inr ⟨g, cap, cur, fz, h1, h2, ?_, h4⟩
        rw [heap_setCell_other w _ g _ (fun e => by
          have e' : g = q := e
          subst e'
          rw [h3] at hq
          injection hq with hq
          injection hq with _ ht
          exact absurd ht (by decide))]
        exact h3
  exact h.elim (fun h => .inl (one _ h)) (fun h => .inr (one _ h))
theorem builder_block {B b : Nat} {bs : List Value} {w : World} (h : Lib.IsBuilderF 38 5 B b bs w) : ∃ cs fz, w.heap[b]? = some (.cells cs 38 fz) := by
  rcases h with ⟨_, v, hb, _⟩ | ⟨_, v, hb, _⟩ <;> exact ⟨_, _, hb⟩
/-- The end of each way through the closure: the piece is written, the character is stored. -/
theorem decI_end {W : World} {rs : List Nat} {r : Nat} {w w1 : World} (h : DecI W rs w)
    (hb : Lib.IsBuilderF 38 5 W.heap.size W.heap.size (Lib.byteCells (decSt rs).2 ++ Lib.byteCells (piece (decSt rs).1 r)) w1) (hbel : Below W.heap.size w w1) (hoth : Lib.OthersKept 5 (some W.heap.size) w w1) :
    DecI W (rs ++ [r]) (w1.setCell ⟨W.heap.size + 1, 0, none⟩ (.int .i32 (r : Int))) ∧ IterKept w (w1.setCell ⟨W.heap.size + 1, 0, none⟩ (.int .i32 (r : Int))) := by
  obtain ⟨hbw, hB, hq⟩ := h
  have hq1 := kept_q hoth hq (by omega)
  refine ⟨⟨(hbw.trans hbel).setCell (p := ⟨W.heap.size + 1, 0, none⟩) (by simp) _, ?_, ?_⟩, fun k s pos hk => ?_⟩
  · rw [decSt_snoc]
    show Lib.IsBuilderF _ _ _ _ (Lib.byteCells ((decSt rs).2 ++ piece (decSt rs).1 r)) _
    rw [Lib.byteCells_append]
    exact builder_set hb hq1
  · rw [heap_setCell_same w1 _ 0 _ _ _ hq1, decSt_snoc]
    rfl
  · have hkb : k ≠ W.heap.size := fun e => by
      subst e
      obtain ⟨cs, fz, hc⟩ := builder_block hB
      rw [hk] at hc
      cases hc
    have h1 := hoth.iter hk hkb
    rw [heap_setCell_other w1 _ k _ (fun e => by
      have e' : k = W.heap.size + 1 := e
      subst e'
      rw [hq] at hk
      cases hk)]
    exact h1
set_option maxHeartbeats 2000000 in
theorem decFn_any (W : World) (rs : List Nat) (r : Nat) (w : World) (hn : rs.length < 140737488) (hr : r ≤ 1114111) (h : DecI W rs w) :
    Calls Try.prog 15 #[.int .i32 r, .pointer (some ⟨W.heap.size, 0, none⟩), .pointer (some ⟨W.heap.size + 1, 0, none⟩)] w fun e w' => e = .returned (.tuple #[]) ∧ DecI W (rs ++ [r]) w' ∧ IterKept w w' := by
  have hl := decSt_len rs (0, [])
  have hl2 : (Lib.byteCells (decSt rs).2).length ≤ 4 * rs.length := by
    rw [Lib.byteCells_length]
    simpa [decSt] using hl
  clear hl
  have hq := h.2.2
  have hsz : W.heap.size + 1 < w.heap.size := (Array.getElem?_eq_some_iff.1 hq).1
  have HD := hid_mk h
  have c0 : w.cell? ⟨W.heap.size + 1, 0, none⟩ = some (.int .i32 ((decSt rs).1 : Nat)) := by rw [cell_of_row w _ 0 _ _ _ hq]; rfl
  have fin := hid_mk (fun (w1 : World) (hb : Lib.IsBuilderF 38 5 W.heap.size W.heap.size (Lib.byteCells (decSt rs).2 ++ Lib.byteCells (piece (decSt rs).1 r)) w1) (hbel : Below W.heap.size w w1) (hoth : Lib.OthersKept 5 (some W.heap.size) w w1) => decI_end h hb hbel hoth)
  have HQ := hid_mk hq
  have HB := hid_mk h.2.1
  have hWs : W.heap.size ≤ w.heap.size := by omega
  clear hq h HD
  by_cases h13 : r = 13
  · have hp : piece (decSt rs).1 r = [10] := by unfold piece; rw [if_pos h13]
    have HP := hid_mk hp
    subst h13
    clear hp
    generalize (decSt rs).1 = bf at *
    generalize (decSt rs).2 = acc at *
    go_enter Try.func15, Try.ntmps15
    go_wp2_with fail
    refine (writeByte_any W.heap.size W.heap.size (Lib.byteCells acc) 10 w HB.out (by omega) hWs).mono ?_
    rintro e w1 ⟨rfl, h1, b1, k1⟩
    have hq1 := kept_q k1 HQ.out (by omega)
    have d0 : w1.cell? ⟨W.heap.size + 1, 0, none⟩ = some (.int .i32 (bf : Nat)) := by rw [cell_of_row w1 _ 0 _ _ _ hq1]; rfl
    have f0 : w1.frozen? ⟨W.heap.size + 1, 0, none⟩ = false := frozen_of_row w1 _ 0 _ _ hq1
    have hfin := hid_mk (fin.out w1 (by rw [HP.out]; exact Or.inr h1) b1 k1)
    clear hq1 h1 b1 k1 fin HB HQ HP
    go_wp2
    go_end0
    exact ⟨rfl, hfin.out⟩
  · by_cases hskip : r = 10 ∧ (decSt rs).1 = 13
    · have hp : piece (decSt rs).1 r = [] := by unfold piece; rw [if_neg h13, if_pos hskip]
      have HP := hid_mk hp
      obtain ⟨h10, hbf⟩ := hskip
      rw [hbf] at c0 HQ HP fin
      subst h10
      clear hp hbf h13
      generalize (decSt rs).2 = acc at *
      have f0 : w.frozen? ⟨W.heap.size + 1, 0, none⟩ = false := frozen_of_row w _ 0 _ _ HQ.out
      have hfin := hid_mk (fin.out w (by rw [HP.out]; show Lib.IsBuilderF _ _ _ _ (Lib.byteCells acc ++ []) w; rw [List.append_nil]; exact HB.out) (Below.refl _ _) (Lib.OthersKept.refl _ _ _))
      clear fin HB HQ HP
      go_enter Try.func15, Try.ntmps15
      go_wp2
      go_end0
      exact ⟨rfl, hfin.out⟩
    · have hp : piece (decSt rs).1 r = Lib.encodeRune r := by unfold piece; rw [if_neg h13, if_neg hskip]
      have HP := hid_mk hp
      have hway : r ≠ 10 ∨ (r = 10 ∧ (decSt rs).1 ≠ 13) := by
        by_cases h10 : r = 10
        · exact .inr ⟨h10, fun h => hskip ⟨h10, h⟩⟩
        · exact .inl h10
      clear hp hskip
      generalize (decSt rs).1 = bf at *
      generalize (decSt rs).2 = acc at *
      have hc13 : ((r : Int) == 13) = false := by simp; omega
      rcases hway with h10 | ⟨rfl, hbf⟩
      · have hc10 : ((r : Int) != 10) = true := by simp; omega
        clear h13 h10
        go_enter Try.func15, Try.ntmps15
        go_wp2_with fail
        refine (writeRune_any W.heap.size W.heap.size (Lib.byteCells acc) r (by omega) (by omega) w HB.out (by omega) hWs).mono ?_
        rintro e w1 ⟨rfl, h1, b1, k1⟩
        have hq1 := kept_q k1 HQ.out (by omega)
        have d0 : w1.cell? ⟨W.heap.size + 1, 0, none⟩ = some (.int .i32 (bf : Nat)) := by rw [cell_of_row w1 _ 0 _ _ _ hq1]; rfl
        have f0 : w1.frozen? ⟨W.heap.size + 1, 0, none⟩ = false := frozen_of_row w1 _ 0 _ _ hq1
        have hfin := hid_mk (fin.out w1 (by rw [HP.out, Lib.byteCells_encodeRune]; exact Or.inr h1) b1 k1)
        clear hq1 h1 b1 k1 fin HB HQ HP
        go_wp2
        go_end0
        exact ⟨rfl, hfin.out⟩
      · have hb13 : ((bf : Int) != 13) = true := by simp; omega
        clear h13 hc13 hbf
        go_enter Try.func15, Try.ntmps15
        go_wp2_with fail
        refine (writeRune_any W.heap.size W.heap.size (Lib.byteCells acc) 10 (by omega) (by omega) w HB.out (by omega) hWs).mono ?_
        rintro e w1 ⟨rfl, h1, b1, k1⟩
        have hq1 := kept_q k1 HQ.out (by omega)
        have d0 : w1.cell? ⟨W.heap.size + 1, 0, none⟩ = some (.int .i32 (bf : Nat)) := by rw [cell_of_row w1 _ 0 _ _ _ hq1]; rfl
        have f0 : w1.frozen? ⟨W.heap.size + 1, 0, none⟩ = false := frozen_of_row w1 _ 0 _ _ hq1
        have hfin := hid_mk (fin.out w1 (by rw [HP.out, Lib.byteCells_encodeRune]; exact Or.inr h1) b1 k1)
        clear hq1 h1 b1 k1 fin HB HQ HP
        go_wp2
        go_end0
        exact ⟨rfl, hfin.out⟩
end Go.Proofs.Ytflgiejnklbjnaa
