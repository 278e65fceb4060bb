/-
  A table of rows of plain values, as a datum, tells its cells: an array of structs whose fields are one cell each. Conditions: on the types' layout.
-/
import Derived.Test.YtlcijlklbabajaaGreatDoorFlEx
import Derived.ChangeArms
import Derived.OpenShut
import Derived.Test.YtlcijlklbabajaaGreatDoorPlNum
import Derived.Test.YtlcijlklbabajaaGreatDoorRows
import Derived.Test.YtlcijlklbabajaaGreatDoorCards
import Derived.Test.YtlcijlklbabajaaGreatDoorTie
import Derived.Test.YtlcijlklbabajaaGreatDoorShelf
import Derived.SevenTiedAt
import Derived.ProofKit
import Derived.LaidMore
import Derived.Stop.Joined
import Derived.Lay
import Derived.Deep.DeepHandedRow
import Derived.Test.YtlcijlklbabajaaGreatDoorRR12
import Derived.Lib.LaidU8T
namespace Go.Proofs.YtlcijlklbabajaaGreatDoor
def litVal : Lit → Value
  | .int k n => .int k n
  | .bool b => .bool b
  | .string l => .string ⟨l.toArray⟩
  | .float k b => .float k b
  | .nil => undef
section
variable {H : Type} {enc : TypeId × Value → H} {P : Program} {w : World} {base : Nat} {sp : Nat → Bool} {held : Bool} {fuel : Nat} {t : TypeId}
theorem leaf_of_trod {c : Value} {l : Lit} {q : List MemPlace} (h : DataW.trod enc P w base sp held fuel t [c] = some (.lit l, q)) : c = litVal l := by
  cases fuel with
  | zero => simp [DataW.trod] at h
  | succ m =>
    unfold DataW.trod at h
    split at h <;> simp_all [litVal]
    all_goals
      first
        | (obtain ⟨rfl, _⟩ := h; rfl)
        | (obtain ⟨_, rfl, _⟩ := h; rfl)
        | (obtain ⟨_, rfl, _⟩ := h; simp)
        | (exfalso; simp [Option.bind_eq_some_iff, Option.map_eq_some_iff] at h; done)
        | (exfalso; split at h <;> simp_all [Option.bind_eq_some_iff, Option.map_eq_some_iff]; done)
        | (exfalso; split at h <;> (try split at h) <;> simp_all [Option.bind_eq_some_iff, Option.map_eq_some_iff] <;> (try (obtain ⟨_, _, h⟩ := h; split at h <;> simp_all)); done)
theorem getElem?_flatMap_rows {α : Type} (f : α → List Value) (m : Nat) (hm : 0 < m) (hf : ∀ a, (f a).length = m) (l : List α) (cs : List Value) (hl : cs.length = l.length * m)
    (h : ∀ i (hi : i < l.length), (cs.drop (i * m)).take m = f l[i]) : cs = l.flatMap f := by
  apply List.ext_getElem?
  intro j
  by_cases hj : j < l.length * m
  · have hi : j / m < l.length := Nat.div_lt_of_lt_mul (by rw [Nat.mul_comm]; exact hj)
    have hr : j % m < m := Nat.mod_lt _ hm
    have e : j = j / m * m + j % m := by rw [Nat.mul_comm]; exact (Nat.div_add_mod j m).symm
    rw [e, flat_get f m hf l _ _ hi hr, ← h _ hi, List.getElem?_take_of_lt hr, List.getElem?_drop]
  · rw [List.getElem?_eq_none (by omega), List.getElem?_eq_none (by rw [flat_length f m hf]; omega)]
theorem cells_pad {m : Nat} (hpad : ∀ r : List Lit, r.length = m → (r.map litVal ++ List.replicate m undef).take m = r.map litVal) : ∀ rows : List (List Lit), (∀ r ∈ rows, r.length = m) →
    rows.flatMap (fun r => (r.map litVal ++ List.replicate m undef).take m) = rows.flatMap (fun r => r.map litVal)
  | [], _ => rfl
  | r :: rows, h => by rw [List.flatMap_cons, List.flatMap_cons, hpad r (h r (by simp)), cells_pad hpad rows (fun r h' => h r (by simp [h']))]
/-- An array of structs of one-cell fields: the datum tells the cells. -/
theorem cells_of_rows {cs : List Value} {p : List MemPlace} {n m : Nat} {e : TypeId} {fs : Array Field} {rows : List (List Lit)} (ht : P.underlying t = some (.array n e)) (he : P.underlying e = some (.struct fs))
    (hce : P.cellsOf e = m) (hct : P.cellsOf t = n * m) (hm : 0 < m) (hfs : fs.size = m) (hf : ∀ (i : Nat) (f : Field), fs[i]? = some f → f.offset = i ∧ P.cellsOf f.type = 1)
    (hr : ∀ r ∈ rows, r.length = m) (h : DataW.trod enc P w base sp held fuel t cs = some (.agg (rows.map fun r => .agg (r.map .lit)), p)) : cs = rows.flatMap (fun r => r.map litVal) := by
  obtain ⟨xs, k, rfl, hx, hl, hxn, hel⟩ := DataW.trod_array ht h
  simp only [Prod.mk.injEq, DataW.agg.injEq] at hx
  have hn : rows.length = n := by
    have := congrArg List.length hx.1
    simp only [List.length_map] at this
    omega
  have key : ∀ i (hi : i < rows.length), (cs.drop (i * m)).take m = rows[i].map litVal := by
    intro i hi
    have h1 := hel i (by omega)
    have hxi : i < xs.length := by omega
    rw [hce, List.getElem?_eq_getElem hxi] at h1
    have h2 : xs[i].1 = .agg (rows[i].map .lit) := by
      have := congrArg (fun l => l[i]?) hx.1
      simp only [List.getElem?_map, List.getElem?_eq_getElem hxi, List.getElem?_eq_getElem hi, Option.map_some, Option.some.injEq] at this
      exact this.symm
    obtain ⟨ys, k2, rfl, hy, hyl, hyn, hyel⟩ := DataW.trod_struct he h1
    rw [hce] at hyl
    have hy1 : DataW.agg (rows[i].map DataW.lit) = DataW.agg (ys.map (·.1)) := by rw [← h2, hy]
    simp only [DataW.agg.injEq] at hy1
    have hrl : rows[i].length = m := hr _ (List.getElem_mem hi)
    apply List.ext_getElem?
    intro j
    by_cases hj : j < m
    · obtain ⟨f, hfj⟩ : ∃ f, fs[j]? = some f := ⟨fs[j]'(by omega), Array.getElem?_eq_getElem (by omega)⟩
      have h3 := hyel j f hfj
      rw [(hf j f hfj).1, (hf j f hfj).2] at h3
      have hyj : j < ys.length := by omega
      rw [List.getElem?_eq_getElem hyj] at h3
      have h4 : ys[j].1 = .lit (rows[i][j]'(by omega)) := by
        have := congrArg (fun l => l[j]?) hy1
        simp only [List.getElem?_map, List.getElem?_eq_getElem hyj, List.getElem?_eq_getElem (show j < rows[i].length by omega), Option.map_some, Option.some.injEq] at this
        exact this.symm
      have h5 : ((cs.drop (i * m)).take m).drop j = ((cs.drop (i * m)).take m)[j]'(by omega) :: ((cs.drop (i * m)).take m).drop (j + 1) := List.drop_eq_getElem_cons (by omega)
      rw [h5] at h3
      have h6 : ([((cs.drop (i * m)).take m)[j]'(by omega)] : List Value) = (((cs.drop (i * m)).take m)[j]'(by omega) :: ((cs.drop (i * m)).take m).drop (j + 1)).take 1 := rfl
      rw [← h6] at h3
      have h7 : DataW.trod enc P w base sp held k2 f.type [((cs.drop (i * m)).take m)[j]'(by omega)] = some (.lit (rows[i][j]'(by omega)), ys[j].2) := by rw [h3, ← h4]
      have h8 := leaf_of_trod h7
      rw [List.getElem?_eq_getElem (by omega), List.getElem?_map, List.getElem?_eq_getElem (show j < rows[i].length by omega), h8]
      rfl
    · rw [List.getElem?_eq_none (by omega), List.getElem?_eq_none (by rw [List.length_map]; omega)]
  have hpad : ∀ r : List Lit, r.length = m → (r.map litVal ++ List.replicate m undef).take m = r.map litVal := fun r h => by
    rw [List.take_append_of_le_length (by rw [List.length_map, h]; exact Nat.le_refl _), List.take_of_length_le (by rw [List.length_map, h]; exact Nat.le_refl _)]
  have := getElem?_flatMap_rows (fun r : List Lit => (r.map litVal ++ List.replicate m undef).take m) m hm (fun a => by simp) rows cs (by rw [hl, hct, hn])
    (fun i hi => by rw [key i hi, hpad _ (hr _ (List.getElem_mem hi))])
  rw [this]
  exact cells_pad hpad rows hr
end
end Go.Proofs.YtlcijlklbabajaaGreatDoor
/-
  The variables that the rows of layer 4 list, and what the walks ask of them. Condition: the row's own.
-/
namespace Go.Proofs.YtlcijlklbabajaaGreatDoor
open Go.ChangeShapes Go.WideShapes Go.ChangeAt Go.RowKit
theorem own : ownKnob Tryz.prog.godebug = none := by kernel_rfl
theorem gRepl : Tryz.prog.globalNamed "selvedge/charref.replaced" = some 3 := by kernel_rfl
theorem tRepl : (Tryz.prog.globals[3]?).map (·.type) = some 210 := by kernel_rfl
def laidAll : List (String × DataW Unit) := [("unicode/utf8.acceptRanges", Rows.laid_unicode_utf8_acceptRanges), ("selvedge/charref.replaced", Rows.laid_selvedge_charref_replaced), ("unicode/utf8.first", Rows.laid_unicode_utf8_first)]
section
variable {H : Type} {enc : TypeId × Value → H} {P : Program} {w : World} {base : Nat} {sp : Nat → Bool} {held : Bool} {fuel : Nat} {t : TypeId}
/-- An array of one-cell values: the datum tells the cells. -/
theorem cells_of_lits {cs : List Value} {p : List MemPlace} {n : Nat} {e : TypeId} {ls : List Lit} (ht : P.underlying t = some (.array n e)) (hce : P.cellsOf e = 1) (hct : P.cellsOf t = n)
    (h : DataW.trod enc P w base sp held fuel t cs = some (.agg (ls.map .lit), p)) : cs = ls.map litVal := by
  obtain ⟨xs, k, rfl, hx, hl, hxn, hel⟩ := DataW.trod_array ht h
  simp only [Prod.mk.injEq, DataW.agg.injEq] at hx
  have hn : ls.length = n := by
    have := congrArg List.length hx.1
    simp only [List.length_map] at this
    omega
  apply List.ext_getElem?
  intro i
  by_cases hi : i < n
  · have h1 := hel i hi
    have hxi : i < xs.length := by omega
    rw [hce, List.getElem?_eq_getElem hxi, Nat.mul_one] at h1
    have h2 : xs[i].1 = .lit (ls[i]'(by omega)) := by
      have := congrArg (fun l => l[i]?) hx.1
      simp only [List.getElem?_map, List.getElem?_eq_getElem hxi, List.getElem?_eq_getElem (show i < ls.length by omega), Option.map_some, Option.some.injEq] at this
      exact this.symm
    have hci : i < cs.length := by rw [hl, hct]; omega
    rw [List.drop_eq_getElem_cons hci] at h1
    have h6 : ((cs[i]'hci) :: cs.drop (i + 1)).take 1 = [cs[i]'hci] := rfl
    rw [h6] at h1
    have h7 : DataW.trod enc P w base sp held k e [cs[i]'hci] = some (.lit (ls[i]'(by omega)), xs[i].2) := by rw [h1, ← h2]
    rw [List.getElem?_eq_getElem hci, List.getElem?_map, List.getElem?_eq_getElem (show i < ls.length by omega), leaf_of_trod h7]
    rfl
  · rw [List.getElem?_eq_none (by rw [hl, hct]; omega), List.getElem?_eq_none (by rw [List.length_map]; omega)]
end
theorem max_of_shape {W : World} (h : W.ShapedOpen Tryz.prog) : ∃ m : Int, W.cell? ⟨0, 0, none⟩ = some (.int .i64 m) := Tryz.laysM144.s1_3 W h
theorem tab_of_laid {W : World} (h : laidMetH Tryz.prog laidAll W) (hs : W.ShapedOpen Tryz.prog) : Tab W := by
  refine ⟨?_, max_of_shape hs⟩
  rw [MakeChecks.laidMetH_plain _ _ _ (by kernel_rfl)] at h
  obtain ⟨ps, ⟨_, _, _, _, _, _, _, _, _, _, ⟨g0, t0, cs0, f0, p0, q0, hg0, ht0, hv0, hd0, _, _⟩, _⟩, _⟩ := h
  obtain rfl := Option.some.inj (gRepl.symm.trans hg0)
  obtain rfl := Option.some.inj (tRepl.symm.trans ht0)
  have hc := cells_of_lits (n := 32) (ls := replT.map fun (r : Nat) => .int .i32 (r : Int)) Tryz.underlying210 (by kernel_rfl) (by kernel_rfl) hd0
  have e : cs0 = replCells := by
    apply Array.ext'
    rw [hc]
    unfold replCells
    rw [List.map_map]
    rfl
  subst e
  unfold World.var? at hv0
  rw [hg0] at hv0
  simp only [Option.bind_some] at hv0
  cases hh : W.heap[3]? with
  | none => rw [hh] at hv0; cases hv0
  | some o =>
    rw [hh] at hv0
    cases o with
    | cells cs T fr =>
      simp only [Option.some.injEq] at hv0
      subst hv0
      exact ⟨T, fr, rfl⟩
    | _ => cases hv0
theorem door_met (os : Os) (args : Array Value) : laidMetH Tryz.prog laidAll ((World.laidAll Tryz.prog os laidAll).forCall (fun _ _ => 0) ⟨#[], args, []⟩).memory := by
  rw [MakeChecks.laidMetH_plain _ _ _ (by kernel_rfl)]
  exact laidMet_laidAll _ (by kernel_rfl) (by kernel_rfl)
end Go.Proofs.YtlcijlklbabajaaGreatDoor
/-
  What the rows of layers 5 and 6 lay, for the walks that ask Right or Serialize too. Condition: the row's own.
-/
namespace Go.Proofs.YtlcijlklbabajaaGreatDoor
open Go.ChangeShapes Go.WideShapes Go.ChangeAt Go.RowKit Go.Lib
set_option maxRecDepth 100000 in
theorem tabB_of_laid {W : World} (h : laidMetH Tryz.prog laidAll W) (hs : W.ShapedOpen Tryz.prog) : R.TabV W ∧ Tab W := by
  refine ⟨?_, tab_of_laid h hs⟩
  rw [MakeChecks.laidMetH_plain _ _ _ (by kernel_rfl)] at h
  exact utf8Tabs_of_readsT (U8Types.of196 Tryz.lays196) ⟨by kernel_rfl, by kernel_rfl, by kernel_rfl, by kernel_rfl, by kernel_rfl, by kernel_rfl, by kernel_rfl⟩ (laidMet.reads h (List.mem_cons_of_mem _ (List.mem_cons_of_mem _ (List.mem_cons_self ..)))) (laidMet.reads h (List.mem_cons_self ..))
end Go.Proofs.YtlcijlklbabajaaGreatDoor
