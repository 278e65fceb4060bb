/-
  Rows of structs as flat cells: the k-th struct of an array, the j-th cell of the k-th struct. No condition but that k is within.
-/
import Derived.Test.YtnooofnlbfhopaaDoorWords
import Derived.Laws.Rows
namespace Go.Proofs.YtnooofnlbfhopaaDoor
section
variable {α : Type}
theorem flat_drop (f : α → List Value) (n : Nat) (hf : ∀ a, (f a).length = n) : ∀ (l : List α) (k : Nat), (l.flatMap f).drop (k * n) = (l.drop k).flatMap f
  | [], k => by simp
  | a :: l, 0 => by simp
  | a :: l, k + 1 => by
    have e : (k + 1) * n = (f a).length + k * n := by rw [hf a, Nat.add_mul]; omega
    rw [List.flatMap_cons, e, List.drop_append, Nat.add_sub_cancel_left, flat_drop f n hf l k, List.drop_succ_cons]
    simp
theorem flat_take (f : α → List Value) (n : Nat) (hf : ∀ a, (f a).length = n) (l : List α) (k : Nat) (hk : k < l.length) : ((l.flatMap f).drop (k * n)).take n = f l[k] := by
  rw [flat_drop f n hf, List.drop_eq_getElem_cons hk, List.flatMap_cons, List.take_append_of_le_length (by rw [hf]; exact Nat.le_refl _), ← hf l[k], List.take_length]
theorem flat_extract (f : α → List Value) (n : Nat) (hf : ∀ a, (f a).length = n) (l : List α) (k : Nat) (hk : k < l.length) : (l.flatMap f).toArray.extract (k * n) (k * n + n) = (f l[k]).toArray := by
  rw [List.extract_toArray, List.extract_eq_take_drop, Nat.add_sub_cancel_left, flat_take f n hf l k hk]
theorem flat_get (f : α → List Value) (n : Nat) (hf : ∀ a, (f a).length = n) (l : List α) (k j : Nat) (hk : k < l.length) (hj : j < n) : (l.flatMap f)[k * n + j]? = (f l[k])[j]? := by
  rw [← flat_take f n hf l k hk, List.getElem?_take_of_lt hj, List.getElem?_drop]
theorem flat_length (f : α → List Value) (n : Nat) (hf : ∀ a, (f a).length = n) : ∀ l : List α, (l.flatMap f).length = l.length * n
  | [] => by simp
  | a :: l => by rw [List.flatMap_cons, List.length_append, hf a, flat_length f n hf l, List.length_cons, Nat.add_mul]; omega
end
/-- x[k] of an array of structs, the array a value. -/
theorem run_index_arr {P : Program} (t e : TypeId) (len n : Nat) (cs : Array Value) (k : Nat) (w : World) (ht : P.underlying t = some (.array len e)) (hn : (P.info? e).map (·.size) = some n)
    (he : (match P.underlying e with | some (.struct _) => true | some (.array _ _) => true | _ => false) = true) (hk : k < len) :
    (Instr.index t (.agg cs) (.int .i64 (k : Int))).run P w = .ok (.agg (cs.extract (k * n) (k * n + n))) w := by
  cases hi : P.info? e with
  | none => simp [hi] at hn
  | some i =>
    have hs : i.size = n := by simpa [hi] using hn
    cases hu : P.underlying e with
    | none => simp [hu] at he
    | some d =>
      have hagg : (isAgg e).run P w = .ok true w := by
        unfold isAgg
        rw [Sem.run_bind, run_underlying hu w]
        rw [hu] at he
        cases d <;> simp_all
      have hlt : (0 : Int) ≤ (k : Int) ∧ (k : Int) < (len : Int) := ⟨by omega, by omega⟩
      simp [Instr.index, asIntOf, Sem.run_bind, run_underlying ht w, hlt, part, hagg, sizeOf, typeInfo, hi, hs]
      intro h; omega
end Go.Proofs.YtnooofnlbfhopaaDoor
