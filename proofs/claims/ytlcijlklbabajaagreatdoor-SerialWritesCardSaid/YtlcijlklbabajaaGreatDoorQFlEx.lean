/-
  Rows of structs as flat cells: the k-th struct of an array, the j-th cell of the k-th struct. No condition but that k is within.
-/
import Derived.Test.YtlcijlklbabajaaGreatDoorQWords
import Derived.Laws.Rows
import Derived.WalkKit
import Derived.WalkSpells
namespace Go.Proofs.YtlcijlklbabajaaGreatDoor
section
variable {α : Type}
theorem flat_drop (f : α → List Value) (n : Nat) (hf : ∀ a, (f a).length = n) : ∀ (l : List α) (k : Nat), (l.flatMap f).drop (k * n) = (l.drop k).flatMap f
 | [], k => by simp
 | a :: l, 0 => by simp
 | a :: l, k + 1 => by
   have e : (k + 1) * n = (f a).length + k * n := by rw [hf a, Nat.add_mul]; omega
   rw [List.flatMap_cons, e, List.drop_append, Nat.add_sub_cancel_left, flat_drop f n hf l k, List.drop_succ_cons]
   simp
theorem flat_take (f : α → List Value) (n : Nat) (hf : ∀ a, (f a).length = n) (l : List α) (k : Nat) (hk : k < l.length) : ((l.flatMap f).drop (k * n)).take n = f l[k] := by
 rw [flat_drop f n hf, List.drop_eq_getElem_cons hk, List.flatMap_cons, List.take_append_of_le_length (by rw [hf]; exact Nat.le_refl _), ← hf l[k], List.take_length]
theorem flat_extract (f : α → List Value) (n : Nat) (hf : ∀ a, (f a).length = n) (l : List α) (k : Nat) (hk : k < l.length) : (l.flatMap f).toArray.extract (k * n) (k * n + n) = (f l[k]).toArray := by
 rw [List.extract_toArray, List.extract_eq_take_drop, Nat.add_sub_cancel_left, flat_take f n hf l k hk]
theorem flat_get (f : α → List Value) (n : Nat) (hf : ∀ a, (f a).length = n) (l : List α) (k j : Nat) (hk : k < l.length) (hj : j < n) : (l.flatMap f)[k * n + j]? = (f l[k])[j]? := by
 rw [← flat_take f n hf l k hk, List.getElem?_take_of_lt hj, List.getElem?_drop]
theorem flat_length (f : α → List Value) (n : Nat) (hf : ∀ a, (f a).length = n) : ∀ l : List α, (l.flatMap f).length = l.length * n
 | [] => by simp
 | a :: l => by rw [List.flatMap_cons, List.length_append, hf a, flat_length f n hf l, List.length_cons, Nat.add_mul]; omega
end
/-- x[k] of an array of structs, the array a value. -/
theorem run_index_arr {P : Program} (t e : TypeId) (len n : Nat) (cs : Array Value) (k : Nat) (w : World) (ht : P.underlying t = some (.array len e)) (hn : (P.info? e).map (·.size) = some n)
 (he : (match P.underlying e with | some (.struct _) => true | some (.array _ _) => true | _ => false) = true) (hk : k < len) :
 (Instr.index t (.agg cs) (.int .i64 (k : Int))).run P w = .ok (.agg (cs.extract (k * n) (k * n + n))) w := by
 cases hi : P.info? e with
 | none => simp [hi] at hn
 | some i =>
   have hs : i.size = n := by simpa [hi] using hn
   cases hu : P.underlying e with
   | none => simp [hu] at he
   | some d =>
     have hagg : (isAgg e).run P w = .ok true w := by
      unfold isAgg
      rw [Sem.run_bind, run_underlying hu w]
      rw [hu] at he
      cases d <;> simp_all
     have hlt : (0 : Int) ≤ (k : Int) ∧ (k : Int) < (len : Int) := ⟨by omega, by omega⟩
     simp [Instr.index, asIntOf, Sem.run_bind, run_underlying ht w, hlt, part, hagg, sizeOf, typeInfo, hi, hs]
     intro h; omega
end Go.Proofs.YtlcijlklbabajaaGreatDoor
namespace Go.Proofs.YtlcijlklbabajaaGreatDoor
open Go.RowKit
/-- Straight-line operations, run. -/
def execList (P : Program) (ops : Array Oper) : List Oper → Act → World → Option (Act × World)
 | [], a, w => some (a, w)
 | o :: rest, a, w =>
   if Region.wanted o (yielded ops a.tmps) then
    match (execOp a.eval o).run P w with
    | .ok (.value v) w' => execList P ops rest (a.put o.dst v) w'
    | .ok .skip w' => execList P ops rest (a.put o.dst undef) w'
    | _ => none
   else execList P ops rest (a.put o.dst undef) w
theorem wpList_exec {P : Program} {ops : Array Oper} {Q : Exit → Act → World → Prop} : ∀ (l : List Oper) (a : Act) (w : World) (a' : Act) (w' : World), execList P ops l a w = some (a', w') → Q .normal a' w' → wpList P ops Q l a w
 | [], a, w, a', w', h, q => by
   simp only [execList, Option.some.injEq, Prod.mk.injEq] at h
   obtain ⟨rfl, rfl⟩ := h
   exact q
 | o :: rest, a, w, a', w', h, q => by
   unfold execList at h
   unfold wpList
   by_cases hw : Region.wanted o (yielded ops a.tmps) = true
   ·rw [if_pos hw] at h ⊢
    refine .inl ?_
    unfold Oper.wp
    cases hr : (execOp a.eval o).run P w with
    | ok n w1 =>
      rw [hr] at h
      cases n with
      | value v => exact wpList_exec rest _ _ a' w' h q
      | skip => exact wpList_exec rest _ _ a' w' h q
      | _ => cases h
    | halt h1 w1 => rw [hr] at h; cases h
   ·rw [if_neg hw] at h ⊢
    exact wpList_exec rest _ _ a' w' h q
/-- The same, of the frame only what is asked for: slot s. -/
theorem wpList_exec_slot {P : Program} {ops : Array Oper} {Q : Exit → Act → World → Prop} (s : Nat) (v : Value) (l : List Oper) (a : Act) (w w' : World)
 (h : (execList P ops l a w).map (fun p => (p.1.tmps.getD s undef, p.1.defers.isEmpty, p.2)) = some (v, true, w'))
 (hQ : ∀ a' : Act, a'.tmps.getD s undef = v → a'.defers = [] → Q .normal a' w') : wpList P ops Q l a w := by
 cases he : execList P ops l a w with
 | none => rw [he] at h; cases h
 | some p =>
   rw [he] at h
   simp only [Option.map_some, Option.some.injEq, Prod.mk.injEq, List.isEmpty_iff] at h
   obtain ⟨h1, h2, rfl⟩ := h
   exact wpList_exec l a w p.1 p.2 he (hQ p.1 h1 h2)
/-- A list of operations whose first n are run, of the frame two slots told. -/
theorem wpList_exec_two {P : Program} {ops : Array Oper} {Q : Exit → Act → World → Prop} (n s1 s2 : Nat) (v1 v2 : Value) (l : List Oper) (a : Act) (w w' : World)
 (h : (execList P ops (l.take n) a w).map (fun p => (p.1.tmps.getD s1 undef, p.1.tmps.getD s2 undef, p.1.defers.isEmpty, p.2)) = some (v1, v2, true, w'))
 (hQ : ∀ a' : Act, a'.tmps.getD s1 undef = v1 → a'.tmps.getD s2 undef = v2 → a'.defers = [] → wpList P ops Q (l.drop n) a' w') : wpList P ops Q l a w := by
 have key : ∀ (l1 l2 : List Oper) (a : Act) (w : World) (a' : Act) (w' : World), execList P ops l1 a w = some (a', w') → wpList P ops Q l2 a' w' → wpList P ops Q (l1 ++ l2) a w := by
  intro l1
  induction l1 with
  | nil =>
    intro l2 a w a' w' h q
    simp only [execList, Option.some.injEq, Prod.mk.injEq] at h
    obtain ⟨rfl, rfl⟩ := h
    exact q
  | cons o rest ih =>
    intro l2 a w a' w' h q
    unfold execList at h
    rw [List.cons_append]
    unfold wpList
    by_cases hw : Region.wanted o (yielded ops a.tmps) = true
    ·rw [if_pos hw] at h ⊢
     refine .inl ?_
     unfold Oper.wp
     cases hr : (execOp a.eval o).run P w with
     | ok n w1 =>
       rw [hr] at h
       cases n with
       | value v => exact ih l2 _ _ a' w' h q
       | skip => exact ih l2 _ _ a' w' h q
       | _ => cases h
     | halt h1 w1 => rw [hr] at h; cases h
    ·rw [if_neg hw] at h ⊢
     exact ih l2 _ _ a' w' h q
 cases he : execList P ops (l.take n) a w with
 | none => rw [he] at h; cases h
 | some p =>
   rw [he] at h
   simp only [Option.map_some, Option.some.injEq, Prod.mk.injEq, List.isEmpty_iff] at h
   obtain ⟨h1, h2, h3, rfl⟩ := h
   have := key (l.take n) (l.drop n) a w p.1 p.2 he (hQ p.1 h1 h2 h3)
   rwa [List.take_append_drop] at this
def noOper : Oper := { dst := none, op := .assign (.const undef), type := 0, pos := "", after := #[], guard := none }
/-- A piece of code without calls, loops and drawn orders, run. -/
def execCode (P : Program) : Code → Act → World → Option (Exit × Act × World)
 | .skip, a, w => some (.normal, a, w)
 | .ret, a, w => some (.ret, a, w)
 | .exit id, a, w => some (.exit id, a, w)
 | .region _ ops false, a, w => (execList P ops ops.toList a w).map fun p => (.normal, p.1, p.2)
 | .seq x y, a, w =>
   match execCode P x a w with
   | some (.normal, a1, w1) => execCode P y a1 w1
   | r => r
 | .cond c x y, a, w =>
   match a.eval c with
   | .bool true => execCode P x a w
   | .bool false => execCode P y a w
   | _ => none
 | _, _, _ => none
theorem wp_exec {P : Program} : ∀ (c : Code) (Q : Exit → Act → World → Prop) (a : Act) (w : World) (e : Exit) (a' : Act) (w' : World), execCode P c a w = some (e, a', w') → Q e a' w' → c.wp P Q a w := by
 intro c
 induction c with
 | skip =>
   intro Q a w e a' w' h q
   simp only [execCode, Option.some.injEq, Prod.mk.injEq] at h
   obtain ⟨rfl, rfl, rfl⟩ := h
   exact wp_skip q
 | ret =>
   intro Q a w e a' w' h q
   simp only [execCode, Option.some.injEq, Prod.mk.injEq] at h
   obtain ⟨rfl, rfl, rfl⟩ := h
   exact wp_ret q
 | exit id =>
   intro Q a w e a' w' h q
   simp only [execCode, Option.some.injEq, Prod.mk.injEq] at h
   obtain ⟨rfl, rfl, rfl⟩ := h
   exact wp_exit q
 | region id ops draw =>
   intro Q a w e a' w' h q
   cases draw with
   | true => simp [execCode] at h
   | false =>
     simp only [execCode, Option.map_eq_some_iff] at h
     obtain ⟨p, hp, he⟩ := h
     simp only [Prod.mk.injEq] at he
     obtain ⟨rfl, rfl, rfl⟩ := he
     exact wp_region_list (wpList_exec _ _ _ _ _ hp q)
 | seq x y hx hy =>
   intro Q a w e a' w' h q
   refine wp_seq ?_
   cases h1 : execCode P x a w with
   | none => simp [execCode, h1] at h
   | some p =>
     obtain ⟨e1, a1, w1⟩ := p
     refine hx _ a w e1 a1 w1 h1 ?_
     cases e1 with
     | normal =>
       simp only [execCode, h1] at h
       exact hy Q a1 w1 e a' w' h q
     | _ =>
       simp only [execCode, h1, Option.some.injEq, Prod.mk.injEq] at h
       obtain ⟨rfl, rfl, rfl⟩ := h
       exact q
 | cond c x y hx hy =>
   intro Q a w e a' w' h q
   cases hc : a.eval c with
   | bool t =>
     cases t with
     | true => simp only [execCode, hc] at h; exact wp_cond hc (by simpa using hx Q a w e a' w' h q)
     | false => simp only [execCode, hc] at h; exact wp_cond hc (by simpa using hy Q a w e a' w' h q)
   | _ => simp [execCode, hc] at h
 | _ => intro Q a w e a' w' h q; simp [execCode] at h
end Go.Proofs.YtlcijlklbabajaaGreatDoor
