/-
  Loop-free code run by a plain function that asks, at each call, for a contract with a given result: what is left to show is a chain of contracts. Condition: N says what becomes of the world at a call.
-/
import Derived.WalkKit
import Derived.WalkSpells
namespace Go.Proofs.YtjoncbhjodkpeaaDoor
open Go.RowKit
section
variable (P : Program) (N : World → World → Prop)
def needList (ops : Array Oper) : List Oper → Act → World → List Value → (Act → World → List Value → Prop) → Prop
  | [], a, w, vs, K => K a w vs
  | o :: rest, a, w, vs, K =>
    if Region.wanted o (yielded ops a.tmps) then
      match (execOp a.eval o).run P w with
      | .ok (.value v) w' => needList ops rest (a.put o.dst v) w' vs K
      | .ok .skip w' => needList ops rest (a.put o.dst undef) w' vs K
      | .ok (.enter f args) w' =>
        match vs with
        | v :: vs' => Calls P f args w' (fun e w2 => e = .returned v ∧ N w' w2) ∧ ∀ w2, N w' w2 → needList ops rest (a.put o.dst v) w2 vs' K
        | [] => False
      | _ => False
    else needList ops rest (a.put o.dst undef) w vs K
def needCode : Code → Act → World → List Value → (Exit → Act → World → List Value → Prop) → Prop
  | .skip, a, w, vs, K => K .normal a w vs
  | .ret, a, w, vs, K => K .ret a w vs
  | .exit id, a, w, vs, K => K (.exit id) a w vs
  | .region _ ops false, a, w, vs, K => needList P N ops ops.toList a w vs (K .normal)
  | .seq x y, a, w, vs, K => needCode x a w vs (fun e a w vs => match e with | .normal => needCode y a w vs K | e => K e a w vs)
  | .cond c x y, a, w, vs, K =>
    match a.eval c with
    | .bool true => needCode x a w vs K
    | .bool false => needCode y a w vs K
    | _ => False
  | .block id c, a, w, vs, K => needCode c a w vs (fun e a w vs => match e with | .exit id' => if id' = id then K .normal a w vs else K (.exit id') a w vs | e => K e a w vs)
  | _, _, _, _, _ => False
end
section
variable {P : Program} {N : World → World → Prop}
theorem wpList_need {ops : Array Oper} {Q : Exit → Act → World → Prop} : ∀ (l : List Oper) (a : Act) (w : World) (vs : List Value) (K : Act → World → List Value → Prop),
    needList P N ops l a w vs K → (∀ a w vs, K a w vs → Q .normal a w) → wpList P ops Q l a w
  | [], _, _, _, _, h, hK => hK _ _ _ h
  | o :: rest, a, w, vs, K, h, hK => by
    unfold needList at h
    unfold wpList
    by_cases hw : Region.wanted o (yielded ops a.tmps) = true
    · rw [if_pos hw] at h ⊢
      refine .inl ?_
      unfold Oper.wp
      cases hr : (execOp a.eval o).run P w with
      | ok n w1 =>
        rw [hr] at h
        cases n with
        | value v => exact wpList_need rest _ _ _ K h hK
        | skip => exact wpList_need rest _ _ _ K h hK
        | enter f args =>
          cases vs with
          | nil => exact h.elim
          | cons v vs' =>
            obtain ⟨hc, hn⟩ := h
            rw [Oper.upon_enter]
            refine hc.mono ?_
            rintro e w2 ⟨rfl, h2⟩
            exact wpList_need rest _ _ _ K (hn w2 h2) hK
        | _ => exact h.elim
      | halt h1 w1 => rw [hr] at h; exact h.elim
    · rw [if_neg hw] at h ⊢
      exact wpList_need rest _ _ _ K h hK
theorem wp_need : ∀ (c : Code) (Q : Exit → Act → World → Prop) (a : Act) (w : World) (vs : List Value) (K : Exit → Act → World → List Value → Prop),
    needCode P N c a w vs K → (∀ e a w vs, K e a w vs → Q e a w) → c.wp P Q a w := by
  intro c
  induction c with
  | skip => intro Q a w vs K h hK; exact wp_skip (hK _ _ _ _ h)
  | ret => intro Q a w vs K h hK; exact wp_ret (hK _ _ _ _ h)
  | exit id => intro Q a w vs K h hK; exact wp_exit (hK _ _ _ _ h)
  | region id ops draw =>
    intro Q a w vs K h hK
    cases draw with
    | true => exact absurd h (by simp [needCode])
    | false => exact wp_region_list (wpList_need _ _ _ _ _ h (fun a w vs hk => hK _ a w vs hk))
  | seq x y hx hy =>
    intro Q a w vs K h hK
    refine wp_seq (hx _ a w vs _ h ?_)
    intro e a w vs hk
    cases e with
    | normal => exact hy Q a w vs K hk hK
    | _ => exact hK _ a w vs hk
  | cond c x y hx hy =>
    intro Q a w vs K h hK
    cases hc : a.eval c with
    | bool t =>
      cases t with
      | true => simp only [needCode, hc] at h; exact wp_cond hc (by simpa using hx Q a w vs K h hK)
      | false => simp only [needCode, hc] at h; exact wp_cond hc (by simpa using hy Q a w vs K h hK)
    | _ => simp only [needCode, hc] at h
  | block id c hc =>
    intro Q a w vs K h hK
    refine wp_block (hc _ a w vs _ h ?_)
    intro e a w vs hk
    cases e with
    | exit id' =>
      show (if id' = id then Q .normal a w else Q (.exit id') a w)
      by_cases he : id' = id
      · rw [if_pos he]; simp only [he, if_true] at hk; exact hK _ a w vs hk
      · rw [if_neg he]; simp only [he, if_false] at hk; exact hK _ a w vs hk
    | _ => exact hK _ a w vs hk
  | _ => intro Q a w vs K h hK; exact absurd h (by simp [needCode])
/-- How such a function ends: by its end or a return, no deferred call, the results read. -/
def Fin (e b : Bool) (r : Result Value) (v : Value) (w : World) (R : World → Prop) : Prop := e = true ∧ b = true ∧ r = .ok v w ∧ R w
def isEnd : Exit → Bool
  | .normal => true
  | .ret => true
  | _ => false
theorem calls_need {f : FuncId} {fn : Func} {c : Code} {args : Array Value} {w : World} {v : Value} {R : World → Prop} (vs : List Value) (hf : P.funcs[f]? = some fn) (hb : fn.body = some c)
    (h : needCode P N c { tmps := args ++ Array.replicate (fn.ntmps - args.size) undef, defers := [] } w vs (fun e a w _ => Fin (isEnd e) a.defers.isEmpty ((results fn a.tmps).run P w) v w R)) :
    Calls P f args w fun e w' => e = .returned v ∧ R w' := by
  refine calls_of_wp hf hb (wp_need c _ _ _ vs _ h ?_)
  rintro e a w vs ⟨h1, h2, h3, h4⟩
  rw [List.isEmpty_iff] at h2
  cases e with
  | normal => exact ⟨h2, v, h3, rfl, h4⟩
  | ret => exact ⟨h2, v, h3, rfl, h4⟩
  | _ => cases h1
end
end Go.Proofs.YtjoncbhjodkpeaaDoor
