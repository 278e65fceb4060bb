/-
  Which trees are right, plain, in the document's own order of asking: it is the program's. No Go in sight; no condition.
-/
import Derived.Test.YtlcijlklbabajaaGreatDoorQRKSU
namespace Go.Proofs.YtlcijlklbabajaaGreatDoor
open R
def kdOf (t : List Nx) (i : Nat) : Nat := (t.getD i nxD).kind
def nmOf (t : List Nx) (i : Nat) : List UInt8 := (t.getD i nxD).name
def opnOf (t : List Nx) (i : Nat) : Opn := ⟨i, nmOf t i, kindL (nmOf t i)⟩
/-- What is above a node, itself ahead, without the document's. -/
def ancF (t : List Nx) : Nat → Nat → List Nat
 | 0, _ => []
 | f + 1, i => if i = 0 then [] else i :: ancF t f (upAt t i).toNat
def pa (t : List Nx) (i : Nat) : List Nat := ancF t i i
def UpsB (t : List Nx) (n : Nat) : Prop := ∀ j, 1 ≤ j → j < n → ∃ u : Nat, upAt t j = (u : Int) ∧ u < j
theorem anc_fuel {t : List Nx} {n : Nat} (h : UpsB t n) : ∀ (i f g : Nat), i < n → i ≤ f → i ≤ g → ancF t f i = ancF t g i := by
 intro i
 induction i using Nat.strongRecOn with
 | _ i ih =>
   intro f g hi hf hg
   by_cases h0 : i = 0
   ·subst h0
    cases f <;> cases g <;> simp [ancF]
   ·obtain ⟨u, hu, hl⟩ := h i (by omega) hi
    obtain ⟨f, rfl⟩ : ∃ k, f = k + 1 := ⟨f - 1, by omega⟩
    obtain ⟨g, rfl⟩ : ∃ k, g = k + 1 := ⟨g - 1, by omega⟩
    unfold ancF
    rw [if_neg h0, if_neg h0, hu, Int.toNat_natCast, ih u hl f g (by omega) (by omega) (by omega)]
theorem pa_zero (t : List Nx) : pa t 0 = [] := rfl
theorem pa_cons {t : List Nx} {n i u : Nat} (h : UpsB t n) (hi : i < n) (h0 : 0 < i) (hu : upAt t i = (u : Int)) : pa t i = i :: pa t u ∧ u < i := by
 obtain ⟨u', hu', hl⟩ := h i h0 hi
 obtain rfl : u = u' := by omega
 refine ⟨?_, hl⟩
 obtain ⟨f, rfl⟩ : ∃ k, i = k + 1 := ⟨i - 1, by omega⟩
 unfold pa
 conv => lhs; unfold ancF
 rw [if_neg (by omega), hu, Int.toNat_natCast, anc_fuel h u f u (by omega) (by omega) (Nat.le_refl _)]
/-- Going back to a parent. -/
theorem close_pa {t : List Nx} {n : Nat} (h : UpsB t n) (u : Nat) : ∀ b, b < n → closeToX (u : Int) ((pa t b).map (opnOf t)) = if u = 0 ∨ u ∈ pa t b then some ((pa t u).map (opnOf t)) else none := by
 intro b
 induction b using Nat.strongRecOn with
 | _ b ih =>
   intro hb
   by_cases h0 : b = 0
   ·subst h0
    rw [pa_zero]
    by_cases hu : u = 0
    ·subst hu; simp [closeToX, pa_zero]
    ·rw [if_neg (by simp [hu])]
     unfold closeToX
     rw [List.map_nil, if_neg (by omega)]
   ·obtain ⟨v, hv, _⟩ := h b (by omega) hb
    obtain ⟨e, hl⟩ := pa_cons h hb (by omega) hv
    rw [e, List.map_cons]
    unfold closeToX
    by_cases hbu : b = u
    ·subst hbu
     rw [if_pos (by rfl), if_pos (.inr (List.mem_cons_self ..)), e, List.map_cons]
    ·rw [if_neg (by show ¬ ((b : Int) = (u : Int)); omega), ih v hl (by omega)]
     have : (u = 0 ∨ u ∈ pa t v) ↔ (u = 0 ∨ u ∈ b :: pa t v) := by
      rw [List.mem_cons]
      constructor
      ·rintro (h | h)
       ·exact .inl h
       ·exact .inr (.inr h)
      ·rintro (h | h | h)
       ·exact .inl h
       ·exact absurd h.symm hbu
       ·exact .inr h
     by_cases hc : u = 0 ∨ u ∈ pa t v
     ·rw [if_pos hc, if_pos (this.1 hc)]
     ·rw [if_neg hc, if_neg (fun x => hc (this.2 x))]
def goodP (t : List Nx) (u : Nat) : Prop := kdOf t u ≠ 2 ∧ ¬ (kdOf t u = 1 ∧ 7 ≤ kindL (nmOf t u))
/-- The document's shape at one node. -/
def shapeP (t : List Nx) (i : Nat) : Prop := ∃ u : Nat, upAt t i = (u : Int) ∧ u < i ∧ goodP t u ∧ (u = 0 ∨ u ∈ pa t (i - 1))
def ShapeB (t : List Nx) (n : Nat) : Prop := ∀ j, 1 ≤ j → j < n → shapeP t j
theorem ShapeB.ups {t : List Nx} {n : Nat} (h : ShapeB t n) : UpsB t n := fun j h1 h2 => by
 obtain ⟨u, a, b, _⟩ := h j h1 h2
 exact ⟨u, a, b⟩
theorem pa_good {t : List Nx} {n : Nat} (h : ShapeB t n) : ∀ b, b < n → goodP t b → ∀ u ∈ pa t b, goodP t u ∧ u ≤ b ∧ 0 < u := by
 intro b
 induction b using Nat.strongRecOn with
 | _ b ih =>
   intro hb hg u hu
   by_cases h0 : b = 0
   ·subst h0; rw [pa_zero] at hu; cases hu
   ·obtain ⟨v, hv, hvl, hvg, _⟩ := h b (by omega) hb
    obtain ⟨e, hl⟩ := pa_cons h.ups hb (by omega) hv
    rw [e, List.mem_cons] at hu
    rcases hu with rfl | hu
    ·exact ⟨hg, Nat.le_refl _, by omega⟩
    ·obtain ⟨a, b1, c⟩ := ih v hl (by omega) hvg u hu
     exact ⟨a, by omega, c⟩
/-- The node whose way up is open, ahead of the i-th. -/
def base (t : List Nx) (k : Nat) : Nat := if kdOf t k = 2 ∨ (kdOf t k = 1 ∧ 7 ≤ kindL (nmOf t k)) then (upAt t k).toNat else k
def stOf (t : List Nx) (k : Nat) : List Opn := (pa t (base t k)).map (opnOf t)
theorem base_good {t : List Nx} {n k : Nat} (h : ShapeB t n) (hk : k < n) (h0 : kdOf t 0 = 0) : goodP t (base t k) ∧ base t k ≤ k ∧ (goodP t k → base t k = k) ∧ (¬ goodP t k → 0 < k ∧ upAt t k = ((base t k : Nat) : Int) ∧ base t k < k) := by
 unfold base
 split
 ·rename_i hc
  have hk0 : k ≠ 0 := fun e => by subst e; omega
  obtain ⟨u, hu, hl, hg, _⟩ := h k (by omega) hk
  rw [hu, Int.toNat_natCast]
  have hb : ¬ goodP t k := fun g => by rcases hc with hc | hc; exact g.1 hc; exact g.2 hc
  exact ⟨hg, by omega, fun g => absurd g hb, fun _ => ⟨by omega, rfl, hl⟩⟩
 ·rename_i hc
  have hb : goodP t k := ⟨fun e => hc (.inl e), fun e => hc (.inr e)⟩
  exact ⟨hb, Nat.le_refl _, fun _ => rfl, fun g => absurd hb g⟩
/-- The program goes back to a parent where the document calls the shape right. -/
theorem close_shape {t : List Nx} {i : Nat} (hi : 1 ≤ i) (h : ShapeB t i) (h0 : kdOf t 0 = 0) : (shapeP t i → closeToX (upAt t i) (stOf t (i - 1)) = some ((pa t (upAt t i).toNat).map (opnOf t))) ∧ (¬ shapeP t i → closeToX (upAt t i) (stOf t (i - 1)) = none) := by
 obtain ⟨hg, hle, hb1, hb2⟩ := base_good h (show i - 1 < i by omega) h0
 have hbi : base t (i - 1) < i := by omega
 have key : ∀ u : Nat, upAt t i = (u : Int) → ((u = 0 ∨ u ∈ pa t (base t (i - 1))) ↔ shapeP t i) := by
  intro u hu
  constructor
  ·intro hm
   rcases hm with rfl | hm
   ·exact ⟨0, hu, by omega, ⟨by omega, by omega⟩, .inl rfl⟩
   ·obtain ⟨g1, g2, g3⟩ := pa_good h _ hbi hg u hm
    refine ⟨u, hu, by omega, g1, .inr ?_⟩
    by_cases hgk : goodP t (i - 1)
    ·rw [← hb1 hgk]; exact hm
    ·obtain ⟨c1, c2, c3⟩ := hb2 hgk
     rw [(pa_cons h.ups (by omega) c1 c2).1]
     exact List.mem_cons_of_mem _ hm
  ·rintro ⟨v, hv, hvl, hvg, hm⟩
   obtain rfl : u = v := by omega
   rcases hm with hm | hm
   ·exact .inl hm
   ·refine .inr ?_
    by_cases hgk : goodP t (i - 1)
    ·rw [hb1 hgk]; exact hm
    ·obtain ⟨c1, c2, c3⟩ := hb2 hgk
     rw [(pa_cons h.ups (by omega) c1 c2).1, List.mem_cons] at hm
     rcases hm with rfl | hm
     ·exact absurd hvg hgk
     ·exact hm
 constructor
 ·intro hs
  obtain ⟨u, hu, _⟩ := id hs
  rw [hu, Int.toNat_natCast]
  unfold stOf
  rw [close_pa h.ups u _ hbi, if_pos ((key u hu).2 hs)]
 ·intro hs
  cases hc : closeToX (upAt t i) (stOf t (i - 1)) with
  | none => rfl
  | some s1 =>
    obtain ⟨h1, _⟩ := closeToX_node hc
    have : ∃ u : Nat, upAt t i = (u : Int) ∧ (u = 0 ∨ u ∈ pa t (base t (i - 1))) := by
     rcases h1 with h1 | ⟨o, ho, h1⟩
     ·exact ⟨0, h1, .inl rfl⟩
     ·unfold stOf at ho
      rw [List.mem_map] at ho
      obtain ⟨u, hu, rfl⟩ := ho
      exact ⟨u, h1.symm, .inr hu⟩
    obtain ⟨u, hu, hm⟩ := this
    exact absurd ((key u hu).1 hm) hs
end Go.Proofs.YtlcijlklbabajaaGreatDoor
namespace Go.Proofs.YtlcijlklbabajaaGreatDoor
open R
theorem kindL_two (w : List UInt8) : kindL w = 2 ↔ w = [112] := by
 constructor
 ·intro h
  unfold kindL at h
  cases hf : kindTab.find? fun p => p.1 == w with
  | none => rw [hf] at h; cases h
  | some p =>
    rw [hf] at h
    have h2 : p.2 = 2 := h
    have hw := List.find?_some hf
    have hm := List.mem_of_find?_eq_some hf
    have : ∀ p ∈ kindTab, p.2 = 2 → p.1 = [112] := by decide +kernel
    rw [← beq_iff_eq.1 hw, this p hm h2]
 ·rintro rfl; decide +kernel
theorem kindL_three (w : List UInt8) : kindL w = 3 ↔ w = [108, 105] := by
 constructor
 ·intro h
  unfold kindL at h
  cases hf : kindTab.find? fun p => p.1 == w with
  | none => rw [hf] at h; cases h
  | some p =>
    rw [hf] at h
    have h2 : p.2 = 3 := h
    have hw := List.find?_some hf
    have hm := List.mem_of_find?_eq_some hf
    have : ∀ p ∈ kindTab, p.2 = 3 → p.1 = [108, 105] := by decide +kernel
    rw [← beq_iff_eq.1 hw, this p hm h2]
 ·rintro rfl; decide +kernel
theorem kindL_six (w : List UInt8) : kindL w = 6 ↔ w = [97] := by
 constructor
 ·intro h
  unfold kindL at h
  cases hf : kindTab.find? fun p => p.1 == w with
  | none => rw [hf] at h; cases h
  | some p =>
    rw [hf] at h
    have h2 : p.2 = 6 := h
    have hw := List.find?_some hf
    have hm := List.mem_of_find?_eq_some hf
    have : ∀ p ∈ kindTab, p.2 = 6 → p.1 = [97] := by decide +kernel
    rw [← beq_iff_eq.1 hw, this p hm h2]
 ·rintro rfl; decide +kernel
theorem hasO_cons (k : Nat) (w : Bool) (o : Opn) (l : List Opn) : hasO k w (o :: l) = if o.kind = k then true else if w && wallO o then false else hasO k w l := rfl
theorem hasO_nil (k : Nat) (w : Bool) : hasO k w [] = false := rfl
/-- The document's wall. -/
def wallR (w : List UInt8) : Bool := kindL w == 4 || (kindL w == 1 && w != [100, 105, 118])
/-- The document's own way up from an element: k its kind, d how deep, free whether a wall lies between. -/
def nestB (k d : Nat) (free : Bool) (w : List UInt8) : Bool :=
 (endsP k && w == [112]) || (k == 6 && w == [97]) || (k == 4 && d == 0 && kindL w == 4) || (k == 3 && w == [108, 105] && !free)
def nestL (k : Nat) : List (List UInt8) → Nat → Bool → Bool
 | [], d, _ => decide (d < 200)
 | w :: l, d, free => if nestB k d free w then false else nestL k l (d + 1) (free || wallR w)
theorem nest_deep (k : Nat) : ∀ (st : List Opn) (d : Nat) (free : Bool), 1 ≤ d → (∀ o ∈ st, o.kind = kindL o.name) →
 nestL k (st.map (·.name)) d free = (!((endsP k && hasO 2 false st) || (k == 3 && !free && hasO 3 true st) || (k == 6 && hasO 6 false st)) && decide (d + st.length < 200))
 | [], d, free, _, _ => by
   unfold nestL
   rw [hasO_nil, hasO_nil, hasO_nil]
   simp
 | o :: st, d, free, hd, h => by
   have ho := h o (List.mem_cons_self ..)
   have ih := nest_deep k st (d + 1) (free || wallR o.name) (by omega) (fun x hx => h x (List.mem_cons_of_mem _ hx))
   rw [List.map_cons]
   unfold nestL
   rw [ih]
   rw [hasO_cons, hasO_cons, hasO_cons]
   unfold nestB
   have hd0 : (d == 0) = false := beq_false_of_ne (by omega)
   have e2 : (o.name == [112]) = decide (o.kind = 2) := by rw [ho, Bool.eq_iff_iff, beq_iff_eq, decide_eq_true_eq]; exact (kindL_two _).symm
   have e3 : (o.name == [108, 105]) = decide (o.kind = 3) := by rw [ho, Bool.eq_iff_iff, beq_iff_eq, decide_eq_true_eq]; exact (kindL_three _).symm
   have e6 : (o.name == [97]) = decide (o.kind = 6) := by rw [ho, Bool.eq_iff_iff, beq_iff_eq, decide_eq_true_eq]; exact (kindL_six _).symm
   have ew : wallR o.name = wallO o := by unfold wallR wallO; rw [ho]
   have el : d + 1 + st.length = d + (o :: st).length := by rw [List.length_cons]; omega
   rw [hd0, e2, e3, e6, ew, el]
   generalize hasO 2 false st = A
   generalize hasO 3 true st = B
   generalize hasO 6 false st = C
   generalize decide (d + (o :: st).length < 200) = D
   generalize wallO o = W
   by_cases k2 : o.kind = 2
   ·rw [k2]
    cases endsP k <;> cases (k == 3) <;> cases (k == 6) <;> cases (k == 4) <;> cases free <;> cases A <;> cases B <;> cases C <;> cases D <;> cases W <;> rfl
   by_cases k3 : o.kind = 3
   ·rw [k3]
    cases endsP k <;> cases (k == 3) <;> cases (k == 6) <;> cases (k == 4) <;> cases free <;> cases A <;> cases B <;> cases C <;> cases D <;> cases W <;> rfl
   by_cases k6 : o.kind = 6
   ·rw [k6]
    cases endsP k <;> cases (k == 3) <;> cases (k == 6) <;> cases (k == 4) <;> cases free <;> cases A <;> cases B <;> cases C <;> cases D <;> cases W <;> rfl
   ·rw [if_neg k2, if_neg k3, if_neg k6]
    simp only [k2, k3, k6, decide_false]
    cases endsP k <;> cases (k == 3) <;> cases (k == 6) <;> cases (k == 4) <;> cases free <;> cases A <;> cases B <;> cases C <;> cases D <;> cases W <;> rfl
theorem nest_eq (k : Nat) (st : List Opn) (h : ∀ o ∈ st, o.kind = kindL o.name) : nestL k (st.map (·.name)) 0 false = (admitsO k st && decide (st.length < 200)) := by
 cases st with
 | nil => simp [nestL, admitsO, hasO, topO, Opn.doc]
 | cons o st =>
   have ho := h o (List.mem_cons_self ..)
   have ih := nest_deep k st 1 (wallR o.name) (Nat.le_refl _) (fun x hx => h x (List.mem_cons_of_mem _ hx))
   rw [List.map_cons]
   unfold nestL
   rw [Bool.false_or, Nat.zero_add, ih]
   unfold nestB admitsO topO
   rw [hasO_cons, hasO_cons, hasO_cons]
   have e2 : (o.name == [112]) = decide (o.kind = 2) := by rw [ho, Bool.eq_iff_iff, beq_iff_eq, decide_eq_true_eq]; exact (kindL_two _).symm
   have e3 : (o.name == [108, 105]) = decide (o.kind = 3) := by rw [ho, Bool.eq_iff_iff, beq_iff_eq, decide_eq_true_eq]; exact (kindL_three _).symm
   have e6 : (o.name == [97]) = decide (o.kind = 6) := by rw [ho, Bool.eq_iff_iff, beq_iff_eq, decide_eq_true_eq]; exact (kindL_six _).symm
   have ew : wallR o.name = wallO o := by unfold wallR wallO; rw [ho]
   have el : 1 + st.length = (o :: st).length := by rw [List.length_cons]; omega
   rw [e2, e3, e6, ew, el, ← ho]
   show _ = (!_ && _)
   rw [show ((o :: st).headD Opn.doc) = o from rfl]
   generalize hasO 2 false st = A
   generalize hasO 3 true st = B
   generalize hasO 6 false st = C
   generalize decide ((o :: st).length < 200) = D
   generalize wallO o = W
   by_cases k2 : o.kind = 2
   ·rw [k2]
    cases endsP k <;> cases (k == 3) <;> cases (k == 6) <;> cases (k == 4) <;> cases A <;> cases B <;> cases C <;> cases D <;> cases W <;> rfl
   by_cases k3 : o.kind = 3
   ·rw [k3]
    cases endsP k <;> cases (k == 3) <;> cases (k == 6) <;> cases (k == 4) <;> cases A <;> cases B <;> cases C <;> cases D <;> cases W <;> rfl
   by_cases k6 : o.kind = 6
   ·rw [k6]
    cases endsP k <;> cases (k == 3) <;> cases (k == 6) <;> cases (k == 4) <;> cases A <;> cases B <;> cases C <;> cases D <;> cases W <;> rfl
   ·rw [if_neg k2, if_neg k3, if_neg k6]
    simp only [k2, k3, k6, decide_false]
    generalize (o.kind == 4) = F
    cases endsP k <;> cases (k == 3) <;> cases (k == 6) <;> cases (k == 4) <;> cases F <;> cases A <;> cases B <;> cases C <;> cases D <;> cases W <;> rfl
end Go.Proofs.YtlcijlklbabajaaGreatDoor
namespace Go.Proofs.YtlcijlklbabajaaGreatDoor
open R
/-- The document's own conditions at a text or an element. -/
def nodeP (t : List Nx) (i : Nat) : Prop :=
 (kdOf t i = 2 ∧ textX (t.getD i nxD) = true) ∨
 (kdOf t i = 1 ∧ elemX (t.getD i nxD) = true ∧ nestL (kindL (nmOf t i)) ((pa t (upAt t i).toNat).map (nmOf t)) 0 false = true)
def sibA (t : List Nx) (i : Nat) : Prop := ¬ (kdOf t i = 2 ∧ kdOf t (i - 1) = 2 ∧ upAt t (i - 1) = upAt t i)
theorem opn_names (t : List Nx) (l : List Nat) : (l.map (opnOf t)).map (·.name) = l.map (nmOf t) := by
 rw [List.map_map]; rfl
theorem st_text {t : List Nx} {i : Nat} (h : kdOf t i = 2) : stOf t i = (pa t (upAt t i).toNat).map (opnOf t) := by
 unfold stOf base
 rw [if_pos (.inl h)]
theorem void_seven (w : List UInt8) : voidK (kindL w) = true ↔ 7 ≤ kindL w := by
 have := kindL_le w
 unfold voidK
 rw [Bool.or_eq_true, beq_iff_eq, beq_iff_eq]
 omega
theorem places_cons (n : Nx) (r : List Nx) (i : Nat) (p : Nx) (st : List Opn) : placesX (n :: r) i p st = match closeToX n.up st with
 | none => false
 | some s1 =>
   if n.kind = 2 then (if !textX n || (p.kind == 2 && p.up == n.up) then false else placesX r (i + 1) n s1)
   else if n.kind = 1 then (if !elemX n || decide (200 ≤ s1.length) || !admitsO (kindL n.name) s1 then false
    else placesX r (i + 1) n (if voidK (kindL n.name) then s1 else ⟨i, n.name, kindL n.name⟩ :: s1))
   else false := rfl
theorem places_iff {t : List Nx} (h0 : kdOf t 0 = 0) : ∀ (r : List Nx) (i : Nat), 1 ≤ i → t.drop i = r → ShapeB t i →
 (placesX r i (t.getD (i - 1) nxD) (stOf t (i - 1)) = true ↔ ∀ j, i ≤ j → j < t.length → shapeP t j ∧ nodeP t j ∧ sibA t j)
 | [], i, hi, hd, hs => by
   have : t.length ≤ i := by rw [List.drop_eq_nil_iff] at hd; exact hd
   constructor
   ·intro _ j h1 h2; omega
   ·intro _; rfl
 | n :: r, i, hi, hd, hs => by
   have hil : i < t.length := by
    rcases Nat.lt_or_ge i t.length with h | h
    ·exact h
    ·rw [List.drop_eq_nil_of_le h] at hd; cases hd
   have hn : n = t[i] := by rw [List.drop_eq_getElem_cons hil] at hd; injection hd with a b; exact a.symm
   have hr : t.drop (i + 1) = r := by rw [List.drop_eq_getElem_cons hil] at hd; injection hd
   have hg : t.getD i nxD = n := by rw [List.getD_eq_getElem?_getD, List.getElem?_eq_getElem hil, hn]; rfl
   have hup : n.up = upAt t i := by unfold upAt; rw [hg]
   have hkd : n.kind = kdOf t i := by unfold kdOf; rw [hg]
   have hnm : n.name = nmOf t i := by unfold nmOf; rw [hg]
   obtain ⟨hc1, hc2⟩ := close_shape hi hs h0
   by_cases hsh : shapeP t i
   ·have hs' : ShapeB t (i + 1) := fun j h1 h2 => by
     by_cases e : j = i
     ·subst e; exact hsh
     ·exact hs j h1 (by omega)
    have ih := places_iff h0 r (i + 1) (by omega) hr hs'
    rw [Nat.add_sub_cancel, hg] at ih
    have hsplit : (∀ j, i ≤ j → j < t.length → shapeP t j ∧ nodeP t j ∧ sibA t j) ↔ (nodeP t i ∧ sibA t i) ∧ ∀ j, i + 1 ≤ j → j < t.length → shapeP t j ∧ nodeP t j ∧ sibA t j := by
     constructor
     ·intro h
      exact ⟨(h i (Nat.le_refl _) hil).2, fun j h1 h2 => h j (by omega) h2⟩
     ·rintro ⟨h1, h2⟩ j h3 h4
      by_cases e : j = i
      ·subst e; exact ⟨hsh, h1⟩
      ·exact h2 j (by omega) h4
    rw [hsplit, ← ih]
    rw [places_cons, hup, hc1 hsh]
    simp only
    rw [hkd]
    by_cases k2 : kdOf t i = 2
    ·rw [if_pos k2, st_text k2]
     by_cases hx : textX n = true
     ·by_cases hsib : kdOf t (i - 1) = 2 ∧ upAt t (i - 1) = upAt t i
      ·have hb : ((t.getD (i - 1) nxD).kind == 2 && (t.getD (i - 1) nxD).up == upAt t i) = true := by
        rw [Bool.and_eq_true, beq_iff_eq, beq_iff_eq]; exact hsib
       rw [hb, Bool.or_true, if_pos rfl]
       constructor
       ·intro h; cases h
       ·rintro ⟨⟨_, h⟩, _⟩; exact absurd ⟨k2, hsib⟩ h
      ·have hb : ((t.getD (i - 1) nxD).kind == 2 && (t.getD (i - 1) nxD).up == upAt t i) = false := by
        rw [Bool.eq_false_iff]; intro h; rw [Bool.and_eq_true, beq_iff_eq, beq_iff_eq] at h; exact hsib h
       rw [hb, hx, Bool.or_false, Bool.not_true, if_neg Bool.false_ne_true]
       constructor
       ·intro h; exact ⟨⟨.inl ⟨k2, by rw [hg]; exact hx⟩, fun h => hsib h.2⟩, h⟩
       ·intro h; exact h.2
     ·have hx' : textX n = false := by rw [Bool.eq_false_iff]; exact hx
      rw [hx', Bool.not_false, Bool.true_or, if_pos rfl]
      constructor
      ·intro h; cases h
      ·rintro ⟨⟨h | h, _⟩, _⟩
       ·rw [hg] at h; exact absurd h.2 hx
       ·omega
    rw [if_neg k2]
    by_cases k1 : kdOf t i = 1
    ·rw [if_pos k1, hnm]
     have hne := nest_eq (kindL (nmOf t i)) ((pa t (upAt t i).toNat).map (opnOf t)) (fun o ho => by
      rw [List.mem_map] at ho; obtain ⟨u, _, rfl⟩ := ho; rfl)
     rw [opn_names] at hne
     have hst : stOf t i = if voidK (kindL (nmOf t i)) then (pa t (upAt t i).toNat).map (opnOf t) else ⟨i, nmOf t i, kindL (nmOf t i)⟩ :: (pa t (upAt t i).toNat).map (opnOf t) := by
      unfold stOf base
      by_cases hv : 7 ≤ kindL (nmOf t i)
      ·rw [if_pos (.inr ⟨k1, hv⟩), if_pos ((void_seven _).2 hv)]
      ·rw [if_neg (by rintro (h | h); exact k2 h; exact hv h.2), if_neg (fun h => hv ((void_seven _).1 h))]
       obtain ⟨u, hu, _⟩ := id hsh
       rw [hu, Int.toNat_natCast, (pa_cons hs'.ups (Nat.lt_succ_self _) (by omega) hu).1]
       rfl
     rw [hst]
     generalize (if voidK (kindL (nmOf t i)) then (pa t (upAt t i).toNat).map (opnOf t) else ⟨i, nmOf t i, kindL (nmOf t i)⟩ :: (pa t (upAt t i).toNat).map (opnOf t)) = S
     by_cases hel : elemX n = true ∧ nestL (kindL (nmOf t i)) ((pa t (upAt t i).toNat).map (nmOf t)) 0 false = true
     ·have h2 := hel.2
      rw [hne, Bool.and_eq_true, decide_eq_true_eq] at h2
      rw [hel.1, h2.1, if_neg (by rw [decide_eq_false (by omega)]; exact Bool.false_ne_true)]
      constructor
      ·intro h; exact ⟨⟨.inr ⟨k1, by rw [hg]; exact hel.1, hel.2⟩, fun h => k2 h.1⟩, h⟩
      ·intro h; exact h.2
     ·have : (!elemX n || decide (200 ≤ ((pa t (upAt t i).toNat).map (opnOf t)).length) || !admitsO (kindL (nmOf t i)) ((pa t (upAt t i).toNat).map (opnOf t))) = true := by
       rw [hne] at hel
       cases he : elemX n with
       | false => rfl
       | true =>
         cases ha : admitsO (kindL (nmOf t i)) ((pa t (upAt t i).toNat).map (opnOf t)) with
         | false => rw [Bool.not_false, Bool.or_true]
         | true =>
           have : ¬ ((pa t (upAt t i).toNat).map (opnOf t)).length < 200 := fun h => hel ⟨he, by rw [ha, decide_eq_true h]; rfl⟩
           rw [decide_eq_true (by omega)]; rfl
      rw [if_pos this]
      constructor
      ·intro h; cases h
      ·rintro ⟨⟨h | h, _⟩, _⟩
       ·exact absurd h.1 k2
       ·rw [hg] at h; exact absurd h.2 hel
    ·rw [if_neg k1]
     constructor
     ·intro h; cases h
     ·rintro ⟨⟨h | h, _⟩, _⟩
      ·exact absurd h.1 k2
      ·exact absurd h.1 k1
   ·constructor
    ·intro h
     rw [places_cons, hup, hc2 hsh] at h
     cases h
    ·intro h
     exact absurd (h i (Nat.le_refl _) hil).1 hsh
end Go.Proofs.YtlcijlklbabajaaGreatDoor
namespace Go.Proofs.YtlcijlklbabajaaGreatDoor
open R
/-- The document's own: of a node's children no two in a row are texts. -/
def sibP (t : List Nx) (u : Nat) : Prop := ∀ k, k + 1 < (kidsAt t u).length → ¬ (kdOf t ((kidsAt t u).getD k 0).toNat = 2 ∧ kdOf t ((kidsAt t u).getD (k + 1) 0).toNat = 2)
theorem ofUp_pair (t : List Nx) (n u : Nat) : (ofUp t n u).Pairwise (· < ·) := by
 unfold ofUp
 rw [List.pairwise_map]
 exact (List.Pairwise.filter _ List.pairwise_lt_range).imp (fun h => by omega)
theorem mem_ofUp {t : List Nx} {n u : Nat} {x : Int} : x ∈ ofUp t n u ↔ ∃ i : Nat, x = (i : Int) ∧ i < n ∧ 1 ≤ i ∧ upAt t i = (u : Int) := by
 unfold ofUp
 rw [List.mem_map]
 constructor
 ·rintro ⟨i, hi, rfl⟩
  rw [List.mem_filter, List.mem_range, Bool.and_eq_true, decide_eq_true_eq, beq_iff_eq] at hi
  exact ⟨i, rfl, hi.1, hi.2.1, hi.2.2⟩
 ·rintro ⟨i, rfl, h1, h2, h3⟩
  refine ⟨i, ?_, rfl⟩
  rw [List.mem_filter, List.mem_range, Bool.and_eq_true, decide_eq_true_eq, beq_iff_eq]
  exact ⟨h1, h2, h3⟩
theorem pa_le {t : List Nx} {n : Nat} (h : UpsB t n) : ∀ b, b < n → ∀ u ∈ pa t b, u ≤ b ∧ (∀ x ∈ pa t u, x ∈ pa t b) := by
 intro b
 induction b using Nat.strongRecOn with
 | _ b ih =>
   intro hb u hu
   by_cases h0 : b = 0
   ·subst h0; rw [pa_zero] at hu; cases hu
   ·obtain ⟨v, hv, _⟩ := h b (by omega) hb
    obtain ⟨e, hl⟩ := pa_cons h hb (by omega) hv
    rw [e, List.mem_cons] at hu
    rcases hu with rfl | hu
    ·exact ⟨Nat.le_refl _, fun x hx => hx⟩
    ·obtain ⟨a, c⟩ := ih v hl (by omega) u hu
     exact ⟨by omega, fun x hx => by rw [e]; exact List.mem_cons_of_mem _ (c x hx)⟩
/-- A way up that has lost a node doesn't find it again. -/
theorem pa_lost {t : List Nx} {n u : Nat} (h : ShapeB t n) : ∀ (d j : Nat), u < j → u ∉ pa t j → j + d < n → u ∉ pa t (j + d)
 | 0, j, _, hn, _ => hn
 | d + 1, j, hu, hn, hl => by
   refine show u ∉ pa t (j + (d + 1)) from ?_
   rw [show j + (d + 1) = (j + 1) + d by omega]
   refine pa_lost h d (j + 1) (by omega) ?_ (by omega)
   obtain ⟨v, hv, hvl, _, hm⟩ := h (j + 1) (by omega) (by omega)
   rw [Nat.add_sub_cancel] at hm
   rw [(pa_cons h.ups (show j + 1 < n by omega) (by omega) hv).1, List.mem_cons]
   rintro (e | hx)
   ·omega
   ·rcases hm with rfl | hm
    ·rw [pa_zero] at hx; cases hx
    ·exact hn ((pa_le h.ups j (by omega) v hm).2 u hx)
theorem sib_iff {t : List Nx} (hs : ShapeB t t.length) (hk : kidsX t = true) (h0 : kdOf t 0 = 0) : (∀ i, 1 ≤ i → i < t.length → sibA t i) ↔ ∀ u, u < t.length → sibP t u := by
 have hkids := (kidsX_iff t).1 hk
 constructor
 ·intro h u hu k hkl hc
  rw [hkids u hu] at hkl hc
  have ga : (ofUp t t.length u).getD k 0 = (ofUp t t.length u)[k] := by rw [List.getD_eq_getElem?_getD, List.getElem?_eq_getElem (by omega)]; rfl
  have gb : (ofUp t t.length u).getD (k + 1) 0 = (ofUp t t.length u)[k + 1] := by rw [List.getD_eq_getElem?_getD, List.getElem?_eq_getElem hkl]; rfl
  rw [ga, gb] at hc
  obtain ⟨a, ha, hal, ha1, hau⟩ := mem_ofUp.1 (List.getElem_mem (l := ofUp t t.length u) (show k < _ by omega))
  obtain ⟨b, hb, hbl, hb1, hbu⟩ := mem_ofUp.1 (List.getElem_mem (l := ofUp t t.length u) hkl)
  have hp := List.pairwise_iff_getElem.1 (ofUp_pair t t.length u)
  have hab := hp k (k + 1) (by omega) hkl (Nat.lt_succ_self _)
  rw [ha, hb] at hc hab
  rw [Int.toNat_natCast, Int.toNat_natCast] at hc
  have hab' : a < b := by omega
  by_cases e : b = a + 1
  ·subst e
   refine h (a + 1) (by omega) hbl ⟨hc.2, ?_, ?_⟩
   ·rw [Nat.add_sub_cancel]; exact hc.1
   ·rw [Nat.add_sub_cancel, hau, hbu]
  ·obtain ⟨v, hv, hvl, hvg, hm⟩ := hs (a + 1) (by omega) (by omega)
   rw [Nat.add_sub_cancel] at hm
   have hvu : v ≠ u := by
    rintro rfl
    have hmem : ((a + 1 : Nat) : Int) ∈ ofUp t t.length v := mem_ofUp.2 ⟨a + 1, rfl, by omega, by omega, hv⟩
    obtain ⟨m, hml, hme⟩ := List.getElem_of_mem (l := ofUp t t.length v) hmem
    rcases Nat.lt_trichotomy m k with hmk | hmk | hmk
    ·have := hp m k hml (by omega) hmk
     rw [hme, ha] at this; omega
    ·subst hmk; rw [hme] at ha; omega
    ·rcases Nat.lt_trichotomy m (k + 1) with h2 | h2 | h2
     ·omega
     ·subst h2; rw [hme] at hb; omega
     ·have := hp (k + 1) m hkl hml h2
      rw [hme, hb] at this; omega
   have hpa := pa_cons hs.ups (show a < t.length by omega) (by omega) hau
   rw [hpa.1, List.mem_cons] at hm
   have hva : v ≠ a := by rintro rfl; exact hvg.1 hc.1
   have hm2 : v = 0 ∨ v ∈ pa t u := by
    rcases hm with hm | hm | hm
    ·exact .inl hm
    ·exact absurd hm hva
    ·exact .inr hm
   have hu0 : 0 < u := by
    rcases Nat.eq_zero_or_pos u with hz | hz
    ·subst hz
     rw [pa_zero] at hm2
     rcases hm2 with hm2 | hm2
     ·exact absurd hm2 hvu
     ·cases hm2
    ·exact hz
   have hvlt : v < u := by
    rcases hm2 with rfl | hm2
    ·exact hu0
    ·have := (pa_le hs.ups u hu v hm2).1
     omega
   have hlost : u ∉ pa t (a + 1) := by
    rw [(pa_cons hs.ups (show a + 1 < t.length by omega) (by omega) hv).1, List.mem_cons]
    rintro (e2 | hx)
    ·omega
    ·have := (pa_le hs.ups v (by omega) u hx).1
     omega
   have hfin := pa_lost hs (b - 1 - (a + 1)) (a + 1) (by omega) hlost (by omega)
   rw [show a + 1 + (b - 1 - (a + 1)) = b - 1 by omega] at hfin
   obtain ⟨v2, hv2, _, _, hm3⟩ := hs b hb1 hbl
   obtain rfl : v2 = u := by omega
   rcases hm3 with hm3 | hm3
   ·omega
   ·exact hfin hm3
 ·intro h i hi hil hc
  obtain ⟨k2, kp, hup⟩ := hc
  have hi1 : 1 ≤ i - 1 := by
   rcases Nat.eq_zero_or_pos (i - 1) with hz | hz
   ·rw [hz, h0] at kp; omega
   ·exact hz
  obtain ⟨u, hu, hul, _⟩ := hs i hi hil
  have e1 := ofUp_succ t (i - 1) u
  rw [if_pos ⟨hi1, by rw [hup, hu]⟩] at e1
  have e2 := ofUp_succ t i u
  rw [if_pos ⟨hi, hu⟩] at e2
  rw [show i - 1 + 1 = i by omega] at e1
  rw [e1] at e2
  obtain ⟨R, hR⟩ := ofUp_mono t u (n := i + 1) (m := t.length) (by omega)
  have hq := hkids u (by omega)
  rw [← hR, e2] at hq
  generalize ofUp t (i - 1) u = L at hq
  have hlen : (kidsAt t u).length = L.length + 2 + R.length := by rw [hq]; simp; omega
  refine h u (by omega) L.length (by omega) ?_
  have g1 : (kidsAt t u).getD L.length 0 = ((i - 1 : Nat) : Int) := by
   rw [hq, List.getD_eq_getElem?_getD, List.append_assoc, List.append_assoc, List.getElem?_append_right (Nat.le_refl _), Nat.sub_self]; rfl
  have g2 : (kidsAt t u).getD (L.length + 1) 0 = (i : Int) := by
   rw [hq, List.getD_eq_getElem?_getD, List.append_assoc, List.append_assoc, List.getElem?_append_right (by omega), show L.length + 1 - L.length = 1 by omega]; rfl
  rw [g1, g2, Int.toNat_natCast, Int.toNat_natCast]
  exact ⟨kp, k2⟩
def okP (t : List Nx) (i : Nat) : Prop := (kdOf t i = 0 ∧ i = 0 ∧ nmOf t i = [] ∧ (t.getD i nxD).attrs = [] ∧ (t.getD i nxD).data = []) ∨ nodeP t i
/-- The document's Right. -/
def RefP (t : List Nx) : Prop := 0 < t.length ∧ t.length ≤ 16384 ∧ kdOf t 0 = 0 ∧ upAt t 0 = -1 ∧ ShapeB t t.length ∧ kidsX t = true ∧ ∀ i, i < t.length → okP t i ∧ sibP t i
theorem nodeP_kind {t : List Nx} {i : Nat} (h : nodeP t i) : kdOf t i = 1 ∨ kdOf t i = 2 := by
 rcases h with h | h
 ·exact .inr h.1
 ·exact .inl h.1
theorem ref_right (t : List Nx) : rightX t = true ↔ RefP t := by
 cases t with
 | nil =>
   constructor
   ·intro h; cases h
   ·intro h; exact absurd h.1 (Nat.lt_irrefl _)
 | cons d r =>
   have hd : (d :: r).getD 0 nxD = d := rfl
   have hst : kdOf (d :: r) 0 = 0 → stOf (d :: r) 0 = [] := by
    intro h
    unfold stOf base
    rw [if_neg (by omega)]
    rfl
   have hdoc : docX d = true ↔ kdOf (d :: r) 0 = 0 ∧ upAt (d :: r) 0 = -1 ∧ nmOf (d :: r) 0 = [] ∧ ((d :: r).getD 0 nxD).attrs = [] ∧ ((d :: r).getD 0 nxD).data = [] := by
    unfold docX kdOf upAt nmOf
    rw [hd]
    simp [and_assoc]
   unfold rightX
   simp only [Bool.and_eq_true, decide_eq_true_eq]
   rw [hdoc]
   constructor
   ·rintro ⟨⟨⟨h1, h2, h3, h4, h5, h6⟩, h7⟩, h8⟩
    have hp := places_iff h2 r 1 (Nat.le_refl _) rfl (fun j a b => by omega)
    rw [Nat.sub_self, hst h2, hd] at hp
    have hall := hp.1 h7
    have hs : ShapeB (d :: r) (d :: r).length := fun j a b => (hall j a b).1
    refine ⟨Nat.succ_pos _, h1, h2, h3, hs, h8, fun i hi => ⟨?_, ?_⟩⟩
    ·by_cases e : i = 0
     ·subst e; exact .inl ⟨h2, rfl, h4, h5, h6⟩
     ·exact .inr (hall i (by omega) hi).2.1
    ·exact (sib_iff hs h8 h2).1 (fun i a b => (hall i a b).2.2) i hi
   ·rintro ⟨_, h1, h2, h3, hs, h8, hall⟩
    have hp := places_iff h2 r 1 (Nat.le_refl _) rfl (fun j a b => by omega)
    rw [Nat.sub_self, hst h2, hd] at hp
    have h00 : okP (d :: r) 0 := (hall 0 (Nat.succ_pos _)).1
    have h4 : nmOf (d :: r) 0 = [] ∧ ((d :: r).getD 0 nxD).attrs = [] ∧ ((d :: r).getD 0 nxD).data = [] := by
     rcases h00 with h | h
     ·exact h.2.2
     ·have := nodeP_kind h; omega
    refine ⟨⟨⟨h1, h2, h3, h4⟩, hp.2 fun j a b => ⟨hs j a b, ?_, ?_⟩⟩, h8⟩
    ·rcases (hall j b).1 with h | h
     ·omega
     ·exact h
    ·exact (sib_iff hs h8 h2).2 (fun u hu => (hall u hu).2) j a b
/-- The document's climb: one step, and where it ends. -/
theorem climb_step {t : List Nx} {n k u v : Nat} (h : UpsB t n) (hk : k < n) (h0 : 0 < k) (hku : k ≠ u) (hv : upAt t k = (v : Int)) : (u = 0 ∨ u ∈ pa t k) ↔ (u = 0 ∨ u ∈ pa t v) := by
 rw [(pa_cons h hk h0 hv).1, List.mem_cons]
 constructor
 ·rintro (e | e | e)
  ·exact .inl e
  ·exact absurd e.symm hku
  ·exact .inr e
 ·rintro (e | e)
  ·exact .inl e
  ·exact .inr (.inr e)
theorem climb_here {t : List Nx} {n u : Nat} (h : UpsB t n) (hu : u < n) : u = 0 ∨ u ∈ pa t u := by
 by_cases h0 : u = 0
 ·exact .inl h0
 ·obtain ⟨v, hv, _⟩ := h u (by omega) hu
  rw [(pa_cons h hu (by omega) hv).1]
  exact .inr (List.mem_cons_self ..)
theorem climb_top {t : List Nx} {u : Nat} (hu : u ≠ 0) : ¬ (u = 0 ∨ u ∈ pa t 0) := by
 rw [pa_zero]
 rintro (e | e)
 ·exact hu e
 ·cases e
end Go.Proofs.YtlcijlklbabajaaGreatDoor
