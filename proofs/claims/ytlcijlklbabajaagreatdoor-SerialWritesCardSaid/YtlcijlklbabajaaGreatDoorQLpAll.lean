/-
  A document within a div, plain: the tree is the same below the div, if it is not too deep. No Go in sight; no condition.
-/
import Derived.Test.YtlcijlklbabajaaGreatDoorQLpDD
import Derived.Test.YtlcijlklbabajaaGreatDoorQBParse
import Derived.Lib.TrimUEq
import Derived.Test.YtlcijlklbabajaaGreatDoorQRPsm
import Derived.Test.YtlcijlklbabajaaGreatDoorQSSW
import Derived.Test.YtlcijlklbabajaaGreatDoorQLpE2
import Derived.Lib.IndexMore
namespace Go.Proofs.YtlcijlklbabajaaGreatDoor
def docW : Nd := ⟨0, [], [], [], -1, [1]⟩
theorem addKid_len (t : List Nd) (u k : Nat) : (addKid t u k).length = t.length := by unfold addKid; rw [List.length_modify]
/-- The parents, as the nodes have them. -/
def ups (t : List Nd) : List Int := t.map (·.up)
def ChainU (U : List Int) : List Opn → Prop
 | [] => True
 | o :: t => 0 < o.node ∧ o.node < U.length ∧ U[o.node]? = some ((topO t).node : Int) ∧ (topO t).node < o.node ∧ ChainU U t
def DecU (U : List Int) : Prop := ∀ i, 0 < i → i < U.length → ∃ u : Nat, U[i]? = some (u : Int) ∧ u < i
def depU (U : List Int) : Nat → Nat → Nat
 | 0, _ => 0
 | f + 1, i => if i = 0 then 0 else 1 + depU U f ((U[i]?.getD 0).toNat)
theorem depU_fuel {U : List Int} (hd : DecU U) : ∀ (f g i : Nat), i ≤ f → i ≤ g → i < U.length → depU U f i = depU U g i
 | 0, 0, _, _, _, _ => rfl
 | 0, g + 1, i, h, _, _ => by
   obtain rfl : i = 0 := by omega
   rfl
 | f + 1, 0, i, _, h, _ => by
   obtain rfl : i = 0 := by omega
   rfl
 | f + 1, g + 1, i, h1, h2, hl => by
   unfold depU
   by_cases h0 : i = 0
   ·rw [if_pos h0, if_pos h0]
   ·rw [if_neg h0, if_neg h0]
    obtain ⟨u, hu, hui⟩ := hd i (by omega) hl
    rw [hu, Option.getD_some, Int.toNat_natCast, depU_fuel hd f g u (by omega) (by omega) (by omega)]
theorem depU_step {U : List Int} (hd : DecU U) {i u : Nat} (h0 : 0 < i) (hl : i < U.length) (hu : U[i]? = some (u : Int)) : depU U i i = 1 + depU U u u := by
 obtain ⟨u', hu', hui⟩ := hd i h0 hl
 rw [hu] at hu'
 injection hu' with hu'
 obtain rfl : u = u' := by omega
 obtain ⟨k, rfl⟩ : ∃ k, i = k + 1 := ⟨i - 1, by omega⟩
 conv => lhs; unfold depU
 rw [if_neg (by omega), hu, Option.getD_some, Int.toNat_natCast, depU_fuel hd k u u (by omega) (Nat.le_refl _) (by omega)]
theorem chain_dep {U : List Int} (hd : DecU U) (h0 : 0 < U.length) : ∀ st : List Opn, ChainU U st → depU U (topO st).node (topO st).node = st.length ∧ (topO st).node < U.length
 | [], _ => ⟨rfl, h0⟩
 | o :: t, ⟨h1, h2, h3, _, h5⟩ => by
   have ih := chain_dep hd h0 t h5
   refine ⟨?_, h2⟩
   show depU U o.node o.node = t.length + 1
   rw [depU_step hd h1 h2 h3, ih.1]
   omega
theorem chain_app {U V : List Int} : ∀ {st : List Opn}, ChainU U st → ChainU (U ++ V) st
 | [], _ => trivial
 | o :: t, ⟨h1, h2, h3, h4, h5⟩ => ⟨h1, by rw [List.length_append]; omega, by rw [List.getElem?_append_left h2]; exact h3, h4, chain_app h5⟩
theorem chain_tail {U : List Int} {st : List Opn} (h : ChainU U st) : ChainU U st.tail := by
 cases st with
 | nil => trivial
 | cons o t => exact h.2.2.2.2
theorem chain_drop {U : List Int} (p : Opn → Bool) : ∀ {st : List Opn}, ChainU U st → ChainU U (st.dropWhile p)
 | [], _ => trivial
 | o :: t, h => by
   rw [List.dropWhile_cons]
   split
   ·exact chain_drop p h.2.2.2.2
   ·exact h
theorem chain_closeS {U : List Int} {k : Nat} {st : List Opn} (h : ChainU U st) : ChainU U (closeS k st) := by
 unfold closeS
 simp only
 split
 ·split
  ·exact chain_tail (chain_tail h)
  ·exact chain_tail h
 ·split
  ·exact chain_tail h
  ·exact h
structure GoodB (b : Bd) : Prop where
 pos : 0 < b.tree.length
 head : (b.tree.headD docW).kind = 0
 dec : DecU (ups b.tree)
 chain : ChainU (ups b.tree) b.opn
theorem ups_len (t : List Nd) : (ups t).length = t.length := by unfold ups; rw [List.length_map]
theorem ups_modify (f : Nd → Nd) (hf : ∀ n, (f n).up = n.up) : ∀ (t : List Nd) (j : Nat), ups (t.modify j f) = ups t
 | [], j => by cases j <;> rfl
 | a :: r, 0 => by simp [ups, List.modify, List.modifyHead, hf]
 | a :: r, j + 1 => by
   have := ups_modify f hf r j
   unfold ups at this ⊢
   rw [List.modify_succ_cons, List.map_cons, this, List.map_cons]
theorem head_modify (f : Nd → Nd) (hf : ∀ n, (f n).kind = n.kind) (t : List Nd) (j : Nat) : ((t.modify j f).headD docW).kind = (t.headD docW).kind := by
 cases t with
 | nil => cases j <;> rfl
 | cons a r =>
   cases j with
   | zero => simp [List.modify, List.modifyHead, hf]
   | succ j => rw [List.modify_succ_cons]; rfl
theorem dec_snoc {U : List Int} (hd : DecU U) {u : Nat} (hu : u < U.length) : DecU (U ++ [(u : Int)]) := fun i h0 hl => by
 rw [List.length_append] at hl
 by_cases h : i < U.length
 ·obtain ⟨v, hv, hvi⟩ := hd i h0 h
  exact ⟨v, by rw [List.getElem?_append_left h]; exact hv, hvi⟩
 ·obtain rfl : i = U.length := by simp at hl; omega
  exact ⟨u, by rw [List.getElem?_append_right (Nat.le_refl _), Nat.sub_self]; rfl, hu⟩
theorem good_add {b b' : Bd} {n : Nd} (hg : GoodB b) (h : addN b n = some b') : GoodB b' ∧ ups b'.tree = ups b.tree ++ [((topO b.opn).node : Int)] ∧ b'.opn = b.opn ∧ b'.tree.length = b.tree.length + 1 := by
 unfold addN at h
 split at h
 ·cases h
 injection h with h
 have hu : ups b'.tree = ups b.tree ++ [((topO b.opn).node : Int)] := by
  rw [← h]
  show ups (addKid b.tree (topO b.opn).node b.tree.length ++ [_]) = _
  have hm : ups (addKid b.tree (topO b.opn).node b.tree.length) = ups b.tree := ups_modify (fun n => { n with kids := n.kids ++ [b.tree.length] }) (fun _ => rfl) _ _
  unfold ups at hm ⊢
  rw [List.map_append, hm]
  rfl
 have ho : b'.opn = b.opn := by rw [← h]
 have hl : b'.tree.length = b.tree.length + 1 := by
  rw [← h]
  show (addKid _ _ _ ++ [_]).length = _
  rw [List.length_append, addKid_len]
  rfl
 have ht := (chain_dep hg.dec (by rw [ups_len]; exact hg.pos) b.opn hg.chain).2
 refine ⟨⟨by omega, ?_, by rw [hu]; exact dec_snoc hg.dec ht, by rw [hu, ho]; exact chain_app hg.chain⟩, hu, ho, hl⟩
 rw [← h]
 show ((addKid b.tree (topO b.opn).node b.tree.length ++ [_]).headD docW).kind = 0
 have hm : ((addKid b.tree (topO b.opn).node b.tree.length).headD docW).kind = 0 := (head_modify (fun n => { n with kids := n.kids ++ [b.tree.length] }) (fun _ => rfl) _ _).trans hg.head
 cases hh : addKid b.tree (topO b.opn).node b.tree.length with
 | nil => rw [← addKid_len b.tree (topO b.opn).node b.tree.length, hh] at hl; have := hg.pos; rw [← addKid_len b.tree (topO b.opn).node b.tree.length, hh] at this; cases this
 | cons a r => rw [hh] at hm; exact hm
end Go.Proofs.YtlcijlklbabajaaGreatDoor
namespace Go.Proofs.YtlcijlklbabajaaGreatDoor
def toX (n : Nd) : Nx := ⟨n.kind, n.name, n.attrs, n.data, n.up, n.kids.map fun (k : Nat) => (k : Int)⟩
def strip (n : Nd) : Nx := ⟨n.kind, n.name, n.attrs, n.data, n.up, []⟩
structure TGood (t : Tk) : Prop where
 data : t.kind = 3 → dataX t.data = true
 attrs : t.kind = 1 → attrsX t.attrs = true ∧ t.attrs.length ≤ 16
/-- placesX, that tells where it ends: the last node, and what is open. -/
def playX : List Nx → Nat → Nx → List Opn → Option (Nx × List Opn)
 | [], _, p, st => some (p, st)
 | n :: r, i, p, st =>
   match closeToX n.up st with
   | none => none
   | some s1 =>
     if n.kind = 2 then (if !textX n || (p.kind == 2 && p.up == n.up) then none else playX r (i + 1) n s1)
     else if n.kind = 1 then (if !elemX n || decide (200 ≤ s1.length) || !admitsO (kindL n.name) s1 then none
      else playX r (i + 1) n (if voidK (kindL n.name) then s1 else ⟨i, n.name, kindL n.name⟩ :: s1))
     else none
theorem places_play : ∀ (r : List Nx) (i : Nat) (p : Nx) (st : List Opn), placesX r i p st = (playX r i p st).isSome
 | [], _, _, _ => rfl
 | n :: r, i, p, st => by
   unfold placesX playX
   cases closeToX n.up st with
   | none => rfl
   | some s1 =>
     simp only
     split
     ·split
      ·rfl
      ·exact places_play r _ _ _
     ·split
      ·split
       ·rfl
       ·exact places_play r _ _ _
      ·rfl
theorem play_snoc (n : Nx) : ∀ (r : List Nx) (i : Nat) (p : Nx) (st : List Opn), playX (r ++ [n]) i p st = (playX r i p st).bind fun q => playX [n] (i + r.length) q.1 q.2
 | [], _, _, _ => rfl
 | m :: r, i, p, st => by
   rw [List.cons_append]
   unfold playX
   rw [List.length_cons, show i + (r.length + 1) = i + 1 + r.length by omega]
   cases closeToX m.up st with
   | none => rfl
   | some s1 =>
     simp only
     split
     ·split
      ·rfl
      ·exact play_snoc n r _ _ _
     ·split
      ·split
       ·rfl
       ·exact play_snoc n r _ _ _
      ·rfl
theorem places_strip : ∀ (r : List Nd) (i : Nat) (p p' : Nx) (st : List Opn), p.kind = p'.kind → p.up = p'.up → placesX (r.map toX) i p st = placesX (r.map strip) i p' st
 | [], _, _, _, _, _, _ => rfl
 | n :: r, i, p, p', st, h1, h2 => by
   rw [List.map_cons, List.map_cons]
   unfold placesX
   rw [h1, h2]
   show (match closeToX n.up st with | none => false | some s1 => _) = (match closeToX n.up st with | none => false | some s1 => _)
   cases closeToX n.up st with
   | none => rfl
   | some s1 =>
     show (if n.kind = 2 then (if (!textX (strip n) || _) = true then false else placesX (r.map toX) (i + 1) (toX n) s1) else if n.kind = 1 then (if (!elemX (strip n) || _ || _) = true then false else placesX (r.map toX) (i + 1) (toX n) _) else false) = _
     rw [places_strip r (i + 1) (toX n) (strip n) s1 rfl rfl, places_strip r (i + 1) (toX n) (strip n) _ rfl rfl]
     rfl
theorem play_last : ∀ (r : List Nx) (i : Nat) (p : Nx) (st : List Opn) {q : Nx} {R : List Opn}, playX r i p st = some (q, R) → (p :: r).getLast? = some q
 | [], _, _, _, _, _, h => by
   injection h with h
   injection h with h _
   rw [h]
   rfl
 | n :: r, i, p, st, q, R, h => by
   rw [List.getLast?_cons_cons]
   unfold playX at h
   split at h
   ·cases h
   ·split at h
    ·split at h
     ·cases h
     ·exact play_last r _ _ _ h
    ·split at h
     ·split at h
      ·cases h
      ·exact play_last r _ _ _ h
     ·cases h
def Desc : Nat → List Opn → Prop
 | _, [] => True
 | m, o :: t => 0 < o.node ∧ o.node < m ∧ Desc o.node t
theorem desc_mono {m m' : Nat} (h : m ≤ m') : ∀ {st : List Opn}, Desc m st → Desc m' st
 | [], _ => trivial
 | _ :: _, ⟨a, b, c⟩ => ⟨a, by omega, c⟩
theorem desc_suffix {m : Nat} : ∀ {st R : List Opn}, Desc m R → st <:+ R → Desc m st
 | st, [], h, hs => by rw [List.suffix_nil.1 hs]; trivial
 | st, o :: t, h, hs => by
   rcases List.suffix_cons_iff.1 hs with rfl | hs
   ·exact h
   ·exact desc_mono (by have := h.2.1; omega) (desc_suffix h.2.2 hs)
theorem desc_top {m : Nat} {st : List Opn} (h : Desc m st) (hm : 0 < m) : (topO st).node < m := by
 cases st with
 | nil => exact hm
 | cons o t => exact h.2.1
theorem closeTo_suffix : ∀ {m : Nat} {st R : List Opn}, Desc m R → st <:+ R → closeToX ((topO st).node : Int) R = some st
 | m, st, [], _, hs => by rw [List.suffix_nil.1 hs]; rfl
 | m, st, o :: t, h, hs => by
   rcases List.suffix_cons_iff.1 hs with rfl | hs
   ·exact if_pos rfl
   ·have hlt := desc_top (desc_suffix h.2.2 hs) h.1
    unfold closeToX
    rw [if_neg (by omega)]
    exact closeTo_suffix h.2.2 hs
theorem suffix_tail {st R : List Opn} (h : st <:+ R) : st.tail <:+ R := (List.tail_suffix st).trans h
theorem suffix_closeS {k : Nat} {st R : List Opn} (h : st <:+ R) : closeS k st <:+ R := by
 unfold closeS
 simp only
 split
 ·split
  ·exact suffix_tail (suffix_tail h)
  ·exact suffix_tail h
 ·split
  ·exact suffix_tail h
  ·exact h
/-- The builder's tree so far passes, and what is open is an end of what is open there. -/
structure RInv (b : Bd) : Prop where
 good : GoodB b
 shape : ∃ d r q R, b.tree = d :: r ∧ docX (strip d) = true ∧ playX (r.map strip) 1 (strip d) [] = some (q, R) ∧ b.opn <:+ R ∧ Desc b.tree.length R
 kids : ∀ u (hu : u < b.tree.length), b.tree[u].kids = (List.range b.tree.length).filter fun i => decide (1 ≤ i) && ((ups b.tree)[i]?.getD 0 == (u : Int))
 small : b.tree.length ≤ 16384
theorem rinv_new : RInv Bd.new := by
 refine ⟨⟨by decide, rfl, fun i h0 hl => by exfalso; have : i < 1 := hl; omega, trivial⟩, ⟨_, _, _, _, rfl, by decide, rfl, List.suffix_refl _, trivial⟩, fun u hu => ?_, by decide⟩
 have : u < 1 := hu
 obtain rfl : u = 0 := by omega
 rfl
theorem addKid_get {t : List Nd} {u k i : Nat} (hi : i < t.length) : ∃ h : i < (addKid t u k).length, (addKid t u k)[i] = if u = i then { t[i] with kids := t[i].kids ++ [k] } else t[i] := by
 refine ⟨by rw [addKid_len]; exact hi, ?_⟩
 unfold addKid
 rw [List.getElem_modify]
theorem kids_add {b b' : Bd} {n : Nd} (hg : GoodB b) (hk : n.kids = []) (h : ∀ u (hu : u < b.tree.length), b.tree[u].kids = (List.range b.tree.length).filter fun i => decide (1 ≤ i) && ((ups b.tree)[i]?.getD 0 == (u : Int))) (ha : addN b n = some b') :
 ∀ u (hu : u < b'.tree.length), b'.tree[u].kids = (List.range b'.tree.length).filter fun i => decide (1 ≤ i) && ((ups b'.tree)[i]?.getD 0 == (u : Int)) := by
 obtain ⟨_, hU, _, hL⟩ := good_add hg ha
 have htop := (chain_dep hg.dec (by rw [ups_len]; exact hg.pos) b.opn hg.chain).2
 rw [ups_len] at htop
 have hT : b'.tree = addKid b.tree (topO b.opn).node b.tree.length ++ [{ n with up := ((topO b.opn).node : Int) }] := by
  unfold addN at ha
  split at ha
  ·cases ha
  injection ha with ha
  rw [← ha]
 intro u hu
 have hlen := ups_len b.tree
 have hfil : (List.range b'.tree.length).filter (fun i => decide (1 ≤ i) && ((ups b'.tree)[i]?.getD 0 == (u : Int))) = (List.range b.tree.length).filter (fun i => decide (1 ≤ i) && ((ups b.tree)[i]?.getD 0 == (u : Int))) ++ (if (topO b.opn).node = u then [b.tree.length] else []) := by
  rw [hL, List.range_succ, List.filter_append]
  congr 1
  ·refine List.filter_congr fun i hi => ?_
   rw [List.mem_range] at hi
   rw [hU, List.getElem?_append_left (by omega)]
  ·rw [List.filter_cons, List.filter_nil, hU, List.getElem?_append_right (by omega), hlen, Nat.sub_self]
   have := hg.pos
   rw [decide_eq_true (show 1 ≤ b.tree.length by omega), Bool.true_and]
   show (if (((topO b.opn).node : Int) == (u : Int)) = true then _ else _) = _
   by_cases hz : (topO b.opn).node = u
   ·rw [if_pos hz, if_pos (by rw [hz]; exact beq_self_eq_true _)]
   ·rw [if_neg hz, if_neg (by rw [beq_iff_eq]; omega)]
 rw [hfil]
 by_cases hlt : u < b.tree.length
 ·obtain ⟨h1, h2⟩ := addKid_get (t := b.tree) (u := (topO b.opn).node) (k := b.tree.length) hlt
  have e : b'.tree[u].kids = ((addKid b.tree (topO b.opn).node b.tree.length)[u]).kids := by
   congr 1
   rw [List.getElem_of_eq hT, List.getElem_append_left h1]
  rw [e, h2]
  by_cases hz : (topO b.opn).node = u
  ·rw [if_pos hz, if_pos hz]
   show b.tree[u].kids ++ [b.tree.length] = _
   rw [h u hlt]
  ·rw [if_neg hz, if_neg hz, List.append_nil]
   exact h u hlt
 ·obtain rfl : u = b.tree.length := by omega
  have e : b'.tree[b.tree.length].kids = [] := by
   rw [List.getElem_of_eq hT, List.getElem_append_right (by rw [addKid_len]; exact Nat.le_refl _)]
   simp [addKid_len, hk]
  rw [e, if_neg (by omega), List.append_nil]
  refine (List.filter_eq_nil_iff.2 fun i hi => ?_).symm
  rw [List.mem_range] at hi
  by_cases hi0 : 1 ≤ i
  ·obtain ⟨v, hv, hvi⟩ := hg.dec i (by omega) (by omega)
   rw [hv]
   simp
   omega
  ·simp [hi0]
theorem strip_addKid (t : List Nd) (u k : Nat) : (addKid t u k).map strip = t.map strip := by
 unfold addKid
 induction t generalizing u with
 | nil => cases u <;> rfl
 | cons a r ih =>
   cases u with
   | zero => rfl
   | succ u => rw [List.modify_succ_cons, List.map_cons, ih, List.map_cons]
theorem rinv_add {b b' : Bd} {n : Nd} (hr : RInv b) (hk : n.kids = []) (ha : addN b n = some b')
 (hp : ∀ (q : Nx), (b.tree.map strip).getLast? = some q → (n.kind = 2 ∧ textX (strip n) = true ∧ ¬ (q.kind = 2 ∧ q.up = ((topO b.opn).node : Int))) ∨ (n.kind = 1 ∧ elemX (strip n) = true ∧ b.opn.length < 200 ∧ admitsO (kindL n.name) b.opn = true)) :
 RInv b' ∧ (n.kind = 1 → voidK (kindL n.name) = false → RInv { b' with opn := ⟨b.tree.length, n.name, kindL n.name⟩ :: b'.opn }) := by
 obtain ⟨g1, hU, hO, hL⟩ := good_add hr.good ha
 obtain ⟨d, r, q, R, hT, hdoc, hplay, hsuf, hdesc⟩ := hr.shape
 have hkids := kids_add hr.good hk hr.kids ha
 have hsz : b'.tree.length ≤ 16384 := by
  unfold addN at ha
  split at ha
  ·cases ha
  ·omega
 have hT' : b'.tree = addKid b.tree (topO b.opn).node b.tree.length ++ [{ n with up := ((topO b.opn).node : Int) }] := by
  unfold addN at ha
  split at ha
  ·cases ha
  injection ha with ha
  rw [← ha]
 have hlast : (b.tree.map strip).getLast? = some q := by
  rw [hT, List.map_cons]
  exact play_last _ _ _ _ hplay
 have hmap : b'.tree.map strip = (strip d :: r.map strip) ++ [strip { n with up := ((topO b.opn).node : Int) }] := by
  rw [hT', List.map_append, strip_addKid, hT]
  rfl
 obtain ⟨d', r', hT2⟩ : ∃ d' r', b'.tree = d' :: r' := by
  cases hh : b'.tree with
  | nil => rw [hh] at hL; cases hL
  | cons d' r' => exact ⟨d', r', rfl⟩
 rw [hT2, List.map_cons, List.cons_append] at hmap
 injection hmap with hd' hr'
 have hlen : 1 + (r.map strip).length = b.tree.length := by rw [hT, List.length_map, List.length_cons]; omega
 have hct := closeTo_suffix hdesc hsuf
 have hpos := hr.good.pos
 have key : ∀ s2, (n.kind = 2 → s2 = b.opn) → (n.kind = 1 → s2 = if voidK (kindL n.name) then b.opn else ⟨b.tree.length, n.name, kindL n.name⟩ :: b.opn) → playX (r'.map strip) 1 (strip d') [] = some (strip { n with up := ((topO b.opn).node : Int) }, s2) := by
  intro s2 hs2 hs1
  rw [hr', hd', play_snoc, hplay, Option.bind_some, hlen]
  unfold playX
  show (match closeToX ((topO b.opn).node : Int) R with | none => _ | some s1 => _) = _
  rw [hct]
  simp only
  rcases hp q hlast with ⟨k2, ht, hadj⟩ | ⟨k1, he, hl, had⟩
  ·rw [if_pos (show (strip { n with up := ((topO b.opn).node : Int) }).kind = 2 from k2)]
   rw [show textX (strip { n with up := ((topO b.opn).node : Int) }) = true from ht]
   rw [if_neg (by
    intro hc
    simp only [Bool.not_true, Bool.false_or, Bool.and_eq_true, beq_iff_eq] at hc
    exact hadj ⟨hc.1, hc.2⟩)]
   rw [hs2 k2]
   rfl
  ·rw [if_neg (show ¬ (strip { n with up := ((topO b.opn).node : Int) }).kind = 2 from fun e => by have e : n.kind = 2 := e; omega), if_pos (show (strip { n with up := ((topO b.opn).node : Int) }).kind = 1 from k1)]
   rw [show elemX (strip { n with up := ((topO b.opn).node : Int) }) = true from he, show admitsO (kindL (strip { n with up := ((topO b.opn).node : Int) }).name) b.opn = true from had, decide_eq_false (show ¬ 200 ≤ b.opn.length by omega)]
   rw [hs1 k1]
   rfl
 have hdo : docX (strip d') = true := by rw [hd']; exact hdoc
 have hop : Desc b'.tree.length b.opn := desc_mono (by omega) (desc_suffix hdesc hsuf)
 refine ⟨⟨g1, ?_, hkids, hsz⟩, fun hn1 hnv => ?_⟩
 ·rcases hp q hlast with ⟨k2, _⟩ | ⟨k1, _⟩
  ·exact ⟨d', r', _, _, hT2, hdo, key b.opn (fun _ => rfl) (fun e => by omega), by rw [hO]; exact List.suffix_refl _, hop⟩
  ·refine ⟨d', r', _, _, hT2, hdo, key _ (fun e => by omega) (fun _ => rfl), ?_, ?_⟩
   ·rw [hO]
    split
    ·exact List.suffix_refl _
    ·exact List.suffix_cons _ _
   ·split
    ·exact hop
    ·exact ⟨hpos, by show b.tree.length < b'.tree.length; omega, desc_suffix hdesc hsuf⟩
 ·have hch : ChainU (ups b'.tree) (⟨b.tree.length, n.name, kindL n.name⟩ :: b'.opn) := by
   have htop := (chain_dep hr.good.dec (by rw [ups_len]; exact hr.good.pos) b.opn hr.good.chain).2
   rw [ups_len] at htop
   refine ⟨hpos, by rw [ups_len]; show b.tree.length < b'.tree.length; omega, ?_, ?_, g1.chain⟩
   ·show (ups b'.tree)[b.tree.length]? = some ((topO b'.opn).node : Int)
    rw [hU, hO, List.getElem?_append_right (by rw [ups_len]; exact Nat.le_refl _), ups_len, Nat.sub_self]
    rfl
   ·show (topO b'.opn).node < b.tree.length
    rw [hO]
    exact htop
  refine ⟨⟨g1.pos, g1.head, g1.dec, hch⟩, ?_, hkids, hsz⟩
  refine ⟨d', r', _, _, hT2, hdo, key (⟨b.tree.length, n.name, kindL n.name⟩ :: b.opn) (fun e => by omega) (fun _ => by rw [hnv]; rfl), ?_, ⟨hpos, by show b.tree.length < b'.tree.length; omega, desc_suffix hdesc hsuf⟩⟩
  show _ :: b'.opn <:+ _
  rw [hO]
  exact List.suffix_refl _
theorem valid_app {a b : List UInt8} (ha : dataX a = true) (hb : dataX b = true) : dataX (a ++ b) = true := by
 rw [dataX_eq, Bool.and_eq_true] at ha hb ⊢
 exact ⟨U.well_app ha.1 hb.1, by rw [nz_app, ha.2, hb.2]; rfl⟩
theorem modify_last (f : Nd → Nd) : ∀ (l : List Nd) (x : Nd), (l ++ [x]).modify l.length f = l ++ [f x]
 | [], x => rfl
 | a :: l, x => by
   rw [List.cons_append, List.length_cons, List.modify_succ_cons, modify_last f l x]
   rfl
/-- A text that goes on. -/
theorem rinv_more {b : Bd} {s : List UInt8} (hr : RInv b) (hs : dataX s = true) (hne : s ≠ []) {x : Nd} (hx : b.tree.getLast? = some x) (hk : x.kind = 2) : RInv { b with tree := b.tree.modify (b.tree.length - 1) fun n => { n with data := n.data ++ s } } := by
 obtain ⟨d, r, q, R, hT, hdoc, hplay, hsuf, hdesc⟩ := hr.shape
 have hd0 : d.kind = 0 := by
  have : docX (strip d) = true := hdoc
  unfold docX at this
  simp only [Bool.and_eq_true, beq_iff_eq] at this
  exact this.1.1.1.1
 obtain ⟨r0, y, hr0⟩ : ∃ r0 y, r = r0 ++ [y] := by
  rcases List.eq_nil_or_concat r with h | ⟨r0, y, h⟩
  ·rw [hT, h] at hx
   have hx : some d = some x := hx
   injection hx with hx
   rw [← hx, hd0] at hk
   cases hk
  ·exact ⟨r0, y, by rw [h]; simp⟩
 have hy : y = x := by
  rw [hT, hr0] at hx
  rw [← List.cons_append, List.getLast?_concat] at hx
  injection hx
 subst hy
 have hT2 : b.tree.modify (b.tree.length - 1) (fun n => { n with data := n.data ++ s }) = d :: (r0 ++ [{ y with data := y.data ++ s }]) := by
  rw [hT, hr0]
  have := modify_last (fun n => { n with data := n.data ++ s }) (d :: r0) y
  rw [List.cons_append, List.cons_append] at this
  rw [← this]
  congr 1
  simp
 have hup : ups (b.tree.modify (b.tree.length - 1) fun n => { n with data := n.data ++ s }) = ups b.tree := ups_modify (fun n => { n with data := n.data ++ s }) (fun _ => rfl) _ _
 have hln : (b.tree.modify (b.tree.length - 1) fun n => { n with data := n.data ++ s }).length = b.tree.length := List.length_modify ..
 refine ⟨⟨by show 0 < (List.modify _ _ _).length; rw [hln]; exact hr.good.pos, (head_modify (fun n => { n with data := n.data ++ s }) (fun _ => rfl) _ _).trans hr.good.head, by show DecU (ups (List.modify _ _ _)); rw [hup]; exact hr.good.dec, by show ChainU (ups (List.modify _ _ _)) _; rw [hup]; exact hr.good.chain⟩, ?_, fun u hu => ?_, by show (List.modify _ _ _).length ≤ _; rw [hln]; exact hr.small⟩
 ·rw [hr0, List.map_append, List.map_cons, List.map_nil, play_snoc] at hplay
  cases hp0 : playX (r0.map strip) 1 (strip d) [] with
  | none => rw [hp0] at hplay; cases hplay
  | some qq =>
    rw [hp0, Option.bind_some] at hplay
    unfold playX at hplay
    cases hct : closeToX (strip y).up qq.2 with
    | none => rw [hct] at hplay; cases hplay
    | some s1 =>
      rw [hct] at hplay
      simp only at hplay
      rw [if_pos (show (strip y).kind = 2 from hk)] at hplay
      by_cases hc : (!textX (strip y) || (qq.1.kind == 2 && qq.1.up == (strip y).up)) = true
      ·rw [if_pos hc] at hplay; cases hplay
      ·rw [if_neg hc] at hplay
       injection hplay with hplay
       injection hplay with _ hR
       simp only [Bool.or_eq_true, Bool.not_eq_true', not_or, Bool.not_eq_false] at hc
       refine ⟨d, r0 ++ [{ y with data := y.data ++ s }], strip { y with data := y.data ++ s }, R, hT2, hdoc, ?_, hsuf, by show Desc (List.modify _ _ _).length _; rw [hln]; exact hdesc⟩
       rw [List.map_append, List.map_cons, List.map_nil, play_snoc, hp0, Option.bind_some]
       unfold playX
       rw [show (strip { y with data := y.data ++ s }).up = (strip y).up from rfl, hct]
       simp only
       rw [if_pos (show (strip { y with data := y.data ++ s }).kind = 2 from hk)]
       have htx : textX (strip { y with data := y.data ++ s }) = true := by
        have h1 := hc.1
        unfold textX at h1 ⊢
        simp only [Bool.and_eq_true] at h1 ⊢
        refine ⟨⟨h1.1.1, ?_⟩, valid_app h1.2 hs⟩
        show ((y.data ++ s) != []) = true
        rw [bne_iff_ne]
        simp [hne]
       rw [htx, if_neg (by simp only [Bool.not_true, Bool.false_or]; exact hc.2), hR]
       rfl
 ·have hu' : u < b.tree.length := by rw [← hln]; exact hu
  have hk2 := hr.kids u hu'
  show ((b.tree.modify (b.tree.length - 1) fun n => { n with data := n.data ++ s })[u]).kids = (List.range (List.modify _ _ _).length).filter fun i => decide (1 ≤ i) && ((ups (List.modify _ _ _))[i]?.getD 0 == (u : Int))
  rw [hln, hup, ← hk2, List.getElem_modify]
  split <;> rfl
theorem getLast_strip {t : List Nd} {q : Nx} (h : (t.map strip).getLast? = some q) : ∃ x, t.getLast? = some x ∧ q = strip x := by
 rw [List.getLast?_map] at h
 cases hx : t.getLast? with
 | none => rw [hx] at h; cases h
 | some x =>
   rw [hx] at h
   injection h with h
   exact ⟨x, rfl, h.symm⟩
theorem rinv_text {b b' : Bd} {s : List UInt8} (hr : RInv b) (hs : dataX s = true) (h : textB b s = (0, b')) : RInv b' := by
 unfold textB at h
 by_cases hd : s = []
 ·rw [if_pos hd] at h
  injection h with _ h
  rw [← h]
  exact hr
 rw [if_neg hd] at h
 have hne : b.tree ≠ [] := fun e => by have := hr.good.pos; rw [e] at this; cases this
 have hgl : ∀ x, b.tree.getLast? = some x → b.tree.getLastD ⟨0, [], [], [], -1, []⟩ = x := fun x hx => by rw [List.getLastD_eq_getLast?, hx]; rfl
 split at h
 ·rename_i hc
  injection h with _ h
  rw [← h]
  rw [Bool.and_eq_true, beq_iff_eq] at hc
  cases hx : b.tree.getLast? with
  | none => exact absurd (List.getLast?_eq_none_iff.1 hx) hne
  | some x => exact rinv_more hr hs hd hx (by rw [← hgl x hx]; exact hc.1)
 ·rename_i hc
  cases ha : addN b ⟨2, [], [], s, 0, []⟩ with
  | none => rw [ha] at h; injection h with h; cases h
  | some c =>
    rw [ha] at h
    injection h with _ h
    rw [← h]
    refine (rinv_add hr rfl ha fun q hq => .inl ⟨rfl, ?_, fun hq2 => ?_⟩).1
    ·unfold textX
     show (([] : List UInt8) == [] && ([] : List (List UInt8 × List UInt8)).length == 0 && s != [] && dataX s) = true
     rw [hs, bne_iff_ne.2 hd]
     rfl
    ·obtain ⟨x, hx, rfl⟩ := getLast_strip hq
     rw [hgl x hx] at hc
     refine hc ?_
     rw [Bool.and_eq_true, beq_iff_eq, beq_iff_eq]
     exact hq2
theorem rinv_opn {b : Bd} {st : List Opn} (hr : RInv b) (h : st <:+ b.opn) (hc : ChainU (ups b.tree) st) : RInv { b with opn := st } := by
 obtain ⟨d, r, q, R, hT, hdoc, hplay, hsuf, hdesc⟩ := hr.shape
 exact ⟨⟨hr.good.pos, hr.good.head, hr.good.dec, hc⟩, ⟨d, r, q, R, hT, hdoc, hplay, h.trans hsuf, hdesc⟩, hr.kids, hr.small⟩
theorem rinv_take {b b' : Bd} {t : Tk} {f : Bool} (hr : RInv b) (hg : TGood t) (h : takeB b t f = (0, b')) : RInv b' := by
 unfold takeB at h
 by_cases h5 : t.kind = 5
 ·rw [if_pos h5] at h
  split at h
  ·injection h with _ h; rw [← h]; exact hr
  ·injection h with h; cases h
 rw [if_neg h5] at h
 by_cases h3 : t.kind = 3
 ·rw [if_pos h3] at h
  exact rinv_text hr (hg.data h3) h
 rw [if_neg h3] at h
 by_cases h1 : t.kind = 1
 ·rw [if_pos h1] at h
  unfold startB at h
  by_cases k0 : kindL t.name = 0
  ·rw [if_pos k0] at h; injection h with h; cases h
  rw [if_neg k0] at h
  split at h
  ·injection h with h; cases h
  split at h
  ·injection h with h; cases h
  rename_i had
  split at h
  ·injection h with h; cases h
  rename_i hln
  have hr2 : RInv { b with opn := closeS (kindL t.name) b.opn } := rinv_opn hr (suffix_closeS (List.suffix_refl _)) (chain_closeS hr.good.chain)
  cases ha : addN { b with opn := closeS (kindL t.name) b.opn } ⟨1, t.name, t.attrs, [], 0, []⟩ with
  | none => rw [ha] at h; injection h with h; cases h
  | some c =>
    rw [ha] at h
    injection h with _ h
    have hadd := rinv_add hr2 rfl ha fun q _ => .inr ⟨rfl, by
     unfold elemX
     show (!(kindL t.name == 0 || ([] : List UInt8) != [] || decide (16 < t.attrs.length)) && attrsX t.attrs) = true
     rw [(hg.attrs h1).1, beq_false_of_ne k0, decide_eq_false (by have := (hg.attrs h1).2; omega)]
     rfl, by show (closeS (kindL t.name) b.opn).length < 200; omega, by simpa using had⟩
    rw [← h]
    by_cases hv : voidK (kindL t.name) = true
    ·rw [if_pos hv]
     exact hadd.1
    ·rw [if_neg hv]
     exact hadd.2 rfl (by simpa using hv)
 rw [if_neg h1] at h
 by_cases h2 : t.kind = 2
 ·rw [if_pos h2] at h
  unfold endB at h
  split at h
  ·injection h with h; cases h
  split at h
  ·injection h with h; cases h
  ·rename_i st' hst
   injection h with _ h
   rw [← h]
   unfold closeE at hst
   simp only at hst
   split at hst
   ·injection hst with hst
    rw [← hst]
    exact rinv_opn hr ((List.tail_suffix _).trans (List.dropWhile_suffix _)) (chain_tail (chain_drop _ hr.good.chain))
   ·cases hst
 ·rw [if_neg h2] at h
  injection h with _ h
  rw [← h]
  exact hr
theorem rinv_build : ∀ (ts : List Tk) (i : Nat) {b : Bd} {ns : List Nd}, RInv b → (∀ t ∈ ts, TGood t) → buildF ts i b = (0, 0, ns) → ∃ b', RInv b' ∧ b'.tree = ns
 | [], i, b, ns, hr, _, h => by
   injection h with _ h
   injection h with _ h
   exact ⟨b, hr, h⟩
 | t :: l, i, b, ns, hr, hg, h => by
   unfold buildF at h
   split at h
   ·rename_i h0
    have e : takeB b t (i == 0) = (0, (takeB b t (i == 0)).2) := by
     conv => lhs; rw [← Prod.eta (takeB b t (i == 0)), h0]
    exact rinv_build l (i + 1) (rinv_take hr (hg t (List.mem_cons_self ..)) e) (fun x hx => hg x (List.mem_cons_of_mem _ hx)) h
   ·rename_i h0
    injection h with h
    exact absurd h h0
/-- What is built is right. -/
theorem build_right {ts : List Tk} {ns : List Nd} (hg : ∀ t ∈ ts, TGood t) (h : buildL ts = (0, 0, ns)) : rightX (ns.map toX) = true := by
 obtain ⟨b, hr, rfl⟩ := rinv_build ts 0 rinv_new hg h
 obtain ⟨d, r, q, R, hT, hdoc, hplay, _, _⟩ := hr.shape
 have hk := hr.kids
 have hs := hr.small
 unfold rightX
 have hkx : kidsX (b.tree.map toX) = true := by
  unfold kidsX
  rw [List.all_eq_true]
  intro u hu
  rw [List.mem_range, List.length_map] at hu
  rw [beq_iff_eq, List.length_map]
  unfold ofUp
  have e : (b.tree.map toX).getD u ⟨0, [], [], [], 0, []⟩ = toX b.tree[u] := by
   rw [List.getD_eq_getElem?_getD, List.getElem?_map, List.getElem?_eq_getElem hu]
   rfl
  rw [e]
  show (b.tree[u].kids.map fun (k : Nat) => (k : Int)) = _
  rw [hk u hu]
  congr 1
  refine List.filter_congr fun i hi => ?_
  rw [List.mem_range] at hi
  congr 1
  have e2 : ((b.tree.map toX).getD i ⟨0, [], [], [], 0, []⟩).up = (ups b.tree)[i]?.getD 0 := by
   unfold ups
   rw [List.getD_eq_getElem?_getD, List.getElem?_map, List.getElem?_map, List.getElem?_eq_getElem hi]
   rfl
  rw [e2]
 rw [hT] at hkx hs ⊢
 show (decide ((toX d :: r.map toX).length ≤ 16384) && docX (toX d) && placesX (r.map toX) 1 (toX d) [] && kidsX (toX d :: r.map toX)) = true
 rw [places_strip r 1 (toX d) (strip d) [] rfl rfl, places_play, hplay, show kidsX (toX d :: r.map toX) = true from hkx, show docX (toX d) = true from hdoc, decide_eq_true (by simpa using hs)]
 rfl
end Go.Proofs.YtlcijlklbabajaaGreatDoor
namespace Go.Proofs.YtlcijlklbabajaaGreatDoor
def nk (n : Nx) : Nx := { n with kids := [] }
def endT (o : Opn) : Tk := ⟨2, o.name, [], false, []⟩
def nodeT (n : Nx) : Tk := if n.kind = 2 then ⟨3, [], [], false, n.data⟩ else ⟨1, n.name, n.attrs, false, []⟩
/-- What is closed ahead of a node with this parent. -/
def popL (up : Int) : List Opn → List Opn
 | [] => []
 | o :: t => if (o.node : Int) = up then [] else o :: popL up t
def pushL (n : Nx) (i : Nat) (s1 : List Opn) : List Opn := if n.kind = 1 ∧ voidK (kindL n.name) = false then ⟨i, n.name, kindL n.name⟩ :: s1 else s1
def seqT : List Nx → Nat → List Opn → List Tk
 | [], _, st => st.map endT
 | n :: r, i, st =>
   match closeToX n.up st with
   | none => []
   | some s1 => (popL n.up st).map endT ++ nodeT n :: seqT r (i + 1) (pushL n i s1)
theorem pop_close {up : Int} : ∀ {st s1 : List Opn}, closeToX up st = some s1 → st = popL up st ++ s1 ∧ up = ((topO s1).node : Int)
 | [], s1, h => by
   unfold closeToX at h
   split at h
   ·rename_i h0
    injection h with h
    subst h
    exact ⟨rfl, h0⟩
   ·cases h
 | o :: t, s1, h => by
   unfold closeToX at h
   split at h
   ·rename_i h0
    injection h with h
    subst h
    refine ⟨?_, h0.symm⟩
    unfold popL
    rw [if_pos h0]
    rfl
   ·rename_i h0
    obtain ⟨e1, e2⟩ := pop_close h
    refine ⟨?_, e2⟩
    unfold popL
    rw [if_neg h0, List.cons_append, ← e1]
def OpnOk (st : List Opn) : Prop := ∀ o ∈ st, o.kind = kindL o.name ∧ 1 ≤ o.kind ∧ o.kind ≤ 6
theorem void_iff (k : Nat) (h : k ≤ 8) (h0 : k ≠ 0) : voidK k = false → 1 ≤ k ∧ k ≤ 6 := by
 intro hv
 rcases (by omega : k = 1 ∨ k = 2 ∨ k = 3 ∨ k = 4 ∨ k = 5 ∨ k = 6 ∨ k = 7 ∨ k = 8) with rfl | rfl | rfl | rfl | rfl | rfl | rfl | rfl
 all_goals first | (exact ⟨by decide, by decide⟩) | (revert hv; decide)
theorem endsToo_self (k : Nat) : endsToo k k = false := by
 unfold endsToo
 split
 ·rename_i h; subst h; rfl
 ·split
  ·rename_i h; subst h; rfl
  ·rfl
theorem close_one {o : Opn} {t : List Opn} (hk : o.kind = kindL o.name) : closeE o.name (o :: t) = some t := by
 unfold closeE
 simp only
 rw [List.dropWhile_cons, show endsToo (kindL o.name) o.kind = false by rw [hk]; exact endsToo_self _]
 simp only [Bool.false_eq_true, if_false]
 show (if (o.name == o.name) = true then some t else none) = _
 rw [beq_self_eq_true, if_pos rfl]
/-- Ends, one behind the other. -/
theorem build_ends (rest : List Tk) : ∀ (ps : List Opn) (s1 : List Opn) (k : Nat) (b : Bd), b.opn = ps ++ s1 → OpnOk ps → ∃ k', buildF (ps.map endT ++ rest) k b = buildF rest k' { b with opn := s1 } ∧ k ≤ k'
 | [], s1, k, b, h, _ => ⟨k, by
   show buildF rest k b = _
   rw [List.nil_append] at h
   rw [← h], Nat.le_refl _⟩
 | o :: ps, s1, k, b, h, hk => by
   obtain ⟨h1, h2, h3⟩ := hk o (List.mem_cons_self ..)
   have ht : takeB b (endT o) (k == 0) = (0, { b with opn := ps ++ s1 }) := by
    unfold takeB
    show (if (2 : Nat) = 5 then _ else if (2 : Nat) = 3 then _ else if (2 : Nat) = 1 then _ else if (2 : Nat) = 2 then endB b o.name else _) = _
    rw [if_neg (by decide), if_neg (by decide), if_neg (by decide), if_pos rfl]
    unfold endB
    rw [if_neg (by omega), h, List.cons_append, close_one h1]
   obtain ⟨k', e, hk'⟩ := build_ends rest ps s1 (k + 1) { b with opn := ps ++ s1 } rfl (fun x hx => hk x (List.mem_cons_of_mem _ hx))
   refine ⟨k', ?_, by omega⟩
   rw [List.map_cons, List.cons_append]
   conv => lhs; unfold buildF
   rw [ht, if_pos rfl]
   exact e
theorem admit_close {k : Nat} {st : List Opn} (h : admitsO k st = true) : closeS k st = st := by
 unfold admitsO at h
 simp only [Bool.not_eq_true', Bool.or_eq_false_iff, Bool.and_eq_false_iff] at h
 have top2 : ∀ {j : Nat} {w : Bool}, hasO j w st = false → ((topO st).kind == j) = true → j = 0 := by
  intro j w hh ht
  cases st with
  | nil => exact (eq_of_beq ht).symm
  | cons o t =>
    unfold hasO at hh
    rw [if_pos (show o.kind = j from eq_of_beq ht)] at hh
    cases hh
 have e1 : (endsP k && (topO st).kind == 2) = false := by
  rw [Bool.and_eq_false_iff]
  rcases h.1.1.1 with h | h
  ·exact .inl h
  ·refine .inr ?_
   cases hh : ((topO st).kind == 2) with
   | false => rfl
   | true => exact absurd (top2 h hh) (by decide)
 have e2 : (k == 3 && (topO st).kind == 3) = false := by
  rw [Bool.and_eq_false_iff]
  rcases h.1.1.2 with h | h
  ·exact .inl h
  ·refine .inr ?_
   cases hh : ((topO st).kind == 3) with
   | false => rfl
   | true => exact absurd (top2 h hh) (by decide)
 unfold closeS
 simp only
 rw [e1, if_neg Bool.false_ne_true, e2, if_neg Bool.false_ne_true]
theorem add_strip {b b' : Bd} {n : Nd} (h : addN b n = some b') : b'.tree.map strip = b.tree.map strip ++ [strip { n with up := ((topO b.opn).node : Int) }] ∧ b'.opn = b.opn := by
 unfold addN at h
 split at h
 ·cases h
 injection h with h
 rw [← h]
 refine ⟨?_, rfl⟩
 show (addKid b.tree (topO b.opn).node b.tree.length ++ [_]).map strip = _
 rw [List.map_append, strip_addKid]
 rfl
/-- The tokens in the order of the nodes are built into these nodes. -/
theorem seq_build : ∀ (r : List Nx) (i : Nat) (p : Nx) (st : List Opn) (k : Nat) (b : Bd), RInv b → b.opn = st → OpnOk st → b.tree.length = i → i + r.length ≤ 16384 → (b.tree.map strip).getLast?.map (fun q => (q.kind, q.up)) = some (p.kind, p.up) → placesX r i p st = true →
 ∃ b', buildF (seqT r i st) k b = (0, 0, b'.tree) ∧ RInv b' ∧ b'.tree.map strip = b.tree.map strip ++ r.map nk
 | [], i, p, st, k, b, hr, ho, hk, _, _, _, _ => by
   obtain ⟨k', e, _⟩ := build_ends [] st [] k b (by rw [List.append_nil]; exact ho) hk
   rw [List.append_nil] at e
   refine ⟨{ b with opn := [] }, ?_, rinv_opn hr (List.nil_suffix ..) trivial, by simp⟩
   show buildF (st.map endT) k b = _
   rw [e]
   rfl
 | n :: r, i, p, st, k, b, hr, ho, hk, hi, hlen, hp, hpl => by
   unfold placesX at hpl
   cases hct : closeToX n.up st with
   | none => rw [hct] at hpl; cases hpl
   | some s1 =>
     rw [hct] at hpl
     simp only at hpl
     obtain ⟨e1, e2⟩ := pop_close hct
     have hok1 : OpnOk (popL n.up st) := fun o hm => hk o (by rw [e1]; exact List.mem_append_left _ hm)
     have hok2 : OpnOk s1 := fun o hm => hk o (by rw [e1]; exact List.mem_append_right _ hm)
     obtain ⟨k1, eb, _⟩ := build_ends (nodeT n :: seqT r (i + 1) (pushL n i s1)) (popL n.up st) s1 k b (by rw [ho]; exact e1) hok1
     have hsuf : s1 <:+ b.opn := by rw [ho]; exact ⟨popL n.up st, e1.symm⟩
     have hch : ChainU (ups b.tree) s1 := by
      have hc := hr.good.chain
      rw [ho, e1] at hc
      clear e1 hsuf eb
      revert hc
      generalize popL n.up st = ps
      intro hc
      induction ps with
      | nil => exact hc
      | cons o ps ih => exact ih hc.2.2.2.2
     have hr1 : RInv { b with opn := s1 } := rinv_opn hr hsuf hch
     have hadd : ∀ m : Nd, ∃ c, addN { b with opn := s1 } m = some c := fun m => by
      unfold addN
      rw [if_neg (show ¬ 16384 ≤ b.tree.length by simp only [List.length_cons] at hlen; omega)]
      exact ⟨_, rfl⟩
     have hgo : seqT (n :: r) i st = (popL n.up st).map endT ++ nodeT n :: seqT r (i + 1) (pushL n i s1) := by
      conv => lhs; unfold seqT
      rw [hct]
     have step : ∀ c, RInv c → c.tree.map strip = b.tree.map strip ++ [nk n] → c.opn = pushL n i s1 → OpnOk (pushL n i s1) → placesX r (i + 1) n (pushL n i s1) = true → takeB { b with opn := s1 } (nodeT n) (k1 == 0) = (0, c) → ∃ b', buildF (seqT (n :: r) i st) k b = (0, 0, b'.tree) ∧ RInv b' ∧ b'.tree.map strip = b.tree.map strip ++ (n :: r).map nk := by
      intro c hrc hst hop hoc hpc htk
      have hcl : c.tree.length = i + 1 := by
       have := congrArg List.length hst
       rw [List.length_map, List.length_append, List.length_map] at this
       simp only [List.length_cons, List.length_nil] at this
       omega
      obtain ⟨b', h1, h2, h3⟩ := seq_build r (i + 1) n (pushL n i s1) (k1 + 1) c hrc hop hoc hcl (by simp only [List.length_cons] at hlen; omega) (by rw [hst, List.getLast?_concat]; rfl) hpc
      refine ⟨b', ?_, h2, by rw [h3, hst, List.append_assoc]; rfl⟩
      rw [hgo, eb]
      conv => lhs; unfold buildF
      rw [htk, if_pos rfl]
      exact h1
     by_cases k2 : n.kind = 2
     ·rw [if_pos k2] at hpl
      by_cases hc : (!textX n || (p.kind == 2 && p.up == n.up)) = true
      ·rw [if_pos hc] at hpl; cases hpl
      rw [if_neg hc] at hpl
      simp only [Bool.or_eq_true, Bool.not_eq_true', not_or, Bool.not_eq_false] at hc
      have htx := hc.1
      unfold textX at htx
      simp only [Bool.and_eq_true, beq_iff_eq, bne_iff_ne] at htx
      obtain ⟨c, hcc⟩ := hadd ⟨2, [], [], n.data, 0, []⟩
      have hnT : nodeT n = ⟨3, [], [], false, n.data⟩ := by unfold nodeT; rw [if_pos k2]
      have hpu : pushL n i s1 = s1 := by unfold pushL; rw [if_neg (by omega)]
      have htk : takeB { b with opn := s1 } (nodeT n) (k1 == 0) = (0, c) := by
       rw [hnT]
       unfold takeB
       show (if (3 : Nat) = 5 then _ else if (3 : Nat) = 3 then textB { b with opn := s1 } n.data else _) = _
       rw [if_neg (by decide), if_pos rfl]
       unfold textB
       rw [if_neg htx.1.2]
       have hlast : ¬ ((b.tree.getLastD ⟨0, [], [], [], -1, []⟩).kind == 2 && (b.tree.getLastD ⟨0, [], [], [], -1, []⟩).up == ((topO s1).node : Int)) = true := by
        intro hh
        refine hc.2 ?_
        rw [List.getLast?_map] at hp
        cases hx : b.tree.getLast? with
        | none => rw [hx] at hp; cases hp
        | some x =>
          rw [hx] at hp
          injection hp with hp
          injection hp with q1 q2
          have hD : b.tree.getLastD ⟨0, [], [], [], -1, []⟩ = x := by rw [List.getLastD_eq_getLast?, hx]; rfl
          rw [hD] at hh
          rw [← q1, ← q2, e2]
          exact hh
       rw [if_neg hlast, hcc]
      obtain ⟨a1, a2⟩ := add_strip hcc
      refine step c (rinv_take hr1 ⟨(fun _ => by rw [hnT]; exact htx.2), (fun e => by rw [hnT] at e; cases e)⟩ htk) ?_ (by rw [a2, hpu]) (by rw [hpu]; exact hok2) (by rw [hpu]; exact hpl) htk
      rw [a1]
      congr 2
      show (⟨2, [], [], n.data, ((topO s1).node : Int), []⟩ : Nx) = nk n
      unfold nk
      have ha : n.attrs = [] := List.eq_nil_of_length_eq_zero htx.1.1.2
      rw [← e2]
      obtain ⟨q1, q2, q3, q4, q5, q6⟩ := n
      simp only at k2 ha htx ⊢
      rw [k2, ha, htx.1.1.1]
     ·rw [if_neg k2] at hpl
      by_cases k1' : n.kind = 1
      ·rw [if_pos k1'] at hpl
       by_cases hc : (!elemX n || decide (200 ≤ s1.length) || !admitsO (kindL n.name) s1) = true
       ·rw [if_pos hc] at hpl; cases hpl
       rw [if_neg hc] at hpl
       simp only [Bool.or_eq_true, Bool.not_eq_true', not_or, Bool.not_eq_false, decide_eq_true_eq] at hc
       have hel := hc.1.1
       unfold elemX at hel
       simp only [Bool.and_eq_true, Bool.not_eq_true', Bool.or_eq_false_iff, decide_eq_false_iff_not, beq_eq_false_iff_ne, bne_eq_false_iff_eq] at hel
       obtain ⟨c, hcc⟩ := hadd ⟨1, n.name, n.attrs, [], 0, []⟩
       have hnT : nodeT n = ⟨1, n.name, n.attrs, false, []⟩ := by unfold nodeT; rw [if_neg k2]
       obtain ⟨a1, a2⟩ := add_strip hcc
       have hkl := kindL_le n.name
       have htk : takeB { b with opn := s1 } (nodeT n) (k1 == 0) = (0, if voidK (kindL n.name) then c else { c with opn := ⟨b.tree.length, n.name, kindL n.name⟩ :: c.opn }) := by
        rw [hnT]
        unfold takeB
        show (if (1 : Nat) = 5 then _ else if (1 : Nat) = 3 then _ else if (1 : Nat) = 1 then startB { b with opn := s1 } ⟨1, n.name, n.attrs, false, []⟩ else _) = _
        rw [if_neg (by decide), if_neg (by decide), if_pos rfl]
        unfold startB
        show (if kindL n.name = 0 then _ else if (false && _) = true then _ else if (!admitsO (kindL n.name) (closeS (kindL n.name) s1)) = true then _ else if 200 ≤ (closeS (kindL n.name) s1).length then _ else match addN { b with opn := closeS (kindL n.name) s1 } ⟨1, n.name, n.attrs, [], 0, []⟩ with | none => _ | some c => _) = _
        rw [if_neg hel.1.1.1, if_neg (by simp), admit_close hc.2, if_neg (by rw [hc.2]; simp), if_neg hc.1.2, hcc]
       by_cases hv : voidK (kindL n.name) = true
       ·rw [if_pos hv] at htk hpl
        have hpu : pushL n i s1 = s1 := by unfold pushL; rw [if_neg (by rw [hv]; simp)]
        refine step c (rinv_take hr1 ⟨(fun e => by rw [hnT] at e; cases e), (fun _ => by rw [hnT]; exact ⟨hel.2, Nat.le_of_not_lt hel.1.2⟩)⟩ htk) ?_ (by rw [a2, hpu]) (by rw [hpu]; exact hok2) (by rw [hpu]; exact hpl) htk
        rw [a1]
        congr 2
        show (⟨1, n.name, n.attrs, [], ((topO s1).node : Int), []⟩ : Nx) = nk n
        unfold nk
        rw [← e2]
        obtain ⟨q1, q2, q3, q4, q5, q6⟩ := n
        simp only at k1' hel ⊢
        rw [k1', hel.1.1.2]
       ·rw [if_neg hv] at htk hpl
        have hv' : voidK (kindL n.name) = false := by simpa using hv
        have hpu : pushL n i s1 = ⟨i, n.name, kindL n.name⟩ :: s1 := by unfold pushL; rw [if_pos ⟨k1', hv'⟩]
        have hk16 := void_iff _ hkl hel.1.1.1 hv'
        refine step _ (rinv_take hr1 ⟨(fun e => by rw [hnT] at e; cases e), (fun _ => by rw [hnT]; exact ⟨hel.2, Nat.le_of_not_lt hel.1.2⟩)⟩ htk) ?_ (by show _ :: c.opn = _; rw [a2, hpu, hi]) (by
         rw [hpu]
         intro o hm
         rcases List.mem_cons.1 hm with rfl | hm
         ·exact ⟨rfl, hk16.1, hk16.2⟩
         ·exact hok2 o hm) (by rw [hpu]; exact hpl) htk
        show c.tree.map strip = _
        rw [a1]
        congr 2
        show (⟨1, n.name, n.attrs, [], ((topO s1).node : Int), []⟩ : Nx) = nk n
        unfold nk
        rw [← e2]
        obtain ⟨q1, q2, q3, q4, q5, q6⟩ := n
        simp only at k1' hel ⊢
        rw [k1', hel.1.1.2]
      ·rw [if_neg k1'] at hpl
       cases hpl
end Go.Proofs.YtlcijlklbabajaaGreatDoor
namespace Go.Proofs.YtlcijlklbabajaaGreatDoor
open R.Pg
def attrS (a : List UInt8 × List UInt8) : List UInt8 := 32 :: a.1 ++ 61 :: 34 :: (escL true a.2 ++ [34])
def startS (n : Nx) : List UInt8 := 60 :: n.name ++ (n.attrs.flatMap attrS ++ [62])
def enS (name : List UInt8) : List UInt8 := 60 :: 47 :: name ++ [62]
def docS (ts : List Nx) : Nat → Nat → List UInt8
 | 0, _ => []
 | f + 1, i => match ts[i]? with
   | none => []
   | some n => (if n.kind = 1 then startS n else if n.kind = 2 then escL false n.data else []) ++ (n.kids.flatMap fun k => docS ts f k.toNat) ++ (if n.kind = 1 then (if voidK (kindL n.name) then [] else enS n.name) else [])
/-- What is written, unless the page is full. -/
def Acc (st st' : R.Pg.Pst) (s : List UInt8) : Prop := st'.2 = false → st.2 = false ∧ st'.1 = st.1 ++ s ∧ (st.1.length ≤ 65536 → st'.1.length ≤ 65536)
theorem Acc.refl (st : R.Pg.Pst) : Acc st st [] := fun h => ⟨h, (List.append_nil _).symm, fun h => h⟩
theorem Acc.trans {a b c : R.Pg.Pst} {s t : List UInt8} (h : Acc a b s) (k : Acc b c t) : Acc a c (s ++ t) := fun hc => by
 obtain ⟨k1, k2, k3⟩ := k hc
 obtain ⟨h1, h2, h3⟩ := h k1
 exact ⟨h1, by rw [k2, h2, List.append_assoc], fun hl => k3 (h3 hl)⟩
theorem acc_wr1 (st : R.Pg.Pst) (s : List UInt8) : Acc st (wr1 st s) s := by
 intro h
 unfold wr1 at h ⊢
 by_cases ht : (tk st s).2 = true
 ·rw [if_pos ht] at h
  rw [h] at ht
  cases ht
 ·rw [if_neg ht]
  unfold tk at ht
  simp only [Bool.or_eq_true, decide_eq_true_eq, not_or] at ht
  refine ⟨by simpa using ht.1, rfl, fun _ => ?_⟩
  show (st.1 ++ s).length ≤ 65536
  rw [List.length_append]
  omega
theorem acc_wrL : ∀ (l : List (List UInt8)) (st : R.Pg.Pst), Acc st (wrL st l) l.flatten
 | [], st => Acc.refl st
 | s :: l, st => by
   rw [List.flatten_cons]
   exact (acc_wr1 st s).trans (acc_wrL l (wr1 st s))
theorem acc_wrE (v : Bool) (st : R.Pg.Pst) (s : List UInt8) : Acc st (wrE v st s) (escL v s) := by
 intro h
 unfold wrE at h ⊢
 by_cases ht : (tk st s).2 = true
 ·rw [if_pos ht] at h
  rw [h] at ht
  cases ht
 ·rw [if_neg ht] at h ⊢
  obtain ⟨h1, h2, h3⟩ := acc_wr1 (tk st s) (escL v s) h
  have : st.2 = false := by
   unfold tk at h1
   simp only [Bool.or_eq_false_iff] at h1
   exact h1.1
  exact ⟨this, h2, h3⟩
theorem acc_attr (st : R.Pg.Pst) (a : List UInt8 × List UInt8) : Acc st (attrP st a) (attrS a) := by
 have h1 := acc_wrL [[32], a.1, [61, 34]] st
 have h2 := acc_wrE true (wrL st [[32], a.1, [61, 34]]) a.2
 have h3 := acc_wrL [[34]] (wrE true (wrL st [[32], a.1, [61, 34]]) a.2)
 have := (h1.trans h2).trans h3
 have e : ([[32], a.1, [61, 34]] : List (List UInt8)).flatten ++ escL true a.2 ++ ([[34]] : List (List UInt8)).flatten = attrS a := by
  unfold attrS
  simp
 rw [e] at this
 exact this
theorem acc_attrs : ∀ (l : List (List UInt8 × List UInt8)) (st : R.Pg.Pst), Acc st (l.foldl attrP st) (l.flatMap attrS)
 | [], st => Acc.refl st
 | a :: l, st => by
   rw [List.flatMap_cons]
   exact (acc_attr st a).trans (acc_attrs l (attrP st a))
theorem acc_start (st : R.Pg.Pst) (n : Nx) : Acc st (startP st n.name n.attrs) (startS n) := by
 have h1 := acc_wrL [[60], n.name] st
 have h2 := acc_attrs n.attrs (wrL st [[60], n.name])
 have h3 := acc_wrL [[62]] (n.attrs.foldl attrP (wrL st [[60], n.name]))
 have := (h1.trans h2).trans h3
 have e : ([[60], n.name] : List (List UInt8)).flatten ++ n.attrs.flatMap attrS ++ ([[62]] : List (List UInt8)).flatten = startS n := by
  unfold startS
  simp
 rw [e] at this
 exact this
theorem acc_end (st : R.Pg.Pst) (name : List UInt8) : Acc st (endP st name) (if voidK (kindL name) then [] else enS name) := by
 unfold endP voidK
 by_cases hv : (kindL name == 7 || kindL name == 8) = true
 ·rw [if_pos hv, if_pos hv]
  exact Acc.refl st
 ·rw [if_neg hv, if_neg hv]
  have := acc_wrL [[60, 47], name, [62]] st
  have e : ([[60, 47], name, [62]] : List (List UInt8)).flatten = enS name := by
   unfold enS
   simp
  rw [e] at this
  exact this
theorem acc_kids {g : R.Pg.Pst → Int → R.Pg.Pst} {d : Int → List UInt8} (h : ∀ st k, Acc st (g st k) (d k)) : ∀ (l : List Int) (st : R.Pg.Pst), Acc st (l.foldl g st) (l.flatMap d)
 | [], st => Acc.refl st
 | k :: l, st => by
   rw [List.flatMap_cons]
   exact (h st k).trans (acc_kids h l (g st k))
theorem acc_node (ts : List Nx) : ∀ (f : Nat) (st : R.Pg.Pst) (i : Nat), Acc st (nodeF ts f st i) (docS ts f i)
 | 0, st, _ => Acc.refl st
 | f + 1, st, i => by
   cases hn : ts[i]? with
   | none =>
     unfold nodeF docS
     rw [hn]
     exact Acc.refl st
   | some n =>
     rw [nodeF_at hn]
     unfold docS
     rw [hn]
     simp only
     have hk := fun st => acc_kids (g := fun s k => nodeF ts f s k.toNat) (d := fun k => docS ts f k.toNat) (fun st k => acc_node ts f st k.toNat) n.kids st
     by_cases h1 : n.kind = 1
     ·rw [if_pos h1, if_pos h1, if_pos h1]
      exact ((acc_start st n).trans (hk _)).trans (acc_end _ _)
     ·rw [if_neg h1, if_neg h1, if_neg h1, List.append_nil]
      by_cases h2 : n.kind = 2
      ·rw [if_pos h2, if_pos h2]
       exact (acc_wrE false st n.data).trans (hk _)
      ·rw [if_neg h2, if_neg h2, List.nil_append]
       exact hk _
theorem serial_doc {ts : List Nx} {D : List UInt8} (h : serialX ts = (D, 0)) : rightX ts = true ∧ D = docS ts ts.length 0 ∧ D.length ≤ 65536 := by
 unfold serialX at h
 split at h
 ·rename_i hr
  split at h
  ·injection h with _ h; cases h
  ·rename_i hp
   injection h with h _
   obtain ⟨_, h2, h3⟩ := acc_node ts ts.length ([], false) 0 (show (pageX ts).2 = false by simpa using hp)
   refine ⟨hr, ?_, ?_⟩
   ·rw [← h]
    exact h2
   ·rw [← h]
    exact h3 (Nat.zero_le _)
 ·injection h with _ h; cases h
def nodeS (n : Nx) : List UInt8 := if n.kind = 2 then escL false n.data else startS n
def seqS : List Nx → Nat → List Opn → List UInt8
 | [], _, st => st.flatMap fun o => enS o.name
 | n :: r, i, st =>
   match closeToX n.up st with
   | none => []
   | some s1 => ((popL n.up st).flatMap fun o => enS o.name) ++ (nodeS n ++ seqS r (i + 1) (pushL n i s1))
theorem desc_ne {m : Nat} : ∀ {ps s1 : List Opn}, Desc m (ps ++ s1) → ∀ o ∈ ps, o.node < m ∧ 0 < o.node ∧ (topO s1).node < o.node ∧ ∀ x ∈ s1, x.node < o.node
 | [], _, _, o, h => by cases h
 | a :: ps, s1, h, o, hm => by
   obtain ⟨h1, h2, h3⟩ := h
   rcases List.mem_cons.1 hm with rfl | hm
   ·have hs := desc_suffix h3 (List.suffix_append ps s1)
    refine ⟨h2, h1, desc_top hs h1, fun x hx => ?_⟩
    clear h3 h2
    induction s1 generalizing o with
    | nil => cases hx
    | cons b s1 ih =>
      rcases List.mem_cons.1 hx with rfl | hx
      ·exact hs.2.1
      ·have := hs.2.1
       have h4 := ih b (List.mem_cons_self ..) hs.1 hs.2.2 hx
       omega
   ·obtain ⟨k1, k2, k3, k4⟩ := desc_ne h3 o hm
    exact ⟨by omega, k2, k3, k4⟩
theorem push_desc {n : Nx} {i : Nat} {s1 : List Opn} (hi : 0 < i) (h : Desc i s1) : Desc (i + 1) (pushL n i s1) := by
 unfold pushL
 split
 ·exact ⟨hi, Nat.lt_succ_self _, h⟩
 ·exact desc_mono (Nat.le_succ _) h
theorem places_next {n : Nx} {r : List Nx} {i : Nat} {p : Nx} {st : List Opn} (h : placesX (n :: r) i p st = true) : ∃ s1, closeToX n.up st = some s1 ∧ placesX r (i + 1) n (pushL n i s1) = true ∧ ((n.kind = 2 ∧ textX n = true ∧ ¬ (p.kind = 2 ∧ p.up = n.up)) ∨ (n.kind = 1 ∧ elemX n = true)) := by
 unfold placesX at h
 cases hct : closeToX n.up st with
 | none => rw [hct] at h; cases h
 | some s1 =>
   rw [hct] at h
   simp only at h
   refine ⟨s1, rfl, ?_⟩
   by_cases k2 : n.kind = 2
   ·rw [if_pos k2] at h
    split at h
    ·cases h
    ·rename_i hc
     simp only [Bool.or_eq_true, Bool.not_eq_true', not_or, Bool.not_eq_false, Bool.and_eq_true, beq_iff_eq] at hc
     refine ⟨?_, .inl ⟨k2, hc.1, hc.2⟩⟩
     unfold pushL
     rw [if_neg (by omega)]
     exact h
   ·rw [if_neg k2] at h
    by_cases k1 : n.kind = 1
    ·rw [if_pos k1] at h
     split at h
     ·cases h
     ·rename_i hc
      simp only [Bool.or_eq_true, Bool.not_eq_true', not_or, Bool.not_eq_false] at hc
      refine ⟨?_, .inr ⟨k1, hc.1.1⟩⟩
      unfold pushL
      by_cases hv : voidK (kindL n.name) = true
      ·rw [if_pos hv] at h
       rw [if_neg (by rw [hv]; simp)]
       exact h
      ·rw [if_neg hv] at h
       rw [if_pos ⟨k1, by simpa using hv⟩]
       exact h
    ·rw [if_neg k1] at h
     cases h
theorem push_mem {n : Nx} {i : Nat} {s1 : List Opn} {o : Opn} (h : o ∈ pushL n i s1) : o.node = i ∨ o ∈ s1 := by
 unfold pushL at h
 split at h
 ·rcases List.mem_cons.1 h with rfl | h
  ·exact .inl rfl
  ·exact .inr h
 ·exact .inr h
theorem top_mem (st : List Opn) : (topO st).node = 0 ∨ ∃ o ∈ st, o.node = (topO st).node := by
 cases st with
 | nil => exact .inl rfl
 | cons o t => exact .inr ⟨o, List.mem_cons_self .., rfl⟩
/-- What is open no more is no later node's parent. -/
theorem no_more {m : Nat} (h0 : m ≠ 0) : ∀ (r : List Nx) (i : Nat) (p : Nx) (st : List Opn), placesX r i p st = true → m < i → (∀ o ∈ st, o.node ≠ m) → ∀ n ∈ r, n.up ≠ (m : Int)
 | [], _, _, _, _, _, _, n, hn => by cases hn
 | a :: r, i, p, st, h, hi, hm, n, hn => by
   obtain ⟨s1, h1, h2, _⟩ := places_next h
   obtain ⟨e1, e2⟩ := pop_close h1
   have hs1 : ∀ o ∈ s1, o.node ≠ m := fun o ho => hm o (by rw [e1]; exact List.mem_append_right _ ho)
   rcases List.mem_cons.1 hn with rfl | hn
   ·rw [e2]
    rcases top_mem s1 with e | ⟨o, ho, e⟩
    ·omega
    ·have := hs1 o ho
     omega
   ·refine no_more h0 r (i + 1) a (pushL a i s1) h2 (by omega) (fun o ho => ?_) n hn
    rcases push_mem ho with e | ho
    ·omega
    ·exact hs1 o ho
def upAt (ts : List Nx) (i : Nat) : Int := (ts.getD i ⟨0, [], [], [], 0, []⟩).up
/-- The nodes from j on whose parent is u. -/
def kf (ts : List Nx) (u j : Nat) : List Nat := (List.range' j (ts.length - j)).filter fun i => upAt ts i == (u : Int)
theorem kf_end (ts : List Nx) (u : Nat) : kf ts u ts.length = [] := by unfold kf; rw [Nat.sub_self]; rfl
theorem kf_step {ts : List Nx} {u j : Nat} (h : j < ts.length) : kf ts u j = if upAt ts j = (u : Int) then j :: kf ts u (j + 1) else kf ts u (j + 1) := by
 unfold kf
 rw [show ts.length - j = (ts.length - (j + 1)) + 1 by omega, List.range'_succ, List.filter_cons]
 by_cases hu : upAt ts j = (u : Int)
 ·rw [if_pos hu, if_pos (by rw [hu]; exact beq_self_eq_true _)]
 ·rw [if_neg hu, if_neg (by rw [beq_iff_eq]; exact hu)]
theorem kf_none {ts : List Nx} {u : Nat} : ∀ (m j : Nat), ts.length - j ≤ m → (∀ n ∈ ts.drop j, n.up ≠ (u : Int)) → kf ts u j = []
 | 0, j, h, _ => by unfold kf; rw [show ts.length - j = 0 by omega]; rfl
 | m + 1, j, h, hn => by
   by_cases hj : j < ts.length
   ·have hd : ts.drop j = ts[j] :: ts.drop (j + 1) := List.drop_eq_getElem_cons hj
    have hu : upAt ts j ≠ (u : Int) := by
     have := hn ts[j] (by rw [hd]; exact List.mem_cons_self ..)
     unfold upAt
     rw [List.getD_eq_getElem?_getD, List.getElem?_eq_getElem hj]
     exact this
    rw [kf_step hj, if_neg hu]
    exact kf_none m (j + 1) (by omega) (fun n h2 => hn n (by rw [hd]; exact List.mem_cons_of_mem _ h2))
   ·unfold kf; rw [show ts.length - j = 0 by omega]; rfl
end Go.Proofs.YtlcijlklbabajaaGreatDoor
namespace Go.Proofs.YtlcijlklbabajaaGreatDoor
theorem flatMap_same {α β : Type} {f g : α → List β} : ∀ {l : List α}, (∀ x ∈ l, f x = g x) → l.flatMap f = l.flatMap g
 | [], _ => rfl
 | a :: l, h => by rw [List.flatMap_cons, List.flatMap_cons, h a (List.mem_cons_self ..), flatMap_same (fun x hx => h x (List.mem_cons_of_mem _ hx))]
def remS (ts : List Nx) (D : Nat → List UInt8) (j : Nat) : List Opn → List UInt8
 | [] => (kf ts 0 j).flatMap D
 | o :: t => (kf ts o.node j).flatMap D ++ (enS o.name ++ remS ts D j t)
theorem rem_end (ts : List Nx) (D : Nat → List UInt8) : ∀ st : List Opn, remS ts D ts.length st = st.flatMap fun o => enS o.name
 | [] => by unfold remS; rw [kf_end]; rfl
 | o :: t => by unfold remS; rw [kf_end, rem_end ts D t, List.flatMap_cons]; rfl
theorem rem_pops (ts : List Nx) (D : Nat → List UInt8) (j : Nat) (s1 : List Opn) : ∀ ps : List Opn, (∀ o ∈ ps, kf ts o.node j = []) → remS ts D j (ps ++ s1) = (ps.flatMap fun o => enS o.name) ++ remS ts D j s1
 | [], _ => rfl
 | o :: ps, h => by
   show (kf ts o.node j).flatMap D ++ (enS o.name ++ remS ts D j (ps ++ s1)) = _
   rw [h o (List.mem_cons_self ..), rem_pops ts D j s1 ps (fun x hx => h x (List.mem_cons_of_mem _ hx)), List.flatMap_cons, List.append_assoc]
   rfl
theorem rem_same {ts : List Nx} {D : Nat → List UInt8} {j : Nat} (hj : j < ts.length) (h0 : upAt ts j ≠ 0) : ∀ t : List Opn, (∀ x ∈ t, upAt ts j ≠ (x.node : Int)) → remS ts D j t = remS ts D (j + 1) t
 | [], _ => by unfold remS; rw [kf_step hj, if_neg (by exact_mod_cast h0)]
 | o :: t, h => by
   unfold remS
   rw [kf_step hj, if_neg (h o (List.mem_cons_self ..)), rem_same hj h0 t (fun x hx => h x (List.mem_cons_of_mem _ hx))]
theorem desc_lt {m : Nat} : ∀ {t : List Opn}, Desc m t → ∀ x ∈ t, x.node < m ∧ 0 < x.node
 | [], _, x, h => by cases h
 | o :: t, ⟨h1, h2, h3⟩, x, h => by
   rcases List.mem_cons.1 h with rfl | h
   ·exact ⟨h2, h1⟩
   ·have := desc_lt h3 x h
    exact ⟨by omega, this.2⟩
theorem rem_top {ts : List Nx} {D : Nat → List UInt8} {j m : Nat} {s1 : List Opn} (hj : j < ts.length) (hd : Desc m s1) (hu : upAt ts j = ((topO s1).node : Int)) : remS ts D j s1 = D j ++ remS ts D (j + 1) s1 := by
 cases s1 with
 | nil =>
   have hu' : upAt ts j = ((0 : Nat) : Int) := hu
   unfold remS
   rw [kf_step hj, if_pos hu', List.flatMap_cons]
 | cons o t =>
   have hu' : upAt ts j = (o.node : Int) := hu
   unfold remS
   rw [kf_step hj, if_pos hu', List.flatMap_cons, rem_same hj (by have := hd.1; omega) t (fun x hx => by have := (desc_lt hd.2.2 x hx).1; omega), List.append_assoc]
def tailS (n : Nx) : List UInt8 := if n.kind = 1 then (if voidK (kindL n.name) then [] else enS n.name) else []
theorem seq_rem {ts : List Nx} {D : Nat → List UInt8} (hD : ∀ k, 1 ≤ k → (hk : k < ts.length) → ts[k].kind = 1 ∨ ts[k].kind = 2 → D k = nodeS ts[k] ++ ((kf ts k (k + 1)).flatMap D ++ tailS ts[k])) :
 ∀ (m j : Nat) (p : Nx) (st : List Opn), ts.length - j ≤ m → 1 ≤ j → j ≤ ts.length → placesX (ts.drop j) j p st = true → Desc j st → seqS (ts.drop j) j st = remS ts D j st := by
 intro m
 induction m with
 | zero =>
   intro j p st hm h1 hj _ _
   obtain rfl : j = ts.length := by omega
   rw [List.drop_length, rem_end]
   rfl
 | succ m ih =>
   intro j p st hm h1 hj hpl hd
   by_cases hlt : j < ts.length
   ·have hdr : ts.drop j = ts[j] :: ts.drop (j + 1) := List.drop_eq_getElem_cons hlt
    rw [hdr] at hpl ⊢
    obtain ⟨s1, hct, hnx, hkind⟩ := places_next hpl
    obtain ⟨e1, e2⟩ := pop_close hct
    have hds : Desc j s1 := desc_suffix hd ⟨popL ts[j].up st, e1.symm⟩
    have hup : upAt ts j = ((topO s1).node : Int) := by
     unfold upAt
     rw [List.getD_eq_getElem?_getD, List.getElem?_eq_getElem hlt]
     exact e2
    have hgo : seqS (ts[j] :: ts.drop (j + 1)) j st = ((popL ts[j].up st).flatMap fun o => enS o.name) ++ (nodeS ts[j] ++ seqS (ts.drop (j + 1)) (j + 1) (pushL ts[j] j s1)) := by
     conv => lhs; unfold seqS
     rw [hct]
    rw [hgo, ih (j + 1) ts[j] (pushL ts[j] j s1) (by omega) (by omega) (by omega) hnx (push_desc (by omega) hds)]
    have hpops : ∀ o ∈ popL ts[j].up st, kf ts o.node j = [] := by
     intro o ho
     obtain ⟨d1, d2, d3, d4⟩ := desc_ne (by rw [← e1]; exact hd) o ho
     refine kf_none _ j (Nat.le_refl _) fun n hn => ?_
     rw [hdr] at hn
     rcases List.mem_cons.1 hn with rfl | hn
     ·rw [e2]
      omega
     ·refine no_more (by omega) _ _ _ _ hnx (by omega) (fun x hx => ?_) n hn
      rcases push_mem hx with e | hx
      ·omega
      ·have := d4 x hx
       omega
    conv => rhs; rw [e1]
    rw [rem_pops ts D j s1 _ hpops]
    congr 1
    rw [rem_top hlt hds hup, hD j h1 hlt (by rcases hkind with h | h; exact .inr h.1; exact .inl h.1), List.append_assoc]
    congr 1
    by_cases hpu : ts[j].kind = 1 ∧ voidK (kindL ts[j].name) = false
    ·have e : pushL ts[j] j s1 = ⟨j, ts[j].name, kindL ts[j].name⟩ :: s1 := by unfold pushL; rw [if_pos hpu]
     have et : tailS ts[j] = enS ts[j].name := by unfold tailS; rw [if_pos hpu.1, if_neg (by rw [hpu.2]; exact Bool.false_ne_true)]
     rw [e, et]
     show (kf ts j (j + 1)).flatMap D ++ (enS ts[j].name ++ remS ts D (j + 1) s1) = _
     rw [List.append_assoc]
    ·have e : pushL ts[j] j s1 = s1 := by unfold pushL; rw [if_neg hpu]
     have et : tailS ts[j] = [] := by
      unfold tailS
      by_cases k1 : ts[j].kind = 1
      ·rw [if_pos k1, if_pos (by
        cases hv : voidK (kindL ts[j].name) with
        | true => rfl
        | false => exact absurd ⟨k1, hv⟩ hpu)]
      ·rw [if_neg k1]
     rw [e] at hnx ⊢
     have hk0 : kf ts j (j + 1) = [] := kf_none _ (j + 1) (Nat.le_refl _) (no_more (by omega) _ _ _ _ hnx (Nat.lt_succ_self _) (fun x hx => by have := (desc_lt hds x hx).1; omega))
     rw [et, hk0]
     rfl
   ·obtain rfl : j = ts.length := by omega
    rw [List.drop_length, rem_end]
    rfl
/-- A parent stands ahead. -/
theorem ups_lt : ∀ (r : List Nx) (i : Nat) (p : Nx) (st : List Opn), placesX r i p st = true → Desc i st → 0 < i → ∀ k (hk : k < r.length), ∃ u : Nat, r[k].up = (u : Int) ∧ u < i + k
 | [], _, _, _, _, _, _, k, hk => by cases hk
 | n :: r, i, p, st, h, hd, hi, k, hk => by
   obtain ⟨s1, h1, h2, _⟩ := places_next h
   obtain ⟨e1, e2⟩ := pop_close h1
   have hds : Desc i s1 := desc_suffix hd ⟨popL n.up st, e1.symm⟩
   cases k with
   | zero => exact ⟨(topO s1).node, e2, by have := desc_top hds hi; omega⟩
   | succ k =>
     obtain ⟨u, hu, hlt⟩ := ups_lt r (i + 1) n (pushL n i s1) h2 (push_desc hi hds) (by omega) k (by simpa using hk)
     exact ⟨u, hu, by omega⟩
theorem kf_shift {ts : List Nx} (hU : ∀ i, 1 ≤ i → i < ts.length → ∃ u : Nat, upAt ts i = (u : Int) ∧ u < i) (u : Nat) : ∀ d, 1 + d ≤ u + 1 → kf ts u 1 = kf ts u (1 + d)
 | 0, _ => rfl
 | d + 1, h => by
   rw [kf_shift hU u d (by omega)]
   by_cases hl : 1 + d < ts.length
   ·obtain ⟨v, hv, hvl⟩ := hU (1 + d) (by omega) hl
    rw [kf_step hl, if_neg (by omega)]
    rfl
   ·unfold kf
    rw [show ts.length - (1 + d) = 0 by omega, show ts.length - (1 + (d + 1)) = 0 by omega]
    rfl
theorem ofUp_kf {ts : List Nx} (h : 0 < ts.length) (u : Nat) : ofUp ts ts.length u = (kf ts u 1).map fun (i : Nat) => (i : Int) := by
 unfold ofUp kf
 congr 1
 obtain ⟨m, hm⟩ : ∃ m, ts.length = m + 1 := ⟨ts.length - 1, by omega⟩
 rw [hm, List.range_eq_range', List.range'_succ, List.filter_cons]
 have e : (decide (1 ≤ 0) && ((ts.getD 0 ⟨0, [], [], [], 0, []⟩).up == (u : Int))) = false := rfl
 rw [e, if_neg Bool.false_ne_true]
 show List.filter _ (List.range' 1 m) = _
 rw [show m + 1 - 1 = m by omega]
 refine List.filter_congr fun i hi => ?_
 have := (List.mem_range'_1.1 hi).1
 rw [decide_eq_true this, Bool.true_and]
 rfl
theorem docS_fuel {ts : List Nx} (hK : ∀ i (hi : i < ts.length), ts[i].kids = (kf ts i (i + 1)).map fun (k : Nat) => (k : Int)) : ∀ (f g i : Nat), ts.length - i ≤ f → ts.length - i ≤ g → docS ts f i = docS ts g i
 | 0, 0, _, _, _ => rfl
 | 0, g + 1, i, h, _ => by
   unfold docS
   rw [List.getElem?_eq_none (by omega)]
 | f + 1, 0, i, _, h => by
   unfold docS
   rw [List.getElem?_eq_none (by omega)]
 | f + 1, g + 1, i, h1, h2 => by
   unfold docS
   by_cases hi : i < ts.length
   ·rw [List.getElem?_eq_getElem hi]
    simp only
    have e : (ts[i].kids.flatMap fun k => docS ts f k.toNat) = ts[i].kids.flatMap fun k => docS ts g k.toNat := by
     rw [hK i hi, List.flatMap_map, List.flatMap_map]
     refine flatMap_same fun k hk => ?_
     unfold kf at hk
     have hm := List.mem_range'_1.1 (List.mem_filter.1 hk).1
     rw [Int.toNat_natCast]
     exact docS_fuel hK f g k (by omega) (by omega)
    rw [e]
   ·rw [List.getElem?_eq_none (by omega)]
/-- A right tree's document is its pieces in the order of its nodes. -/
theorem doc_seq {d : Nx} {r : List Nx} (h : rightX (d :: r) = true) : docS (d :: r) (d :: r).length 0 = seqS r 1 [] ∧ placesX r 1 d [] = true ∧ (d :: r).length ≤ 16384 ∧ docX d = true := by
 unfold rightX at h
 simp only [Bool.and_eq_true, decide_eq_true_eq] at h
 obtain ⟨⟨⟨hlen, hdoc⟩, hpl⟩, hkx⟩ := h
 refine ⟨?_, hpl, hlen, hdoc⟩
 obtain ⟨ts, hts⟩ : ∃ ts, ts = d :: r := ⟨_, rfl⟩
 have hdr : ts.drop 1 = r := by rw [hts]; rfl
 rw [← hts] at hkx hlen ⊢
 have hpos : 0 < ts.length := by rw [hts]; simp
 have hU : ∀ i, 1 ≤ i → i < ts.length → ∃ u : Nat, upAt ts i = (u : Int) ∧ u < i := by
  intro i h1 hi
  have hi2 : i - 1 < r.length := by rw [hts] at hi; simp only [List.length_cons] at hi; omega
  obtain ⟨u, hu, hul⟩ := ups_lt r 1 d [] hpl trivial (by decide) (i - 1) hi2
  refine ⟨u, ?_, by omega⟩
  unfold upAt
  rw [List.getD_eq_getElem?_getD, hts]
  obtain ⟨k, rfl⟩ : ∃ k, i = k + 1 := ⟨i - 1, by omega⟩
  rw [List.getElem?_cons_succ, List.getElem?_eq_getElem (by simpa using hi2)]
  exact hu
 have hK : ∀ i (hi : i < ts.length), ts[i].kids = (kf ts i (i + 1)).map fun (k : Nat) => (k : Int) := by
  intro i hi
  unfold kidsX at hkx
  rw [List.all_eq_true] at hkx
  have := hkx i (List.mem_range.2 hi)
  rw [beq_iff_eq, List.getD_eq_getElem?_getD, List.getElem?_eq_getElem hi] at this
  have h2 : ts[i].kids = ofUp ts ts.length i := this
  rw [h2, ofUp_kf hpos, kf_shift hU i i (by omega), Nat.add_comm]
 have hD : ∀ k, 1 ≤ k → (hk : k < ts.length) → ts[k].kind = 1 ∨ ts[k].kind = 2 → docS ts ts.length k = nodeS ts[k] ++ ((kf ts k (k + 1)).flatMap (docS ts ts.length) ++ tailS ts[k]) := by
  intro k hk1 hk hkd
  obtain ⟨f, hf⟩ : ∃ f, ts.length = f + 1 := ⟨ts.length - 1, by omega⟩
  conv => lhs; rw [hf]; unfold docS
  rw [List.getElem?_eq_getElem hk]
  simp only
  have e : (ts[k].kids.flatMap fun x => docS ts f x.toNat) = (kf ts k (k + 1)).flatMap (docS ts ts.length) := by
   rw [hK k hk, List.flatMap_map]
   refine flatMap_same fun x hx => ?_
   unfold kf at hx
   have hm := List.mem_range'_1.1 (List.mem_filter.1 hx).1
   rw [Int.toNat_natCast]
   exact docS_fuel hK _ _ _ (by omega) (by omega)
  rw [e, List.append_assoc]
  congr 1
  unfold nodeS
  rcases hkd with h1 | h2
  ·rw [if_pos h1, if_neg (by omega)]
  ·rw [if_neg (by omega), if_pos h2, if_pos h2]
 have hmain := seq_rem hD _ 1 d [] (Nat.le_refl _) (Nat.le_refl _) (by omega) (by rw [hdr]; exact hpl) trivial
 rw [hdr] at hmain
 rw [hmain]
 show docS ts ts.length 0 = (kf ts 0 1).flatMap (docS ts ts.length)
 obtain ⟨f, hf⟩ : ∃ f, ts.length = f + 1 := ⟨ts.length - 1, by omega⟩
 conv => lhs; rw [hf]; unfold docS
 rw [List.getElem?_eq_getElem hpos]
 simp only
 have hk0 : ts[0].kind = 0 := by
  unfold docX at hdoc
  simp only [Bool.and_eq_true, beq_iff_eq] at hdoc
  have : ts[0] = d := by simp [hts]
  rw [this]
  exact hdoc.1.1.1.1
 rw [if_neg (by omega), if_neg (by omega), if_neg (by omega), List.nil_append, List.append_nil, hK 0 hpos, List.flatMap_map]
 refine flatMap_same fun x hx => ?_
 unfold kf at hx
 have hm := List.mem_range'_1.1 (List.mem_filter.1 hx).1
 rw [Int.toNat_natCast]
 exact docS_fuel hK _ _ _ (by omega) (by omega)
end Go.Proofs.YtlcijlklbabajaaGreatDoor
namespace Go.Proofs.YtlcijlklbabajaaGreatDoor
def nmK (w : List UInt8) : Bool := isLet (w.getD 0 0) && w.all alnB && (smL w == w) && !w.isEmpty
theorem kindTab_ok : ∀ p ∈ kindTab, nmK p.1 = true := by decide +kernel
theorem kind_name {w : List UInt8} (h : kindL w ≠ 0) : isLet (w.getD 0 0) = true ∧ (∀ x ∈ w, alnB x = true) ∧ smL w = w ∧ w ≠ [] := by
 unfold kindL at h
 cases hf : kindTab.find? fun p => p.1 == w with
 | none => rw [hf] at h; exact absurd rfl h
 | some p =>
   have h1 := List.mem_of_find?_eq_some hf
   have h2 := List.find?_some hf
   have h2 : p.1 = w := by simpa using h2
   have := kindTab_ok p h1
   rw [h2] at this
   unfold nmK at this
   simp only [Bool.and_eq_true, List.all_eq_true, beq_iff_eq, Bool.not_eq_true'] at this
   exact ⟨this.1.1.1, this.1.1.2, this.1.2, fun e => by rw [e] at this; exact absurd this.2 (by decide)⟩
theorem one_endS {w : List UInt8} (h : kindL w ≠ 0) (rest : List UInt8) : oneL (enS w ++ rest) = (0, ⟨2, w, [], false, []⟩, rest) ∧ leavesL (enS w ++ rest) = true := by
 obtain ⟨h0, h1, h2, h3⟩ := kind_name h
 have t2 := tag_gt 2 h1 rest
 rw [h2] at t2
 cases w with
 | nil => exact absurd rfl h3
 | cons c t =>
   have e : enS (c :: t) ++ rest = 60 :: 47 :: c :: (t ++ 62 :: rest) := by unfold enS; simp
   rw [e]
   refine ⟨one_end.trans (end_ok (l := c :: (t ++ 62 :: rest)) rfl h0 t2), ?_⟩
   unfold leavesL
   simp [atL]
theorem nmC_not {st : List UInt8} (hst : ∀ x ∈ st, nmC x = false) {c : UInt8} (h : nmC c = true) : st.contains c = false := by
 cases hc : st.contains c with
 | false => rfl
 | true =>
   rw [List.contains_iff_mem] at hc
   rw [hst c hc] at h
   cases h
theorem nmC_sm {c : UInt8} (h : nmC c = true) : smC c = c := by
 refine smC_no c ?_
 unfold nmC at h
 simp only [Bool.or_eq_true, Bool.and_eq_true, decide_eq_true_eq, beq_iff_eq] at h
 rcases h with ((h | h) | h) | h
 ·omega
 ·omega
 ·rw [h]; decide
 ·rw [h]; decide
theorem smL_nm {n : List UInt8} (h : ∀ x ∈ n, nmC x = true) : smL n = n := by
 unfold smL
 refine (List.map_congr_left fun x hx => nmC_sm (h x hx)).trans (List.map_id' n)
theorem madeL_nm {n : List UInt8} (h : ∀ x ∈ n, nmC x = true) : madeL (smL n) [45, 95] = true := by
 rw [smL_nm h]
 unfold madeL
 rw [List.all_eq_true]
 intro x hx
 have h1 := h x hx
 unfold nmC at h1
 unfold isLet isDig
 simp only [Bool.or_eq_true, Bool.and_eq_true, decide_eq_true_eq, beq_iff_eq] at h1 ⊢
 rcases h1 with ((h1 | h1) | h1) | h1
 ·exact .inl (.inl (.inl h1))
 ·exact .inl (.inr h1)
 ·exact .inr (by rw [h1]; decide)
 ·exact .inr (by rw [h1]; decide)
theorem attr_fwd {a : List UInt8 × List UInt8} (hn : nameX a.1 = true) (rest : List UInt8) : attrL (a.1 ++ (61 :: 34 :: (escL true a.2 ++ 34 :: rest))) = some (a, rest) := by
 unfold nameX at hn
 rw [Bool.and_eq_true, bne_iff_ne, List.all_eq_true] at hn
 obtain ⟨hne, hc⟩ := hn
 have hv : ∀ x ∈ escL true a.2, x ≠ 34 := fun c hm => by
  have := safe_mem (escL_safe true a.2) c hm
  rintro rfl
  exact this (by unfold badB; decide)
 obtain ⟨u1, u2⟩ := up_stop (st := [9, 10, 12, 32, 61, 47, 62]) (c := 61) (34 :: (escL true a.2 ++ 34 :: rest)) (by decide) a.1 (fun x hx => nmC_not (by decide) (hc x hx))
 obtain ⟨w1, w2⟩ := up_stop (st := [34]) (c := 34) rest (by decide) (escL true a.2) (fun x hx => by have := hv x hx; simp [this])
 unfold attrL
 rw [u1, u2, skB_no (by decide)]
 have hne2 : a.1.isEmpty = false := by
  cases ha : a.1 with
  | nil => exact absurd ha hne
  | cons _ _ => rfl
 rw [hne2, madeL_nm hc, pre_cons]
 simp only [Bool.false_or, Bool.not_true, Bool.false_eq_true, if_false, if_true, List.drop_succ_cons, List.drop_zero]
 rw [skB_no (by decide)]
 have hval : valueL (34 :: (escL true a.2 ++ 34 :: rest)) = some (escL true a.2, rest) := by
  unfold valueL
  rw [pre_cons, if_pos rfl, List.drop_succ_cons, List.drop_zero, w1, w2, pre_cons, if_pos rfl]
  rfl
 rw [hval]
 simp only
 rw [escL_inv, smL_nm hc]
theorem attrs_fwd (rest : List UInt8) : ∀ (l al : List (List UInt8 × List UInt8)) (n : Nat), attrsX (al ++ l) = true → al.length + l.length ≤ 16 → n + al.length = 17 → attrsF n (l.flatMap attrS ++ 62 :: rest) al = (0, al ++ l, false, rest)
 | [], al, n, _, _, hn => by
   obtain ⟨m, rfl⟩ : ∃ m, n = m + 1 := ⟨n - 1, by simp only [List.length_nil] at *; omega⟩
   rw [List.append_nil]
   show attrsF (m + 1) (62 :: rest) al = _
   rw [attrsF_gt (S := 62 :: rest) (skB_no (by decide)).symm (pre_cons _ _)]
   rfl
 | a :: l, al, n, hx, hl, hn => by
   obtain ⟨m, rfl⟩ : ∃ m, n = m + 1 := ⟨n - 1, by simp only [List.length_cons] at hl; omega⟩
   have hx2 := hx
   unfold attrsX at hx2
   rw [List.all_eq_true] at hx2
   have h3 := hx2 al.length (List.mem_range.2 (by rw [List.length_append, List.length_cons]; omega))
   have e : (al ++ a :: l).getD al.length ([], []) = a := by
    rw [List.getD_eq_getElem?_getD, List.getElem?_append_right (Nat.le_refl _), Nat.sub_self]
    rfl
   rw [e, List.take_left] at h3
   simp only [Bool.and_eq_true, Bool.not_eq_true'] at h3
   have hnm := h3.1.1
   have hnm2 := hnm
   unfold nameX at hnm2
   rw [Bool.and_eq_true, bne_iff_ne, List.all_eq_true] at hnm2
   obtain ⟨c, t, hct⟩ : ∃ c t, a.1 = c :: t := by
    cases ha : a.1 with
    | nil => exact absurd ha hnm2.1
    | cons c t => exact ⟨c, t, rfl⟩
   have hc := hnm2.2 c (by rw [hct]; exact List.mem_cons_self ..)
   have hat := attr_fwd hnm (l.flatMap attrS ++ 62 :: rest)
   have hform : (a :: l).flatMap attrS ++ 62 :: rest = 32 :: (a.1 ++ (61 :: 34 :: (escL true a.2 ++ 34 :: (l.flatMap attrS ++ 62 :: rest)))) := by
    rw [List.flatMap_cons]
    unfold attrS
    simp
   rw [hform]
   have hbl : blanksL.contains c = false := nmC_not (by decide) hc
   have h62 : c ≠ 62 := fun e => by rw [e] at hc; exact absurd hc (by decide)
   have h47 : c ≠ 47 := fun e => by rw [e] at hc; exact absurd hc (by decide)
   rw [hct, List.cons_append] at hat
   rw [hct, List.cons_append]
   rw [attrsF_more (n := m) (S := c :: (t ++ (61 :: 34 :: (escL true a.2 ++ 34 :: (l.flatMap attrS ++ 62 :: rest))))) (by rw [skB_yes (by decide), skB_no hbl]) (pre_ne _ _ h62) (pre_ne _ _ h47) (by
    show (false || ((c.toNat : Nat) == 47)) = false
    rw [Bool.false_or]
    exact beq_false_of_ne fun e => h47 (UInt8.toNat_inj.1 e)) hat h3.1.2]
   have := attrs_fwd rest l (al ++ [a]) m (by rw [List.append_assoc]; exact hx) (by rw [List.length_append]; simp only [List.length_cons, List.length_nil] at hl ⊢; omega) (by rw [List.length_append]; simp only [List.length_cons, List.length_nil]; omega)
   rw [List.append_assoc] at this
   exact this
theorem one_startS {n : Nx} (h : elemX n = true) (rest : List UInt8) : oneL (startS n ++ rest) = (0, ⟨1, n.name, n.attrs, false, []⟩, rest) ∧ leavesL (startS n ++ rest) = true := by
 unfold elemX at h
 simp only [Bool.and_eq_true, Bool.not_eq_true', Bool.or_eq_false_iff, decide_eq_false_iff_not, beq_eq_false_iff_ne] at h
 obtain ⟨⟨⟨hk, _⟩, hl⟩, hx⟩ := h
 obtain ⟨h0, h1, h2, h3⟩ := kind_name hk
 have hf := attrs_fwd rest n.attrs [] 17 hx (by simp only [List.length_nil]; omega) rfl
 have e : startS n ++ rest = 60 :: (n.name ++ (n.attrs.flatMap attrS ++ 62 :: rest)) := by unfold startS; simp
 rw [e]
 obtain ⟨s, S, hS, hst⟩ : ∃ s S, n.attrs.flatMap attrS ++ 62 :: rest = s :: S ∧ ([9, 10, 12, 32, 47, 62] : List UInt8).contains s = true := by
  cases ha : n.attrs with
  | nil => exact ⟨62, rest, rfl, by decide⟩
  | cons a l => exact ⟨32, _, by rw [List.flatMap_cons]; unfold attrS; rfl, by decide⟩
 obtain ⟨u1, u2⟩ := up_stop (st := [9, 10, 12, 32, 47, 62]) (c := s) S hst n.name (fun x hx => not_in (by decide) (h1 x hx))
 rw [← hS] at u1 u2
 have ht : tagL 1 (n.name ++ (n.attrs.flatMap attrS ++ 62 :: rest)) = (0, ⟨1, n.name, n.attrs, false, []⟩, rest) := by
  unfold tagL
  rw [u1, u2, hf, madeL_sm h1, h2]
  rfl
 obtain ⟨c, t, hct⟩ : ∃ c t, n.name = c :: t := by
  cases hn : n.name with
  | nil => exact absurd hn h3
  | cons c t => exact ⟨c, t, rfl⟩
 have hc : isLet c = true := by rw [hct] at h0; exact h0
 refine ⟨?_, ?_⟩
 ·rw [hct, List.cons_append] at ht ⊢
  exact (one_start hc).trans ht
 ·rw [hct, List.cons_append]
  unfold leavesL
  simp [hc, atL]
end Go.Proofs.YtlcijlklbabajaaGreatDoor
namespace Go.Proofs.YtlcijlklbabajaaGreatDoor
open R.Pg
theorem toks_ends (rest : List UInt8) {ts : List Tk} (hr : toksL rest = (0, 0, ts)) : ∀ ps : List Opn, OpnOk ps → toksL ((ps.flatMap fun o => enS o.name) ++ rest) = (0, 0, ps.map endT ++ ts)
 | [], _ => hr
 | o :: ps, h => by
   have hk := h o (List.mem_cons_self ..)
   rw [List.flatMap_cons, List.append_assoc, List.map_cons, List.cons_append]
   refine toks_step0 (by unfold enS; simp) (one_endS (by omega) _).1 (toks_ends rest hr ps (fun x hx => h x (List.mem_cons_of_mem _ hx)))
theorem leaves_ends {ps : List Opn} (hne : ps ≠ []) (h : OpnOk ps) (rest : List UInt8) : leavesL ((ps.flatMap fun o => enS o.name) ++ rest) = true := by
 cases ps with
 | nil => exact absurd rfl hne
 | cons o ps =>
   have hk := h o (List.mem_cons_self ..)
   rw [List.flatMap_cons, List.append_assoc]
   exact (one_endS (by omega) _).2
theorem push_ok {n : Nx} {i : Nat} {s1 : List Opn} (h : OpnOk s1) (he : n.kind = 1 → elemX n = true) : OpnOk (pushL n i s1) := by
 unfold pushL
 split
 ·rename_i hc
  intro o ho
  rcases List.mem_cons.1 ho with rfl | ho
  ·have hel := he hc.1
   unfold elemX at hel
   simp only [Bool.and_eq_true, Bool.not_eq_true', Bool.or_eq_false_iff, beq_eq_false_iff_ne] at hel
   have := void_iff _ (kindL_le n.name) hel.1.1.1 hc.2
   exact ⟨rfl, this.1, this.2⟩
  ·exact h o ho
 ·exact h
/-- What stands behind a text begins with a tag, or nothing does. -/
theorem leaves_seq {r : List Nx} {i : Nat} {p : Nx} {st : List Opn} (h : placesX r i p st = true) (hp : p.kind = 2) (hu : p.up = ((topO st).node : Int)) (hok : OpnOk st) : seqS r i st = [] ∨ leavesL (seqS r i st) = true := by
 cases r with
 | nil =>
   show (st.flatMap fun o => enS o.name) = [] ∨ leavesL (st.flatMap fun o => enS o.name) = true
   by_cases hs : st = []
   ·left; rw [hs]; rfl
   ·right
    have := leaves_ends hs hok []
    rwa [List.append_nil] at this
 | cons n r =>
   right
   obtain ⟨s1, h1, h2, h3⟩ := places_next h
   obtain ⟨e1, e2⟩ := pop_close h1
   have hgo : seqS (n :: r) i st = ((popL n.up st).flatMap fun o => enS o.name) ++ (nodeS n ++ seqS r (i + 1) (pushL n i s1)) := by
    conv => lhs; unfold seqS
    rw [h1]
   rw [hgo]
   by_cases hps : popL n.up st = []
   ·rw [hps]
    have hs : s1 = st := by rw [e1, hps]; rfl
    rcases h3 with ⟨_, _, hadj⟩ | ⟨k1, hel⟩
    ·exact absurd ⟨hp, by rw [hu, e2, hs]⟩ hadj
    ·show leavesL (nodeS n ++ _) = true
     unfold nodeS
     rw [if_neg (by omega)]
     exact (one_startS hel _).2
   ·exact leaves_ends hps (fun o ho => hok o (by rw [e1]; exact List.mem_append_left _ ho)) _
theorem toks_seq : ∀ (r : List Nx) (i : Nat) (p : Nx) (st : List Opn), placesX r i p st = true → OpnOk st → toksL (seqS r i st) = (0, 0, seqT r i st)
 | [], i, p, st, _, hok => by
   have := toks_ends [] (ts := []) toksL_nil st hok
   rw [List.append_nil, List.append_nil] at this
   exact this
 | n :: r, i, p, st, h, hok => by
   obtain ⟨s1, h1, h2, h3⟩ := places_next h
   obtain ⟨e1, e2⟩ := pop_close h1
   have hgo : seqS (n :: r) i st = ((popL n.up st).flatMap fun o => enS o.name) ++ (nodeS n ++ seqS r (i + 1) (pushL n i s1)) := by
    conv => lhs; unfold seqS
    rw [h1]
   have hgt : seqT (n :: r) i st = (popL n.up st).map endT ++ nodeT n :: seqT r (i + 1) (pushL n i s1) := by
    conv => lhs; unfold seqT
    rw [h1]
   rw [hgo, hgt]
   have hok1 : OpnOk (popL n.up st) := fun o ho => hok o (by rw [e1]; exact List.mem_append_left _ ho)
   have hok2 : OpnOk s1 := fun o ho => hok o (by rw [e1]; exact List.mem_append_right _ ho)
   have hokp : OpnOk (pushL n i s1) := push_ok hok2 (fun k1 => by
    rcases h3 with h3 | h3
    ·omega
    ·exact h3.2)
   have ih := toks_seq r (i + 1) n (pushL n i s1) h2 hokp
   refine toks_ends _ ?_ _ hok1
   rcases h3 with ⟨k2, ht, _⟩ | ⟨k1, hel⟩
   ·have hpu : pushL n i s1 = s1 := by unfold pushL; rw [if_neg (by omega)]
    have htx := ht
    unfold textX at htx
    simp only [Bool.and_eq_true, beq_iff_eq, bne_iff_ne] at htx
    have hlv := leaves_seq h2 k2 (by rw [hpu]; exact e2) hokp
    have hne : escL false n.data ≠ [] := fun e => htx.1.2 (by have := escL_inv false false n.data; rw [e] at this; exact this.symm)
    have h60 : ∀ c ∈ escL false n.data, c ≠ 60 := fun c hm => by
     have := safe_mem (escL_safe false n.data) c hm
     rintro rfl
     exact this (by unfold badB; decide)
    have hone := one_textR hne h60 _ hlv
    rw [escL_inv] at hone
    unfold nodeS nodeT
    rw [if_pos k2, if_pos k2]
    exact toks_step0 (by simp [hne]) hone ih
   ·unfold nodeS nodeT
    rw [if_neg (by omega), if_neg (by omega)]
    exact toks_step0 (by unfold startS; simp) (one_startS hel _).1 ih
/-- Texts that are decoded as they are. -/
def Pure (l : List UInt8) : Prop := dataX l = true ∧ ∀ c ∈ l, c ≠ 13
theorem Pure.app {a b : List UInt8} (ha : Pure a) (hb : Pure b) : Pure (a ++ b) := ⟨valid_app ha.1 hb.1, fun c hc => by rw [List.mem_append] at hc; rcases hc with h | h; exact ha.2 c h; exact hb.2 c h⟩
theorem pure_ascii {l : List UInt8} (h : ∀ c ∈ l, c.toNat < 128 ∧ c ≠ 0 ∧ c ≠ 13) : Pure l := ⟨by rw [dataX_eq, U.well_ascii l (fun c hc => (h c hc).1), nz_no (fun c hc => (h c hc).2.1)]; rfl, fun c hc => (h c hc).2.2⟩
theorem aln_pure {c : UInt8} (h : alnB c = true) : c.toNat < 128 ∧ c ≠ 0 ∧ c ≠ 13 := by
 refine ⟨?_, ?_, ?_⟩
 ·unfold alnB isLet isDig at h
  simp at h
  omega
 ·rintro rfl; revert h; decide
 ·rintro rfl; revert h; decide
theorem nmC_pure {c : UInt8} (h : nmC c = true) : c.toNat < 128 ∧ c ≠ 0 ∧ c ≠ 13 := by
 refine ⟨?_, ?_, ?_⟩
 ·unfold nmC at h
  simp only [Bool.or_eq_true, Bool.and_eq_true, decide_eq_true_eq, beq_iff_eq] at h
  rcases h with ((h | h) | h) | h
  ·omega
  ·omega
  ·rw [h]; decide
  ·rw [h]; decide
 ·rintro rfl; revert h; decide
 ·rintro rfl; revert h; decide
theorem pure_esc {v : Bool} {l : List UInt8} (h : dataX l = true) : Pure (escL v l) := by
 rw [dataX_eq, Bool.and_eq_true] at h
 refine ⟨?_, fun c hc => ?_⟩
 ·rw [dataX_eq, escL_well v _ l (Nat.le_refl _) h.1, nz_no (escL_nz (fun c hc e => by
   have := List.all_eq_true.1 (show (l.all fun c => c != 0) = true from h.2) c hc
   rw [e] at this
   exact absurd this (by decide)))]
  rfl
 ·have := safe_mem (escL_safe v l) c hc
  rintro rfl
  exact this (by unfold badB; left; decide)
theorem pure_end {w : List UInt8} (h : kindL w ≠ 0) : Pure (enS w) := by
 obtain ⟨_, h1, _, _⟩ := kind_name h
 refine pure_ascii fun c hc => ?_
 unfold enS at hc
 simp only [List.cons_append, List.mem_cons, List.mem_append, List.not_mem_nil, or_false] at hc
 rcases hc with rfl | rfl | hc | rfl
 ·decide
 ·decide
 ·exact aln_pure (h1 c hc)
 ·decide
theorem pure_start {n : Nx} (h : elemX n = true) : Pure (startS n) := by
 unfold elemX at h
 simp only [Bool.and_eq_true, Bool.not_eq_true', Bool.or_eq_false_iff, decide_eq_false_iff_not, beq_eq_false_iff_ne] at h
 obtain ⟨⟨⟨hk, _⟩, hl⟩, hx⟩ := h
 obtain ⟨_, h1, _, _⟩ := kind_name hk
 have hattr : ∀ a ∈ n.attrs, Pure (attrS a) := by
  intro a ha
  obtain ⟨i, hi, rfl⟩ := List.mem_iff_getElem.1 ha
  unfold attrsX at hx
  rw [List.all_eq_true] at hx
  have h3 := hx i (List.mem_range.2 hi)
  rw [List.getD_eq_getElem?_getD, List.getElem?_eq_getElem hi, Option.getD_some] at h3
  simp only [Bool.and_eq_true] at h3
  have hnm := h3.1.1
  unfold nameX at hnm
  rw [Bool.and_eq_true, List.all_eq_true] at hnm
  have e : attrS n.attrs[i] = [32] ++ (n.attrs[i].1 ++ ([61, 34] ++ (escL true n.attrs[i].2 ++ [34]))) := by unfold attrS; simp
  rw [e]
  refine (pure_ascii (by decide)).app ((pure_ascii fun c hc => nmC_pure (hnm.2 c hc)).app ((pure_ascii (by decide)).app ((pure_esc h3.2).app (pure_ascii (by decide)))))
 have hall : ∀ l : List (List UInt8 × List UInt8), (∀ a ∈ l, Pure (attrS a)) → Pure (l.flatMap attrS) := by
  intro l
  induction l with
  | nil => intro _; exact ⟨rfl, fun c hc => by cases hc⟩
  | cons a l ih =>
    intro hh
    rw [List.flatMap_cons]
    exact (hh a (List.mem_cons_self ..)).app (ih fun x hx => hh x (List.mem_cons_of_mem _ hx))
 have e : startS n = [60] ++ (n.name ++ (n.attrs.flatMap attrS ++ [62])) := by unfold startS; simp
 rw [e]
 exact (pure_ascii (by decide)).app ((pure_ascii fun c hc => aln_pure (h1 c hc)).app ((hall _ hattr).app (pure_ascii (by decide))))
theorem pure_ends : ∀ ps : List Opn, OpnOk ps → Pure (ps.flatMap fun o => enS o.name)
 | [], _ => ⟨rfl, fun c hc => by cases hc⟩
 | o :: ps, h => by
   have hk := h o (List.mem_cons_self ..)
   rw [List.flatMap_cons]
   exact (pure_end (by omega)).app (pure_ends ps fun x hx => h x (List.mem_cons_of_mem _ hx))
theorem pure_seq : ∀ (r : List Nx) (i : Nat) (p : Nx) (st : List Opn), placesX r i p st = true → OpnOk st → Pure (seqS r i st)
 | [], _, _, st, _, hok => pure_ends st hok
 | n :: r, i, p, st, h, hok => by
   obtain ⟨s1, h1, h2, h3⟩ := places_next h
   obtain ⟨e1, e2⟩ := pop_close h1
   have hgo : seqS (n :: r) i st = ((popL n.up st).flatMap fun o => enS o.name) ++ (nodeS n ++ seqS r (i + 1) (pushL n i s1)) := by
    conv => lhs; unfold seqS
    rw [h1]
   rw [hgo]
   have hokp : OpnOk (pushL n i s1) := push_ok (fun o ho => hok o (by rw [e1]; exact List.mem_append_right _ ho)) (fun k1 => by
    rcases h3 with h3 | h3
    ·omega
    ·exact h3.2)
   refine (pure_ends _ fun o ho => hok o (by rw [e1]; exact List.mem_append_left _ ho)).app (Pure.app ?_ (pure_seq r (i + 1) n _ h2 hokp))
   unfold nodeS
   rcases h3 with ⟨k2, ht, _⟩ | ⟨k1, hel⟩
   ·rw [if_pos k2]
    unfold textX at ht
    simp only [Bool.and_eq_true] at ht
    exact pure_esc ht.2
   ·rw [if_neg (by omega)]
    exact pure_start hel
/-- A right tree's document, if it is short enough, is parsed as the tree. -/
theorem parse_serial {ts : List Nx} {D : List UInt8} (h : serialX ts = (D, 0)) : ∃ ns : List Nd, parseL D = (0, 0, ns) ∧ ns.map toX = ts := by
 obtain ⟨hr, hD, hlen⟩ := serial_doc h
 cases ts with
 | nil => cases hr
 | cons d r =>
   obtain ⟨hdoc, hpl, hsz, hdx⟩ := doc_seq hr
   rw [hdoc] at hD
   have hpu := pure_seq r 1 d [] hpl (fun o ho => by cases ho)
   have htk := toks_seq r 1 d [] hpl (fun o ho => by cases ho)
   rw [← hD] at hpu htk
   have hdx2 := hdx
   unfold docX at hdx2
   simp only [Bool.and_eq_true, beq_iff_eq] at hdx2
   obtain ⟨b', hb1, hb2, hb3⟩ := seq_build r 1 d [] 0 Bd.new rinv_new rfl (fun o ho => by cases ho) rfl (by simp only [List.length_cons] at hsz; omega) (by
    show some ((0 : Nat), (-1 : Int)) = some (d.kind, d.up)
    rw [hdx2.1.1.1.1, hdx2.1.1.1.2]) hpl
   have hW := hpu.1
   rw [dataX_eq, Bool.and_eq_true] at hW
   refine ⟨b'.tree, ?_, ?_⟩
   ·unfold parseL
    rw [if_neg (by omega), U.dec_well hW.1 hpu.2, tokensL_ok hlen hW.2 htk, if_pos rfl]
    exact hb1
   ·have hl : b'.tree.length = (d :: r).length := by
     have := congrArg List.length hb3
     rw [List.length_map, List.length_append, List.length_map, List.length_map] at this
     have h1 : Bd.new.tree.length = 1 := rfl
     simp only [List.length_cons]
     omega
    have hst : b'.tree.map strip = (d :: r).map nk := by
     rw [hb3]
     show [strip ⟨0, [], [], [], -1, []⟩] ++ r.map nk = nk d :: r.map nk
     have : strip ⟨0, [], [], [], -1, []⟩ = nk d := by
      unfold nk strip
      obtain ⟨q1, q2, q3, q4, q5, q6⟩ := d
      simp only at hdx2 ⊢
      rw [hdx2.1.1.1.1, hdx2.1.1.1.2, hdx2.1.1.2, hdx2.2, List.eq_nil_of_length_eq_zero hdx2.1.2]
     rw [this]
     rfl
    have hkx : kidsX (d :: r) = true := by
     have hr2 := hr
     unfold rightX at hr2
     simp only [Bool.and_eq_true] at hr2
     exact hr2.2
    apply List.ext_getElem
    ·rw [List.length_map, hl]
    ·intro i h1 h2
     have hi : i < b'.tree.length := by rw [List.length_map] at h1; exact h1
     have hg : (b'.tree.map strip)[i]? = ((d :: r).map nk)[i]? := congrArg (fun l => l[i]?) hst
     rw [List.getElem?_map, List.getElem?_map, List.getElem?_eq_getElem hi, List.getElem?_eq_getElem h2] at hg
     injection hg with hg
     have hkb := hb2.kids i hi
     have hkt : (d :: r)[i].kids = ofUp (d :: r) (d :: r).length i := by
      unfold kidsX at hkx
      rw [List.all_eq_true] at hkx
      have := hkx i (List.mem_range.2 h2)
      rw [beq_iff_eq, List.getD_eq_getElem?_getD, List.getElem?_eq_getElem h2] at this
      exact this
     have hkk : (toX b'.tree[i]).kids = (d :: r)[i].kids := by
      rw [hkt]
      show (b'.tree[i].kids.map fun (k : Nat) => (k : Int)) = _
      rw [hkb, hl]
      unfold ofUp
      congr 1
      refine List.filter_congr fun j hj => ?_
      rw [List.mem_range] at hj
      congr 1
      have e2 : ((d :: r).getD j ⟨0, [], [], [], 0, []⟩).up = (ups b'.tree)[j]?.getD 0 := by
       have hg2 : (b'.tree.map strip)[j]? = ((d :: r).map nk)[j]? := congrArg (fun l => l[j]?) hst
       rw [List.getElem?_map, List.getElem?_map, List.getElem?_eq_getElem (by omega), List.getElem?_eq_getElem hj] at hg2
       injection hg2 with hg2
       have hu := congrArg Nx.up hg2
       unfold ups
       rw [List.getD_eq_getElem?_getD, List.getElem?_eq_getElem hj, List.getElem?_map, List.getElem?_eq_getElem (by omega)]
       exact hu.symm
      rw [e2]
     rw [List.getElem_map]
     generalize (d :: r)[i] = x at *
     generalize b'.tree[i] = y at *
     obtain ⟨q1, q2, q3, q4, q5, q6⟩ := x
     obtain ⟨y1, y2, y3, y4, y5, y6⟩ := y
     unfold strip nk at hg
     unfold toX at hkk ⊢
     simp only [Nx.mk.injEq] at hg hkk ⊢
     exact ⟨hg.1, hg.2.1, hg.2.2.1, hg.2.2.2.1, hg.2.2.2.2.1, hkk⟩
end Go.Proofs.YtlcijlklbabajaaGreatDoor
namespace Go.Proofs.YtlcijlklbabajaaGreatDoor.U
open Go.RowKit
theorem enc_not0 (r : Nat) (h : r ≠ 0) : ∀ b ∈ Lib.encodeRune (r : Int), b ≠ 0 := by
 intro b hb
 unfold Lib.encodeRune at hb
 rw [List.mem_map] at hb
 obtain ⟨x, hx, rfl⟩ := hb
 have hx2 : x ≠ 0 ∧ 0 ≤ x ∧ x < 256 := by
  have hbd := Lib.encodeRuneZ_byte (r : Int) x hx
  refine ⟨?_, hbd.1, hbd.2⟩
  unfold Lib.encodeRuneZ at hx
  (repeat' split at hx) <;> simp at hx <;> omega
 intro e
 have := u8_of x x.toNat (by omega) (by omega)
 rw [e] at this
 have h0 : (0 : UInt8).toNat = 0 := rfl
 omega
end Go.Proofs.YtlcijlklbabajaaGreatDoor.U
namespace Go.Proofs.YtlcijlklbabajaaGreatDoor
theorem enc_form (r : Int) : (∃ c : UInt8, Lib.encodeRune r = [c] ∧ c.toNat < 128) ∨ (0 < (Lib.encodeRune r).length ∧ ∀ b ∈ Lib.encodeRune r, 128 ≤ b.toNat) := by
 by_cases h : 0 ≤ r ∧ r < 128
 ·left
  refine ⟨r.toNat.toUInt8, ?_, ?_⟩
  ·unfold Lib.encodeRune
   rw [Lib.encodeRuneZ_one h.1 (by omega)]
   rfl
  ·show (UInt8.ofNat r.toNat).toNat < 128
   rw [UInt8.toNat_ofNat']
   omega
 ·right
  refine ⟨(enc_le r).1, fun b hb => ?_⟩
  unfold Lib.encodeRune at hb
  rw [List.mem_map] at hb
  obtain ⟨x, hx, rfl⟩ := hb
  have hbd := Lib.encodeRuneZ_byte r x hx
  have h128 : 128 ≤ x := by
   unfold Lib.encodeRuneZ at hx
   (repeat' split at hx) <;> simp at hx <;> omega
  show 128 ≤ (UInt8.ofNat x.toNat).toNat
  rw [UInt8.toNat_ofNat']
  omega
theorem enc_split : ∀ (rs : List Int) (a m : List UInt8), encL rs = a ++ m → (m = [] ∨ atL m 0 < 128) → ∃ r1 r2, a = encL r1 ∧ m = encL r2
 | rs, [], m, h, _ => ⟨[], rs, rfl, h.symm⟩
 | [], c :: a, m, h, _ => by cases h
 | r :: rs, c :: a, m, h, hm => by
   have hc : encL (r :: rs) = Lib.encodeRune r ++ encL rs := by unfold encL; rw [List.flatMap_cons]
   rw [hc] at h
   rcases enc_form r with ⟨d, hd, _⟩ | ⟨hl, hb⟩
   ·rw [hd] at h
    injection h with h1 h2
    obtain ⟨r1, r2, e1, e2⟩ := enc_split rs a m h2 hm
    refine ⟨r :: r1, r2, ?_, e2⟩
    rw [e1, ← h1]
    unfold encL
    rw [List.flatMap_cons, hd]
    rfl
   ·have hle : (Lib.encodeRune r).length ≤ (c :: a).length := by
     refine Classical.byContradiction fun hn => ?_
     rcases hm with rfl | hm
     ·have := congrArg List.length h
      rw [List.length_append, List.append_nil] at this
      omega
     ·have h1 : (Lib.encodeRune r ++ encL rs)[(c :: a).length]? = ((c :: a) ++ m)[(c :: a).length]? := congrArg (fun l => l[(c :: a).length]?) h
      rw [List.getElem?_append_left (by omega), List.getElem?_append_right (Nat.le_refl _), Nat.sub_self, List.getElem?_eq_getElem (by omega)] at h1
      have h2 := hb _ (List.getElem_mem (show (c :: a).length < (Lib.encodeRune r).length by omega))
      unfold atL at hm
      rw [← h1, Option.getD_some] at hm
      omega
    obtain ⟨a', ha'⟩ : ∃ a', c :: a = Lib.encodeRune r ++ a' := by
     refine ⟨(c :: a).drop (Lib.encodeRune r).length, ?_⟩
     have h1 : (Lib.encodeRune r ++ encL rs).take (Lib.encodeRune r).length = ((c :: a) ++ m).take (Lib.encodeRune r).length := congrArg (fun l => l.take (Lib.encodeRune r).length) h
     rw [List.take_left, List.take_append_of_le_length hle] at h1
     conv => lhs; rw [← List.take_append_drop (Lib.encodeRune r).length (c :: a), ← h1]
    rw [ha', List.append_assoc] at h
    have h2 := List.append_cancel_left h
    have hlt : a'.length < (c :: a).length := by rw [ha', List.length_append]; omega
    obtain ⟨r1, r2, e1, e2⟩ := enc_split rs a' m h2 hm
    refine ⟨r :: r1, r2, ?_, e2⟩
    rw [ha', e1]
    unfold encL
    rw [List.flatMap_cons]
theorem W_split {a m : List UInt8} (h : dataX (a ++ m) = true) (hm : m = [] ∨ atL m 0 < 128) : dataX a = true ∧ dataX m = true := by
 rw [dataX_eq, Bool.and_eq_true, nz_app, Bool.and_eq_true] at h
 have he := U.encL_runes (a ++ m).length (a ++ m) (Nat.le_refl _) h.1
 obtain ⟨r1, r2, e1, e2⟩ := enc_split _ a m he hm
 rw [dataX_eq, dataX_eq, Bool.and_eq_true, Bool.and_eq_true]
 exact ⟨⟨by rw [e1]; exact (U.runes_encL r1).2, h.2.1⟩, by rw [e2]; exact (U.runes_encL r2).2, h.2.2⟩
theorem W_tail {c : UInt8} {t : List UInt8} (h : dataX (c :: t) = true) (hc : c.toNat < 128) : dataX t = true := by
 rw [dataX_eq, Bool.and_eq_true] at h ⊢
 refine ⟨?_, ?_⟩
 ·have := h.1
  rw [U.wellL_cons _ (by simp)] at this
  have hcut : U.cutL (c :: t) = ⟨c.toNat, 1, true⟩ := by
   unfold U.cutL U.cutN
   rw [show U.atL (c :: t) 0 = c.toNat from rfl, if_pos hc]
  rw [hcut] at this
  simpa using this
 ·have := h.2
  rw [nz_cons, Bool.and_eq_true] at this
  exact this.2
theorem W_drop : ∀ (k : Nat) {l : List UInt8}, dataX l = true → (∀ b ∈ l.take k, b.toNat < 128) → dataX (l.drop k) = true
 | 0, _, h, _ => h
 | k + 1, [], h, _ => h
 | k + 1, c :: t, h, hb => by
   rw [List.drop_succ_cons]
   rw [List.take_succ_cons] at hb
   exact W_drop k (W_tail h (hb c (List.mem_cons_self ..))) (fun b m => hb b (List.mem_cons_of_mem _ m))
theorem W_nil : dataX [] = true := rfl
theorem W_cons {c : UInt8} {t : List UInt8} (h : dataX t = true) (hc : c.toNat < 128) (h0 : c ≠ 0) : dataX (c :: t) = true := by
 have h1 : dataX [c] = true := by
  rw [dataX_eq, U.well_ascii [c] (by simpa using hc), nz_cons, bne_iff_ne.2 h0]
  rfl
 exact valid_app h1 h
theorem W_enc {r : Nat} (hr : r ≠ 0) : dataX (Lib.encodeRune (r : Int)) = true := by
 rw [dataX_eq, Bool.and_eq_true]
 have := (U.runes_encL [(r : Int)]).2
 rw [show encL [(r : Int)] = Lib.encodeRune (r : Int) by simp [encL]] at this
 exact ⟨this, nz_no (U.enc_not0 r hr)⟩
theorem sumD_ascii {b : Nat} (hb : b ≤ 16) : ∀ (l : List UInt8) (n i : Nat), i < (sumD b l n).2 → atL l i < 128
 | [], _, i, h => by cases h
 | c :: l, n, i, h => by
   unfold sumD at h
   split at h
   ·rename_i hd
    cases i with
    | zero =>
      show c.toNat < 128
      unfold digV at hd
      (repeat' split at hd) <;> omega
    | succ i => exact sumD_ascii hb l (min (n * b + digV c.toNat) 1114112) i (by simp only at h; omega)
   ·cases h
theorem goes_low {c : Nat} (h : goesB c = true) : c < 128 := by
 unfold goesB at h
 rw [decide_eq_true_eq] at h
 omega
theorem nameF_good {l : List UInt8} {attr : Bool} (h0 : atL l 0 = 38) : ∀ {k : Nat} {p : Nat × Nat}, nameF l attr k = some p → p.1 ≠ 0 ∧ ∀ i, i < p.2 → atL l i < 128
 | 0, p, h => by cases h
 | k + 1, p, h => by
   unfold nameF at h
   split at h
   ·rename_i hlen
    split at h
    ·rename_i e hl
     obtain ⟨hm, he⟩ := lookT_some hl
     have hch : ∀ e ∈ nameTab, e.2.1 ≠ 0 := by decide +kernel
     have hbytes : ∀ i, i < k + 2 → atL l i < 128 := by
      intro i hi
      by_cases hz : i = 0
      ·rw [hz, h0]; decide
      ·have hb := (tab_facts e hm).2.2.2
       have hmem : (l.drop 1)[i - 1]'(by rw [List.length_drop]; omega) ∈ e.1 := by
        rw [he]
        refine List.mem_iff_getElem.2 ⟨i - 1, by rw [List.length_take, List.length_drop]; omega, ?_⟩
        rw [List.getElem_take]
       have := goes_low (hb _ hmem).1
       rw [List.getElem_drop] at this
       unfold atL
       rw [List.getElem?_eq_getElem (by omega), Option.getD_some]
       have e2 : 1 + (i - 1) = i := by omega
       simp only [e2] at this
       exact this
     split at h
     ·rename_i h59
      injection h with h
      rw [← h]
      refine ⟨hch e hm, fun i hi => ?_⟩
      by_cases hz : i = k + 2
      ·rw [hz, h59]; decide
      ·exact hbytes i (by simp only at hi; omega)
     ·split at h
      ·injection h with h
       rw [← h]
       exact ⟨hch e hm, fun i hi => hbytes i hi⟩
      ·exact nameF_good h0 h
    ·exact nameF_good h0 h
   ·exact nameF_good h0 h
theorem numC_ne (n : Nat) : numC n ≠ 0 := by
 unfold numC
 split
 ·decide
 ·split
  ·have := (repl_le (n - 128) (by omega)).1
   omega
  ·omega
theorem findL_good {l : List UInt8} {attr : Bool} {p : Nat × Nat} (h : findL l attr = some p) : p.1 ≠ 0 ∧ ∀ x ∈ l.take p.2, x.toNat < 128 := by
 have key : p.1 ≠ 0 ∧ ∀ i, i < p.2 → atL l i < 128 := by
  unfold findL at h
  split at h
  ·rename_i h0
   split at h
   ·rename_i h1
    unfold findNum at h
    split at h
    ·cases h
    ·injection h with h
     rw [← h]
     refine ⟨numC_ne _, fun i hi => ?_⟩
     have hs := sumD_ascii (b := baseOf l) (by unfold baseOf; split <;> omega) (l.drop (fromOf l)) 0
     simp only at hi
     by_cases i0 : i = 0
     ·rw [i0, h0]; decide
     by_cases i1 : i = 1
     ·rw [i1, h1]; decide
     by_cases i2 : i < fromOf l
     ·have h23 : i = 2 ∧ (atL l 2 = 120 ∨ atL l 2 = 88) := by
       unfold fromOf at i2
       split at i2
       ·rename_i hx; exact ⟨by omega, hx⟩
       ·omega
      rw [h23.1]
      omega
     by_cases i3 : i < fromOf l + (sumD (baseOf l) (l.drop (fromOf l)) 0).2
     ·have := hs (i - fromOf l) (by omega)
      rw [atL_drop, show fromOf l + (i - fromOf l) = i by omega] at this
      exact this
     ·split at hi
      ·rename_i h59
       have : i = fromOf l + (sumD (baseOf l) (l.drop (fromOf l)) 0).2 := by omega
       rw [this, h59]
       decide
      ·omega
   ·exact nameF_good h0 h
  ·cases h
 refine ⟨key.1, fun x hx => ?_⟩
 obtain ⟨i, hi, rfl⟩ := List.mem_iff_getElem.1 hx
 rw [List.length_take] at hi
 have := key.2 i (by omega)
 unfold atL at this
 rw [List.getElem?_eq_getElem (by omega), Option.getD_some] at this
 rw [List.getElem_take]
 exact this
theorem decL_good (attr : Bool) : ∀ (n : Nat) (l : List UInt8), l.length ≤ n → dataX l = true → dataX (decL l attr) = true
 | _, [], _, _ => rfl
 | 0, _ :: _, h, _ => by simp at h
 | n + 1, c :: t, h, hw => by
   have ht : t.length ≤ n := by simpa using h
   by_cases hc : c.toNat < 128
   ·cases hf : findL (c :: t) attr with
    | some p =>
      obtain ⟨h1, h2⟩ := findL_good hf
      have h3 := findL_le hf
      rw [decL_some hf]
      exact valid_app (W_enc h1) (decL_good attr n _ (by rw [List.length_drop]; simp only [List.length_cons] at h ⊢; omega) (W_drop _ hw h2))
    | none =>
      rw [decL_none hf]
      refine W_cons (decL_good attr n t ht (W_tail hw hc)) hc fun e => ?_
      rw [dataX_eq, Bool.and_eq_true, nz_cons, Bool.and_eq_true, bne_iff_ne] at hw
      exact hw.2.1 e
   ·have hw2 := hw
    rw [dataX_eq, Bool.and_eq_true, U.wellL_cons _ (by simp), Bool.and_eq_true] at hw2
    have h0 : 0 < (c :: t).length := Nat.succ_pos _
    obtain ⟨n1, n2, _⟩ := U.cut_facts (c :: t) h0
    have he := U.cut_enc (c :: t) h0 hw2.1.1
    generalize hk : (U.cutL (c :: t)).n = k at *
    have hall : ∀ b ∈ (c :: t).take k, 128 ≤ b.toNat := by
     rw [he]
     rcases enc_form (((U.cutL (c :: t)).r : Nat) : Int) with ⟨d, hd, hd2⟩ | ⟨_, hb⟩
     ·exfalso
      rw [hd] at he
      obtain ⟨j, rfl⟩ : ∃ j, k = j + 1 := ⟨k - 1, by omega⟩
      rw [List.take_succ_cons] at he
      injection he with he _
      rw [he] at hc
      exact hc hd2
     ·exact hb
    have hsp : decL (c :: t) attr = (c :: t).take k ++ decL ((c :: t).drop k) attr := by
     have := decL_skip attr ((c :: t).drop k) ((c :: t).take k) (fun b hb e => by have := hall b hb; omega)
     rwa [List.take_append_drop] at this
    have hnz := hw2.2
    rw [← List.take_append_drop k (c :: t), nz_app, Bool.and_eq_true] at hnz
    rw [hsp]
    refine valid_app ?_ (decL_good attr n _ (by rw [List.length_drop]; simp only [List.length_cons] at h ⊢; omega) (by rw [dataX_eq, Bool.and_eq_true]; exact ⟨hw2.1.2, hnz.2⟩))
    rw [dataX_eq, Bool.and_eq_true]
    refine ⟨?_, hnz.1⟩
    rw [he]
    have := (U.runes_encL [(((U.cutL (c :: t)).r : Nat) : Int)]).2
    rwa [show encL [(((U.cutL (c :: t)).r : Nat) : Int)] = Lib.encodeRune (((U.cutL (c :: t)).r : Nat) : Int) by simp [encL]] at this
end Go.Proofs.YtlcijlklbabajaaGreatDoor
namespace Go.Proofs.YtlcijlklbabajaaGreatDoor
def lowS (st : List UInt8) : Prop := ∀ x ∈ st, x.toNat < 128
theorem down_head (l st : List UInt8) : downL l st = [] ∨ ∃ c t, downL l st = c :: t ∧ st.contains c = true := by
 unfold downL
 induction l with
 | nil => exact .inl rfl
 | cons a l ih =>
   rw [List.dropWhile_cons]
   split
   ·exact ih
   ·rename_i h
    exact .inr ⟨a, l, rfl, by simpa using h⟩
theorem W_up {l st : List UInt8} (hs : lowS st) (h : dataX l = true) : dataX (upL l st) = true ∧ dataX (downL l st) = true := by
 rw [← up_down l st] at h
 refine W_split h ?_
 rcases down_head l st with e | ⟨c, t, e, hc⟩
 ·exact .inl e
 ·right
  rw [e]
  exact hs c (List.contains_iff_mem.1 hc)
theorem W_skB {l : List UInt8} (h : dataX l = true) : dataX (skB l) = true := by
 unfold skB Lib.trimLeftS
 induction l with
 | nil => exact h
 | cons c t ih =>
   rw [List.dropWhile_cons]
   split
   ·rename_i hc
    have hm : c ∈ blanksL := List.contains_iff_mem.1 hc
    have hl : ∀ x ∈ blanksL, x.toNat < 128 := by decide
    exact ih (W_tail h (hl c hm))
   ·exact h
theorem W_pre {l p : List UInt8} (hp : lowS p) (h : dataX l = true) (hh : Lib.hasPrefix l p = true) : dataX (l.drop p.length) = true := by
 unfold Lib.hasPrefix at hh
 have := List.prefix_iff_eq_take.1 (List.isPrefixOf_iff_prefix.1 hh)
 exact W_drop _ h (fun b hb => by rw [← this] at hb; exact hp b hb)
theorem W_cut {l p : List UInt8} (hp : lowS p) (hne : p ≠ []) (h : dataX l = true) (hc : (Lib.cut l p).2.2 = true) : dataX (Lib.cut l p).2.1 = true := by
 unfold Lib.cut at hc ⊢
 by_cases h0 : 0 ≤ Lib.index l p
 ·rw [if_pos h0]
  rcases Lib.index_spec l p with ⟨e, _⟩ | ⟨i, e, hi, ho, _⟩
  ·omega
  ·show dataX (l.drop ((Lib.index l p).toNat + p.length)) = true
   rw [e, Int.toNat_natCast]
   unfold Lib.occAt at ho
   have hpre := List.prefix_iff_eq_take.1 (List.isPrefixOf_iff_prefix.1 ho)
   rw [← List.take_append_drop i l] at h
   have hsp := (W_split h (by
    right
    obtain ⟨c, t, rfl⟩ : ∃ c t, p = c :: t := by
     cases p with
     | nil => exact absurd rfl hne
     | cons c t => exact ⟨c, t, rfl⟩
    have hl : 0 < (l.drop i).length := by
     have := congrArg List.length hpre
     rw [List.length_take] at this
     simp only [List.length_cons] at this
     omega
    obtain ⟨d, u, hd⟩ : ∃ d u, l.drop i = d :: u := by
     cases hh : l.drop i with
     | nil => rw [hh] at hl; cases hl
     | cons d u => exact ⟨d, u, rfl⟩
    rw [hd] at hpre ⊢
    rw [List.length_cons, List.take_succ_cons] at hpre
    injection hpre with h1 _
    show d.toNat < 128
    rw [← h1]
    exact hp c (List.mem_cons_self ..))).2
   rw [← List.drop_drop]
   exact W_drop _ hsp (fun b hb => by rw [← hpre] at hb; exact hp b hb)
 ·rw [if_neg h0] at hc
  cases hc
theorem value_good {l v r : List UInt8} (h : dataX l = true) (hv : valueL l = some (v, r)) : dataX v = true ∧ dataX r = true := by
 have l34 : lowS [34] := by unfold lowS; decide
 have l39 : lowS [39] := by unfold lowS; decide
 have l62 : lowS [9, 10, 12, 32, 62] := by unfold lowS; decide
 unfold valueL at hv
 split at hv
 ·rename_i hp
  have ht := W_pre l34 h hp
  split at hv
  ·rename_i hq
   injection hv with hv
   injection hv with e1 e2
   have hu := W_up l34 ht
   exact ⟨by rw [← e1]; exact hu.1, by rw [← e2]; exact W_pre l34 hu.2 hq⟩
  ·cases hv
 ·split at hv
  ·rename_i hp
   have ht := W_pre l39 h hp
   split at hv
   ·rename_i hq
    injection hv with hv
    injection hv with e1 e2
    have hu := W_up l39 ht
    exact ⟨by rw [← e1]; exact hu.1, by rw [← e2]; exact W_pre l39 hu.2 hq⟩
   ·cases hv
  ·split at hv
   ·cases hv
   ·injection hv with hv
    injection hv with e1 e2
    have hu := W_up l62 h
    exact ⟨by rw [← e1]; exact hu.1, by rw [← e2]; exact hu.2⟩
theorem name_good {n : List UInt8} (hne : n.isEmpty = false) (h : madeL (smL n) [45, 95] = true) : nameX (smL n) = true := by
 unfold nameX
 rw [Bool.and_eq_true, bne_iff_ne, List.all_eq_true]
 refine ⟨fun e => ?_, fun x hx => ?_⟩
 ·cases n with
  | nil => cases hne
  | cons _ _ => cases e
 ·unfold madeL at h
  rw [List.all_eq_true] at h
  have h1 := h x hx
  have h2 : ¬ (65 ≤ x.toNat ∧ x.toNat ≤ 90) := by
   unfold smL at hx
   rw [List.mem_map] at hx
   obtain ⟨y, _, rfl⟩ := hx
   by_cases hu : 65 ≤ y.toNat ∧ y.toNat ≤ 90
   ·have := smC_up y hu
    omega
   ·rw [smC_no y hu]
    exact hu
  have h3 : ([45, 95] : List UInt8).contains x = true → x = 45 ∨ x = 95 := by
   intro hc
   simpa using List.contains_iff_mem.1 hc
  unfold nmC
  unfold isLet isDig at h1
  simp only [Bool.or_eq_true, Bool.and_eq_true, decide_eq_true_eq, beq_iff_eq] at h1 ⊢
  rcases h1 with ((h1 | h1) | h1) | h1
  ·exact .inl (.inl (.inl h1))
  ·exact absurd h1 h2
  ·exact .inl (.inl (.inr h1))
  ·rcases h3 h1 with e | e
   ·exact .inl (.inr e)
   ·exact .inr e
theorem attr_good {l r : List UInt8} {a : List UInt8 × List UInt8} (h : dataX l = true) (ha : attrL l = some (a, r)) : nameX a.1 = true ∧ dataX a.2 = true ∧ dataX r = true := by
 have hs : lowS [9, 10, 12, 32, 61, 47, 62] := by unfold lowS; decide
 have h61 : lowS [61] := by unfold lowS; decide
 have hu := W_up hs h
 have hsk := W_skB hu.2
 unfold attrL at ha
 split at ha
 ·cases ha
 rename_i hn
 rw [Bool.or_eq_true, not_or] at hn
 have hnm := name_good (n := upL l [9, 10, 12, 32, 61, 47, 62]) (by simpa using hn.1) (by simpa using hn.2)
 split at ha
 ·rename_i hp
  have hd := W_skB (W_pre h61 hsk hp)
  split at ha
  ·cases ha
  ·rename_i v r' hv
   injection ha with ha
   injection ha with e1 e2
   have hg := value_good hd hv
   rw [← e1, ← e2]
   exact ⟨hnm, decL_good true _ v (Nat.le_refl _) hg.1, hg.2⟩
 ·injection ha with ha
  injection ha with e1 e2
  rw [← e1, ← e2]
  exact ⟨hnm, W_nil, hsk⟩
theorem attrsX_snoc {l : List (List UInt8 × List UInt8)} {a : List UInt8 × List UInt8} (h : attrsX l = true) (hn : nameX a.1 = true) (hd : dataX a.2 = true) (hu : l.any (fun b => b.1 == a.1) = false) : attrsX (l ++ [a]) = true := by
 unfold attrsX at h ⊢
 rw [List.length_append, List.length_singleton, List.range_succ, List.all_append, Bool.and_eq_true]
 refine ⟨?_, ?_⟩
 ·rw [List.all_eq_true] at h ⊢
  intro i hi
  have := h i hi
  rw [List.mem_range] at hi
  have e : (l ++ [a]).getD i ([], []) = l.getD i ([], []) := by
   rw [List.getD_eq_getElem?_getD, List.getD_eq_getElem?_getD, List.getElem?_append_left hi]
  rw [e, List.take_append_of_le_length (by omega)]
  exact this
 ·simp only [List.all_cons, List.all_nil, Bool.and_true]
  have e : (l ++ [a]).getD l.length ([], []) = a := by
   rw [List.getD_eq_getElem?_getD, List.getElem?_append_right (Nat.le_refl _), Nat.sub_self]
   rfl
  rw [e, List.take_left, hn, hd, hu]
  rfl
theorem attrs_good : ∀ (n : Nat) {l : List UInt8} {al al' : List (List UInt8 × List UInt8)} {sf : Bool} {r : List UInt8}, dataX l = true → attrsX al = true → attrsF n l al = (0, al', sf, r) → attrsX al' = true ∧ dataX r = true
 | 0, _, _, _, _, _, _, _, h => by cases h
 | n + 1, l, al, al', sf, r, hw, ha, h => by
   have h62 : lowS [62] := by unfold lowS; decide
   have h47 : lowS [47, 62] := by unfold lowS; decide
   have hsk := W_skB hw
   unfold attrsF at h
   split at h
   ·rename_i hp
    injection h with _ h
    injection h with e1 h
    injection h with _ e2
    rw [← e1, ← e2]
    exact ⟨ha, W_pre h62 hsk hp⟩
   ·split at h
    ·rename_i hp
     injection h with _ h
     injection h with e1 h
     injection h with _ e2
     rw [← e1, ← e2]
     exact ⟨ha, W_pre h47 hsk hp⟩
    ·split at h
     ·injection h with h; cases h
     ·split at h
      ·injection h with h; cases h
      ·rename_i a r' hat
       obtain ⟨g1, g2, g3⟩ := attr_good hsk hat
       split at h
       ·injection h with h; cases h
       ·rename_i hu
        exact attrs_good n g3 (attrsX_snoc ha g1 g2 (by rw [Bool.eq_false_iff]; exact hu)) h
theorem tag_good {k : Nat} {l r : List UInt8} {t : Tk} (hw : dataX l = true) (h : tagL k l = (0, t, r)) : attrsX t.attrs = true ∧ dataX r = true ∧ t.kind = k := by
 have hs : lowS [9, 10, 12, 32, 47, 62] := by unfold lowS; decide
 unfold tagL at h
 split at h
 ·injection h with h; cases h
 ·split at h
  ·rename_i al sf r' ha
   injection h with _ h
   injection h with e1 e2
   have hg := attrs_good 17 (W_up hs hw).2 rfl ha
   rw [← e1, ← e2]
   exact ⟨hg.1, hg.2, rfl⟩
  ·injection h with h; cases h
theorem W_at {l : List UInt8} (h : dataX l = true) (k : Nat) (hb : ∀ i, i < k → atL l i < 128) : dataX (l.drop k) = true := by
 refine W_drop k h fun b hm => ?_
 obtain ⟨i, hi, rfl⟩ := List.mem_iff_getElem.1 hm
 rw [List.length_take] at hi
 have := hb i (by omega)
 unfold atL at this
 rw [List.getElem?_eq_getElem (by omega), Option.getD_some] at this
 rw [List.getElem_take]
 exact this
theorem textN_at : ∀ (m : List UInt8), textN m < m.length → leavesL (m.drop (textN m)) = true
 | [], h => by cases h
 | c :: t, h => by
   unfold textN at h ⊢
   split
   ·rename_i hl
    exact hl
   ·rename_i hl
    rw [if_neg hl] at h
    rw [List.drop_succ_cons]
    exact textN_at t (by simpa using h)
theorem end_good {l r : List UInt8} {t : Tk} (hw : dataX l = true) (h : endL l = (0, t, r)) : dataX r = true ∧ t.kind = 2 := by
 unfold endL at h
 split at h
 ·injection h with h; cases h
 ·split at h
  ·injection h with h; cases h
  ·have hg := tag_good hw h
   exact ⟨hg.2.1, hg.2.2⟩
theorem com_good {l r : List UInt8} {t : Tk} (hw : dataX l = true) (h : comL l = (0, t, r)) : dataX r = true ∧ t.kind = 4 := by
 unfold comL at h
 split at h
 ·injection h with h; cases h
 ·rename_i hc
  rw [Bool.or_eq_true, not_or] at hc
  injection h with _ h
  injection h with e1 e2
  rw [← e1, ← e2]
  exact ⟨W_cut (by unfold lowS; decide) (by decide) hw (by simpa using hc.1), rfl⟩
theorem doc_good {l r : List UInt8} {t : Tk} (hw : dataX l = true) (h : docL l = (0, t, r)) : dataX r = true ∧ t.kind = 5 := by
 unfold docL at h
 split at h
 ·rename_i hc
  injection h with _ h
  injection h with e1 e2
  rw [← e1, ← e2]
  exact ⟨W_cut (by unfold lowS; decide) (by decide) hw hc, rfl⟩
 ·injection h with h; cases h
theorem smC_low {c : UInt8} (h : (smC c).toNat < 128) : c.toNat < 128 := by
 by_cases hu : 65 ≤ c.toNat ∧ c.toNat ≤ 90
 ·omega
 ·rw [smC_no c hu] at h
  exact h
theorem one_good {l r : List UInt8} {t : Tk} (hw : dataX l = true) (h : oneL l = (0, t, r)) : (t.kind = 3 → dataX t.data = true) ∧ (t.kind = 1 → attrsX t.attrs = true) ∧ dataX r = true := by
 unfold oneL at h
 split at h
 ·injection h with _ h
  injection h with e1 e2
  have hsp : dataX (l.take (textN (l.drop 1) + 1)) = true ∧ dataX (l.drop (textN (l.drop 1) + 1)) = true := by
   refine W_split (by rw [List.take_append_drop]; exact hw) ?_
   by_cases hlt : textN (l.drop 1) < (l.drop 1).length
   ·right
    have := (leaves_facts (textN_at _ hlt)).2
    rw [List.drop_drop, Nat.add_comm] at this
    rw [this]
    decide
   ·left
    rw [List.length_drop] at hlt
    exact List.drop_eq_nil_of_le (by omega)
  rw [← e1, ← e2]
  exact ⟨fun _ => decL_good false _ _ (Nat.le_refl _) hsp.1, (fun e => by cases e), hsp.2⟩
 ·rename_i hlv
  have hlv : leavesL l = true := by simpa using hlv
  have h60 := (leaves_facts hlv).2
  split at h
  ·have hg := tag_good (W_at hw 1 (fun i hi => by rw [show i = 0 by omega, h60]; decide)) h
   exact ⟨fun e => by omega, fun _ => hg.1, hg.2.1⟩
  ·split at h
   ·rename_i h47
    have h47 : atL l 1 = 47 := eq_of_beq h47
    have hg := end_good (W_at hw 2 (fun i hi => by
     rcases (by omega : i = 0 ∨ i = 1) with rfl | rfl
     ·rw [h60]; decide
     ·rw [h47]; decide)) h
    exact ⟨fun e => by omega, fun e => by omega, hg.1⟩
   ·split at h
    ·rename_i hp
     have hg := com_good (W_pre (p := [60, 33, 45, 45]) (by unfold lowS; decide) hw hp) h
     exact ⟨fun e => by omega, fun e => by omega, hg.1⟩
    ·split at h
     ·rename_i hd
      unfold docO at hd
      rw [Bool.and_eq_true, decide_eq_true_eq, beq_iff_eq] at hd
      have hg := doc_good (W_drop 9 hw (fun b hb => by
       have hm : smC b ∈ smL (l.take 9) := List.mem_map.2 ⟨b, hb, rfl⟩
       rw [hd.2] at hm
       have hall : ∀ x ∈ ([60, 33, 100, 111, 99, 116, 121, 112, 101] : List UInt8), x.toNat < 128 := by decide
       exact smC_low (hall _ hm))) h
      exact ⟨fun e => by omega, fun e => by omega, hg.1⟩
     ·injection h with h; cases h
theorem toks_good : ∀ (n : Nat) (l : List UInt8), l.length ≤ n → dataX l = true → ∀ t ∈ (toksL l).2.2, (t.kind = 3 → dataX t.data = true) ∧ (t.kind = 1 → attrsX t.attrs = true)
 | n, l, hn, hw, t, ht => by
   by_cases hl : l = []
   ·subst hl
    cases ht
   ·rw [toksL_step l hl] at ht
    by_cases h1 : (oneL l).1 = 0
    ·rw [if_pos h1] at ht
     by_cases h2 : (toksL (oneL l).2.2).1 = 0
     ·rw [if_pos h2] at ht
      have e : oneL l = (0, (oneL l).2.1, (oneL l).2.2) := by
       conv => lhs; rw [← Prod.eta (oneL l), h1]
      obtain ⟨g1, g2, g3⟩ := one_good hw e
      rcases List.mem_cons.1 ht with rfl | ht
      ·exact ⟨g1, g2⟩
      ·have hlt : (oneL l).2.2.length < l.length := by
        rcases oneL_cases l hl with h | h | h | h | h
        ·exact h.2
        all_goals omega
       cases n with
       | zero => omega
       | succ n => exact toks_good n _ (by omega) g3 t ht
     ·rw [if_neg h2] at ht
      cases ht
    ·rw [if_neg h1] at ht
     cases ht
/-- What is parsed is right. -/
theorem parse_right {bs : List UInt8} {ns : List Nd} (h : parseL bs = (0, 0, ns)) : rightX (ns.map toX) = true := by
 unfold parseL at h
 split at h
 ·injection h with h; cases h
 have hwl := (U.decT_runes bs).2
 generalize U.decT bs = y at *
 split at h
 ·rename_i ht
  have hr := tokensL_right y
  refine build_right (ts := (tokensL y).2.2) (fun t htm => ?_) h
  have hy : (tokensL y).2.2 = (toksL y).2.2 ∧ nz y = true := by
   unfold tokensL at ht ⊢
   by_cases g1 : 65536 < y.length
   ·rw [if_pos g1] at ht; cases ht
   rw [if_neg g1] at ht ⊢
   by_cases g2 : 0 ≤ Lib.indexByte y 0
   ·rw [if_pos g2] at ht; cases ht
   rw [if_neg g2] at ht ⊢
   by_cases g3 : (toksL y).1 = 0
   ·rw [if_pos g3]
    exact ⟨rfl, nz_of g2⟩
   ·rw [if_neg g3] at ht
    exact absurd ht g3
  have hg := toks_good _ y (Nat.le_refl _) (by rw [dataX_eq, hwl, hy.2]; rfl) t (by rw [← hy.1]; exact htm)
  exact ⟨hg.1, fun hk => ⟨hg.2 hk, (hr.each t htm).few⟩⟩
 ·rename_i ht
  injection h with h
  exact absurd h ht
end Go.Proofs.YtlcijlklbabajaaGreatDoor
