/-
  A document within a div, plain: the tree is the same below the div, if it is not too deep. No Go in sight; no condition.
-/
import Derived.Test.YtcbfbbobcmdbaaaGreatDoorLpDocs
import Derived.Test.YtcbfbbobcmdbaaaGreatDoorBParse
namespace Go.Proofs.YtcbfbbobcmdbaaaGreatDoor
def sh (n : Nd) : Nd := { n with up := n.up + 1, kids := n.kids.map (· + 1) }
def upO (o : Opn) : Opn := { o with node := o.node + 1 }
def divN : List UInt8 := [100, 105, 118]
def dvO : Opn := ⟨1, divN, 1⟩
def docW : Nd := ⟨0, [], [], [], -1, [1]⟩
def dvN (d : Nd) : Nd := { sh d with kind := 1, name := divN }
def wrapT : List Nd → List Nd
  | [] => []
  | d :: r => docW :: dvN d :: r.map sh
def wrapO (st : List Opn) : List Opn := st.map upO ++ [dvO]
def wrapB (b : Bd) : Bd := ⟨wrapT b.tree, wrapO b.opn⟩
theorem wrapT_len {t : List Nd} (h : 0 < t.length) : (wrapT t).length = t.length + 1 := by
  cases t with
  | nil => cases h
  | cons d r => simp [wrapT]
theorem wrapT_snoc {t : List Nd} (h : 0 < t.length) (x : Nd) : wrapT (t ++ [x]) = wrapT t ++ [sh x] := by
  cases t with
  | nil => cases h
  | cons d r => simp [wrapT]
theorem topW_node (st : List Opn) : (topO (wrapO st)).node = (topO st).node + 1 := by cases st <;> rfl
theorem topW_kind (st : List Opn) (k : Nat) (h0 : k ≠ 0) (h1 : k ≠ 1) : ((topO (wrapO st)).kind == k) = ((topO st).kind == k) := by
  cases st with
  | nil =>
    show ((1 : Nat) == k) = ((0 : Nat) == k)
    rw [beq_false_of_ne (Ne.symm h1), beq_false_of_ne (Ne.symm h0)]
  | cons o t => rfl
theorem hasW (k : Nat) (w : Bool) (h1 : k ≠ 1) : ∀ st : List Opn, hasO k w (wrapO st) = hasO k w st
  | [] => by
    show hasO k w [dvO] = false
    unfold hasO
    rw [if_neg (show ¬ dvO.kind = k from fun e => h1 e.symm)]
    cases w <;> rfl
  | o :: t => by
    show hasO k w (upO o :: wrapO t) = _
    unfold hasO
    rw [hasW k w h1 t]
    rfl
theorem closeW (k : Nat) (st : List Opn) : closeS k (wrapO st) = wrapO (closeS k st) := by
  have tl : ∀ st : List Opn, ∀ j, (topO st).kind = j → j ≠ 0 → (wrapO st).tail = wrapO st.tail := fun st j h h0 => by
    cases st with
    | nil => exact absurd h.symm h0
    | cons o t => rfl
  unfold closeS
  simp only
  rw [topW_kind st 2 (by decide) (by decide)]
  by_cases h : (endsP k && (topO st).kind == 2) = true
  · rw [if_pos h, if_pos h]
    have h2 : (topO st).kind = 2 := by simpa using (Bool.and_eq_true_iff.1 h).2
    rw [tl st 2 h2 (by decide), topW_kind st.tail 3 (by decide) (by decide)]
    by_cases g : (k == 3 && (topO st.tail).kind == 3) = true
    · rw [if_pos g, if_pos g]
      exact tl st.tail 3 (by simpa using (Bool.and_eq_true_iff.1 g).2) (by decide)
    · rw [if_neg g, if_neg g]
  · rw [if_neg h, if_neg h, topW_kind st 3 (by decide) (by decide)]
    by_cases g : (k == 3 && (topO st).kind == 3) = true
    · rw [if_pos g, if_pos g]
      exact tl st 3 (by simpa using (Bool.and_eq_true_iff.1 g).2) (by decide)
    · rw [if_neg g, if_neg g]
theorem admitW (k : Nat) (st : List Opn) : admitsO k (wrapO st) = admitsO k st := by
  unfold admitsO
  rw [hasW 2 false (by decide), hasW 3 true (by decide), hasW 6 false (by decide), topW_kind st 4 (by decide) (by decide)]
theorem dropW (k : Nat) : ∀ st : List Opn, (wrapO st).dropWhile (fun o => endsToo k o.kind) = wrapO (st.dropWhile fun o => endsToo k o.kind)
  | [] => by
    show List.dropWhile _ [dvO] = [dvO]
    rw [List.dropWhile_cons]
    have : endsToo k dvO.kind = false := by
      show endsToo k 1 = false
      unfold endsToo
      split
      · rfl
      · split <;> rfl
    rw [this]
    rfl
  | o :: t => by
    show List.dropWhile _ (upO o :: wrapO t) = _
    rw [List.dropWhile_cons, List.dropWhile_cons]
    show (if endsToo k o.kind = true then _ else _) = _
    split
    · exact dropW k t
    · rfl
theorem closeEW {nm : List UInt8} {st st' : List Opn} (hk : kindL nm ≠ 0) (h : closeE nm st = some st') : closeE nm (wrapO st) = some (wrapO st') := by
  unfold closeE at h ⊢
  simp only at h ⊢
  rw [dropW]
  generalize (st.dropWhile fun o => endsToo (kindL nm) o.kind) = s1 at *
  cases s1 with
  | nil =>
    exfalso
    split at h
    · rename_i h2
      have : nm = [] := (eq_of_beq h2).symm
      exact hk (by rw [this]; exact kindL_nil)
    · cases h
  | cons o t =>
    split at h
    · rename_i h2
      rw [if_pos (show ((topO (wrapO (o :: t))).name == nm) = true from h2)]
      injection h with h
      rw [← h]
      rfl
    · cases h
theorem modify_map (f g : Nd → Nd) (hfg : ∀ n, sh (f n) = g (sh n)) : ∀ (r : List Nd) (j : Nat), (r.modify j f).map sh = (r.map sh).modify j g
  | [], j => by cases j <;> rfl
  | a :: r, 0 => by simp [List.modify, List.modifyHead, hfg]
  | a :: r, j + 1 => by
    have := modify_map f g hfg r j
    simp only [List.modify_succ_cons, List.map_cons]
    rw [this]
theorem addKidW {t : List Nd} (h : 0 < t.length) (u k : Nat) : addKid (wrapT t) (u + 1) (k + 1) = wrapT (addKid t u k) := by
  unfold addKid
  cases t with
  | nil => cases h
  | cons d r =>
    cases u with
    | zero => simp [wrapT, List.modify, List.modifyHead, dvN, sh]
    | succ j =>
      simp only [wrapT, List.modify_succ_cons]
      rw [← modify_map (fun n => { n with kids := n.kids ++ [k] }) (fun n => { n with kids := n.kids ++ [k + 1] }) (fun n => by simp [sh])]
theorem addKid_len (t : List Nd) (u k : Nat) : (addKid t u k).length = t.length := by unfold addKid; rw [List.length_modify]
theorem addNW {b b' : Bd} {n : Nd} (ht : 0 < b.tree.length) (hb : b.tree.length ≤ 15000) (hk : n.kids = []) (h : addN b n = some b') : addN (wrapB b) n = some (wrapB b') := by
  unfold addN at h ⊢
  rw [if_neg (by omega)] at h
  rw [if_neg (show ¬ 16384 ≤ (wrapB b).tree.length by show ¬ 16384 ≤ (wrapT b.tree).length; rw [wrapT_len ht]; omega)]
  injection h with h
  rw [← h]
  show some (⟨addKid (wrapT b.tree) (topO (wrapO b.opn)).node (wrapT b.tree).length ++ [_], wrapO b.opn⟩ : Bd) = some ⟨wrapT _, wrapO b.opn⟩
  rw [topW_node, wrapT_len ht, addKidW ht, wrapT_snoc (by rw [addKid_len]; exact ht)]
  congr 3
  simp [sh, hk]
  show (((topO (wrapO b.opn)).node : Nat) : Int) = _
  rw [topW_node]
  rfl
theorem textBW {b b' : Bd} {d : List UInt8} (ht : 0 < b.tree.length) (h0 : (b.tree.headD docW).kind = 0) (hb : b.tree.length ≤ 15000) (h : textB b d = (0, b')) : textB (wrapB b) d = (0, wrapB b') := by
  unfold textB at h ⊢
  by_cases hd : d = []
  · rw [if_pos hd] at h ⊢
    injection h with _ h
    rw [h]
  rw [if_neg hd] at h ⊢
  obtain ⟨D, r, hD⟩ : ∃ D r, b.tree = D :: r := by
    cases hh : b.tree with
    | nil => rw [hh] at ht; cases ht
    | cons D r => exact ⟨D, r, rfl⟩
  have hlast : (((wrapB b).tree.getLastD ⟨0, [], [], [], -1, []⟩).kind == 2 && ((wrapB b).tree.getLastD ⟨0, [], [], [], -1, []⟩).up == ((topO (wrapB b).opn).node : Int)) = ((b.tree.getLastD ⟨0, [], [], [], -1, []⟩).kind == 2 && (b.tree.getLastD ⟨0, [], [], [], -1, []⟩).up == ((topO b.opn).node : Int)) ∧ ((b.tree.getLastD ⟨0, [], [], [], -1, []⟩).kind = 2 → r ≠ []) := by
    show (((wrapT b.tree).getLastD ⟨0, [], [], [], -1, []⟩).kind == 2 && ((wrapT b.tree).getLastD ⟨0, [], [], [], -1, []⟩).up == ((topO (wrapO b.opn)).node : Int)) = _ ∧ _
    rw [topW_node, hD]
    rw [hD] at h0
    cases r with
    | nil =>
      refine ⟨?_, fun h2 => ?_⟩
      · show ((1 : Nat) == 2 && _) = (D.kind == 2 && _)
        rw [show D.kind = 0 from h0]
        rfl
      · exact absurd (h0.symm.trans h2) (by decide)
    | cons a r =>
      refine ⟨?_, fun _ => by simp⟩
      have e : (wrapT (D :: a :: r)).getLastD ⟨0, [], [], [], -1, []⟩ = sh ((D :: a :: r).getLastD ⟨0, [], [], [], -1, []⟩) := by
        simp only [wrapT, List.getLastD_eq_getLast?, List.map_cons, List.getLast?_cons_cons]
        rw [← List.map_cons, List.getLast?_map]
        cases hh : (a :: r).getLast? with
        | none => simp at hh
        | some x => rfl
      rw [e]
      generalize (D :: a :: r).getLastD ⟨0, [], [], [], -1, []⟩ = x
      show (x.kind == 2 && (x.up + 1) == (((topO b.opn).node + 1 : Nat) : Int)) = _
      congr 1
      rw [Bool.eq_iff_iff, beq_iff_eq, beq_iff_eq]
      omega
  rw [hlast.1]
  by_cases hc : ((b.tree.getLastD ⟨0, [], [], [], -1, []⟩).kind == 2 && (b.tree.getLastD ⟨0, [], [], [], -1, []⟩).up == ((topO b.opn).node : Int)) = true
  · rw [if_pos hc] at h ⊢
    injection h with _ h
    rw [← h]
    have hr := hlast.2 (by simpa using (Bool.and_eq_true_iff.1 hc).1)
    show (0, (⟨(wrapT b.tree).modify ((wrapT b.tree).length - 1) _, wrapO b.opn⟩ : Bd)) = (0, ⟨wrapT _, wrapO b.opn⟩)
    rw [wrapT_len ht, hD]
    cases r with
    | nil => exact absurd rfl hr
    | cons a r =>
      congr 2
      show (docW :: dvN D :: (a :: r).map sh).modify (r.length + 1 + 1) _ = wrapT ((D :: a :: r).modify (r.length + 1) _)
      simp only [List.modify_succ_cons, wrapT]
      rw [← modify_map (fun n => { n with data := n.data ++ d }) (fun n => { n with data := n.data ++ d }) (fun n => rfl)]
  · rw [if_neg hc] at h ⊢
    cases ha : addN b ⟨2, [], [], d, 0, []⟩ with
    | none => rw [ha] at h; injection h with h; cases h
    | some c =>
      rw [ha] at h
      injection h with _ h
      have := addNW ht hb rfl ha
      rw [this, h]
theorem startBW {b b' : Bd} {t : Tk} (ht : 0 < b.tree.length) (hb : b.tree.length ≤ 15000) (hdp : (closeS (kindL t.name) b.opn).length < 199) (h : startB b t = (0, b')) : startB (wrapB b) t = (0, wrapB b') := by
  unfold startB at h ⊢
  by_cases h1 : kindL t.name = 0
  · rw [if_pos h1] at h; injection h with h; cases h
  rw [if_neg h1] at h ⊢
  by_cases h2 : (t.self && !voidK (kindL t.name)) = true
  · rw [if_pos h2] at h; injection h with h; cases h
  rw [if_neg h2] at h ⊢
  show (if (!admitsO (kindL t.name) (closeS (kindL t.name) (wrapO b.opn))) = true then _ else _) = _
  rw [closeW, admitW]
  by_cases h3 : (!admitsO (kindL t.name) (closeS (kindL t.name) b.opn)) = true
  · rw [if_pos h3] at h; injection h with h; cases h
  rw [if_neg h3] at h ⊢
  rw [if_neg (by omega)] at h
  have hl : (closeS (kindL t.name) (wrapB b).opn).length = (closeS (kindL t.name) b.opn).length + 1 := by
    show (closeS (kindL t.name) (wrapO b.opn)).length = _
    rw [closeW]
    unfold wrapO
    rw [List.length_append, List.length_map]
    rfl
  rw [if_neg (by rw [hl]; omega)]
  have hw : ({ wrapB b with opn := closeS (kindL t.name) (wrapB b).opn } : Bd) = wrapB { b with opn := closeS (kindL t.name) b.opn } := by
    show (⟨wrapT b.tree, closeS (kindL t.name) (wrapO b.opn)⟩ : Bd) = ⟨wrapT b.tree, wrapO _⟩
    rw [closeW]
  rw [hw]
  cases ha : addN { b with opn := closeS (kindL t.name) b.opn } ⟨1, t.name, t.attrs, [], 0, []⟩ with
  | none => rw [ha] at h; injection h with h; cases h
  | some c =>
    rw [ha] at h
    have := addNW (b := { b with opn := closeS (kindL t.name) b.opn }) ht hb rfl ha
    rw [this]
    injection h with _ h
    rw [← h]
    simp only
    congr 1
    by_cases hv : voidK (kindL t.name) = true
    · rw [if_pos hv, if_pos hv]
    · rw [if_neg hv, if_neg hv]
      show (⟨wrapT c.tree, ⟨(wrapT b.tree).length, t.name, kindL t.name⟩ :: wrapO c.opn⟩ : Bd) = ⟨wrapT c.tree, upO ⟨b.tree.length, t.name, kindL t.name⟩ :: wrapO c.opn⟩
      rw [wrapT_len ht]
      rfl
/-- The parents, as the nodes have them. -/
def ups (t : List Nd) : List Int := t.map (·.up)
def ChainU (U : List Int) : List Opn → Prop
  | [] => True
  | o :: t => 0 < o.node ∧ o.node < U.length ∧ U[o.node]? = some ((topO t).node : Int) ∧ (topO t).node < o.node ∧ ChainU U t
def DecU (U : List Int) : Prop := ∀ i, 0 < i → i < U.length → ∃ u : Nat, U[i]? = some (u : Int) ∧ u < i
def depU (U : List Int) : Nat → Nat → Nat
  | 0, _ => 0
  | f + 1, i => if i = 0 then 0 else 1 + depU U f ((U[i]?.getD 0).toNat)
theorem depU_fuel {U : List Int} (hd : DecU U) : ∀ (f g i : Nat), i ≤ f → i ≤ g → i < U.length → depU U f i = depU U g i
  | 0, 0, _, _, _, _ => rfl
  | 0, g + 1, i, h, _, _ => by
    obtain rfl : i = 0 := by omega
    rfl
  | f + 1, 0, i, _, h, _ => by
    obtain rfl : i = 0 := by omega
    rfl
  | f + 1, g + 1, i, h1, h2, hl => by
    unfold depU
    by_cases h0 : i = 0
    · rw [if_pos h0, if_pos h0]
    · rw [if_neg h0, if_neg h0]
      obtain ⟨u, hu, hui⟩ := hd i (by omega) hl
      rw [hu, Option.getD_some, Int.toNat_natCast, depU_fuel hd f g u (by omega) (by omega) (by omega)]
theorem depU_step {U : List Int} (hd : DecU U) {i u : Nat} (h0 : 0 < i) (hl : i < U.length) (hu : U[i]? = some (u : Int)) : depU U i i = 1 + depU U u u := by
  obtain ⟨u', hu', hui⟩ := hd i h0 hl
  rw [hu] at hu'
  injection hu' with hu'
  obtain rfl : u = u' := by omega
  obtain ⟨k, rfl⟩ : ∃ k, i = k + 1 := ⟨i - 1, by omega⟩
  conv => lhs; unfold depU
  rw [if_neg (by omega), hu, Option.getD_some, Int.toNat_natCast, depU_fuel hd k u u (by omega) (Nat.le_refl _) (by omega)]
theorem chain_dep {U : List Int} (hd : DecU U) (h0 : 0 < U.length) : ∀ st : List Opn, ChainU U st → depU U (topO st).node (topO st).node = st.length ∧ (topO st).node < U.length
  | [], _ => ⟨rfl, h0⟩
  | o :: t, ⟨h1, h2, h3, _, h5⟩ => by
    have ih := chain_dep hd h0 t h5
    refine ⟨?_, h2⟩
    show depU U o.node o.node = t.length + 1
    rw [depU_step hd h1 h2 h3, ih.1]
    omega
theorem chain_app {U V : List Int} : ∀ {st : List Opn}, ChainU U st → ChainU (U ++ V) st
  | [], _ => trivial
  | o :: t, ⟨h1, h2, h3, h4, h5⟩ => ⟨h1, by rw [List.length_append]; omega, by rw [List.getElem?_append_left h2]; exact h3, h4, chain_app h5⟩
theorem chain_tail {U : List Int} {st : List Opn} (h : ChainU U st) : ChainU U st.tail := by
  cases st with
  | nil => trivial
  | cons o t => exact h.2.2.2.2
theorem chain_drop {U : List Int} (p : Opn → Bool) : ∀ {st : List Opn}, ChainU U st → ChainU U (st.dropWhile p)
  | [], _ => trivial
  | o :: t, h => by
    rw [List.dropWhile_cons]
    split
    · exact chain_drop p h.2.2.2.2
    · exact h
theorem chain_closeS {U : List Int} {k : Nat} {st : List Opn} (h : ChainU U st) : ChainU U (closeS k st) := by
  unfold closeS
  simp only
  split
  · split
    · exact chain_tail (chain_tail h)
    · exact chain_tail h
  · split
    · exact chain_tail h
    · exact h
structure GoodB (b : Bd) : Prop where
  pos : 0 < b.tree.length
  head : (b.tree.headD docW).kind = 0
  dec : DecU (ups b.tree)
  chain : ChainU (ups b.tree) b.opn
theorem ups_len (t : List Nd) : (ups t).length = t.length := by unfold ups; rw [List.length_map]
theorem ups_modify (f : Nd → Nd) (hf : ∀ n, (f n).up = n.up) : ∀ (t : List Nd) (j : Nat), ups (t.modify j f) = ups t
  | [], j => by cases j <;> rfl
  | a :: r, 0 => by simp [ups, List.modify, List.modifyHead, hf]
  | a :: r, j + 1 => by
    have := ups_modify f hf r j
    unfold ups at this ⊢
    rw [List.modify_succ_cons, List.map_cons, this, List.map_cons]
theorem head_modify (f : Nd → Nd) (hf : ∀ n, (f n).kind = n.kind) (t : List Nd) (j : Nat) : ((t.modify j f).headD docW).kind = (t.headD docW).kind := by
  cases t with
  | nil => cases j <;> rfl
  | cons a r =>
    cases j with
    | zero => simp [List.modify, List.modifyHead, hf]
    | succ j => rw [List.modify_succ_cons]; rfl
theorem dec_snoc {U : List Int} (hd : DecU U) {u : Nat} (hu : u < U.length) : DecU (U ++ [(u : Int)]) := fun i h0 hl => by
  rw [List.length_append] at hl
  by_cases h : i < U.length
  · obtain ⟨v, hv, hvi⟩ := hd i h0 h
    exact ⟨v, by rw [List.getElem?_append_left h]; exact hv, hvi⟩
  · obtain rfl : i = U.length := by simp at hl; omega
    exact ⟨u, by rw [List.getElem?_append_right (Nat.le_refl _), Nat.sub_self]; rfl, hu⟩
theorem good_add {b b' : Bd} {n : Nd} (hg : GoodB b) (h : addN b n = some b') : GoodB b' ∧ ups b'.tree = ups b.tree ++ [((topO b.opn).node : Int)] ∧ b'.opn = b.opn ∧ b'.tree.length = b.tree.length + 1 := by
  unfold addN at h
  split at h
  · cases h
  injection h with h
  have hu : ups b'.tree = ups b.tree ++ [((topO b.opn).node : Int)] := by
    rw [← h]
    show ups (addKid b.tree (topO b.opn).node b.tree.length ++ [_]) = _
    have hm : ups (addKid b.tree (topO b.opn).node b.tree.length) = ups b.tree := ups_modify (fun n => { n with kids := n.kids ++ [b.tree.length] }) (fun _ => rfl) _ _
    unfold ups at hm ⊢
    rw [List.map_append, hm]
    rfl
  have ho : b'.opn = b.opn := by rw [← h]
  have hl : b'.tree.length = b.tree.length + 1 := by
    rw [← h]
    show (addKid _ _ _ ++ [_]).length = _
    rw [List.length_append, addKid_len]
    rfl
  have ht := (chain_dep hg.dec (by rw [ups_len]; exact hg.pos) b.opn hg.chain).2
  refine ⟨⟨by omega, ?_, by rw [hu]; exact dec_snoc hg.dec ht, by rw [hu, ho]; exact chain_app hg.chain⟩, hu, ho, hl⟩
  rw [← h]
  show ((addKid b.tree (topO b.opn).node b.tree.length ++ [_]).headD docW).kind = 0
  have hm : ((addKid b.tree (topO b.opn).node b.tree.length).headD docW).kind = 0 := (head_modify (fun n => { n with kids := n.kids ++ [b.tree.length] }) (fun _ => rfl) _ _).trans hg.head
  cases hh : addKid b.tree (topO b.opn).node b.tree.length with
  | nil => rw [← addKid_len b.tree (topO b.opn).node b.tree.length, hh] at hl; have := hg.pos; rw [← addKid_len b.tree (topO b.opn).node b.tree.length, hh] at this; cases this
  | cons a r => rw [hh] at hm; exact hm
/-- What a step that goes well leaves: the new parents are behind the old ones. -/
theorem good_take {b b' : Bd} {t : Tk} {f : Bool} (hg : GoodB b) (h : takeB b t f = (0, b')) : GoodB b' ∧ (∃ V, ups b'.tree = ups b.tree ++ V) ∧ b'.tree.length ≤ b.tree.length + 1 := by
  have same : b = b' → GoodB b' ∧ (∃ V, ups b'.tree = ups b.tree ++ V) ∧ b'.tree.length ≤ b.tree.length + 1 := fun e => by
    subst e
    exact ⟨hg, ⟨[], (List.append_nil _).symm⟩, Nat.le_succ _⟩
  unfold takeB at h
  by_cases h5 : t.kind = 5
  · rw [if_pos h5] at h
    split at h
    · injection h with _ h; exact same h
    · injection h with h; cases h
  rw [if_neg h5] at h
  by_cases h3 : t.kind = 3
  · rw [if_pos h3] at h
    unfold textB at h
    split at h
    · injection h with _ h; exact same h
    · split at h
      · injection h with _ h
        rw [← h]
        have hu : ups (b.tree.modify (b.tree.length - 1) fun n => { n with data := n.data ++ t.data }) = ups b.tree := ups_modify (fun n => { n with data := n.data ++ t.data }) (fun _ => rfl) _ _
        refine ⟨⟨by show 0 < (List.modify _ _ _).length; rw [List.length_modify]; exact hg.pos, (head_modify (fun n => { n with data := n.data ++ t.data }) (fun _ => rfl) _ _).trans hg.head, by show DecU (ups (List.modify _ _ _)); rw [hu]; exact hg.dec, by show ChainU (ups (List.modify _ _ _)) _; rw [hu]; exact hg.chain⟩, ⟨[], by rw [List.append_nil]; exact hu⟩, ?_⟩
        show (List.modify _ _ _).length ≤ _
        rw [List.length_modify]
        omega
      · cases ha : addN b ⟨2, [], [], t.data, 0, []⟩ with
        | none => rw [ha] at h; injection h with h; cases h
        | some c =>
          rw [ha] at h
          injection h with _ h
          obtain ⟨g1, g2, _, g4⟩ := good_add hg ha
          rw [← h]
          exact ⟨g1, ⟨_, g2⟩, by omega⟩
  rw [if_neg h3] at h
  by_cases h1 : t.kind = 1
  · rw [if_pos h1] at h
    unfold startB at h
    split at h
    · injection h with h; cases h
    split at h
    · injection h with h; cases h
    split at h
    · injection h with h; cases h
    split at h
    · injection h with h; cases h
    have hg2 : GoodB { b with opn := closeS (kindL t.name) b.opn } := ⟨hg.pos, hg.head, hg.dec, chain_closeS hg.chain⟩
    cases ha : addN { b with opn := closeS (kindL t.name) b.opn } ⟨1, t.name, t.attrs, [], 0, []⟩ with
    | none => rw [ha] at h; injection h with h; cases h
    | some c =>
      rw [ha] at h
      injection h with _ h
      obtain ⟨g1, g2, g3, g4⟩ := good_add hg2 ha
      have g4' : c.tree.length = b.tree.length + 1 := g4
      rw [← h]
      split
      · exact ⟨g1, ⟨_, g2⟩, by omega⟩
      · refine ⟨⟨g1.pos, g1.head, g1.dec, ?_⟩, ⟨_, g2⟩, by show c.tree.length ≤ _; omega⟩
        have ht := (chain_dep hg2.dec (by rw [ups_len]; exact hg2.pos) _ hg2.chain).2
        rw [ups_len] at ht
        have ht' : (topO (closeS (kindL t.name) b.opn)).node < b.tree.length := ht
        refine ⟨hg.pos, by rw [ups_len]; show b.tree.length < c.tree.length; omega, ?_, ?_, g1.chain⟩
        · show (ups c.tree)[b.tree.length]? = some ((topO c.opn).node : Int)
          rw [g2, g3, List.getElem?_append_right (by rw [ups_len]; exact Nat.le_refl _), ups_len, Nat.sub_self]
          rfl
        · show (topO c.opn).node < b.tree.length
          rw [g3]
          exact ht'
  rw [if_neg h1] at h
  by_cases h2 : t.kind = 2
  · rw [if_pos h2] at h
    unfold endB at h
    split at h
    · injection h with h; cases h
    split at h
    · injection h with h; cases h
    · rename_i st' hst
      injection h with _ h
      rw [← h]
      refine ⟨⟨hg.pos, hg.head, hg.dec, ?_⟩, ⟨[], (List.append_nil _).symm⟩, Nat.le_succ _⟩
      unfold closeE at hst
      simp only at hst
      split at hst
      · injection hst with hst
        rw [← hst]
        exact chain_tail (chain_drop _ hg.chain)
      · cases hst
  · rw [if_neg h2] at h
    injection h with _ h
    exact same h
theorem build_ups : ∀ (ts : List Tk) (i : Nat) {b : Bd} {ns : List Nd}, GoodB b → buildF ts i b = (0, 0, ns) → DecU (ups ns) ∧ 0 < ns.length ∧ (ns.headD docW).kind = 0 ∧ (∃ V, ups ns = ups b.tree ++ V) ∧ ns.length ≤ b.tree.length + ts.length
  | [], i, b, ns, hg, h => by
    injection h with _ h
    injection h with _ h
    rw [← h]
    exact ⟨hg.dec, hg.pos, hg.head, ⟨[], (List.append_nil _).symm⟩, by simp⟩
  | t :: l, i, b, ns, hg, h => by
    unfold buildF at h
    split at h
    · rename_i h0
      have e : takeB b t (i == 0) = (0, (takeB b t (i == 0)).2) := by
        conv => lhs; rw [← Prod.eta (takeB b t (i == 0)), h0]
      obtain ⟨g1, ⟨V, g2⟩, g3⟩ := good_take hg e
      obtain ⟨k1, k2, k3, ⟨V', k4⟩, k5⟩ := build_ups l (i + 1) g1 h
      exact ⟨k1, k2, k3, ⟨V ++ V', by rw [k4, g2, List.append_assoc]⟩, by simp only [List.length_cons]; omega⟩
    · rename_i h0
      injection h with h
      exact absurd h h0
theorem dec_mono {U V : List Int} (h : DecU (U ++ V)) : DecU U := fun i h0 hl => by
  obtain ⟨u, hu, hui⟩ := h i h0 (by rw [List.length_append]; omega)
  exact ⟨u, by rw [List.getElem?_append_left hl] at hu; exact hu, hui⟩
theorem dep_app {U V : List Int} (hd : DecU U) : ∀ (f i : Nat), i < U.length → depU (U ++ V) f i = depU U f i
  | 0, _, _ => rfl
  | f + 1, i, hl => by
    unfold depU
    by_cases h0 : i = 0
    · rw [if_pos h0, if_pos h0]
    · obtain ⟨u, hu, hui⟩ := hd i (by omega) hl
      rw [if_neg h0, if_neg h0, List.getElem?_append_left hl, hu, Option.getD_some, Int.toNat_natCast, dep_app hd f u (by omega)]
theorem takeW {b b' : Bd} {t : Tk} {f f' : Bool} (hg : GoodB b) (hb : b.tree.length ≤ 15000) (h5 : t.kind ≠ 5) (hdp : t.kind = 1 → (closeS (kindL t.name) b.opn).length < 199) (h : takeB b t f = (0, b')) : takeB (wrapB b) t f' = (0, wrapB b') := by
  unfold takeB at h ⊢
  rw [if_neg h5] at h ⊢
  by_cases h3 : t.kind = 3
  · rw [if_pos h3] at h ⊢
    exact textBW hg.pos hg.head hb h
  rw [if_neg h3] at h ⊢
  by_cases h1 : t.kind = 1
  · rw [if_pos h1] at h ⊢
    exact startBW hg.pos hb (hdp h1) h
  rw [if_neg h1] at h ⊢
  by_cases h2 : t.kind = 2
  · rw [if_pos h2] at h ⊢
    unfold endB at h ⊢
    by_cases hk : kindL t.name = 0
    · rw [if_pos hk] at h; injection h with h; cases h
    rw [if_neg hk] at h ⊢
    cases hc : closeE t.name b.opn with
    | none => rw [hc] at h; injection h with h; cases h
    | some st =>
      rw [hc] at h
      injection h with _ h
      show (match closeE t.name (wrapO b.opn) with | none => _ | some st => _) = _
      rw [closeEW hk hc, ← h]
      rfl
  · rw [if_neg h2] at h ⊢
    injection h with _ h
    rw [h]
theorem buildW : ∀ (ts : List Tk) (i i' : Nat) {b : Bd} {ns : List Nd}, GoodB b → b.tree.length + ts.length ≤ 15000 → (i = 0 → ∀ t ∈ ts.head?, t.kind ≠ 5) → (∀ j, j < ns.length → depU (ups ns) j j ≤ 150) → buildF ts i b = (0, 0, ns) → buildF ts i' (wrapB b) = (0, 0, wrapT ns)
  | [], i, i', b, ns, _, _, _, _, h => by
    injection h with _ h
    injection h with _ h
    rw [← h]
    rfl
  | t :: l, i, i', b, ns, hg, hl, hf, hd, h => by
    have hu := build_ups (t :: l) i hg h
    unfold buildF at h
    split at h
    · rename_i h0
      have e : takeB b t (i == 0) = (0, (takeB b t (i == 0)).2) := by
        conv => lhs; rw [← Prod.eta (takeB b t (i == 0)), h0]
      have h5 : t.kind ≠ 5 := by
        intro h5
        by_cases hi : i = 0
        · exact hf hi t rfl h5
        · unfold takeB at h0
          rw [if_pos h5, show (i == 0) = false from beq_false_of_ne hi] at h0
          cases h0
      obtain ⟨g1, ⟨V, g2⟩, g3⟩ := good_take hg e
      obtain ⟨k1, k2, k3, ⟨V', k4⟩, k5⟩ := build_ups l (i + 1) g1 h
      have hdp : t.kind = 1 → (closeS (kindL t.name) b.opn).length < 199 := by
        intro h1
        have hc := chain_dep hg.dec (by rw [ups_len]; exact hg.pos) _ (chain_closeS (k := kindL t.name) hg.chain)
        have e2 := e
        obtain ⟨b2, hb2⟩ : ∃ b2, b2 = (takeB b t (i == 0)).2 := ⟨_, rfl⟩
        rw [← hb2] at e2 k4
        unfold takeB at e2
        rw [if_neg h5, if_neg (by omega), if_pos h1] at e2
        unfold startB at e2
        split at e2
        · injection e2 with e2; cases e2
        split at e2
        · injection e2 with e2; cases e2
        split at e2
        · injection e2 with e2; cases e2
        split at e2
        · injection e2 with e2; cases e2
        have hg2 : GoodB { b with opn := closeS (kindL t.name) b.opn } := ⟨hg.pos, hg.head, hg.dec, chain_closeS hg.chain⟩
        cases ha : addN { b with opn := closeS (kindL t.name) b.opn } ⟨1, t.name, t.attrs, [], 0, []⟩ with
        | none => rw [ha] at e2; injection e2 with e2; cases e2
        | some c =>
          rw [ha] at e2
          injection e2 with _ e2
          obtain ⟨_, q2, _, q4⟩ := good_add hg2 ha
          have hct : b2.tree = c.tree := by
            rw [← e2]
            split <;> rfl
          have hU : ups ns = ups b.tree ++ ([((topO (closeS (kindL t.name) b.opn)).node : Int)] ++ V') := by
            rw [k4, hct, q2, List.append_assoc]
          have hlt : b.tree.length < ns.length := by
            have := congrArg List.length hU
            rw [ups_len, List.length_append, ups_len, List.length_append] at this
            simp only [List.length_cons, List.length_nil] at this
            omega
          have hdn := hd b.tree.length hlt
          rw [depU_step k1 hg.pos (by rw [ups_len]; exact hlt) (u := (topO (closeS (kindL t.name) b.opn)).node) (by rw [hU, List.getElem?_append_right (by rw [ups_len]; exact Nat.le_refl _), ups_len, Nat.sub_self]; rfl)] at hdn
          rw [hU, dep_app hg.dec _ _ hc.2, hc.1] at hdn
          omega
      have hw := takeW (f' := (i' == 0)) hg (by simp only [List.length_cons] at hl; omega) h5 hdp e
      unfold buildF
      rw [hw, if_pos rfl]
      exact buildW l (i + 1) (i' + 1) g1 (by simp only [List.length_cons] at hl; omega) (fun h => by omega) hd h
    · rename_i h0
      injection h with h
      exact absurd h h0
end Go.Proofs.YtcbfbbobcmdbaaaGreatDoor
