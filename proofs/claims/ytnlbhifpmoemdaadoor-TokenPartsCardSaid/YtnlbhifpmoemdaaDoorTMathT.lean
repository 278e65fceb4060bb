/-
  Tags and values of one kind, plain. No Go in sight; no condition.
-/
import Derived.Test.YtnlbhifpmoemdaaDoorTLawPl
namespace Go.Proofs.YtnlbhifpmoemdaaDoor
def alnB (c : UInt8) : Bool := isLet c || isDig c
theorem up_stop {st : List UInt8} {c : UInt8} (rest : List UInt8) (hc : st.contains c = true) : ∀ (n : List UInt8), (∀ x ∈ n, st.contains x = false) → upL (n ++ c :: rest) st = n ∧ downL (n ++ c :: rest) st = c :: rest
  | [], _ => by
    unfold upL downL
    rw [List.nil_append, List.takeWhile_cons, List.dropWhile_cons, hc]
    exact ⟨rfl, rfl⟩
  | x :: n, h => by
    have ih := up_stop rest hc n (fun y hy => h y (List.mem_cons_of_mem _ hy))
    have hx := h x (List.mem_cons_self ..)
    unfold upL downL at ih ⊢
    rw [List.cons_append, List.takeWhile_cons, List.dropWhile_cons, hx]
    simp only [Bool.not_false, if_true]
    rw [ih.1, ih.2]
    exact ⟨rfl, rfl⟩
theorem not_in {st : List UInt8} (hst : ∀ x ∈ st, alnB x = false) {c : UInt8} (h : alnB c = true) : st.contains c = false := by
  cases hc : st.contains c with
  | false => rfl
  | true =>
    rw [List.contains_iff_mem] at hc
    rw [hst c hc] at h
    cases h
theorem smC_aln {c : UInt8} (h : alnB c = true) : alnB (smC c) = true := by
  by_cases hu : 65 ≤ c.toNat ∧ c.toNat ≤ 90
  · have := smC_up c hu
    unfold alnB isLet
    simp
    omega
  · rw [smC_no c hu]
    exact h
theorem madeL_sm {n o : List UInt8} (h : ∀ x ∈ n, alnB x = true) : madeL (smL n) o = true := by
  unfold madeL smL
  rw [List.all_map, List.all_eq_true]
  intro x hx
  have := smC_aln (h x hx)
  unfold alnB at this
  simp only [Function.comp]
  rw [this, Bool.true_or]
theorem skB_no {c : UInt8} {l : List UInt8} (h : blanksL.contains c = false) : skB (c :: l) = c :: l := by
  unfold skB Lib.trimLeftS
  rw [List.dropWhile_cons, h]
  rfl
theorem skB_yes {c : UInt8} {l : List UInt8} (h : blanksL.contains c = true) : skB (c :: l) = skB l := by
  unfold skB Lib.trimLeftS
  rw [List.dropWhile_cons, h]
  rfl
theorem pre_cons (c : UInt8) (l : List UInt8) : Lib.hasPrefix (c :: l) [c] = true := by simp [Lib.hasPrefix, List.isPrefixOf]
theorem pre_cons2 (c d : UInt8) (l : List UInt8) : Lib.hasPrefix (c :: d :: l) [c, d] = true := by simp [Lib.hasPrefix, List.isPrefixOf]
theorem pre_ne {c d : UInt8} (l p : List UInt8) (h : c ≠ d) : Lib.hasPrefix (c :: l) (d :: p) = false := by
  simp [Lib.hasPrefix, List.isPrefixOf]
  intro e
  exact absurd e.symm h
theorem tag_gt (k : Nat) {n : List UInt8} (h : ∀ x ∈ n, alnB x = true) (rest : List UInt8) : tagL k (n ++ 62 :: rest) = (0, ⟨k, smL n, [], false, []⟩, rest) := by
  obtain ⟨h1, h2⟩ := up_stop (st := [9, 10, 12, 32, 47, 62]) (c := 62) rest (by decide) n (fun x hx => not_in (by decide) (h x hx))
  unfold tagL
  rw [h1, h2, madeL_sm h, attrsF_gt (S := 62 :: rest) (skB_no (by decide)).symm (pre_cons _ _)]
  rfl
theorem tag_sl (k : Nat) {n : List UInt8} (h : ∀ x ∈ n, alnB x = true) (rest : List UInt8) : tagL k (n ++ 47 :: 62 :: rest) = (0, ⟨k, smL n, [], true, []⟩, rest) := by
  obtain ⟨h1, h2⟩ := up_stop (st := [9, 10, 12, 32, 47, 62]) (c := 47) (62 :: rest) (by decide) n (fun x hx => not_in (by decide) (h x hx))
  unfold tagL
  rw [h1, h2, madeL_sm h, attrsF_self (S := 47 :: 62 :: rest) (skB_no (by decide)).symm (pre_ne _ _ (by decide)) (pre_cons2 _ _ _)]
  rfl
theorem one_start {c : UInt8} {l : List UInt8} (h : isLet c = true) : oneL (60 :: c :: l) = tagL 1 (c :: l) := by
  unfold oneL
  have hl : leavesL (60 :: c :: l) = true := by
    unfold leavesL
    simp [h, atL]
  rw [hl]
  simp only [Bool.not_true, Bool.false_eq_true, if_false]
  rw [show ((60 :: c :: l).getD 1 0) = c from rfl, h, if_pos rfl]
  rfl
theorem one_end {c : UInt8} {l : List UInt8} : oneL (60 :: 47 :: c :: l) = endL (c :: l) := by
  unfold oneL
  have hl : leavesL (60 :: 47 :: c :: l) = true := by
    unfold leavesL
    simp [atL]
  rw [hl]
  simp only [Bool.not_true, Bool.false_eq_true, if_false]
  rw [show ((60 :: 47 :: c :: l).getD 1 0) = 47 from rfl, show isLet 47 = false by decide, if_neg Bool.false_ne_true, show (atL (60 :: 47 :: c :: l) 1 == 47) = true from rfl, if_pos rfl]
  rfl
def nz (l : List UInt8) : Bool := l.all fun c => c != 0
theorem nz_app (a b : List UInt8) : nz (a ++ b) = (nz a && nz b) := List.all_append
theorem nz_cons (c : UInt8) (b : List UInt8) : nz (c :: b) = (c != 0 && nz b) := rfl
theorem no_nul {l : List UInt8} (h : nz l = true) : ¬ 0 ≤ Lib.indexByte l 0 := by
  intro h0
  obtain ⟨k, hk⟩ : ∃ k : Nat, Lib.indexByte l 0 = (k : Int) := ⟨(Lib.indexByte l 0).toNat, by omega⟩
  have h1 := (Lib.indexByte_some hk).1
  have := List.all_eq_true.1 h 0 (List.mem_iff_getElem?.2 ⟨k, h1⟩)
  revert this
  decide
theorem nz_aln {n : List UInt8} (h : ∀ x ∈ n, alnB x = true) : nz n = true := by
  unfold nz
  rw [List.all_eq_true]
  intro x hx
  have := h x hx
  rw [bne_iff_ne]
  intro e
  subst e
  revert this
  decide
theorem toks_step0 {l r : List UInt8} {t : Tk} (hl : l ≠ []) (h : oneL l = (0, t, r)) {ts : List Tk} (hr : toksL r = (0, 0, ts)) : toksL l = (0, 0, t :: ts) := by
  rw [toksL_step l hl, h, if_pos rfl]
  simp only
  rw [hr, if_pos rfl]
theorem tokensL_ok {l : List UInt8} (hl : l.length ≤ 65536) (hz : nz l = true) {ts : List Tk} (h : toksL l = (0, 0, ts)) : tokensL l = (0, 0, ts) := by
  unfold tokensL
  rw [if_neg (by omega), if_neg (no_nul hz), h, if_pos rfl]
theorem end_ok {l r n d : List UInt8} (hl : l.isEmpty = false) (h0 : isLet (l.getD 0 0) = true) (ht : tagL 2 l = (0, ⟨2, n, [], false, d⟩, r)) : endL l = (0, ⟨2, n, [], false, d⟩, r) := by
  unfold endL
  rw [hl, h0, ht]
  rfl
/-- The text of TokenTags. -/
def tagsText (n : List UInt8) : List UInt8 := 60 :: n ++ (62 :: 60 :: 47 :: n ++ (62 :: 60 :: n ++ [47, 62]))
theorem toks_tags {n : List UInt8} (hne : n ≠ []) (h0 : isLet (n.getD 0 0) = true) (h : ∀ x ∈ n, alnB x = true) (hl : n.length ≤ 200) :
    tokensL (tagsText n) = (0, 0, [⟨1, smL n, [], false, []⟩, ⟨2, smL n, [], false, []⟩, ⟨1, smL n, [], true, []⟩]) := by
  have hz := nz_aln h
  cases n with
  | nil => exact absurd rfl hne
  | cons c t =>
    have hc : isLet c = true := h0
    have e3 : toksL (60 :: (c :: t) ++ [47, 62]) = (0, 0, [⟨1, smL (c :: t), [], true, []⟩]) :=
      toks_step0 (by simp) ((one_start hc).trans (tag_sl 1 h [])) toksL_nil
    have e2 : toksL (60 :: 47 :: (c :: t) ++ 62 :: (60 :: (c :: t) ++ [47, 62])) = (0, 0, [⟨2, smL (c :: t), [], false, []⟩, ⟨1, smL (c :: t), [], true, []⟩]) := by
      refine toks_step0 (by simp) (one_end.trans ?_) e3
      exact end_ok (l := (c :: t) ++ 62 :: (60 :: (c :: t) ++ [47, 62])) rfl (by simpa using hc) (tag_gt 2 h (60 :: (c :: t) ++ [47, 62]))
    have e1 : toksL (60 :: (c :: t) ++ 62 :: (60 :: 47 :: (c :: t) ++ 62 :: (60 :: (c :: t) ++ [47, 62]))) = (0, 0, [⟨1, smL (c :: t), [], false, []⟩, ⟨2, smL (c :: t), [], false, []⟩, ⟨1, smL (c :: t), [], true, []⟩]) :=
      toks_step0 (by simp) ((one_start hc).trans (tag_gt 1 h _)) e2
    refine tokensL_ok ?_ ?_ e1
    · unfold tagsText
      simp only [List.length_append, List.length_cons, List.length_nil] at hl ⊢
      omega
    · unfold tagsText
      simp only [nz_app, nz_cons, List.cons_append] at hz ⊢
      simp only [Bool.and_eq_true] at hz
      rw [hz.1, hz.2]
      decide
/-- The text of TokenValues. -/
def valText (v : List UInt8) : List UInt8 := [60, 112, 32, 97, 61, 34] ++ (v ++ ([34, 32, 98, 32, 61, 32, 39] ++ (v ++ [39, 62])))
theorem attr_q {nm v rest : List UInt8} {q : UInt8} (hn : ∀ x ∈ nm, alnB x = true) (hne : nm ≠ []) (hq : q = 34 ∨ q = 39) (hv : ∀ x ∈ v, x ≠ q) (h38 : ∀ c ∈ v, c.toNat ≠ 38) (s1 s2 : List UInt8)
    (h1 : skB s1 = 61 :: s2) (h2 : skB s2 = q :: (v ++ q :: rest)) (hs1 : ∃ c t, s1 = c :: t ∧ ([9, 10, 12, 32, 61, 47, 62] : List UInt8).contains c = true) : attrL (nm ++ s1) = some ((smL nm, v), rest) := by
  obtain ⟨c, t, rfl, hc⟩ := hs1
  obtain ⟨u1, u2⟩ := up_stop (st := [9, 10, 12, 32, 61, 47, 62]) (c := c) t hc nm (fun x hx => not_in (by decide) (hn x hx))
  have hvq : ∀ x ∈ v, ([q] : List UInt8).contains x = false := fun x hx => by
    have := hv x hx
    simp [this]
  obtain ⟨w1, w2⟩ := up_stop (st := [q]) (c := q) rest (by simp) v hvq
  unfold attrL
  rw [u1, u2, h1]
  have hne2 : nm.isEmpty = false := by
    cases nm with
    | nil => exact absurd rfl hne
    | cons _ _ => rfl
  rw [hne2, madeL_sm hn, pre_cons]
  simp only [Bool.false_or, Bool.not_true, Bool.false_eq_true, if_false, if_true, List.drop_succ_cons, List.drop_zero]
  rw [h2]
  have hval : valueL (q :: (v ++ q :: rest)) = some (v, rest) := by
    unfold valueL
    rcases hq with rfl | rfl
    · rw [pre_cons, if_pos rfl, List.drop_succ_cons, List.drop_zero, w1, w2, pre_cons, if_pos rfl]
      rfl
    · rw [pre_ne _ _ (by decide), if_neg Bool.false_ne_true, pre_cons, if_pos rfl, List.drop_succ_cons, List.drop_zero, w1, w2, pre_cons, if_pos rfl]
      rfl
  rw [hval]
  simp only
  rw [decL_no38 true v h38]
theorem toks_val {v : List UInt8} (h : hasL v [34, 39, 38, 0] = false) (hl : v.length ≤ 2000) :
    tokensL (valText v) = (0, 0, [⟨1, [112], [([97], v), ([98], v)], false, []⟩]) := by
  have hno : ∀ (b : UInt8), ([34, 39, 38, 0] : List UInt8).contains b = true → ∀ x ∈ v, x ≠ b := by
    intro b hb x hx e
    subst e
    have : hasL v [34, 39, 38, 0] = true := by
      unfold hasL
      rw [List.any_eq_true]
      exact ⟨x, hx, hb⟩
    rw [h] at this
    cases this
  have h38 : ∀ c ∈ v, c.toNat ≠ 38 := fun c hc e => hno 38 (by decide) c hc (UInt8.toNat_inj.1 e)
  have hzv : nz v = true := by
    unfold nz
    rw [List.all_eq_true]
    intro x hx
    rw [bne_iff_ne]
    exact hno 0 (by decide) x hx
  have a2 : attrL ([98] ++ (32 :: 61 :: 32 :: 39 :: (v ++ 39 :: [62]))) = some (([98], v), [62]) :=
    attr_q (nm := [98]) (by decide) (by simp) (.inr rfl) (hno 39 (by decide)) h38 _ (32 :: 39 :: (v ++ 39 :: [62])) (by rw [skB_yes (by decide), skB_no (by decide)]) (by rw [skB_yes (by decide), skB_no (by decide)]) ⟨_, _, rfl, by decide⟩
  have a1 : attrL ([97] ++ (61 :: 34 :: (v ++ 34 :: (32 :: 98 :: 32 :: 61 :: 32 :: 39 :: (v ++ 39 :: [62]))))) = some (([97], v), 32 :: 98 :: 32 :: 61 :: 32 :: 39 :: (v ++ 39 :: [62])) :=
    attr_q (nm := [97]) (by decide) (by simp) (.inl rfl) (hno 34 (by decide)) h38 _ (34 :: (v ++ 34 :: (32 :: 98 :: 32 :: 61 :: 32 :: 39 :: (v ++ 39 :: [62])))) (by rw [skB_no (by decide)]) (by rw [skB_no (by decide)]) ⟨_, _, rfl, by decide⟩
  have f3 : attrsF 15 [62] [([97], v), ([98], v)] = (0, [([97], v), ([98], v)], false, []) := by
    rw [attrsF_gt (S := [62]) (skB_no (by decide)).symm (pre_cons _ _)]
    rfl
  have f2 : attrsF 16 (32 :: 98 :: 32 :: 61 :: 32 :: 39 :: (v ++ 39 :: [62])) [([97], v)] = (0, [([97], v), ([98], v)], false, []) := by
    rw [attrsF_more (n := 15) (S := 98 :: 32 :: 61 :: 32 :: 39 :: (v ++ 39 :: [62])) (by rw [skB_yes (by decide), skB_no (by decide)]) (pre_ne _ _ (by decide)) (pre_ne _ _ (by decide)) (by rfl) a2 (by rfl)]
    exact f3
  have f1 : attrsF 17 (32 :: 97 :: 61 :: 34 :: (v ++ 34 :: (32 :: 98 :: 32 :: 61 :: 32 :: 39 :: (v ++ 39 :: [62])))) [] = (0, [([97], v), ([98], v)], false, []) := by
    rw [attrsF_more (n := 16) (S := 97 :: 61 :: 34 :: (v ++ 34 :: (32 :: 98 :: 32 :: 61 :: 32 :: 39 :: (v ++ 39 :: [62])))) (by rw [skB_yes (by decide), skB_no (by decide)]) (pre_ne _ _ (by decide)) (pre_ne _ _ (by decide)) (by rfl) a1 (by rfl)]
    exact f2
  have ht : tagL 1 (112 :: 32 :: 97 :: 61 :: 34 :: (v ++ 34 :: (32 :: 98 :: 32 :: 61 :: 32 :: 39 :: (v ++ 39 :: [62])))) = (0, ⟨1, [112], [([97], v), ([98], v)], false, []⟩, []) := by
    obtain ⟨u1, u2⟩ := up_stop (st := [9, 10, 12, 32, 47, 62]) (c := 32) (97 :: 61 :: 34 :: (v ++ 34 :: (32 :: 98 :: 32 :: 61 :: 32 :: 39 :: (v ++ 39 :: [62])))) (by decide) [112] (by decide)
    rw [List.cons_append, List.nil_append] at u1 u2
    unfold tagL
    rw [u1, u2, f1]
    rfl
  have hone : toksL (60 :: 112 :: 32 :: 97 :: 61 :: 34 :: (v ++ 34 :: (32 :: 98 :: 32 :: 61 :: 32 :: 39 :: (v ++ 39 :: [62])))) = (0, 0, [⟨1, [112], [([97], v), ([98], v)], false, []⟩]) :=
    toks_step0 (by simp) ((one_start (by decide)).trans ht) toksL_nil
  refine tokensL_ok ?_ ?_ hone
  · unfold valText
    simp only [List.length_append, List.length_cons, List.length_nil]
    omega
  · unfold valText
    simp only [nz_app, nz_cons, List.cons_append, hzv]
    decide
end Go.Proofs.YtnlbhifpmoemdaaDoor
