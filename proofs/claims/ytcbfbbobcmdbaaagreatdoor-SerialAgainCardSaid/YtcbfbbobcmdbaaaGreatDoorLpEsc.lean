/-
  Documents of one kind, plain: an escaped text as an element's content, and as an attribute's value. No Go in sight; no condition.
-/
import Derived.Test.YtcbfbbobcmdbaaaGreatDoorLpDocs
import Derived.Test.YtcbfbbobcmdbaaaGreatDoorRMSI
import Derived.Test.YtcbfbbobcmdbaaaGreatDoorSPbp
import Derived.Test.YtcbfbbobcmdbaaaGreatDoorBParse
namespace Go.Proofs.YtcbfbbobcmdbaaaGreatDoor
theorem attr_qr {nm v rest : List UInt8} {q : UInt8} (hn : ∀ x ∈ nm, alnB x = true) (hne : nm ≠ []) (hq : q = 34 ∨ q = 39) (hv : ∀ x ∈ v, x ≠ q) (s1 s2 : List UInt8)
    (h1 : skB s1 = 61 :: s2) (h2 : skB s2 = q :: (v ++ q :: rest)) (hs1 : ∃ c t, s1 = c :: t ∧ ([9, 10, 12, 32, 61, 47, 62] : List UInt8).contains c = true) : attrL (nm ++ s1) = some ((smL nm, decL v true), rest) := by
  obtain ⟨c, t, rfl, hc⟩ := hs1
  obtain ⟨u1, u2⟩ := up_stop (st := [9, 10, 12, 32, 61, 47, 62]) (c := c) t hc nm (fun x hx => not_in (by decide) (hn x hx))
  have hvq : ∀ x ∈ v, ([q] : List UInt8).contains x = false := fun x hx => by
    have := hv x hx
    simp [this]
  obtain ⟨w1, w2⟩ := up_stop (st := [q]) (c := q) rest (by simp) v hvq
  unfold attrL
  rw [u1, u2, h1]
  have hne2 : nm.isEmpty = false := by
    cases nm with
    | nil => exact absurd rfl hne
    | cons _ _ => rfl
  rw [hne2, madeL_sm hn, pre_cons]
  simp only [Bool.false_or, Bool.not_true, Bool.false_eq_true, if_false, if_true, List.drop_succ_cons, List.drop_zero]
  rw [h2]
  have hval : valueL (q :: (v ++ q :: rest)) = some (v, rest) := by
    unfold valueL
    rcases hq with rfl | rfl
    · rw [pre_cons, if_pos rfl, List.drop_succ_cons, List.drop_zero, w1, w2, pre_cons, if_pos rfl]
      rfl
    · rw [pre_ne _ _ (by decide), if_neg Bool.false_ne_true, pre_cons, if_pos rfl, List.drop_succ_cons, List.drop_zero, w1, w2, pre_cons, if_pos rfl]
      rfl
  rw [hval]
theorem ref_byte {v : Bool} {r : Nat} {x : UInt8} (hr : x ∈ refL v r) : x.toNat < 128 ∧ x ≠ 0 := by
  by_cases h0 : refL v r = []
  · rw [h0] at hr; cases hr
  · have key : ∀ r ∈ [38, 160, 13, 34, 60, 62], ∀ x ∈ refL v r, x.toNat < 128 ∧ x ≠ 0 := by cases v <;> decide
    refine key r ?_ x hr
    rcases refL_is h0 with rfl | rfl | rfl | rfl | rfl | rfl <;> simp
theorem escB_mem (v : Bool) : ∀ (n : Nat) (l : List UInt8), l.length ≤ n → ∀ c ∈ escB v l, c ∈ l ∨ (c.toNat < 128 ∧ c ≠ 0)
  | _, [], _, c, h => by cases h
  | 0, _ :: _, h, _, _ => by simp at h
  | n + 1, c :: t, h, x, hx => by
    have ht : t.length ≤ n := by simpa using h
    have href : ∀ r : Nat, x ∈ refL v r → x.toNat < 128 ∧ x ≠ 0 := fun r hr => ref_byte hr
    by_cases h1 : c.toNat < 128
    · rw [escB_low t h1, List.mem_append] at hx
      rcases hx with hx | hx
      · by_cases h2 : refL v c.toNat = []
        · rw [if_pos h2, List.mem_singleton] at hx
          exact .inl (hx ▸ List.mem_cons_self ..)
        · rw [if_neg h2] at hx
          exact .inr (href _ hx)
      · exact (escB_mem v n t ht x hx).imp (List.mem_cons_of_mem _) id
    · by_cases h2 : c.toNat = 194 ∧ U.atL t 0 = 160
      · cases t with
        | nil => exact absurd h2.2 (by decide)
        | cons d t =>
          have h3 : d.toNat = 160 := h2.2
          rw [escB_nb t h2.1 h3, List.mem_append] at hx
          rcases hx with hx | hx
          · exact .inr (href _ hx)
          · exact (escB_mem v n t (by simp at ht; omega) x hx).imp (fun m => List.mem_cons_of_mem _ (List.mem_cons_of_mem _ m)) id
      · rw [escB_high t (by omega) h2, List.mem_cons] at hx
        rcases hx with rfl | hx
        · exact .inl (List.mem_cons_self ..)
        · exact (escB_mem v n t ht x hx).imp (List.mem_cons_of_mem _) id
theorem escL_nz {v : Bool} {l : List UInt8} (h : ∀ c ∈ l, c ≠ 0) : ∀ c ∈ escL v l, c ≠ 0 := fun c hc => by
  rw [esc_eq v _ l (Nat.le_refl _)] at hc
  rcases escB_mem v _ l (Nat.le_refl _) c hc with hc | hc
  · exact h c hc
  · exact hc.2
theorem escL_well (v : Bool) : ∀ (n : Nat) (l : List UInt8), l.length ≤ n → U.wellL l = true → U.wellL (escL v l) = true
  | _, [], _, _ => rfl
  | 0, _ :: _, h, _ => by simp at h
  | n + 1, c :: t, h, hw => by
    have h0 : 0 < (c :: t).length := Nat.succ_pos _
    obtain ⟨n1, n2, _⟩ := U.cut_facts (c :: t) h0
    have hw0 := hw
    rw [U.wellL_cons _ h0, Bool.and_eq_true] at hw
    have hd2 : (U.decL (c :: t)).2 = (U.cutL (c :: t)).n := by unfold U.decL; rw [if_pos hw.1]
    have ih := escL_well v n ((c :: t).drop (U.cutL (c :: t)).n) (by rw [List.length_drop]; simp only [List.length_cons] at h ⊢; omega) hw.2
    rw [escL_cons v _ h0, hd2]
    refine U.well_app ?_ ih
    split
    · rename_i hr
      have he := U.cut_enc (c :: t) h0 hw.1
      rw [he]
      have := (U.encL_app [((U.cutL (c :: t)).r : Int)] []).2
      rw [List.append_nil, show encL [((U.cutL (c :: t)).r : Int)] = Lib.encodeRune ((U.cutL (c :: t)).r : Int) by simp [encL]] at this
      rw [this]
      rfl
    · rename_i hr
      exact U.well_ascii _ fun b hb => (ref_byte hb).1
/-- The elements of the subset that are not void, in the law's order. -/
def nmT : List (List UInt8) := [[100, 105, 118], [117, 108], [111, 108], [115, 101, 99, 116, 105, 111, 110], [97, 114, 116, 105, 99, 108, 101], [104, 101, 97, 100, 101, 114], [102, 111, 111, 116, 101, 114], [109, 97, 105, 110], [110, 97, 118], [97, 115, 105, 100, 101], [98, 108, 111, 99, 107, 113, 117, 111, 116, 101], [102, 105, 103, 117, 114, 101], [112], [108, 105], [104, 49], [104, 50], [104, 51], [104, 52], [104, 53], [104, 54], [115, 112, 97, 110], [98], [105], [101, 109], [115, 116, 114, 111, 110, 103], [117], [115], [115, 109, 97, 108, 108], [99, 111, 100, 101], [98, 100, 105], [98, 100, 111], [97, 98, 98, 114], [99, 105, 116, 101], [113], [115, 117, 98], [115, 117, 112], [109, 97, 114, 107], [97]]
theorem nmT_len : nmT.length = 38 := by decide
def nmOk (w : List UInt8) : Bool := isLet (w.getD 0 0) && w.all alnB && (smL w == w) && decide (w.length ≤ 10) && !w.isEmpty && decide (1 ≤ kindL w) && decide (kindL w ≤ 6)
theorem nmT_ok : ∀ w ∈ nmT, nmOk w = true := by decide +kernel
theorem nm_facts {w : List UInt8} (h : w ∈ nmT) : isLet (w.getD 0 0) = true ∧ (∀ x ∈ w, alnB x = true) ∧ smL w = w ∧ w.length ≤ 10 ∧ w ≠ [] ∧ 1 ≤ kindL w ∧ kindL w ≤ 6 := by
  have h := nmT_ok w h
  unfold nmOk at h
  simp only [Bool.and_eq_true, decide_eq_true_eq, List.all_eq_true, beq_iff_eq, Bool.not_eq_true'] at h
  obtain ⟨⟨⟨⟨⟨⟨h1, h2⟩, h3⟩, h4⟩, h5⟩, h6⟩, h7⟩ := h
  exact ⟨h1, h2, h3, h4, (fun e => by rw [e] at h5; cases h5), h6, h7⟩
theorem one_textR {a : List UInt8} (hne : a ≠ []) (h60 : ∀ c ∈ a, c ≠ 60) (m : List UInt8) (hm : m = [] ∨ leavesL m = true) : oneL (a ++ m) = (0, ⟨3, [], [], false, decL a false⟩, m) := by
  cases a with
  | nil => exact absurd rfl hne
  | cons c t =>
    unfold oneL
    have h1 : textN ((c :: t ++ m).drop 1) = t.length := by
      show textN (t ++ m) = t.length
      rcases hm with rfl | hm
      · rw [List.append_nil]
        exact textN_all t (fun x hx => h60 x (List.mem_cons_of_mem _ hx))
      · exact textN_pre m hm t (fun x hx => h60 x (List.mem_cons_of_mem _ hx))
    rw [show leavesL (c :: t ++ m) = false from leaves_lt _ (h60 c (List.mem_cons_self ..)), h1]
    simp only [Bool.not_false, if_true]
    have e1 : (c :: t ++ m).take (t.length + 1) = c :: t := by
      rw [List.take_append_of_le_length (by simp)]
      exact List.take_of_length_le (by simp)
    have e2 : (c :: t ++ m).drop (t.length + 1) = m := by
      have := List.drop_left (l₁ := c :: t) (l₂ := m)
      exact this
    rw [e1, e2]
/-- An element with a text in it. -/
def elemT (w e : List UInt8) : List UInt8 := 60 :: w ++ (62 :: (e ++ (60 :: 47 :: w ++ [62])))
def attrT (w e : List UInt8) : List UInt8 := 60 :: w ++ (32 :: 116 :: 105 :: 116 :: 108 :: 101 :: 61 :: 34 :: (e ++ 34 :: [62]))
theorem toks_elem {w e : List UInt8} (hw : w ∈ nmT) (hne : e ≠ []) (h60 : ∀ c ∈ e, c ≠ 60) (h0 : ∀ c ∈ e, c ≠ 0) (hl : e.length ≤ 60000) :
    tokensL (elemT w e) = (0, 0, [⟨1, w, [], false, []⟩, ⟨3, [], [], false, decL e false⟩, ⟨2, w, [], false, []⟩]) := by
  obtain ⟨f1, f2, f3, f4, f5, _⟩ := nm_facts hw
  have hz := nz_aln f2
  cases w with
  | nil => exact absurd rfl f5
  | cons c t =>
    have hc : isLet c = true := f1
    have t2 := tag_gt 2 f2 []
    have t1 := tag_gt 1 f2 (e ++ (60 :: 47 :: (c :: t) ++ [62]))
    rw [f3] at t1 t2
    have e3 : toksL (60 :: 47 :: (c :: t) ++ [62]) = (0, 0, [⟨2, c :: t, [], false, []⟩]) := by
      refine toks_step0 (by simp) (one_end.trans ?_) toksL_nil
      exact end_ok (l := (c :: t) ++ [62]) rfl (by simpa using hc) t2
    have hlv : leavesL (60 :: 47 :: (c :: t) ++ [62]) = true := by
      unfold leavesL
      simp [atL]
    have e2 := toks_step0 (by simp [hne]) (one_textR hne h60 _ (.inr hlv)) e3
    have e1 : toksL (elemT (c :: t) e) = _ := toks_step0 (by simp) ((one_start hc).trans t1) e2
    refine tokensL_ok ?_ ?_ e1
    · unfold elemT
      simp only [List.length_append, List.length_cons, List.length_nil] at f4 ⊢
      omega
    · unfold elemT
      have he := nz_no h0
      simp only [nz_app, nz_cons, List.cons_append, he] at hz ⊢
      simp only [Bool.and_eq_true] at hz
      rw [hz.1, hz.2]
      rfl
theorem toks_attr {w e : List UInt8} (hw : w ∈ nmT) (h34 : ∀ c ∈ e, c ≠ 34) (h0 : ∀ c ∈ e, c ≠ 0) (hl : e.length ≤ 60000) :
    tokensL (attrT w e) = (0, 0, [⟨1, w, [([116, 105, 116, 108, 101], decL e true)], false, []⟩]) := by
  obtain ⟨f1, f2, f3, f4, f5, _⟩ := nm_facts hw
  have hz := nz_aln f2
  have a1 : attrL ([116, 105, 116, 108, 101] ++ (61 :: 34 :: (e ++ 34 :: [62]))) = some (([116, 105, 116, 108, 101], decL e true), [62]) :=
    attr_qr (nm := [116, 105, 116, 108, 101]) (by decide) (by simp) (.inl rfl) h34 _ (34 :: (e ++ 34 :: [62])) (by rw [skB_no (by decide)]) (by rw [skB_no (by decide)]) ⟨_, _, rfl, by decide⟩
  have g2 : attrsF 16 [62] [([116, 105, 116, 108, 101], decL e true)] = (0, [([116, 105, 116, 108, 101], decL e true)], false, []) := by
    rw [attrsF_gt (S := [62]) (skB_no (by decide)).symm (pre_cons _ _)]
    rfl
  have g1 : attrsF 17 (32 :: 116 :: 105 :: 116 :: 108 :: 101 :: 61 :: 34 :: (e ++ 34 :: [62])) [] = (0, [([116, 105, 116, 108, 101], decL e true)], false, []) := by
    rw [attrsF_more (n := 16) (S := 116 :: 105 :: 116 :: 108 :: 101 :: 61 :: 34 :: (e ++ 34 :: [62])) (by rw [skB_yes (by decide), skB_no (by decide)]) (pre_ne _ _ (by decide)) (pre_ne _ _ (by decide)) (by rfl) a1 (by rfl)]
    exact g2
  cases w with
  | nil => exact absurd rfl f5
  | cons c t =>
    have hc : isLet c = true := f1
    have ht : tagL 1 ((c :: t) ++ 32 :: 116 :: 105 :: 116 :: 108 :: 101 :: 61 :: 34 :: (e ++ 34 :: [62])) = (0, ⟨1, c :: t, [([116, 105, 116, 108, 101], decL e true)], false, []⟩, []) := by
      obtain ⟨u1, u2⟩ := up_stop (st := [9, 10, 12, 32, 47, 62]) (c := 32) (116 :: 105 :: 116 :: 108 :: 101 :: 61 :: 34 :: (e ++ 34 :: [62])) (by decide) (c :: t) (fun x hx => not_in (by decide) (f2 x hx))
      unfold tagL
      rw [u1, u2, g1, madeL_sm f2, f3]
      rfl
    have hone : toksL (attrT (c :: t) e) = _ := toks_step0 (by simp) ((one_start hc).trans ht) toksL_nil
    refine tokensL_ok ?_ ?_ hone
    · unfold attrT
      simp only [List.length_append, List.length_cons, List.length_nil] at f4 ⊢
      omega
    · unfold attrT
      have he := nz_no h0
      simp only [nz_app, nz_cons, List.cons_append, he] at hz ⊢
      simp only [Bool.and_eq_true] at hz
      rw [hz.1, hz.2]
      rfl
theorem kind_facts {k : Nat} (h1 : 1 ≤ k) (h6 : k ≤ 6) : voidK k = false ∧ endsToo k k = false ∧ closeS k [] = [] ∧ admitsO k [] = true := by
  rcases (by omega : k = 1 ∨ k = 2 ∨ k = 3 ∨ k = 4 ∨ k = 5 ∨ k = 6) with rfl | rfl | rfl | rfl | rfl | rfl <;> decide
theorem build_elem {w d : List UInt8} (hw : w ∈ nmT) (hd : d ≠ []) : buildL [⟨1, w, [], false, []⟩, ⟨3, [], [], false, d⟩, ⟨2, w, [], false, []⟩] = (0, 0, [⟨0, [], [], [], -1, [1]⟩, ⟨1, w, [], [], 0, [2]⟩, ⟨2, [], [], d, 1, []⟩]) := by
  obtain ⟨_, _, _, _, _, k1, k6⟩ := nm_facts hw
  obtain ⟨g1, g2, g3, g4⟩ := kind_facts k1 k6
  have hk : kindL w ≠ 0 := by omega
  simp [buildL, buildF, takeB, startB, textB, endB, closeE, addN, Bd.new, hd, topO, Opn.doc, addKid, List.modify, hk, g1, g2, g3, g4]
theorem build_attr {w d n : List UInt8} (hw : w ∈ nmT) : buildL [⟨1, w, [(n, d)], false, []⟩] = (0, 0, [⟨0, [], [], [], -1, [1]⟩, ⟨1, w, [(n, d)], [], 0, []⟩]) := by
  obtain ⟨_, _, _, _, _, k1, k6⟩ := nm_facts hw
  obtain ⟨g1, g2, g3, g4⟩ := kind_facts k1 k6
  have hk : kindL w ≠ 0 := by omega
  simp [buildL, buildF, takeB, startB, addN, Bd.new, topO, Opn.doc, addKid, List.modify, hk, g1, g3, g4]
theorem nm_low {w : List UInt8} (hw : w ∈ nmT) : ∀ x ∈ w, x.toNat < 128 ∧ x ≠ 13 := by
  obtain ⟨_, f2, _⟩ := nm_facts hw
  intro x hx
  have h := f2 x hx
  refine ⟨?_, ?_⟩
  · unfold alnB isLet isDig at h
    simp at h
    omega
  · rintro rfl
    revert h
    decide
theorem safe_mem {v : Bool} {l : List UInt8} (h : SafeL v l) : ∀ c ∈ l, ¬ badB v c := by
  intro c hc
  obtain ⟨i, hi, rfl⟩ := List.mem_iff_getElem.1 hc
  have := h i
  rw [List.drop_eq_getElem_cons hi] at this
  exact this.1
theorem parse_elem {w s : List UInt8} (hw : w ∈ nmT) (hs : s ≠ []) (h0 : ∀ c ∈ s, c ≠ 0) (hwl : U.wellL s = true) (hl : s.length ≤ 5000) : parseL (elemT w (escL false s)) = (0, 0, [⟨0, [], [], [], -1, [1]⟩, ⟨1, w, [], [], 0, [2]⟩, ⟨2, [], [], s, 1, []⟩]) := by
  have hsf := safe_mem (escL_safe false s)
  have hb : ∀ c ∈ escL false s, c ≠ 60 ∧ c ≠ 13 := fun c hc => by
    have := hsf c hc
    refine ⟨?_, ?_⟩ <;> rintro rfl <;> exact this (by unfold badB; decide)
  have hln := escL_len false s
  have hwl2 := escL_well false _ s (Nat.le_refl _) hwl
  have hne : escL false s ≠ [] := fun e => hs (by have := escL_inv false false s; rw [e] at this; exact this.symm)
  have htk := toks_elem hw hne (fun c hc => (hb c hc).1) (escL_nz h0) (by omega)
  rw [escL_inv] at htk
  have f4 := (nm_facts hw).2.2.2.1
  have hlow := nm_low hw
  have hdw : U.decT (elemT w (escL false s)) = elemT w (escL false s) := by
    refine U.dec_well ?_ ?_
    · unfold elemT
      refine U.well_app (U.well_ascii _ fun b hb => ?_) (U.well_app (a := [62]) rfl (U.well_app hwl2 (U.well_ascii _ fun b hb => ?_)))
      · simp only [List.mem_cons] at hb
        rcases hb with rfl | hb
        · decide
        · exact (hlow b hb).1
      · simp only [List.cons_append, List.mem_cons, List.mem_append, List.not_mem_nil, or_false] at hb
        rcases hb with rfl | rfl | hb | rfl
        · decide
        · decide
        · exact (hlow b hb).1
        · decide
    · intro b hm
      unfold elemT at hm
      simp only [List.cons_append, List.mem_cons, List.mem_append, List.not_mem_nil, or_false] at hm
      rcases hm with rfl | hm | rfl | hm | rfl | rfl | hm | rfl
      · decide
      · exact (hlow b hm).2
      · decide
      · exact (hb b hm).2
      · decide
      · decide
      · exact (hlow b hm).2
      · decide
  unfold parseL
  rw [if_neg (by unfold elemT; simp only [List.cons_append, List.length_cons, List.length_append, List.length_nil]; omega), hdw, htk, if_pos rfl]
  exact build_elem hw hs
theorem parse_attr {w s : List UInt8} (hw : w ∈ nmT) (h0 : ∀ c ∈ s, c ≠ 0) (hwl : U.wellL s = true) (hl : s.length ≤ 5000) : parseL (attrT w (escL true s)) = (0, 0, [⟨0, [], [], [], -1, [1]⟩, ⟨1, w, [([116, 105, 116, 108, 101], s)], [], 0, []⟩]) := by
  have hsf := safe_mem (escL_safe true s)
  have hb : ∀ c ∈ escL true s, c ≠ 34 ∧ c ≠ 13 := fun c hc => by
    have := hsf c hc
    refine ⟨?_, ?_⟩ <;> rintro rfl <;> exact this (by unfold badB; decide)
  have hln := escL_len true s
  have hwl2 := escL_well true _ s (Nat.le_refl _) hwl
  have htk := toks_attr hw (fun c hc => (hb c hc).1) (escL_nz (v := true) h0) (by omega)
  rw [escL_inv] at htk
  have f4 := (nm_facts hw).2.2.2.1
  have hlow := nm_low hw
  have hdw : U.decT (attrT w (escL true s)) = attrT w (escL true s) := by
    refine U.dec_well ?_ ?_
    · unfold attrT
      refine U.well_app (U.well_ascii _ fun b hb => ?_) (U.well_app (a := [32, 116, 105, 116, 108, 101, 61, 34]) rfl (U.well_app hwl2 (U.well_ascii _ (by decide))))
      simp only [List.mem_cons] at hb
      rcases hb with rfl | hb
      · decide
      · exact (hlow b hb).1
    · intro b hm
      unfold attrT at hm
      simp only [List.cons_append, List.mem_cons, List.mem_append, List.not_mem_nil, or_false] at hm
      rcases hm with rfl | hm | rfl | rfl | rfl | rfl | rfl | rfl | rfl | rfl | hm | rfl | rfl
      · decide
      · exact (hlow b hm).2
      all_goals first | decide | exact (hb b hm).2
  unfold parseL
  rw [if_neg (by unfold attrT; simp only [List.cons_append, List.length_cons, List.length_append, List.length_nil]; omega), hdw, htk, if_pos rfl]
  exact build_attr hw
end Go.Proofs.YtcbfbbobcmdbaaaGreatDoor
