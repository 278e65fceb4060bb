/-
  Documents of one kind, plain: a name behind a text, a text cut by a comment. No Go in sight; no condition.
-/
import Derived.Test.YtlcijlklbabajaaGreatDoorTHRi
import Derived.Test.YtlcijlklbabajaaGreatDoorTBPl
import Derived.Test.YtlcijlklbabajaaGreatDoorUCut
namespace Go.Proofs.YtlcijlklbabajaaGreatDoor
theorem leaves_lt {c : UInt8} (l : List UInt8) (hc : c ≠ 60) : leavesL (c :: l) = false := by
  unfold leavesL
  have : (atL (c :: l) 0 == 60) = false := by
    refine beq_false_of_ne fun h => hc ?_
    unfold atL at h
    exact UInt8.toNat_inj.1 h
  rw [this]
  simp
theorem textN_pre (m : List UInt8) (hm : leavesL m = true) : ∀ (a : List UInt8), (∀ c ∈ a, c ≠ 60) → textN (a ++ m) = a.length
  | [], _ => textN_stop hm
  | c :: t, h => by
    rw [List.cons_append]
    unfold textN
    rw [if_neg (by rw [leaves_lt _ (h c (List.mem_cons_self ..))]; exact Bool.false_ne_true), textN_pre m hm t (fun x hx => h x (List.mem_cons_of_mem _ hx))]
    rfl
theorem textN_all : ∀ (a : List UInt8), (∀ c ∈ a, c ≠ 60) → textN a = a.length
  | [], _ => rfl
  | c :: t, h => by
    unfold textN
    rw [if_neg (by rw [leaves_lt _ (h c (List.mem_cons_self ..))]; exact Bool.false_ne_true), textN_all t (fun x hx => h x (List.mem_cons_of_mem _ hx))]
    rfl
theorem one_text {a : List UInt8} (hne : a ≠ []) (h60 : ∀ c ∈ a, c ≠ 60) (h38 : ∀ c ∈ a, c ≠ 38) (m : List UInt8) (hm : m = [] ∨ leavesL m = true) : oneL (a ++ m) = (0, ⟨3, [], [], false, a⟩, m) := by
  cases a with
  | nil => exact absurd rfl hne
  | cons c t =>
    unfold oneL
    have h1 : textN ((c :: t ++ m).drop 1) = t.length := by
      show textN (t ++ m) = t.length
      rcases hm with rfl | hm
      · rw [List.append_nil]
        exact textN_all t (fun x hx => h60 x (List.mem_cons_of_mem _ hx))
      · exact textN_pre m hm t (fun x hx => h60 x (List.mem_cons_of_mem _ hx))
    rw [show leavesL (c :: t ++ m) = false from leaves_lt _ (h60 c (List.mem_cons_self ..)), h1]
    simp only [Bool.not_false, if_true]
    have e1 : (c :: t ++ m).take (t.length + 1) = c :: t := by
      rw [List.take_append_of_le_length (by simp)]
      exact List.take_of_length_le (by simp)
    have e2 : (c :: t ++ m).drop (t.length + 1) = m := by
      have := List.drop_left (l₁ := c :: t) (l₂ := m)
      exact this
    rw [e1, e2, decL_no38 false (c :: t) (fun x hx h => h38 x hx (UInt8.toNat_inj.1 h))]
theorem toks_text {a : List UInt8} (h60 : ∀ c ∈ a, c ≠ 60) (h38 : ∀ c ∈ a, c ≠ 38) (m : List UInt8) (hm : m = [] ∨ leavesL m = true) {ts : List Tk} (h : toksL m = (0, 0, ts)) :
    toksL (a ++ m) = (0, 0, if a = [] then ts else ⟨3, [], [], false, a⟩ :: ts) := by
  by_cases ha : a = []
  · rw [if_pos ha, ha]
    exact h
  · rw [if_neg ha]
    exact toks_step0 (by simp [ha]) (one_text ha h60 h38 m hm) h
theorem nz_no {l : List UInt8} (h : ∀ c ∈ l, c ≠ 0) : nz l = true := by
  unfold nz
  rw [List.all_eq_true]
  intro c hc
  exact bne_iff_ne.2 (h c hc)
/-- A name behind a text. -/
theorem toks_name {n : List UInt8} (hne : n ≠ []) (h0 : isLet (n.getD 0 0) = true) (h : ∀ x ∈ n, alnB x = true) (hl : n.length ≤ 200) :
    tokensL (120 :: 60 :: n ++ [62]) = (0, 0, [⟨3, [], [], false, [120]⟩, ⟨1, smL n, [], false, []⟩]) := by
  have hz := nz_aln h
  cases n with
  | nil => exact absurd rfl hne
  | cons c t =>
    have hc : isLet c = true := h0
    have e2 : toksL (60 :: (c :: t) ++ [62]) = (0, 0, [⟨1, smL (c :: t), [], false, []⟩]) :=
      toks_step0 (by simp) ((one_start hc).trans (tag_gt 1 h [])) toksL_nil
    have hlv : leavesL (60 :: (c :: t) ++ [62]) = true := by
      unfold leavesL
      show (decide (2 ≤ (60 :: c :: t ++ [62]).length) && (atL (60 :: c :: t ++ [62]) 0 == 60) && (isLet c || _)) = true
      rw [hc, Bool.true_or, Bool.and_true, decide_eq_true (by simp)]
      rfl
    have e1 := toks_text (a := [120]) (by decide) (by decide) _ (.inr hlv) e2
    refine tokensL_ok ?_ ?_ e1
    · simp only [List.length_append, List.length_cons, List.length_nil] at hl ⊢
      omega
    · show nz (120 :: 60 :: ((c :: t) ++ [62])) = true
      rw [nz_cons, nz_cons, nz_app, hz]
      rfl
theorem build_name (n : List UInt8) : buildL [⟨3, [], [], false, [120]⟩, ⟨1, n, [], false, []⟩] =
    if kindL n = 0 then (50, 1, []) else (0, 0, [⟨0, [], [], [], -1, [1, 2]⟩, ⟨2, [], [], [120], 0, []⟩, ⟨1, n, [], [], 0, []⟩]) := by
  have e : takeB Bd.new ⟨3, [], [], false, [120]⟩ true = (0, ⟨[⟨0, [], [], [], -1, [1]⟩, ⟨2, [], [], [120], 0, []⟩], []⟩) := by decide +kernel
  have e2 : takeB ⟨[⟨0, [], [], [], -1, [1]⟩, ⟨2, [], [], [120], 0, []⟩], []⟩ ⟨1, n, [], false, []⟩ false = startB ⟨[⟨0, [], [], [], -1, [1]⟩, ⟨2, [], [], [120], 0, []⟩], []⟩ ⟨1, n, [], false, []⟩ := rfl
  have hb : buildL [⟨3, [], [], false, [120]⟩, ⟨1, n, [], false, []⟩] = if (startB ⟨[⟨0, [], [], [], -1, [1]⟩, ⟨2, [], [], [120], 0, []⟩], []⟩ ⟨1, n, [], false, []⟩).1 = 0 then (0, 0, (startB ⟨[⟨0, [], [], [], -1, [1]⟩, ⟨2, [], [], [120], 0, []⟩], []⟩ ⟨1, n, [], false, []⟩).2.tree) else ((startB ⟨[⟨0, [], [], [], -1, [1]⟩, ⟨2, [], [], [120], 0, []⟩], []⟩ ⟨1, n, [], false, []⟩).1, 1, []) := by
    unfold buildL
    rw [buildF, show ((0 : Nat) == 0) = true from rfl, e]
    simp only [if_true]
    rw [buildF, show ((0 + 1 : Nat) == 0) = false from rfl, e2]
    rfl
  rw [hb]
  have hcs : closeS (kindL n) [] = [] := by
    unfold closeS
    simp [topO, Opn.doc]
  have had : admitsO (kindL n) [] = true := by
    unfold admitsO
    simp [hasO, topO, Opn.doc]
  by_cases hk : kindL n = 0
  · rw [if_pos hk]
    simp [startB, hk]
  · rw [if_neg hk]
    by_cases hv : voidK (kindL n) = true
    · simp [startB, hk, hcs, had, hv, addN, addKid, topO, Opn.doc, List.modify]
    · simp [startB, hk, hcs, had, hv, addN, addKid, topO, Opn.doc, List.modify]
/-- A text cut by a comment. -/
def comM : List UInt8 := [60, 33, 45, 45, 120, 45, 45, 62]
theorem toks_cut {a b : List UInt8} (h60 : ∀ c ∈ a ++ b, c ≠ 60) (h38 : ∀ c ∈ a ++ b, c ≠ 38) (h0 : ∀ c ∈ a ++ b, c ≠ 0) (hl : a.length + b.length ≤ 60000) :
    tokensL (a ++ (comM ++ b)) = (0, 0, (if a = [] then [] else [⟨3, [], [], false, a⟩]) ++ (⟨4, [], [], false, [120]⟩ :: (if b = [] then [] else [⟨3, [], [], false, b⟩]))) := by
  have hb := toks_text (a := b) (fun c hc => h60 c (List.mem_append_right _ hc)) (fun c hc => h38 c (List.mem_append_right _ hc)) [] (.inl rfl) toksL_nil
  rw [List.append_nil] at hb
  have hone : oneL (comM ++ b) = (0, ⟨4, [], [], false, [120]⟩, [] ++ b) := one_app (by decide) (show oneL comM = _ by decide +kernel) (.inl (by decide))
  have hm := toks_step0 (by simp [comM]) hone hb
  have hlv : leavesL (comM ++ b) = true := leaves_app (by decide +kernel)
  have ha := toks_text (a := a) (fun c hc => h60 c (List.mem_append_left _ hc)) (fun c hc => h38 c (List.mem_append_left _ hc)) _ (.inr hlv) hm
  rw [tokensL_ok ?_ ?_ ha]
  · congr 2
    by_cases ha : a = []
    · rw [if_pos ha, if_pos ha]
      rfl
    · rw [if_neg ha, if_neg ha]
      rfl
  · rw [List.length_append, List.length_append]
    show a.length + (8 + b.length) ≤ 65536
    omega
  · rw [nz_app, nz_app, nz_no (fun c hc => h0 c (List.mem_append_left _ hc)), nz_no (fun c hc => h0 c (List.mem_append_right _ hc))]
    rfl
theorem build_cut {a b : List UInt8} (h : a ++ b ≠ []) : buildL ((if a = [] then [] else [⟨3, [], [], false, a⟩]) ++ (⟨4, [], [], false, [120]⟩ :: (if b = [] then [] else [⟨3, [], [], false, b⟩]))) = (0, 0, [⟨0, [], [], [], -1, [1]⟩, ⟨2, [], [], a ++ b, 0, []⟩]) := by
  by_cases ha : a = []
  · subst ha
    have hb : b ≠ [] := by simpa using h
    simp only [hb, if_true, if_false, List.nil_append]
    simp [buildL, buildF, takeB, textB, addN, Bd.new, hb, topO, Opn.doc, addKid, List.modify]
  · by_cases hb : b = []
    · subst hb
      simp [buildL, buildF, takeB, textB, addN, Bd.new, ha, topO, Opn.doc, addKid, List.modify]
    · simp [buildL, buildF, takeB, textB, addN, Bd.new, ha, hb, topO, Opn.doc, addKid, List.modify]
namespace U
theorem dec_well {bs : List UInt8} (hw : wellL bs = true) (h13 : ∀ b ∈ bs, b ≠ 13) : decT bs = bs := by
  have he := encL_runes bs.length bs (Nat.le_refl _) hw
  have hr : ∀ r ∈ runesL bs, r ≠ 13 := by
    rintro r hr rfl
    have : (13 : UInt8) ∈ bs := by
      rw [← he]
      unfold encL
      refine List.mem_flatMap.2 ⟨((13 : Nat) : Int), List.mem_map.2 ⟨13, hr, rfl⟩, ?_⟩
      decide
    exact h13 13 this rfl
  rw [decT_eq, norm_same _ 0 (by decide) hr, he]
theorem well_ascii : ∀ (bs : List UInt8), (∀ b ∈ bs, b.toNat < 128) → wellL bs = true
  | [], _ => rfl
  | c :: t, h => by
    have hc := h c (List.mem_cons_self ..)
    have hcut : cutL (c :: t) = ⟨c.toNat, 1, true⟩ := by
      unfold cutL cutN
      have : atL (c :: t) 0 = c.toNat := rfl
      rw [this]
      simp [hc]
    rw [wellL_cons _ (by simp), hcut]
    exact well_ascii t (fun x hx => h x (List.mem_cons_of_mem _ hx))
theorem well_app {a b : List UInt8} (ha : wellL a = true) (hb : wellL b = true) : wellL (a ++ b) = true := by
  have he := encL_runes a.length a (Nat.le_refl _) ha
  rw [← he, (encL_app _ b).2, hb]
end U
end Go.Proofs.YtlcijlklbabajaaGreatDoor
