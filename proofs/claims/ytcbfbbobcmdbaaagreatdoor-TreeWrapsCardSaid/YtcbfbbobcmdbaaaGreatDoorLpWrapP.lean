/-
  A document within a div, plain: what is parsed is the same below the div. No Go in sight; no condition.
-/
import Derived.Test.YtcbfbbobcmdbaaaGreatDoorLpWrap
namespace Go.Proofs.YtcbfbbobcmdbaaaGreatDoor
theorem toks_zero (l : List UInt8) (h : (toksL l).1 = 0) : toksL l = (0, 0, (toksL l).2.2) := by
  by_cases hl : l = []
  · rw [hl]; rfl
  · rw [toksL_step l hl] at h ⊢
    by_cases h1 : (oneL l).1 = 0
    · rw [if_pos h1] at h ⊢
      by_cases h2 : (toksL (oneL l).2.2).1 = 0
      · rw [if_pos h2]
      · rw [if_neg h2] at h
        exact absurd h h2
    · rw [if_neg h1] at h
      exact absurd h h1
theorem toksF_count : ∀ (f : Nat) (l : List UInt8), (toksF f l).2.2.length ≤ f
  | 0, _ => Nat.le_refl _
  | f + 1, [] => Nat.zero_le _
  | f + 1, c :: l => by
    unfold toksF
    split
    · split
      · have := toksF_count f (oneL (c :: l)).2.2
        simp only [List.length_cons]
        omega
      · exact Nat.zero_le _
    · exact Nat.zero_le _
theorem tag_kind (k : Nat) (l : List UInt8) : (tagL k l).2.1.kind = k ∨ (tagL k l).2.1.kind = 0 := by
  unfold tagL
  split
  · exact .inr rfl
  · split
    · exact .inl rfl
    · exact .inr rfl
theorem one_five {l : List UInt8} (h : (oneL l).2.1.kind = 5) : atL l 0 = 60 ∧ atL l 1 = 33 := by
  unfold oneL at h
  split at h
  · cases h
  split at h
  · rcases tag_kind 1 (l.drop 1) with e | e <;> rw [e] at h <;> cases h
  split at h
  · unfold endL at h
    split at h
    · cases h
    split at h
    · cases h
    · rcases tag_kind 2 (l.drop 2) with e | e <;> rw [e] at h <;> cases h
  split at h
  · unfold comL at h
    split at h <;> cases h
  split at h
  · rename_i hlv _ _ _ hd
    have hl2 : leavesL l = true := by simpa using hlv
    unfold docO at hd
    rw [Bool.and_eq_true, decide_eq_true_eq, beq_iff_eq] at hd
    have h1 := congrArg (fun x => x.getD 1 0) hd.2
    have h0 : (atL l 0 == 60) = true := by
      unfold leavesL at hl2
      rw [Bool.and_eq_true, Bool.and_eq_true] at hl2
      exact hl2.1.2
    refine ⟨eq_of_beq h0, ?_⟩
    simp only [smL, List.getD_eq_getElem?_getD, List.getElem?_map, List.getElem?_take] at h1
    rw [if_pos (by decide), List.getElem?_eq_getElem (by omega)] at h1
    simp only [Option.map_some, Option.getD_some] at h1
    have hc : l[1] = 33 := by
      by_cases hu : 65 ≤ (l[1]).toNat ∧ (l[1]).toNat ≤ 90
      · have := smC_up l[1] hu
        rw [h1] at this
        have e33 : ((33 : UInt8)).toNat = 33 := rfl
        simp at this
        omega
      · rw [smC_no _ hu] at h1
        simpa using h1
    unfold atL
    rw [List.getElem?_eq_getElem (by omega), hc]
    rfl
  · cases h
namespace U
theorem cut_ascii {l : List UInt8} (hl : 0 < l.length) (h : (cutL l).r < 128) : (cutL l).n = 1 ∧ atL l 0 = (cutL l).r := by
  have hok : (cutL l).ok = true := by
    cases hk : (cutL l).ok with
    | true => rfl
    | false => have := ((cut_facts l hl).2.2.2.2 hk).1; omega
  have he := cut_enc l hl hok
  have hn := (cut_facts l hl).2.1
  have hen : Lib.encodeRune (((cutL l).r : Nat) : Int) = [UInt8.ofNat (cutL l).r] := by
    unfold Lib.encodeRune
    rw [Lib.encodeRuneZ_one (by omega) (by omega)]
    simp
  rw [hen] at he
  have h1 : (cutL l).n = 1 := by
    have := congrArg List.length he
    rw [List.length_take] at this
    simp only [List.length_cons, List.length_nil] at this
    omega
  refine ⟨h1, ?_⟩
  rw [h1] at he
  have := congrArg (fun x => (x[0]?.getD 0).toNat) he
  rw [List.getElem?_take_of_lt (by decide)] at this
  unfold atL
  rw [this]
  show (UInt8.ofNat (cutL l).r).toNat = _
  rw [UInt8.toNat_ofNat']
  omega
theorem dec_two {bs : List UInt8} (h0 : atL (decT bs) 0 = 60) (h1 : atL (decT bs) 1 = 33) : atL bs 0 = 60 ∧ atL bs 1 = 33 := by
  have hr := (decT_runes bs).1
  generalize decT bs = y at *
  have hy : ∃ t, y = 60 :: 33 :: t := by
    match y with
    | [] => cases h0
    | [a] => cases h1
    | a :: b :: t =>
      have e0 : a = 60 := UInt8.toNat_inj.1 h0
      have e1 : b = 33 := UInt8.toNat_inj.1 h1
      exact ⟨t, by rw [e0, e1]⟩
  obtain ⟨t, rfl⟩ := hy
  have c0 : cutL (60 :: 33 :: t) = ⟨60, 1, true⟩ := rfl
  have c1 : cutL (33 :: t) = ⟨33, 1, true⟩ := rfl
  rw [runesL_cons _ (by simp), c0] at hr
  simp only [List.drop_succ_cons, List.drop_zero] at hr
  rw [runesL_cons _ (by simp), c1] at hr
  simp only [List.drop_succ_cons, List.drop_zero] at hr
  have key : ∀ (p : Nat) (rs : List Nat) (a : Nat) (m : List Nat), p ≠ 13 → a ≠ 10 → a ≠ 13 → a :: m = normL p rs → ∃ rs', rs = a :: rs' ∧ m = normL a rs' := by
    intro p rs a m hp ha hb h
    cases rs with
    | nil => cases h
    | cons r rs' =>
      rw [normL_cons] at h
      by_cases h13 : r = 13
      · rw [if_pos h13] at h
        injection h with h _
        exact absurd h ha
      · rw [if_neg h13, if_neg (fun e => hp e.2)] at h
        injection h with e h
        subst e
        exact ⟨rs', rfl, h⟩
  obtain ⟨rs1, hr1, hm1⟩ := key 0 _ 60 _ (by decide) (by decide) (by decide) hr
  obtain ⟨rs2, hr2, _⟩ := key 60 _ 33 _ (by decide) (by decide) (by decide) hm1
  have hb : 0 < bs.length := by
    cases bs with
    | nil => cases hr1
    | cons _ _ => simp
  rw [runesL_cons _ hb] at hr1
  injection hr1 with e1 e2
  obtain ⟨n1, a1⟩ := cut_ascii hb (by omega)
  rw [n1, hr2] at e2
  have hb2 : 0 < (bs.drop 1).length := by
    cases hd : bs.drop 1 with
    | nil => rw [hd] at e2; cases e2
    | cons _ _ => simp
  rw [runesL_cons _ hb2] at e2
  injection e2 with e3 _
  obtain ⟨_, a2⟩ := cut_ascii hb2 (by omega)
  refine ⟨by rw [a1, e1], ?_⟩
  have : atL (bs.drop 1) 0 = atL bs 1 := by
    unfold atL
    rw [List.getElem?_drop]
  rw [← this, a2, e3]
end U
def preW : List UInt8 := [60, 100, 105, 118, 62]
theorem good_new : GoodB Bd.new := ⟨by decide, rfl, fun i h0 hl => by exfalso; have : i < 1 := hl; omega, trivial⟩
theorem nz_of {l : List UInt8} (h : ¬ 0 ≤ Lib.indexByte l 0) : nz l = true := by
  have hg := Lib.indexByte_ge l 0
  have hn := Lib.indexByte_none (l := l) (c := 0) (by omega)
  unfold nz
  rw [List.all_eq_true]
  intro x hx
  obtain ⟨k, hk, rfl⟩ := List.mem_iff_getElem.1 hx
  rw [bne_iff_ne]
  intro e
  exact hn k (by rw [List.getElem?_eq_getElem hk, e])
theorem parse_wrap {bs : List UInt8} {ns : List Nd} (h : parseL bs = (0, 0, ns)) (hl : bs.length ≤ 2000) (h33 : ¬ (atL bs 0 = 60 ∧ atL bs 1 = 33)) :
    DecU (ups ns) ∧ 0 < ns.length ∧ ns.length ≤ 8001 ∧ (ns.headD docW).kind = 0 ∧ ((∀ j, j < ns.length → depU (ups ns) j j ≤ 150) → parseL (preW ++ bs) = (0, 0, wrapT ns)) := by
  have hdl := U.decT_len bs
  have hde : U.decT (preW ++ bs) = preW ++ U.decT bs := by
    rw [U.decT_app preW bs rfl (fun t e => by
      have := congrArg List.getLast? e
      rw [List.getLast?_concat] at this
      revert this
      decide), U.dec_well (bs := preW) rfl (by decide)]
  have hd2 : ¬ (atL (U.decT bs) 0 = 60 ∧ atL (U.decT bs) 1 = 33) := fun e => h33 (U.dec_two (bs := bs) e.1 e.2)
  unfold parseL at h
  rw [if_neg (by omega)] at h
  unfold parseL
  rw [if_neg (by rw [List.length_append]; show ¬ 65536 < 5 + bs.length; omega), hde]
  generalize U.decT bs = y at *
  by_cases ht : (tokensL y).1 = 0
  · rw [if_pos ht] at h
    have hy : toksL y = (0, 0, (tokensL y).2.2) ∧ nz y = true := by
      unfold tokensL at ht ⊢
      by_cases g1 : 65536 < y.length
      · rw [if_pos g1] at ht; cases ht
      rw [if_neg g1] at ht ⊢
      by_cases g2 : 0 ≤ Lib.indexByte y 0
      · rw [if_pos g2] at ht; cases ht
      rw [if_neg g2] at ht ⊢
      by_cases g3 : (toksL y).1 = 0
      · rw [if_pos g3]
        exact ⟨toks_zero y g3, nz_of g2⟩
      · rw [if_neg g3] at ht
        exact absurd ht g3
    generalize (tokensL y).2.2 = ts at *
    have hct : ts.length ≤ y.length := by
      have := toksF_count y.length y
      have e : toksF y.length y = (0, 0, ts) := hy.1
      rw [e] at this
      exact this
    obtain ⟨k1, k2, k3, _, k5⟩ := build_ups ts 0 good_new h
    refine ⟨k1, k2, by have : Bd.new.tree.length = 1 := rfl; omega, k3, fun hd => ?_⟩
    have hone : oneL (preW ++ y) = (0, ⟨1, divN, [], false, []⟩, y) := by
      have hg : tagL 1 (100 :: ([105, 118, 62] ++ y)) = (0, ⟨1, divN, [], false, []⟩, y) := by
        have := tag_gt 1 (n := divN) (by decide) y
        rw [show smL divN = divN by decide] at this
        exact this
      exact (one_start (c := 100) (l := [105, 118, 62] ++ y) (by decide)).trans hg
    have htk := tokensL_ok (l := preW ++ y) (by rw [List.length_append]; show 5 + y.length ≤ 65536; omega) (by rw [nz_app, hy.2]; rfl) (toks_step0 (by simp [preW]) hone hy.1)
    rw [htk, if_pos rfl]
    show buildF (⟨1, divN, [], false, []⟩ :: ts) 0 Bd.new = _
    have e0 : takeB Bd.new ⟨1, divN, [], false, []⟩ true = (0, wrapB Bd.new) := by decide +kernel
    unfold buildF
    rw [show ((0 : Nat) == 0) = true from rfl, e0, if_pos rfl]
    refine buildW ts 0 1 good_new (by show 1 + ts.length ≤ 15000; omega) (fun _ t htm h5 => ?_) hd h
    by_cases hy0 : y = []
    · subst hy0
      have : ts = [] := by
        have := hy.1
        injection this with _ this
        injection this with _ this
        exact this.symm
      rw [this] at htm
      cases htm
    · have hs := hy.1
      rw [toksL_step y hy0] at hs
      by_cases g1 : (oneL y).1 = 0
      · rw [if_pos g1] at hs
        by_cases g2 : (toksL (oneL y).2.2).1 = 0
        · rw [if_pos g2] at hs
          injection hs with _ hs
          injection hs with _ hs
          rw [← hs] at htm
          have : t = (oneL y).2.1 := by simpa using htm.symm
          rw [this] at h5
          exact hd2 (one_five h5)
        · rw [if_neg g2] at hs
          injection hs with hs
          exact absurd hs g2
      · rw [if_neg g1] at hs
        injection hs with hs
        exact absurd hs g1
  · rw [if_neg ht] at h
    injection h with h
    exact absurd h ht
end Go.Proofs.YtcbfbbobcmdbaaaGreatDoor
