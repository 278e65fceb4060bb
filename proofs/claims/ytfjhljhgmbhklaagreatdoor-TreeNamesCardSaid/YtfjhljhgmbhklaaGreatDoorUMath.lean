/-
  UTF-8, plain: well-formed texts, characters and texts there and back, decoding piece by piece. No Go text in sight; no condition.
-/
import Derived.Test.YtfjhljhgmbhklaaGreatDoorUDec
import Derived.Test.YtfjhljhgmbhklaaGreatDoorWords
namespace Go.Proofs.YtfjhljhgmbhklaaGreatDoor.U
open Go.RowKit
theorem u8_back (x : Int) (b : UInt8) (h : x = (b.toNat : Int)) : x.toNat.toUInt8 = b := by
  subst h
  simp
theorem back_map : ∀ (l : List UInt8) (z : List Int), z = (l.map fun b => ((b.toNat : Nat) : Int)) → l = z.map (fun x => x.toNat.toUInt8)
  | [], z, h => by subst h; rfl
  | b :: l, z, h => by
    subst h
    rw [List.map_cons, List.map_cons, ← back_map l _ rfl, u8_back _ b rfl]
theorem runesF_len : ∀ (f : Nat) (l : List UInt8), (runesF f l).length ≤ f
  | 0, _ => Nat.le_refl _
  | _ + 1, [] => Nat.zero_le _
  | f + 1, c :: l => by
    unfold runesF
    rw [List.length_cons]
    exact Nat.succ_le_succ (runesF_len f _)
set_option maxRecDepth 100000 in
theorem cut_enc (l : List UInt8) (hl : 0 < l.length) (hok : (cutL l).ok = true) : l.take (cutL l).n = Lib.encodeRune ((cutL l).r : Nat) := by
  have hf := cut_facts l hl
  unfold Lib.encodeRune
  have k0 := atL_lt l 0
  unfold cutL cutN at hok hf ⊢
  by_cases a0 : atL l 0 < 128
  · rw [if_pos a0] at hok hf ⊢
    obtain ⟨a, t, rfl⟩ : ∃ a t, l = a :: t := by
      match l, hl with
      | a :: t, _ => exact ⟨a, t, rfl⟩
    rw [Lib.encodeRuneZ_one (by simp) (by simp; omega)]
    exact back_map [a] _ rfl
  rw [if_neg a0] at hok hf ⊢
  by_cases a1 : 194 ≤ atL l 0 ∧ atL l 0 ≤ 223
  · rw [if_pos a1] at hok hf ⊢
    by_cases c : 1 < l.length ∧ Sec (atL l 0) (atL l 1)
    · rw [if_pos c] at hok hf ⊢
      obtain ⟨a, b, t, rfl⟩ : ∃ a b t, l = a :: b :: t := by
        match l, c.1 with
        | a :: b :: t, _ => exact ⟨a, b, t, rfl⟩
      have hc := sec_cont c.2
      unfold Cont at hc
      have e0 : atL (a :: b :: t) 0 = a.toNat := rfl
      have e1 : atL (a :: b :: t) 1 = b.toNat := rfl
      rw [e0] at a1
      rw [e1] at hc
      simp only [e0, e1]
      rw [Lib.encodeRuneZ_two (by omega) (by omega)]
      refine back_map [a, b] _ ?_
      simp only [List.map_cons, List.map_nil, List.cons.injEq, and_true]
      (repeat' apply And.intro) <;> omega
    · rw [if_neg c] at hok; cases hok
  rw [if_neg a1] at hok hf ⊢
  by_cases a2 : 224 ≤ atL l 0 ∧ atL l 0 ≤ 239
  · rw [if_pos a2] at hok hf ⊢
    by_cases c : 1 < l.length ∧ Sec (atL l 0) (atL l 1)
    · rw [if_pos c] at hok hf ⊢
      by_cases d : 2 < l.length ∧ Cont (atL l 2)
      · rw [if_pos d] at hok hf ⊢
        obtain ⟨a, b, e, t, rfl⟩ : ∃ a b e t, l = a :: b :: e :: t := by
          match l, d.1 with
          | a :: b :: e :: t, _ => exact ⟨a, b, e, t, rfl⟩
        have hc := c.2
        have hd := d.2
        unfold Sec at hc
        unfold Cont at hd
        have e0 : atL (a :: b :: e :: t) 0 = a.toNat := rfl
        have e1 : atL (a :: b :: e :: t) 1 = b.toNat := rfl
        have e2 : atL (a :: b :: e :: t) 2 = e.toNat := rfl
        rw [e0] at a2
        rw [e0, e1] at hc
        rw [e2] at hd
        simp only [e0, e1, e2]
        have hb : 128 ≤ b.toNat ∧ b.toNat ≤ 191 ∧ (a.toNat = 224 → 160 ≤ b.toNat) ∧ (a.toNat = 237 → b.toNat ≤ 159) := by
          (repeat' split at hc) <;> omega
        rw [Lib.encodeRuneZ_three (by omega)]
        refine back_map [a, b, e] _ ?_
        simp only [List.map_cons, List.map_nil, List.cons.injEq, and_true]
        (repeat' apply And.intro) <;> omega
      · rw [if_neg d] at hok; cases hok
    · rw [if_neg c] at hok; cases hok
  rw [if_neg a2] at hok hf ⊢
  by_cases a3 : 240 ≤ atL l 0 ∧ atL l 0 ≤ 244
  · rw [if_pos a3] at hok hf ⊢
    by_cases c : 1 < l.length ∧ Sec (atL l 0) (atL l 1)
    · rw [if_pos c] at hok hf ⊢
      by_cases d : 2 < l.length ∧ Cont (atL l 2)
      · rw [if_pos d] at hok hf ⊢
        by_cases f : 3 < l.length ∧ Cont (atL l 3)
        · rw [if_pos f] at hok hf ⊢
          obtain ⟨a, b, e, g, t, rfl⟩ : ∃ a b e g t, l = a :: b :: e :: g :: t := by
            match l, f.1 with
            | a :: b :: e :: g :: t, _ => exact ⟨a, b, e, g, t, rfl⟩
          have hc := c.2
          have hd := d.2
          have hf2 := f.2
          unfold Sec at hc
          unfold Cont at hd hf2
          have e0 : atL (a :: b :: e :: g :: t) 0 = a.toNat := rfl
          have e1 : atL (a :: b :: e :: g :: t) 1 = b.toNat := rfl
          have e2 : atL (a :: b :: e :: g :: t) 2 = e.toNat := rfl
          have e3 : atL (a :: b :: e :: g :: t) 3 = g.toNat := rfl
          rw [e0] at a3
          rw [e0, e1] at hc
          rw [e2] at hd
          rw [e3] at hf2
          simp only [e0, e1, e2, e3]
          have hb : 128 ≤ b.toNat ∧ b.toNat ≤ 191 ∧ (a.toNat = 240 → 144 ≤ b.toNat) ∧ (a.toNat = 244 → b.toNat ≤ 143) := by
            (repeat' split at hc) <;> omega
          rw [Lib.encodeRuneZ_four (by omega) (by omega)]
          refine back_map [a, b, e, g] _ ?_
          simp only [List.map_cons, List.map_nil, List.cons.injEq, and_true]
          (repeat' apply And.intro) <;> omega
        · rw [if_neg f] at hok; cases hok
      · rw [if_neg d] at hok; cases hok
    · rw [if_neg c] at hok; cases hok
  · rw [if_neg a3] at hok; cases hok
theorem runesL_len (l : List UInt8) : (runesL l).length ≤ l.length := runesF_len _ _
def wellF : Nat → List UInt8 → Bool
  | 0, _ => true
  | _ + 1, [] => true
  | f + 1, c :: l => (cutL (c :: l)).ok && wellF f ((c :: l).drop (cutL (c :: l)).n)
def wellL (l : List UInt8) : Bool := wellF l.length l
theorem wellF_fuel : ∀ (f g : Nat) (l : List UInt8), l.length ≤ f → l.length ≤ g → wellF f l = wellF g l
  | 0, 0, _, _, _ => rfl
  | 0, g + 1, l, h, _ => by
    have : l = [] := List.eq_nil_of_length_eq_zero (by omega)
    subst this
    rfl
  | f + 1, 0, l, _, h => by
    have : l = [] := List.eq_nil_of_length_eq_zero (by omega)
    subst this
    rfl
  | f + 1, g + 1, [], _, _ => rfl
  | f + 1, g + 1, c :: l, h1, h2 => by
    have hc := cut_facts (c :: l) (by simp)
    unfold wellF
    rw [wellF_fuel f g _ (by rw [List.length_drop]; simp at h1; simp; omega) (by rw [List.length_drop]; simp at h2; simp; omega)]
theorem wellL_nil : wellL [] = true := rfl
theorem wellL_cons (l : List UInt8) (h : 0 < l.length) : wellL l = ((cutL l).ok && wellL (l.drop (cutL l).n)) := by
  have hc := cut_facts l h
  obtain ⟨c, t, rfl⟩ : ∃ c t, l = c :: t := by
    cases l with
    | nil => simp at h
    | cons c t => exact ⟨c, t, rfl⟩
  unfold wellL
  rw [List.length_cons]
  show (_ && _) = _
  rw [wellF_fuel t.length ((c :: t).drop (cutL (c :: t)).n).length _ (by rw [List.length_drop, List.length_cons]; omega) (Nat.le_refl _)]
theorem atL_app (l t : List UInt8) (k : Nat) (h : k < l.length) : atL (l ++ t) k = atL l k := by
  unfold atL
  rw [List.getElem?_append_left h]
theorem cut_app (l t : List UInt8) (hl : 0 < l.length) (hok : (cutL l).ok = true) : cutL (l ++ t) = cutL l := by
  have hL : (l ++ t).length = l.length + t.length := List.length_append
  have e0 := atL_app l t 0 hl
  unfold cutL cutN at hok ⊢
  rw [hL, e0]
  by_cases a0 : atL l 0 < 128
  · rw [if_pos a0, if_pos a0]
  rw [if_neg a0] at hok ⊢
  rw [if_neg a0]
  by_cases a1 : 194 ≤ atL l 0 ∧ atL l 0 ≤ 223
  · rw [if_pos a1] at hok ⊢
    rw [if_pos a1]
    by_cases c : 1 < l.length ∧ Sec (atL l 0) (atL l 1)
    · rw [atL_app l t 1 c.1, if_pos c, if_pos ⟨by omega, c.2⟩]
    · rw [if_neg c] at hok; cases hok
  rw [if_neg a1] at hok ⊢
  rw [if_neg a1]
  by_cases a2 : 224 ≤ atL l 0 ∧ atL l 0 ≤ 239
  · rw [if_pos a2] at hok ⊢
    rw [if_pos a2]
    by_cases c : 1 < l.length ∧ Sec (atL l 0) (atL l 1)
    · rw [if_pos c] at hok
      by_cases d : 2 < l.length ∧ Cont (atL l 2)
      · rw [atL_app l t 1 c.1, atL_app l t 2 d.1, if_pos c, if_pos d, if_pos ⟨by omega, c.2⟩, if_pos ⟨by omega, d.2⟩]
      · rw [if_neg d] at hok; cases hok
    · rw [if_neg c] at hok; cases hok
  rw [if_neg a2] at hok ⊢
  rw [if_neg a2]
  by_cases a3 : 240 ≤ atL l 0 ∧ atL l 0 ≤ 244
  · rw [if_pos a3] at hok ⊢
    rw [if_pos a3]
    by_cases c : 1 < l.length ∧ Sec (atL l 0) (atL l 1)
    · rw [if_pos c] at hok
      by_cases d : 2 < l.length ∧ Cont (atL l 2)
      · rw [if_pos d] at hok
        by_cases f : 3 < l.length ∧ Cont (atL l 3)
        · rw [atL_app l t 1 c.1, atL_app l t 2 d.1, atL_app l t 3 f.1, if_pos c, if_pos d, if_pos f, if_pos ⟨by omega, c.2⟩, if_pos ⟨by omega, d.2⟩, if_pos ⟨by omega, f.2⟩]
        · rw [if_neg f] at hok; cases hok
      · rw [if_neg d] at hok; cases hok
    · rw [if_neg c] at hok; cases hok
  · rw [if_neg a3] at hok; cases hok
theorem runesL_app (b : List UInt8) : ∀ (n : Nat) (a : List UInt8), a.length ≤ n → wellL a = true → runesL (a ++ b) = runesL a ++ runesL b
  | 0, a, h, _ => by
    have : a = [] := List.eq_nil_of_length_eq_zero (by omega)
    subst this
    rfl
  | n + 1, a, h, hw => by
    by_cases h0 : 0 < a.length
    · have hc := cut_facts a h0
      rw [wellL_cons a h0, Bool.and_eq_true] at hw
      have hca := cut_app a b h0 hw.1
      rw [runesL_cons (a ++ b) (by rw [List.length_append]; omega), runesL_cons a h0, hca, List.drop_append_of_le_length hc.2.1, runesL_app b n _ (by rw [List.length_drop]; omega) hw.2]
      rfl
    · have : a = [] := List.eq_nil_of_length_eq_zero (by omega)
      subst this
      rfl
/-- The characters of a well-formed text are its bytes again. -/
theorem encL_runes : ∀ (n : Nat) (a : List UInt8), a.length ≤ n → wellL a = true → encL ((runesL a).map fun (r : Nat) => (r : Int)) = a
  | 0, a, h, _ => by
    have : a = [] := List.eq_nil_of_length_eq_zero (by omega)
    subst this
    rfl
  | n + 1, a, h, hw => by
    by_cases h0 : 0 < a.length
    · have hc := cut_facts a h0
      rw [wellL_cons a h0, Bool.and_eq_true] at hw
      have ih := encL_runes n _ (by rw [List.length_drop]; omega) hw.2
      rw [runesL_cons a h0, List.map_cons]
      unfold encL at ih ⊢
      rw [List.flatMap_cons, ih, ← cut_enc a h0 hw.1, List.take_append_drop]
    · have : a = [] := List.eq_nil_of_length_eq_zero (by omega)
      subst this
      rfl
theorem u8_of (x : Int) (n : Nat) (h : x = (n : Int)) (h2 : n < 256) : (x.toNat.toUInt8).toNat = n := by
  subst h
  simp
  omega
theorem cut_of_enc (r : Nat) (t : List UInt8) (hv : r < 55296 ∨ (57344 ≤ r ∧ r ≤ 1114111)) : cutL (Lib.encodeRune (r : Int) ++ t) = ⟨r, (Lib.encodeRune (r : Int)).length, true⟩ := by
  unfold Lib.encodeRune
  by_cases c1 : r < 128
  · rw [Lib.encodeRuneZ_one (by omega) (by omega)]
    simp only [List.map_cons, List.map_nil, List.cons_append, List.nil_append, List.length_cons, List.length_nil]
    have ha := u8_of (r : Int) r rfl (by omega)
    generalize ((r : Int).toNat.toUInt8) = a at *
    have e0 : atL (a :: t) 0 = a.toNat := rfl
    unfold cutL cutN
    rw [e0, ha, if_pos c1]
  by_cases c2 : r < 2048
  · rw [Lib.encodeRuneZ_two (by omega) (by omega)]
    simp only [List.map_cons, List.map_nil, List.cons_append, List.nil_append, List.length_cons, List.length_nil]
    have ha := u8_of (192 + (r : Int) / 64) (192 + r / 64) (by omega) (by omega)
    have hb := u8_of (128 + (r : Int) % 64) (128 + r % 64) (by omega) (by omega)
    generalize ((192 + (r : Int) / 64).toNat.toUInt8) = a at *
    generalize ((128 + (r : Int) % 64).toNat.toUInt8) = b at *
    have e0 : atL (a :: b :: t) 0 = a.toNat := rfl
    have e1 : atL (a :: b :: t) 1 = b.toNat := rfl
    have hs : Sec a.toNat b.toNat := by
      unfold Sec
      (repeat' split) <;> omega
    unfold cutL cutN
    rw [e0, e1, if_neg (by omega), if_pos (by omega), if_pos ⟨by simp, hs⟩]
    congr 1
    omega
  by_cases c3 : r < 65536
  · rw [Lib.encodeRuneZ_three (by omega)]
    simp only [List.map_cons, List.map_nil, List.cons_append, List.nil_append, List.length_cons, List.length_nil]
    have ha := u8_of (224 + (r : Int) / 4096) (224 + r / 4096) (by omega) (by omega)
    have hb := u8_of (128 + (r : Int) / 64 % 64) (128 + r / 64 % 64) (by omega) (by omega)
    have hd := u8_of (128 + (r : Int) % 64) (128 + r % 64) (by omega) (by omega)
    generalize ((224 + (r : Int) / 4096).toNat.toUInt8) = a at *
    generalize ((128 + (r : Int) / 64 % 64).toNat.toUInt8) = b at *
    generalize ((128 + (r : Int) % 64).toNat.toUInt8) = d at *
    have e0 : atL (a :: b :: d :: t) 0 = a.toNat := rfl
    have e1 : atL (a :: b :: d :: t) 1 = b.toNat := rfl
    have e2 : atL (a :: b :: d :: t) 2 = d.toNat := rfl
    have hs : Sec a.toNat b.toNat := by
      unfold Sec
      (repeat' split) <;> omega
    have hs2 : Cont d.toNat := by unfold Cont; omega
    unfold cutL cutN
    rw [e0, e1, e2, if_neg (by omega), if_neg (by omega), if_pos (by omega), if_pos ⟨by simp, hs⟩, if_pos ⟨by simp, hs2⟩]
    congr 1
    omega
  · rw [Lib.encodeRuneZ_four (by omega) (by omega)]
    simp only [List.map_cons, List.map_nil, List.cons_append, List.nil_append, List.length_cons, List.length_nil]
    have ha := u8_of (240 + (r : Int) / 262144) (240 + r / 262144) (by omega) (by omega)
    have hb := u8_of (128 + (r : Int) / 4096 % 64) (128 + r / 4096 % 64) (by omega) (by omega)
    have hd := u8_of (128 + (r : Int) / 64 % 64) (128 + r / 64 % 64) (by omega) (by omega)
    have hf := u8_of (128 + (r : Int) % 64) (128 + r % 64) (by omega) (by omega)
    generalize ((240 + (r : Int) / 262144).toNat.toUInt8) = a at *
    generalize ((128 + (r : Int) / 4096 % 64).toNat.toUInt8) = b at *
    generalize ((128 + (r : Int) / 64 % 64).toNat.toUInt8) = d at *
    generalize ((128 + (r : Int) % 64).toNat.toUInt8) = f at *
    have e0 : atL (a :: b :: d :: f :: t) 0 = a.toNat := rfl
    have e1 : atL (a :: b :: d :: f :: t) 1 = b.toNat := rfl
    have e2 : atL (a :: b :: d :: f :: t) 2 = d.toNat := rfl
    have e3 : atL (a :: b :: d :: f :: t) 3 = f.toNat := rfl
    have hs : Sec a.toNat b.toNat := by
      unfold Sec
      (repeat' split) <;> omega
    have hs2 : Cont d.toNat := by unfold Cont; omega
    have hs3 : Cont f.toNat := by unfold Cont; omega
    unfold cutL cutN
    rw [e0, e1, e2, e3, if_neg (by omega), if_neg (by omega), if_neg (by omega), if_pos (by omega), if_pos ⟨by simp, hs⟩, if_pos ⟨by simp, hs2⟩, if_pos ⟨by simp, hs3⟩]
    congr 1
    omega
def Val (r : Nat) : Prop := r < 55296 ∨ (57344 ≤ r ∧ r ≤ 1114111)
def fixR (r : Int) : Nat := if r < 0 ∨ (55296 ≤ r ∧ r ≤ 57343) ∨ 1114111 < r then 65533 else r.toNat
theorem fix_val (r : Int) : Val (fixR r) := by
  unfold fixR Val
  split <;> omega
theorem enc_fix (r : Int) : Lib.encodeRune r = Lib.encodeRune ((fixR r : Nat) : Int) := by
  unfold fixR
  split
  · rename_i h
    unfold Lib.encodeRune
    rw [Lib.encodeRuneZ_bad h]
    decide
  · rename_i h
    congr 1
    omega
theorem fix_of (r : Nat) (h : Val r) : fixR (r : Int) = r := by
  unfold fixR
  unfold Val at h
  rw [if_neg (by omega)]
  rfl
theorem one_app (r : Int) (t : List UInt8) : runesL (Lib.encodeRune r ++ t) = fixR r :: runesL t ∧ wellL (Lib.encodeRune r ++ t) = wellL t := by
  have hl : 0 < (Lib.encodeRune r ++ t).length := by
    have := (enc_le r).1
    rw [List.length_append]
    omega
  have hc := cut_of_enc (fixR r) t (fix_val r)
  rw [← enc_fix] at hc
  rw [runesL_cons _ hl, wellL_cons _ hl, hc]
  simp
theorem encL_app (l : List Int) (t : List UInt8) : runesL (encL l ++ t) = l.map fixR ++ runesL t ∧ wellL (encL l ++ t) = wellL t := by
  induction l with
  | nil => exact ⟨rfl, rfl⟩
  | cons r l ih =>
    have h := one_app r (encL l ++ t)
    rw [ih.1, ih.2] at h
    have e : encL (r :: l) ++ t = Lib.encodeRune r ++ (encL l ++ t) := by
      unfold encL
      rw [List.flatMap_cons, List.append_assoc]
    rw [e]
    exact h
/-- Characters as a text, and back: what is no character is told as FFFD. -/
theorem runes_encL (l : List Int) : runesL (encL l) = l.map fixR ∧ wellL (encL l) = true := by
  have h := encL_app l []
  rw [List.append_nil, runesL_nil, List.append_nil] at h
  exact h
theorem cut_val (l : List UInt8) : Val (cutL l).r := by
  have h0 := atL_lt l 0
  have h1 := atL_lt l 1
  have h2 := atL_lt l 2
  have h3 := atL_lt l 3
  unfold Val cutL cutN Sec Cont bad
  (repeat' split) <;> simp_all <;> omega
theorem runesF_val : ∀ (f : Nat) (l : List UInt8), ∀ r ∈ runesF f l, Val r
  | 0, _, r, h => by cases h
  | _ + 1, [], r, h => by cases h
  | f + 1, c :: l, r, h => by
    unfold runesF at h
    rcases List.mem_cons.1 h with rfl | h
    · exact cut_val _
    · exact runesF_val f _ r h
theorem runesL_val (l : List UInt8) : ∀ r ∈ runesL l, Val r := runesF_val _ l
/-- The characters with their line ends made one. -/
def normL : Nat → List Nat → List Nat
  | _, [] => []
  | b, r :: rs => (if r = 13 then [10] else if r = 10 ∧ b = 13 then [] else [r]) ++ normL r rs
theorem normL_cons (b r : Nat) (rs : List Nat) : normL b (r :: rs) = (if r = 13 then [10] else if r = 10 ∧ b = 13 then [] else [r]) ++ normL r rs := rfl
theorem dec_norm : ∀ (rs : List Nat) (b : Nat) (acc : List UInt8), (rs.foldl decStep (b, acc)).2 = acc ++ encL ((normL b rs).map fun (r : Nat) => (r : Int))
  | [], b, acc => by simp [normL, encL]
  | r :: rs, b, acc => by
    rw [List.foldl_cons]
    show (rs.foldl decStep (r, acc ++ piece b r)).2 = _
    rw [dec_norm rs r, normL_cons]
    unfold piece encL
    by_cases h13 : r = 13
    · rw [if_pos h13, if_pos h13, List.map_append, List.flatMap_append, List.append_assoc]
      rfl
    · rw [if_neg h13, if_neg h13]
      by_cases h10 : r = 10 ∧ b = 13
      · rw [if_pos h10, if_pos h10, List.append_nil, List.nil_append]
      · rw [if_neg h10, if_neg h10, List.map_append, List.flatMap_append, List.append_assoc]
        simp
theorem norm_mem : ∀ (rs : List Nat) (b : Nat), (∀ r ∈ rs, Val r) → ∀ r ∈ normL b rs, Val r ∧ r ≠ 13
  | [], _, _, r, h => by cases h
  | q :: rs, b, hv, r, h => by
    unfold normL at h
    rcases List.mem_append.1 h with h | h
    · split at h
      · simp at h
        subst h
        exact ⟨by unfold Val; omega, by decide⟩
      · split at h
        · cases h
        · simp at h
          subst h
          exact ⟨hv _ (List.mem_cons_self ..), by assumption⟩
    · exact norm_mem rs q (fun x hx => hv x (List.mem_cons_of_mem _ hx)) r h
theorem norm_same : ∀ (rs : List Nat) (b : Nat), b ≠ 13 → (∀ r ∈ rs, r ≠ 13) → normL b rs = rs
  | [], _, _, _ => rfl
  | r :: rs, b, hb, h => by
    unfold normL
    have hr := h r (List.mem_cons_self ..)
    rw [if_neg hr, if_neg (fun hh => hb hh.2), norm_same rs r hr (fun x hx => h x (List.mem_cons_of_mem _ hx))]
    rfl
/-- The text that bytes are decoded as. -/
def decT (bs : List UInt8) : List UInt8 := (decSt (runesL bs)).2
theorem decT_eq (bs : List UInt8) : decT bs = encL ((normL 0 (runesL bs)).map fun (r : Nat) => (r : Int)) := by
  have h := dec_norm (runesL bs) 0 []
  rw [List.nil_append] at h
  exact h
theorem decT_runes (bs : List UInt8) : runesL (decT bs) = normL 0 (runesL bs) ∧ wellL (decT bs) = true := by
  rw [decT_eq]
  have h := runes_encL ((normL 0 (runesL bs)).map fun (r : Nat) => (r : Int))
  refine ⟨?_, h.2⟩
  rw [h.1, List.map_map]
  have hm := norm_mem (runesL bs) 0 (runesL_val bs)
  generalize normL 0 (runesL bs) = l at hm
  induction l with
  | nil => rfl
  | cons r l ih =>
    rw [List.map_cons, ih (fun x hx => hm x (List.mem_cons_of_mem _ hx))]
    show fixR (r : Int) :: l = _
    rw [fix_of r (hm r (List.mem_cons_self ..)).1]
/-- What is decoded is decoded as itself. -/
theorem decT_again (bs : List UInt8) : decT (decT bs) = decT bs := by
  rw [decT_eq (decT bs), (decT_runes bs).1, norm_same _ 0 (by decide) (fun r hr => (norm_mem (runesL bs) 0 (runesL_val bs) r hr).2), ← decT_eq]
theorem enc_no13 (r : Nat) (h : r ≠ 13) : ∀ b ∈ Lib.encodeRune (r : Int), b.toNat ≠ 13 := by
  intro b hb
  unfold Lib.encodeRune at hb
  rw [List.mem_map] at hb
  obtain ⟨x, hx, rfl⟩ := hb
  have hx2 : x ≠ 13 ∧ 0 ≤ x ∧ x < 256 := by
    have hbd := Lib.encodeRuneZ_byte (r : Int) x hx
    refine ⟨?_, hbd.1, hbd.2⟩
    unfold Lib.encodeRuneZ at hx
    (repeat' split at hx) <;> simp at hx <;> omega
  rw [u8_of x x.toNat (by omega) (by omega)]
  omega
theorem decT_no13 (bs : List UInt8) (j : Nat) : atL (decT bs) j ≠ 13 := by
  have hm := norm_mem (runesL bs) 0 (runesL_val bs)
  have hall : ∀ b ∈ decT bs, b.toNat ≠ 13 := by
    rw [decT_eq]
    unfold encL
    intro b hb
    rw [List.mem_flatMap] at hb
    obtain ⟨x, hx, hb⟩ := hb
    rw [List.mem_map] at hx
    obtain ⟨r, hr, rfl⟩ := hx
    exact enc_no13 r (hm r hr).2 b hb
  unfold atL
  cases hg : (decT bs)[j]? with
  | none => decide
  | some b => exact hall b (List.mem_of_getElem? hg)
theorem decT_len (bs : List UInt8) : (decT bs).length ≤ 4 * bs.length := by
  have h1 := decSt_len (runesL bs) (0, [])
  have h2 := runesL_len bs
  have h1' : (decT bs).length ≤ 4 * (runesL bs).length := by simpa [decT, decSt] using h1
  omega
def lastR : Nat → List Nat → Nat
  | b, [] => b
  | _, r :: rs => lastR r rs
theorem normL_app : ∀ (xs ys : List Nat) (b : Nat), normL b (xs ++ ys) = normL b xs ++ normL (lastR b xs) ys
  | [], _, _ => rfl
  | r :: rs, ys, b => by
    show normL b (r :: (rs ++ ys)) = _
    rw [normL_cons, normL_cons, normL_app rs ys r, List.append_assoc]
    rfl
theorem normL_start (b : Nat) (hb : b ≠ 13) : ∀ ys : List Nat, normL b ys = normL 0 ys
  | [] => rfl
  | r :: rs => by
    rw [normL_cons, normL_cons]
    congr 1
    by_cases h : r = 13
    · rw [if_pos h, if_pos h]
    · rw [if_neg h, if_neg h, if_neg (fun hh => hb hh.2), if_neg (fun hh => absurd hh.2 (by decide))]
theorem lastR_snoc : ∀ (xs : List Nat) (b r : Nat), lastR b (xs ++ [r]) = r
  | [], _, _ => rfl
  | _ :: xs, _, r => lastR_snoc xs _ r
theorem lastR_13 (xs : List Nat) (b : Nat) (hb : b ≠ 13) (h : lastR b xs = 13) : ∃ ys, xs = ys ++ [13] := by
  rcases List.eq_nil_or_concat xs with rfl | ⟨ys, r, rfl⟩
  · exact absurd h hb
  · rw [List.concat_eq_append, lastR_snoc] at h
    exact ⟨ys, by rw [h, List.concat_eq_append]⟩
theorem encL_app2 (xs ys : List Int) : encL (xs ++ ys) = encL xs ++ encL ys := by unfold encL; rw [List.flatMap_append]
/-- A text behind a well-formed one that ends with no carriage return is decoded as alone. -/
theorem decT_app (a b : List UInt8) (hw : wellL a = true) (h13 : ∀ t, a ≠ t ++ [13]) : decT (a ++ b) = decT a ++ decT b := by
  have hl : lastR 0 (runesL a) ≠ 13 := fun h => by
    obtain ⟨ys, hy⟩ := lastR_13 _ 0 (by decide) h
    have he := encL_runes a.length a (Nat.le_refl _) hw
    rw [hy, List.map_append, encL_app2] at he
    exact h13 (encL (ys.map fun (r : Nat) => (r : Int))) he.symm
  rw [decT_eq (a ++ b), decT_eq a, decT_eq b, runesL_app b a.length a (Nat.le_refl _) hw, normL_app, normL_start _ hl, List.map_append, encL_app2]
end Go.Proofs.YtfjhljhgmbhklaaGreatDoor.U
