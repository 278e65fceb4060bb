/-
  What decoding writes, plain: the characters with their line ends made one; decoded again it is itself. No condition.
-/
import Derived.Test.YtflgiejnklbjnaaOf
namespace Go.Proofs.Ytflgiejnklbjnaa
def Val (r : Nat) : Prop := r < 55296 ∨ (57344 ≤ r ∧ r ≤ 1114111)
def fixR (r : Int) : Nat := if r < 0 ∨ (55296 ≤ r ∧ r ≤ 57343) ∨ 1114111 < r then 65533 else r.toNat
theorem fix_val (r : Int) : Val (fixR r) := by
  unfold fixR Val
  split <;> omega
theorem enc_fix (r : Int) : Lib.encodeRune r = Lib.encodeRune ((fixR r : Nat) : Int) := by
  unfold fixR
  split
  · rename_i h
    unfold Lib.encodeRune
    rw [Lib.encodeRuneZ_bad h]
    decide
  · rename_i h
    congr 1
    omega
theorem fix_of (r : Nat) (h : Val r) : fixR (r : Int) = r := by
  unfold fixR
  unfold Val at h
  rw [if_neg (by omega)]
  rfl
theorem one_app (r : Int) (t : List UInt8) : runesL (Lib.encodeRune r ++ t) = fixR r :: runesL t ∧ wellL (Lib.encodeRune r ++ t) = wellL t := by
  have hl : 0 < (Lib.encodeRune r ++ t).length := by
    have := (enc_le r).1
    rw [List.length_append]
    omega
  have hc := cut_of_enc (fixR r) t (fix_val r)
  rw [← enc_fix] at hc
  rw [runesL_cons _ hl, wellL_cons _ hl, hc]
  simp
theorem encL_app (l : List Int) (t : List UInt8) : runesL (encL l ++ t) = l.map fixR ++ runesL t ∧ wellL (encL l ++ t) = wellL t := by
  induction l with
  | nil => exact ⟨rfl, rfl⟩
  | cons r l ih =>
    have h := one_app r (encL l ++ t)
    rw [ih.1, ih.2] at h
    have e : encL (r :: l) ++ t = Lib.encodeRune r ++ (encL l ++ t) := by
      unfold encL
      rw [List.flatMap_cons, List.append_assoc]
    rw [e]
    exact h
/-- Characters as a text, and back: what is no character is told as FFFD. -/
theorem runes_encL (l : List Int) : runesL (encL l) = l.map fixR ∧ wellL (encL l) = true := by
  have h := encL_app l []
  rw [List.append_nil, runesL_nil, List.append_nil] at h
  exact h
theorem cut_val (l : List UInt8) : Val (cutL l).r := by
  have h0 := atL_lt l 0
  have h1 := atL_lt l 1
  have h2 := atL_lt l 2
  have h3 := atL_lt l 3
  unfold Val cutL cutN Sec Cont bad
  (repeat' split) <;> simp_all <;> omega
theorem runesF_val : ∀ (f : Nat) (l : List UInt8), ∀ r ∈ runesF f l, Val r
  | 0, _, r, h => by cases h
  | _ + 1, [], r, h => by cases h
  | f + 1, c :: l, r, h => by
    unfold runesF at h
    rcases List.mem_cons.1 h with rfl | h
    · exact cut_val _
    · exact runesF_val f _ r h
theorem runesL_val (l : List UInt8) : ∀ r ∈ runesL l, Val r := runesF_val _ l
/-- The characters with their line ends made one. -/
def normL : Nat → List Nat → List Nat
  | _, [] => []
  | b, r :: rs => (if r = 13 then [10] else if r = 10 ∧ b = 13 then [] else [r]) ++ normL r rs
theorem normL_cons (b r : Nat) (rs : List Nat) : normL b (r :: rs) = (if r = 13 then [10] else if r = 10 ∧ b = 13 then [] else [r]) ++ normL r rs := rfl
theorem dec_norm : ∀ (rs : List Nat) (b : Nat) (acc : List UInt8), (rs.foldl decStep (b, acc)).2 = acc ++ encL ((normL b rs).map fun (r : Nat) => (r : Int))
  | [], b, acc => by simp [normL, encL]
  | r :: rs, b, acc => by
    rw [List.foldl_cons]
    show (rs.foldl decStep (r, acc ++ piece b r)).2 = _
    rw [dec_norm rs r, normL_cons]
    unfold piece encL
    by_cases h13 : r = 13
    · rw [if_pos h13, if_pos h13, List.map_append, List.flatMap_append, List.append_assoc]
      rfl
    · rw [if_neg h13, if_neg h13]
      by_cases h10 : r = 10 ∧ b = 13
      · rw [if_pos h10, if_pos h10, List.append_nil, List.nil_append]
      · rw [if_neg h10, if_neg h10, List.map_append, List.flatMap_append, List.append_assoc]
        simp
theorem norm_mem : ∀ (rs : List Nat) (b : Nat), (∀ r ∈ rs, Val r) → ∀ r ∈ normL b rs, Val r ∧ r ≠ 13
  | [], _, _, r, h => by cases h
  | q :: rs, b, hv, r, h => by
    unfold normL at h
    rcases List.mem_append.1 h with h | h
    · split at h
      · simp at h
        subst h
        exact ⟨by unfold Val; omega, by decide⟩
      · split at h
        · cases h
        · simp at h
          subst h
          exact ⟨hv _ (List.mem_cons_self ..), by assumption⟩
    · exact norm_mem rs q (fun x hx => hv x (List.mem_cons_of_mem _ hx)) r h
theorem norm_same : ∀ (rs : List Nat) (b : Nat), b ≠ 13 → (∀ r ∈ rs, r ≠ 13) → normL b rs = rs
  | [], _, _, _ => rfl
  | r :: rs, b, hb, h => by
    unfold normL
    have hr := h r (List.mem_cons_self ..)
    rw [if_neg hr, if_neg (fun hh => hb hh.2), norm_same rs r hr (fun x hx => h x (List.mem_cons_of_mem _ hx))]
    rfl
/-- The text that bytes are decoded as. -/
def decT (bs : List UInt8) : List UInt8 := (decSt (runesL bs)).2
theorem decT_eq (bs : List UInt8) : decT bs = encL ((normL 0 (runesL bs)).map fun (r : Nat) => (r : Int)) := by
  have h := dec_norm (runesL bs) 0 []
  rw [List.nil_append] at h
  exact h
theorem decT_runes (bs : List UInt8) : runesL (decT bs) = normL 0 (runesL bs) ∧ wellL (decT bs) = true := by
  rw [decT_eq]
  have h := runes_encL ((normL 0 (runesL bs)).map fun (r : Nat) => (r : Int))
  refine ⟨?_, h.2⟩
  rw [h.1, List.map_map]
  have hm := norm_mem (runesL bs) 0 (runesL_val bs)
  generalize normL 0 (runesL bs) = l at hm
  induction l with
  | nil => rfl
  | cons r l ih =>
    rw [List.map_cons, ih (fun x hx => hm x (List.mem_cons_of_mem _ hx))]
    show fixR (r : Int) :: l = _
    rw [fix_of r (hm r (List.mem_cons_self ..)).1]
/-- What is decoded is decoded as itself. -/
theorem decT_again (bs : List UInt8) : decT (decT bs) = decT bs := by
  rw [decT_eq (decT bs), (decT_runes bs).1, norm_same _ 0 (by decide) (fun r hr => (norm_mem (runesL bs) 0 (runesL_val bs) r hr).2), ← decT_eq]
end Go.Proofs.Ytflgiejnklbjnaa
