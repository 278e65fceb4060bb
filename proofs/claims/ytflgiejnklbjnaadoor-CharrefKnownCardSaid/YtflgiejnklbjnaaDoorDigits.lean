/-
  digits of the laws of layer 3: a number's digits, more noughts ahead. Condition: the number fits 32 bits, the base is 10 or 16.
-/
import Derived.Test.YtflgiejnklbjnaaDoorMathC
import Derived.Test.YtflgiejnklbjnaaDoorWorksC
namespace Go.Proofs.YtflgiejnklbjnaaDoor
open Go.RowKit
/-- The number that digits are, read behind n. -/
def hor (b : Nat) : List UInt8 → Nat → Nat
  | [], n => n
  | c :: l, n => hor b l (n * b + digV c.toNat)
def AllDig (b : Nat) (l : List UInt8) : Prop := ∀ c ∈ l, digV c.toNat < b
theorem sumD_stop (b : Nat) (l : List UInt8) (n : Nat) (h : b ≤ digV (atL l 0)) : sumD b l n = (n, 0) := by
  cases l with
  | nil => rfl
  | cons c l =>
    unfold sumD
    rw [if_neg (by show ¬ digV (atL (c :: l) 0) < b; omega)]
theorem sumD_hor (b : Nat) (hb : 1 ≤ b) (r : List UInt8) (hr : b ≤ digV (atL r 0)) : ∀ (l : List UInt8) (m : Nat), AllDig b l → sumD b (l ++ r) (min m 1114112) = (min (hor b l m) 1114112, l.length)
  | [], m, _ => sumD_stop b r _ hr
  | c :: l, m, h => by
    have hc := h c (List.mem_cons_self ..)
    have ih := sumD_hor b hb r hr l (m * b + digV c.toNat) (fun d hd => h d (List.mem_cons_of_mem _ hd))
    have hmin : min (min m 1114112 * b + digV c.toNat) 1114112 = min (m * b + digV c.toNat) 1114112 := by
      rcases Nat.le_total m 1114112 with h | h
      · rw [Nat.min_eq_left h]
      · have h1 : 1114112 ≤ m * b := Nat.le_trans h (Nat.le_mul_of_pos_right m hb)
        have h2 : 1114112 ≤ 1114112 * b := Nat.le_mul_of_pos_right _ hb
        rw [Nat.min_eq_right h, Nat.min_eq_right (by omega), Nat.min_eq_right (by omega)]
    show (if digV c.toNat < b then ((sumD b (l ++ r) (min (min m 1114112 * b + digV c.toNat) 1114112)).1, (sumD b (l ++ r) (min (min m 1114112 * b + digV c.toNat) 1114112)).2 + 1) else (min m 1114112, 0)) = _
    rw [if_pos hc, hmin, ih]
    rfl
theorem at_app_len (a r : List UInt8) : atL (a ++ r) a.length = atL r 0 := by
  unfold atL
  rw [List.getElem?_append_right (Nat.le_refl _), Nat.sub_self]
theorem dig_first {b : Nat} (hb : b ≤ 16) {ds r : List UInt8} (h : AllDig b ds) (h0 : ds ≠ []) : ¬ (atL (ds ++ r) 0 = 120 ∨ atL (ds ++ r) 0 = 88) := by
  cases ds with
  | nil => exact absurd rfl h0
  | cons c l =>
    have hc := h c (List.mem_cons_self ..)
    rintro (he | he)
    · have he' : c.toNat = 120 := he
      rw [he'] at hc
      have : digV 120 = 16 := by decide
      omega
    · have he' : c.toNat = 88 := he
      rw [he'] at hc
      have : digV 88 = 16 := by decide
      omega
/-- A reference by number to the base 10, and to the base 16. -/
theorem find_dec (ds r : List UInt8) (attr : Bool) (h : AllDig 10 ds) (h0 : ds ≠ []) (hr : 10 ≤ digV (atL r 0)) :
    findL (38 :: 35 :: (ds ++ r)) attr = some (numC (min (hor 10 ds 0) 1114112), 2 + ds.length + if atL r 0 = 59 then 1 else 0) := by
  have hx : ¬ (atL (38 :: 35 :: (ds ++ r)) 2 = 120 ∨ atL (38 :: 35 :: (ds ++ r)) 2 = 88) := dig_first (by decide) h h0
  have hb : baseOf (38 :: 35 :: (ds ++ r)) = 10 := if_neg hx
  have hf : fromOf (38 :: 35 :: (ds ++ r)) = 2 := if_neg hx
  have hs : sumD 10 ((38 :: 35 :: (ds ++ r)).drop 2) 0 = (min (hor 10 ds 0) 1114112, ds.length) := sumD_hor 10 (by decide) r hr ds 0 h
  have hl : ¬ ds.length = 0 := fun h => h0 (List.eq_nil_of_length_eq_zero h)
  unfold findL
  rw [if_pos (by rfl), if_pos (by rfl)]
  unfold findNum
  rw [hb, hf, hs]
  simp only
  rw [if_neg hl]
  have ha : atL (38 :: 35 :: (ds ++ r)) (2 + ds.length) = atL r 0 := by
    rw [← at_app_len ds r, Nat.add_comm]
    rfl
  rw [ha]
theorem find_hex (ds r : List UInt8) (attr : Bool) (h : AllDig 16 ds) (h0 : ds ≠ []) (hr : 16 ≤ digV (atL r 0)) :
    findL (38 :: 35 :: 120 :: (ds ++ r)) attr = some (numC (min (hor 16 ds 0) 1114112), 3 + ds.length + if atL r 0 = 59 then 1 else 0) := by
  have hx : atL (38 :: 35 :: 120 :: (ds ++ r)) 2 = 120 ∨ atL (38 :: 35 :: 120 :: (ds ++ r)) 2 = 88 := .inl rfl
  have hb : baseOf (38 :: 35 :: 120 :: (ds ++ r)) = 16 := if_pos hx
  have hf : fromOf (38 :: 35 :: 120 :: (ds ++ r)) = 3 := if_pos hx
  have hs : sumD 16 ((38 :: 35 :: 120 :: (ds ++ r)).drop 3) 0 = (min (hor 16 ds 0) 1114112, ds.length) := sumD_hor 16 (by decide) r hr ds 0 h
  have hl : ¬ ds.length = 0 := fun h => h0 (List.eq_nil_of_length_eq_zero h)
  unfold findL
  rw [if_pos (by rfl), if_pos (by rfl)]
  unfold findNum
  rw [hb, hf, hs]
  simp only
  rw [if_neg hl]
  have ha : atL (38 :: 35 :: 120 :: (ds ++ r)) (3 + ds.length) = atL r 0 := by
    rw [← at_app_len ds r, Nat.add_comm]
    rfl
  rw [ha]
/-- A character's number is told as that character, or as what stands for no character. -/
theorem enc_num (n : Nat) (h0 : n ≠ 0) (h8 : ¬ (128 ≤ n ∧ n < 160)) : Lib.encodeRune ((numC (min n 1114112) : Nat) : Int) = Lib.encodeRune (n : Int) := by
  have hbad : ∀ r : Int, (r < 0 ∨ (55296 ≤ r ∧ r ≤ 57343) ∨ 1114111 < r) → Lib.encodeRune r = Lib.encodeRune 65533 := fun r h => by
    unfold Lib.encodeRune
    rw [Lib.encodeRuneZ_bad h]
    decide
  by_cases hb : (55296 ≤ n ∧ n ≤ 57343) ∨ 1114111 < n
  · rw [hbad (n : Int) (by omega)]
    have : numC (min n 1114112) = 65533 := by
      unfold numC
      rw [if_pos (by omega)]
    rw [this]
    rfl
  · have : numC (min n 1114112) = n := by
      rw [Nat.min_eq_left (by omega)]
      unfold numC
      rw [if_neg (by omega), if_neg h8]
    rw [this]
theorem drop_len (a r : List UInt8) (k : Nat) : (a ++ r).drop (a.length + k) = r.drop k := by
  rw [List.drop_append, List.drop_eq_nil_of_le (by omega), List.nil_append]
  congr 1
  omega
theorem dec_dec (ds r : List UInt8) (attr : Bool) (n : Nat) (h : AllDig 10 ds) (h0 : ds ≠ []) (hn : hor 10 ds 0 = n) (n0 : n ≠ 0) (h8 : ¬ (128 ≤ n ∧ n < 160)) (hr : 10 ≤ digV (atL r 0)) :
    decL (38 :: 35 :: (ds ++ r)) attr = Lib.encodeRune (n : Int) ++ decL (r.drop (if atL r 0 = 59 then 1 else 0)) attr := by
  rw [decL_some (find_dec ds r attr h h0 hr), hn, enc_num n n0 h8]
  congr 2
  show List.drop (2 + ds.length + _) (38 :: 35 :: (ds ++ r)) = _
  rw [show 2 + ds.length + (if atL r 0 = 59 then 1 else 0) = (ds.length + (if atL r 0 = 59 then 1 else 0)) + 1 + 1 by omega, List.drop_succ_cons, List.drop_succ_cons, drop_len]
theorem dec_hex (ds r : List UInt8) (attr : Bool) (n : Nat) (h : AllDig 16 ds) (h0 : ds ≠ []) (hn : hor 16 ds 0 = n) (n0 : n ≠ 0) (h8 : ¬ (128 ≤ n ∧ n < 160)) (hr : 16 ≤ digV (atL r 0)) :
    decL (38 :: 35 :: 120 :: (ds ++ r)) attr = Lib.encodeRune (n : Int) ++ decL (r.drop (if atL r 0 = 59 then 1 else 0)) attr := by
  rw [decL_some (find_hex ds r attr h h0 hr), hn, enc_num n n0 h8]
  congr 2
  show List.drop (3 + ds.length + _) (38 :: 35 :: 120 :: (ds ++ r)) = _
  rw [show 3 + ds.length + (if atL r 0 = 59 then 1 else 0) = (ds.length + (if atL r 0 = 59 then 1 else 0)) + 1 + 1 + 1 by omega, List.drop_succ_cons, List.drop_succ_cons, List.drop_succ_cons, drop_len]
def hexT : List UInt8 := [48, 49, 50, 51, 52, 53, 54, 55, 56, 57, 97, 66, 99, 68, 101, 70]
theorem hex_dig : ∀ k < 16, digV (hexT.getD k 0).toNat = k := by decide +kernel
theorem hex_cut : ∀ k < 16, ((⟨#[48, 49, 50, 51, 52, 53, 54, 55, 56, 57, 97, 66, 99, 68, 101, 70]⟩ : ByteArray).extract k (k + 1)) = strOf [hexT.getD k 0] := by decide +kernel
def DigPost (b N : Nat) (w : World) (e : Ending) (w' : World) : Prop := ∃ ds : List UInt8, e = .returned (.string (strOf ds)) ∧ AllDig b ds ∧ ds ≠ [] ∧ hor b ds 0 = N ∧ ds.length ≤ 50 ∧ w = w'
set_option maxHeartbeats 2000000 in
set_option maxRecDepth 100000 in
theorem digits_any (N b z : Nat) (hN : N < 4294967296) (hb : b = 10 ∨ b = 16) (hz : z < 256) (w : World) :
    Calls Tryd.prog 17 #[.int .u32 (N : Int), .int .u32 (b : Int), .int .u8 (z : Int)] w (DigPost b N w) := by
  have hb2 : 2 ≤ b := by omega
  have hb3 : b ≤ 16 := by omega
  have hb4 : (0 : Int) < (b : Int) := by omega
  have hb5 : ((b : Int) == 0) = false := beq_false_of_ne (by omega)
  have hz0 : (0 : Int) ≤ (z : Int) := by omega
  clear hb
  go_enter Tryd.func17, Tryd.ntmps17
  go_wp2_with fail
  go_loop [0, 7] (fun vn vs => ∃ (n : Nat) (ds : List UInt8), vn = .int .u32 (n : Int) ∧ vs = .string (strOf ds) ∧ n < 4294967296 ∧ Hid (hor b ds n = N ∧ AllDig b ds ∧ n * 2 ^ ds.length < 4294967296 ∧ ds.length ≤ 33)) (fun vn vs => (intOf vn).toNat + if strSize vs = 0 then 1 else 0)
  case atStart => exact ⟨N, [], rfl, rfl, hN, hid_mk ⟨rfl, fun c h => (by cases h), by simpa using hN, by simp⟩⟩
  case round =>
    obtain ⟨n, ds, rfl, rfl, hn, hh⟩ := hrel
    have hss := size_strOf ds
    have hds : ds.length ≤ 33 := hh.out.2.2.2
    have hn0 : (0 : Int) ≤ (n : Int) := by omega
    have hn1 : (n : Int) < 4294967296 := by omega
    have hqb : n % b < b := Nat.mod_lt _ (by omega)
    have hq16 : n % b < 16 := by omega
    have hmod : ((n : Int) % (b : Int)) = ((n % b : Nat) : Int) := (Int.natCast_emod n b).symm
    have hdiv : ((n : Int) / (b : Int)) = ((n / b : Nat) : Int) := (Int.natCast_ediv n b).symm
    have hm0 : (0 : Int) ≤ (n : Int) % (b : Int) := by rw [hmod]; omega
    have hm1 : (n : Int) % (b : Int) < 16 := by rw [hmod]; omega
    have hm2 : ((n : Int) % (b : Int)).toNat = n % b := by rw [hmod]; rfl
    have hm3 : ((n : Int) % (b : Int) + 1).toNat = n % b + 1 := by rw [hmod]; omega
    have hcut := hid_mk (hex_cut (n % b) hq16)
    have hcs : ((⟨#[48, 49, 50, 51, 52, 53, 54, 55, 56, 57, 97, 66, 99, 68, 101, 70]⟩ : ByteArray).extract (n % b) (n % b + 1)).size = 1 := by rw [hex_cut (n % b) hq16]; rfl
    have HD := hid_mk (show (n : Int) / (b : Int) % 4294967296 = ((n / b : Nat) : Int) by
      have h1 : n / b ≤ n := Nat.div_le_self _ _
      rw [hdiv]
      generalize n / b = p at h1 ⊢
      omega)
    have hnx := hid_mk (show hor b (hexT.getD (n % b) 0 :: ds) (n / b) = N ∧ AllDig b (hexT.getD (n % b) 0 :: ds) from by
      refine ⟨?_, fun c hc => ?_⟩
      · show hor b ds (n / b * b + digV (hexT.getD (n % b) 0).toNat) = N
        rw [hex_dig (n % b) hq16, Nat.mul_comm, Nat.div_add_mod]
        exact hh.out.1
      · rcases List.mem_cons.1 hc with rfl | hc
        · rw [hex_dig (n % b) hq16]
          exact hqb
        · exact hh.out.2.1 c hc)
    have hhalf : n / b ≤ n / 2 := Nat.div_le_div_left hb2 (by decide)
    by_cases hgo : 0 < n
    · have hgo' : (0 : Int) < (n : Int) := by omega
      have hpw := hid_mk (show n / b * 2 ^ (ds.length + 1) < 4294967296 ∧ ds.length + 1 ≤ 33 by
        have h1 := hh.out.2.2.1
        have h2 : n / b * 2 ^ (ds.length + 1) ≤ n * 2 ^ ds.length := by
          rw [Nat.pow_succ, Nat.mul_comm (2 ^ ds.length) 2, ← Nat.mul_assoc]
          exact Nat.mul_le_mul_right _ (by omega)
        refine ⟨by omega, ?_⟩
        rcases Nat.lt_or_ge ds.length 33 with h | h
        · omega
        · exfalso
          have h3 : 2 ^ 33 ≤ 2 ^ ds.length := Nat.pow_le_pow_right (by decide) h
          have h4 : 2 ^ ds.length ≤ n * 2 ^ ds.length := Nat.le_mul_of_pos_left _ hgo
          have : (2 : Nat) ^ 33 = 8589934592 := by decide
          omega)
      clear hmod hdiv hh
      go_wp2
      go_round
      case rel => exact ⟨n / b, hexT.getD (n % b) 0 :: ds, by rw [HD.out], by rw [hcut.out, strOf_app]; rfl, by omega, hid_mk ⟨hnx.out.1, hnx.out.2, by rw [List.length_cons]; exact hpw.out.1, by rw [List.length_cons]; exact hpw.out.2⟩⟩
      case measure =>
        have hlt : n / b < n := Nat.div_lt_self hgo (by omega)
        have hl : ([hexT.getD (n % b) 0] ++ ds).length ≠ 0 := by simp
        rw [HD.out, hcut.out, strOf_app]
        simp only [intOf, strSize, size_strOf]
        rw [if_neg hl]
        split <;> omega
    · have hgo' : ¬ (0 : Int) < (n : Int) := by omega
      have hn00 : n = 0 := by omega
      by_cases hde : ds = []
      · subst hde
        have heq : (strOf []).toList = [] := by decide +kernel
        have hdz' : n / b = 0 := by rw [hn00]; exact Nat.zero_div b
        have hdz := hid_mk hdz'
        clear hmod hdiv hh hn00 hdz'
        go_wp2
        go_round
        case rel => exact ⟨n / b, [hexT.getD (n % b) 0], by rw [HD.out], by rw [hcut.out, strOf_app]; rfl, by omega, hid_mk ⟨hnx.out.1, hnx.out.2, by rw [hdz.out, Nat.zero_mul]; decide, by simp⟩⟩
        case measure =>
          rw [HD.out, hcut.out, strOf_app]
          simp only [intOf, strSize, size_strOf]
          rw [hdz.out, if_neg (by simp), if_pos (by rfl)]
          omega
      · have heq : (strOf ds).toList.isEmpty = false := not_empty (by
          rw [size_strOf]
          rcases Nat.eq_zero_or_pos ds.length with h | h
          · exact absurd (List.eq_nil_of_length_eq_zero h) hde
          · exact h)
        have hq : (⟨#[]⟩ : ByteArray).toList = [] := by decide +kernel
        have hz1 : (0 : Int) ≤ (z : Int) % 9 := by omega
        have hz2 : (z : Int) % 9 < 9 := by omega
        have hrow := hid_mk (show AllDig b ds ∧ hor b ds 0 = N ∧ ds ≠ [] from ⟨hh.out.2.1, by have := hh.out.1; rwa [hn00] at this, hde⟩)
        clear hmod hdiv hh hn00 hm0 hm1 hm2 hm3 hcut hcs HD hnx hhalf hqb hq16
        go_wp2_with fail
        go_loop [7, 9] (fun vs vi => ∃ (i : Nat) (ds : List UInt8), vi = .int .u8 (i : Int) ∧ vs = .string (strOf ds) ∧ i ≤ 9 ∧ ds.length ≤ 33 + i ∧ Hid (AllDig b ds ∧ hor b ds 0 = N ∧ ds ≠ [])) (fun _ vi => 9 - (intOf vi).toNat)
        case atStart => exact ⟨0, ds, rfl, rfl, by omega, by omega, hrow⟩
        case round =>
          obtain ⟨i, ds2, rfl, rfl, hi, hl2, hr2⟩ := hrel
          have hs2 := size_strOf ds2
          have hi0 : (0 : Int) ≤ (i : Int) := by omega
          clear hrow heq hq hss
          by_cases hiz : (i : Int) < (z : Int) % 9
          · have hj := hid_mk (strOf_app [48] ds2)
            have hr3 := hid_mk (show AllDig b (48 :: ds2) ∧ hor b (48 :: ds2) 0 = N ∧ (48 :: ds2) ≠ [] from by
              refine ⟨fun c hc => ?_, ?_, by simp⟩
              · rcases List.mem_cons.1 hc with rfl | hc
                · have : digV (48 : UInt8).toNat = 0 := by decide
                  omega
                · exact hr2.out.1 c hc
              · show hor b ds2 (0 * b + digV (48 : UInt8).toNat) = N
                rw [Nat.zero_mul]
                exact hr2.out.2.1)
            clear hr2
            go_wp2
            go_round
            case rel => exact ⟨i + 1, 48 :: ds2, by first | rfl | go_num, by rw [show (⟨#[48]⟩ : ByteArray) = strOf [48] from rfl, hj.out]; rfl, by omega, by rw [List.length_cons]; omega, hr3⟩
            case measure => simp [intOf]; omega
          · go_wp2
            go_ret
            exact ⟨ds2, rfl, hr2.out.1, hr2.out.2.2, hr2.out.2.1, by omega, rfl⟩
end Go.Proofs.YtflgiejnklbjnaaDoor
