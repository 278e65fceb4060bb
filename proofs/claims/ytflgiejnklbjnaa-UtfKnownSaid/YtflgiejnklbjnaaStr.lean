/-
  String of the program: characters as a text. Condition: none.
-/
import Derived.Test.YtflgiejnklbjnaaDecode
import Derived.Laws.Cover4
namespace Go.Proofs.Ytflgiejnklbjnaa
open Go.RowKit
/-- A slice of these characters. -/
def HasRunes (w : World) (a : Option Addr) (rs : List Int) : Prop :=
  (a = none ∧ rs = []) ∨ ∃ x, a = some x ∧ (0 < rs.length → x.block < w.heap.size) ∧ ∀ j, j < rs.length → w.cell? (x.add j) = some (.int .i32 (rs.getD j 0))
theorem HasRunes.below {w w' : World} {a : Option Addr} {rs : List Int} (h : HasRunes w a rs) (hb : Below w.heap.size w w') : HasRunes w' a rs := by
  rcases h with h | ⟨x, h1, h2, h3⟩
  · exact .inl h
  · exact .inr ⟨x, h1, fun h0 => Nat.lt_of_lt_of_le (h2 h0) hb.size, fun j hj => by rw [hb.cell (p := x.add j) (by rw [addr_block]; exact h2 (by omega))]; exact h3 j hj⟩
def encL (rs : List Int) : List UInt8 := rs.flatMap Lib.encodeRune
theorem u8_nat (n : Nat) : n.toUInt8 = UInt8.ofNat n := rfl
theorem sl_encode (r : Int) : sl (Utf8.encode r) = Lib.encodeRune r := by
  have hv : Utf8.valid r = true ↔ 0 ≤ r ∧ (r < 55296 ∨ 57344 ≤ r ∧ r ≤ 1114111) := by
    unfold Utf8.valid
    simp
    omega
  unfold Utf8.encode Lib.encodeRune
  by_cases h : 0 ≤ r ∧ (r < 55296 ∨ 57344 ≤ r ∧ r ≤ 1114111)
  · have hv1 := hv.2 h
    obtain ⟨n, rfl⟩ : ∃ n : Nat, r = n := ⟨r.toNat, by omega⟩
    simp only [hv1, if_true, Int.toNat_natCast]
    by_cases c1 : n < 128
    · rw [if_pos c1, Lib.encodeRuneZ_one (by omega) (by omega)]
      rfl
    · rw [if_neg c1]
      by_cases c2 : n < 2048
      · rw [if_pos c2, Lib.encodeRuneZ_two (by omega) (by omega)]
        have e1 : ((192 : Int) + (n : Int) / 64).toNat = 192 + n / 64 := by omega
        have e2 : ((128 : Int) + (n : Int) % 64).toNat = 128 + n % 64 := by omega
        simp only [List.map_cons, List.map_nil, e1, e2]
        rfl
      · rw [if_neg c2]
        by_cases c3 : n < 65536
        · rw [if_pos c3, Lib.encodeRuneZ_three (by omega)]
          have e1 : ((224 : Int) + (n : Int) / 4096).toNat = 224 + n / 4096 := by omega
          have e2 : ((128 : Int) + (n : Int) / 64 % 64).toNat = 128 + n / 64 % 64 := by omega
          have e3 : ((128 : Int) + (n : Int) % 64).toNat = 128 + n % 64 := by omega
          simp only [List.map_cons, List.map_nil, e1, e2, e3]
          rfl
        · rw [if_neg c3, Lib.encodeRuneZ_four (by omega) (by omega)]
          have e1 : ((240 : Int) + (n : Int) / 262144).toNat = 240 + n / 262144 := by omega
          have e2 : ((128 : Int) + (n : Int) / 4096 % 64).toNat = 128 + n / 4096 % 64 := by omega
          have e3 : ((128 : Int) + (n : Int) / 64 % 64).toNat = 128 + n / 64 % 64 := by omega
          have e4 : ((128 : Int) + (n : Int) % 64).toNat = 128 + n % 64 := by omega
          simp only [List.map_cons, List.map_nil, e1, e2, e3, e4]
          rfl
  · have hv1 : Utf8.valid r = false := by
      cases hvv : Utf8.valid r with
      | false => rfl
      | true => exact absurd (hv.1 hvv) h
    rw [Lib.encodeRuneZ_bad (by omega)]
    simp only [hv1, Bool.false_eq_true, if_false, show Utf8.runeError = 65533 from rfl]
    decide
theorem sl_append (s t : ByteArray) : sl (s ++ t) = sl s ++ sl t := by
  unfold sl
  rw [ByteArray.data_append, Array.toList_append]
theorem sl_fold : ∀ (rs : List Int) (s : ByteArray), sl (rs.foldl (fun r n => r ++ Utf8.encode n) s) = sl s ++ encL rs
  | [], s => by simp [encL]
  | r :: rs, s => by
    simp only [List.foldl_cons]
    rw [sl_fold rs, sl_append, sl_encode]
    simp [encL]
theorem runesBytes_enc (rs : List Int) : runesBytes rs = strOf (encL rs) := by
  rw [← strOf_sl (runesBytes rs)]
  unfold runesBytes
  rw [sl_fold]
  rfl
theorem runes_conv (w : World) (a : Option Addr) (cap : Nat) (rs : List Int) (h : HasRunes w a rs) :
    (convert 23 9 (.slice a rs.length cap)).run Try.prog w = .ok (.string (strOf (encL rs))) w := by
  rcases h with ⟨rfl, rfl⟩ | ⟨x, rfl, _, hc⟩
  · exact run_convert_runes_nil w _ _ _ _ _ Try.underlying23 Try.underlying21 Try.underlying9
  · rw [run_convert_runes w _ _ _ x rs.length cap rs (Nat.le_refl _) Try.underlying23 Try.underlying21 Try.underlying9 hc, List.take_length, runesBytes_enc]
theorem string_any (a : Option Addr) (cap : Nat) (rs : List Int) (w : World) (h : HasRunes w a rs) :
    Calls Try.prog 9 #[.slice a rs.length cap] w fun e w' => e = .returned (.string (strOf (encL rs))) ∧ w' = w := by
  have hcv := runes_conv w a cap rs h
  go_enter Try.func9, Try.ntmps9
  go_wp2
  go_ret
  exact ⟨rfl, rfl⟩
end Go.Proofs.Ytflgiejnklbjnaa
