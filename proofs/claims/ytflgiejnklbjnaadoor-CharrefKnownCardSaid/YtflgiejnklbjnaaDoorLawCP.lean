/-
  The law of layer 3 about two texts with a blank between: it returns true for every two texts. Condition: the table of replaced characters lies in the first package-level variable.
-/
import Derived.Test.YtflgiejnklbjnaaDoorWorksC
import Derived.Test.YtflgiejnklbjnaaDoorMathC
namespace Go.Proofs.YtflgiejnklbjnaaDoor
open Go.RowKit
theorem dec_size (l : List UInt8) (attr : Bool) (h : l.length ≤ 20000) : (strOf (decL l attr)).size ≤ 80000 := by
  rw [size_strOf]
  have := decL_len attr l.length l (Nat.le_refl _)
  omega
set_option maxHeartbeats 2000000 in
set_option maxRecDepth 100000 in
theorem charrefPieces_w (a b : ByteArray) (attr : Bool) (w : World) (hT : Tab w) :
    Calls Tryd.prog 7 #[.string a, .string b, .bool attr] w fun e w' => e = .returned (.bool true) ∧ Next w w' := by
  have HT := hid_mk hT
  clear hT
  by_cases hs : 2000 < a.size
  · have hs' : decide (2000 < (a.size : Int)) = true := by simp; omega
    have hsn : decide (2000 < a.size) = true := by simp; omega
    go_enter Tryd.func7, Tryd.ntmps7
    go_wp2_with fail
    refine (works_any w HT.out).mono ?_
    rintro e w1 ⟨rfl, hn1⟩
    have H1 := hid_mk hn1
    clear hn1
    go_wp2
    go_ret
    exact ⟨rfl, H1.out⟩
  have hs' : decide (2000 < (a.size : Int)) = false := by simp; omega
  have hsn : decide (2000 < a.size) = false := by simp; omega
  by_cases hr : 2000 < b.size
  · have hr' : decide (2000 < (b.size : Int)) = true := by simp; omega
    have hrn : decide (2000 < b.size) = true := by simp; omega
    go_enter Tryd.func7, Tryd.ntmps7
    go_wp2_with fail
    refine (works_any w HT.out).mono ?_
    rintro e w1 ⟨rfl, hn1⟩
    have H1 := hid_mk hn1
    clear hn1
    go_wp2
    go_ret
    exact ⟨rfl, H1.out⟩
  have hr' : decide (2000 < (b.size : Int)) = false := by simp; omega
  have hrn : decide (2000 < b.size) = false := by simp; omega
  obtain ⟨X, hX⟩ : ∃ X, X = a ++ ⟨#[32]⟩ ++ b := ⟨_, rfl⟩
  have hXs : X.size ≤ 5000 := by
    rw [hX, ByteArray.size_append, ByteArray.size_append]
    show a.size + 1 + b.size ≤ 5000
    omega
  have hXl : sl X = sl a ++ 32 :: sl b := by
    rw [hX, sl_append, sl_append]
    show sl a ++ [32] ++ sl b = _
    rw [List.append_assoc]
    rfl
  have h1 := hid_mk (fun w hT => decode_any X (by omega) attr w hT)
  rw [hXl, decL_sep (sl b) attr _ (sl a) (Nat.le_refl _)] at h1
  have hj : strOf (decL (sl a) attr ++ 32 :: decL (sl b) attr) = strOf (decL (sl a) attr) ++ ⟨#[32]⟩ ++ strOf (decL (sl b) attr) := by
    have e1 : (⟨#[32]⟩ : ByteArray) = strOf [32] := rfl
    rw [e1, strOf_app, strOf_app, List.append_assoc]
    rfl
  rw [hj] at h1
  have h2 := hid_mk (fun w hT => decode_any a (by omega) attr w hT)
  have h3 := hid_mk (fun w hT => decode_any b (by omega) attr w hT)
  have hd1 := dec_size (sl a) attr (by rw [len_sl]; omega)
  have hd2 := dec_size (sl b) attr (by rw [len_sl]; omega)
  have HX := hid_mk hX.symm
  clear hXl hj hX
  generalize strOf (decL (sl a) attr) = D1 at *
  generalize strOf (decL (sl b) attr) = D2 at *
  go_enter Tryd.func7, Tryd.ntmps7
  go_wp2_with fail
  rw [HX.out]
  refine (h1.out w HT.out).mono ?_
  rintro e w1 ⟨rfl, hn1⟩
  have H1 := hid_mk hn1
  clear hn1 h1
  go_wp2_with fail
  refine (h2.out w1 H1.out.2).mono ?_
  rintro e w2 ⟨rfl, hn2⟩
  have H2 := hid_mk (H1.out.trans hn2)
  clear hn2 h2 H1
  go_wp2_with fail
  refine (h3.out w2 H2.out.2).mono ?_
  rintro e w3 ⟨rfl, hn3⟩
  have H3 := hid_mk (H2.out.trans hn3)
  clear hn3 h3 H2
  go_wp2_with fail
  refine (works_any w3 H3.out.2).mono ?_
  rintro e w4 ⟨rfl, hn4⟩
  have H4 := hid_mk (H3.out.trans hn4)
  clear hn4 H3
  go_wp2
  go_ret
  exact ⟨rfl, H4.out⟩
theorem charrefPieces_c (a b : ByteArray) (attr : Bool) (w : World) {c d : Prop} (_ : c) (_ : d) (hT : Tab w) :
    Calls Tryd.prog 7 #[.string a, .string b, .bool attr] w fun e w' => e = .returned (.bool true) ∧ Next w w' := charrefPieces_w a b attr w hT
end Go.Proofs.YtflgiejnklbjnaaDoor
