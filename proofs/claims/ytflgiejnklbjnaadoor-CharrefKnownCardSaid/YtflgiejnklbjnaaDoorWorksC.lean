/-
  works of the laws of layer 3: true. Condition: the table of replaced characters lies in the first package-level variable.
-/
import Derived.Test.YtflgiejnklbjnaaDoorDecC
namespace Go.Proofs.YtflgiejnklbjnaaDoor
open Go.RowKit
theorem lit_w1 : decL (sl ⟨#[38, 108, 116, 59, 38, 35, 54, 53, 59, 38, 110, 111, 116, 105, 110, 32, 38, 99, 111, 112, 121, 61, 49]⟩) false = [60, 65, 194, 172, 105, 110, 32, 194, 169, 61, 49] := by decide +kernel
theorem dec_w1 (w : World) (hT : Tab w) :
    Calls Tryd.prog 14 #[.string ⟨#[38, 108, 116, 59, 38, 35, 54, 53, 59, 38, 110, 111, 116, 105, 110, 32, 38, 99, 111, 112, 121, 61, 49]⟩, .bool false] w fun e w' => e = .returned (.string ⟨#[60, 65, 194, 172, 105, 110, 32, 194, 169, 61, 49]⟩) ∧ Next w w' := by
  have h := decode_any ⟨#[38, 108, 116, 59, 38, 35, 54, 53, 59, 38, 110, 111, 116, 105, 110, 32, 38, 99, 111, 112, 121, 61, 49]⟩ (by decide) false w hT
  rw [lit_w1] at h
  exact h
theorem lit_w2 : decL (sl ⟨#[38, 99, 111, 112, 121, 61, 49, 38, 99, 111, 112, 121, 59]⟩) true = [38, 99, 111, 112, 121, 61, 49, 194, 169] := by decide +kernel
theorem dec_w2 (w : World) (hT : Tab w) :
    Calls Tryd.prog 14 #[.string ⟨#[38, 99, 111, 112, 121, 61, 49, 38, 99, 111, 112, 121, 59]⟩, .bool true] w fun e w' => e = .returned (.string ⟨#[38, 99, 111, 112, 121, 61, 49, 194, 169]⟩) ∧ Next w w' := by
  have h := decode_any ⟨#[38, 99, 111, 112, 121, 61, 49, 38, 99, 111, 112, 121, 59]⟩ (by decide) true w hT
  rw [lit_w2] at h
  exact h
set_option maxHeartbeats 1000000 in
theorem works_any (w : World) (hT : Tab w) :
    Calls Tryd.prog 10 #[] w fun e w' => e = .returned (.bool true) ∧ Next w w' := by
  have HT := hid_mk hT
  clear hT
  go_enter Tryd.func10, Tryd.ntmps10
  go_wp2_with fail
  refine (dec_w1 w HT.out).mono ?_
  rintro e w1 ⟨rfl, hn1⟩
  have H1 := hid_mk hn1
  clear hn1
  go_wp2_with fail
  refine (dec_w2 w1 H1.out.2).mono ?_
  rintro e w2 ⟨rfl, hn2⟩
  have H2 := hid_mk (H1.out.trans hn2)
  clear hn2 H1
  go_wp2
  go_ret
  exact ⟨rfl, H2.out⟩
end Go.Proofs.YtflgiejnklbjnaaDoor
