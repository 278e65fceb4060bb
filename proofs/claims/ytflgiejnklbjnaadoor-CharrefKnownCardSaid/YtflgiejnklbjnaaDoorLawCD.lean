/-
  The law of layer 3 about decoding: it returns true for every text. Condition: the table of replaced characters lies in the first package-level variable.
-/
import Derived.Test.YtflgiejnklbjnaaDoorWorksC
import Derived.Test.YtflgiejnklbjnaaDoorRDec
namespace Go.Proofs.YtflgiejnklbjnaaDoor
open Go.RowKit
set_option maxHeartbeats 1000000 in
theorem charrefDecodes_w (s : ByteArray) (attr : Bool) (w : World) (hT : Tab w) :
    Calls Tryd.prog 4 #[.string s, .bool attr] w fun e w' => e = .returned (.bool true) ∧ Next w w' := by
  have HT := hid_mk hT
  clear hT
  by_cases hs : s.size ≤ 5000
  · have hs' : decide (5000 < (s.size : Int)) = false := by simp; omega
    have hsn : decide (5000 < s.size) = false := by simp; omega
    go_enter Tryd.func4, Tryd.ntmps4
    go_wp2_with fail
    refine (decode_any s (by omega) attr w HT.out).mono ?_
    rintro e w1 ⟨rfl, hn1⟩
    have H1 := hid_mk hn1
    clear hn1
    have hr := hid_mk (fun w => refDecode_any s (by omega) attr w)
    generalize strOf (decL (sl s) attr) = D at *
    go_wp2_with fail
    refine (hr.out w1).mono ?_
    rintro e w2 ⟨rfl, hb2⟩
    have H2 := hid_mk (H1.out.trans (Next.of H1.out.2 hb2))
    clear hb2 H1 hr
    go_wp2_with fail
    refine (works_any w2 H2.out.2).mono ?_
    rintro e w3 ⟨rfl, hn3⟩
    have H3 := hid_mk (H2.out.trans hn3)
    clear hn3 H2
    go_wp2
    go_ret
    exact ⟨rfl, H3.out⟩
  · have hs' : decide (5000 < (s.size : Int)) = true := by simp; omega
    have hsn : decide (5000 < s.size) = true := by simp; omega
    go_enter Tryd.func4, Tryd.ntmps4
    go_wp2_with fail
    refine (works_any w HT.out).mono ?_
    rintro e w1 ⟨rfl, hn1⟩
    have H1 := hid_mk hn1
    clear hn1
    go_wp2
    go_ret
    exact ⟨rfl, H1.out⟩
theorem charrefDecodes_c (s : ByteArray) (attr : Bool) (w : World) {c : Prop} (_ : c) (hT : Tab w) :
    Calls Tryd.prog 4 #[.string s, .bool attr] w fun e w' => e = .returned (.bool true) ∧ Next w w' := charrefDecodes_w s attr w hT
end Go.Proofs.YtflgiejnklbjnaaDoor
