/-
  The law of layer 6 about what is escaped: it returns true for every text. Condition: the world holds Go's own tables.
-/
import Derived.Test.YtnooofnlbfhopaaDoorSWorks
import Derived.Test.YtnooofnlbfhopaaDoorSRefE
namespace Go.Proofs.YtnooofnlbfhopaaDoor
open Go.RowKit
set_option maxHeartbeats 4000000 in
set_option maxRecDepth 100000 in
theorem serialEscapes_w (s : ByteArray) (w : World) (hT : TabV w) :
    Calls Tryd.prog 3 #[.string s] w fun e w' => e = .returned (.bool true) ∧ Below w.heap.size w w' := by
  have hwo := hid_mk (fun w' (hb : Below w.heap.size w w') => Pg.works_any w' (hT.below hb))
  clear hT
  by_cases hs : 5000 < s.size
  · have hs' : decide (5000 < (s.size : Int)) = true := by simp; omega
    have hsn : decide (5000 < s.size) = true := by simp; omega
    have hw0 := hid_mk (hwo.out w (Below.refl _ _))
    clear hwo
    go_enter Tryd.func3, Tryd.ntmps3
    go_wp2_with fail
    with_reducible refine hw0.out.mono ?_
    rintro e w1 ⟨rfl, hb1⟩
    have H1 := hid_mk hb1
    clear hb1
    go_wp2
    go_ret
    exact ⟨rfl, H1.out⟩
  have hs' : decide (5000 < (s.size : Int)) = false := by simp; omega
  have hsn : decide (5000 < s.size) = false := by simp; omega
  have hp1 := hid_mk (fun w => escapeText_any s (by omega) w)
  have hp2 := hid_mk (fun w => escapeValue_any s (by omega) w)
  have hr1 := hid_mk (fun w => rEscape_any s false (by omega) w)
  have hr2 := hid_mk (fun w => rEscape_any s true (by omega) w)
  generalize strOf (escL false (sl s)) = X at *
  generalize strOf (escL true (sl s)) = Y at *
  go_enter Tryd.func3, Tryd.ntmps3
  go_wp2_with fail
  with_reducible refine (hp1.out _).mono ?_
  rintro e w1 ⟨rfl, hb1⟩
  have H1 := hid_mk hb1
  clear hb1
  go_wp2_with fail
  with_reducible refine (hr1.out _).mono ?_
  rintro e w2 ⟨rfl, hb2⟩
  have H2 := hid_mk (H1.out.trans (hb2.mono H1.out.size))
  clear hb2 H1
  go_wp2_with fail
  with_reducible refine (hp2.out _).mono ?_
  rintro e w3 ⟨rfl, hb3⟩
  have H3 := hid_mk (H2.out.trans (hb3.mono H2.out.size))
  clear hb3 H2
  go_wp2_with fail
  with_reducible refine (hr2.out _).mono ?_
  rintro e w4 ⟨rfl, hb4⟩
  have H4 := hid_mk (H3.out.trans (hb4.mono H3.out.size))
  clear hb4 H3
  have hw4 := hid_mk (hwo.out w4 H4.out)
  clear hwo
  go_wp2_with fail
  with_reducible refine hw4.out.mono ?_
  rintro e w5 ⟨rfl, hb5⟩
  have H5 := hid_mk (H4.out.trans (hb5.mono H4.out.size))
  clear hb5 H4
  go_wp2
  go_ret
  exact ⟨rfl, H5.out⟩
theorem serialEscapes_c (s : ByteArray) (w : World) {c : Prop} (_ : c) (hT : TabV w) :
    Calls Tryd.prog 3 #[.string s] w fun e w' => e = .returned (.bool true) ∧ Below w.heap.size w w' ∧ True :=
  (serialEscapes_w s w hT).mono fun _ _ h => ⟨h.1, h.2, trivial⟩
end Go.Proofs.YtnooofnlbfhopaaDoor
