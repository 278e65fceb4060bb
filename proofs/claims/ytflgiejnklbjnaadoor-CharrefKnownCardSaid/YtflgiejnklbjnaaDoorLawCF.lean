/-
  The law of layer 3 about the reference with which a text begins: it returns true for every input. Condition: the table of replaced characters lies in the first package-level variable.
-/
import Derived.Test.YtflgiejnklbjnaaDoorWorksC
import Derived.Test.YtflgiejnklbjnaaDoorRFind
import Derived.OpenShut
namespace Go.Proofs.YtflgiejnklbjnaaDoor
open Go.RowKit
theorem resV_parts (o : Option (Nat × Nat)) : ∃ r n ok, resV o = .tuple #[.int .i32 r, .int .i64 n, .bool ok] := by
  cases o with
  | none => exact ⟨_, _, _, rfl⟩
  | some p => exact ⟨_, _, _, rfl⟩
/-- Four texts in a row. -/
def FourAt (g : Nat) (xs : List ByteArray) (w : World) : Prop := g < w.heap.size ∧ ∀ j, j < 4 → w.cell? ⟨g, j, none⟩ = some (.string (xs.getD j ⟨#[]⟩))
theorem FourAt.below {g : Nat} {xs : List ByteArray} {w w' : World} (h : FourAt g xs w) (hb : Below w.heap.size w w') : FourAt g xs w' :=
  ⟨Nat.lt_of_lt_of_le h.1 hb.size, fun j hj => by rw [hb.cell (p := ⟨g, j, none⟩) h.1]; exact h.2 j hj⟩
set_option maxHeartbeats 4000000 in
set_option maxRecDepth 100000 in
theorem charrefFinds_w (s : ByteArray) (wh : Nat) (hwh : wh < 256) (rest : ByteArray) (attr : Bool) (w : World) (hT : Tab w) :
    Calls Tryd.prog 3 #[.string s, .int .u8 (wh : Int), .string rest, .bool attr] w fun e w' => e = .returned (.bool true) ∧ Next w w' := by
  have HT := hid_mk hT
  clear hT
  by_cases hs : 5000 < s.size
  · have hs' : decide (5000 < (s.size : Int)) = true := by simp; omega
    have hsn : decide (5000 < s.size) = true := by simp; omega
    go_enter Tryd.func3, Tryd.ntmps3
    go_wp2_with fail
    refine (works_any w HT.out).mono ?_
    rintro e w1 ⟨rfl, hn1⟩
    have H1 := hid_mk hn1
    clear hn1
    go_wp2
    go_ret
    exact ⟨rfl, H1.out⟩
  have hs' : decide (5000 < (s.size : Int)) = false := by simp; omega
  have hsn : decide (5000 < s.size) = false := by simp; omega
  by_cases hr : 5000 < rest.size
  · have hr' : decide (5000 < (rest.size : Int)) = true := by simp; omega
    have hrn : decide (5000 < rest.size) = true := by simp; omega
    go_enter Tryd.func3, Tryd.ntmps3
    go_wp2_with fail
    refine (works_any w HT.out).mono ?_
    rintro e w1 ⟨rfl, hn1⟩
    have H1 := hid_mk hn1
    clear hn1
    go_wp2
    go_ret
    exact ⟨rfl, H1.out⟩
  have hr' : decide (5000 < (rest.size : Int)) = false := by simp; omega
  have hrn : decide (5000 < rest.size) = false := by simp; omega
  have hk0 : (0 : Int) ≤ (wh : Int) := by omega
  have hk1 : (0 : Int) ≤ (wh : Int) % 59 := by omega
  have hk2 : (wh : Int) % 59 < 59 := by omega
  have hk3 : ((wh : Int) % 59).toNat = wh % 59 := by omega
  have hk4 : wh % 59 < 59 := by omega
  go_enter Tryd.func3, Tryd.ntmps3
  go_wp2_with fail
  refine (refNames_any w).mono ?_
  rintro e w1 ⟨rfl, rfl⟩
  have hil : wh % 59 < refTab.length := by rw [lenR]; exact hk4
  have c0 := (cell_of_row _ _ (wh % 59 * 3) _ _ _ (heap_alloc_new w (.cells refCells 26))).trans (ref_at (wh % 59) hil).1
  have hsm := ref_small (wh % 59) hil
  generalize refTab[wh % 59] = en at *
  obtain ⟨nm, ch, alone⟩ := en
  simp only at c0 hsm
  have hn1 := hid_mk (Next.of HT.out ((Below.refl w.heap.size w).alloc (Nat.le_refl _) (.cells refCells 26)))
  have hz0 : (strOf nm).size ≤ 6 := by rw [size_strOf]; exact hsm
  generalize strOf nm = NM at *
  generalize w.alloc (.cells refCells 26) = w1 at *
  clear hsm hil
  go_wp2_with fail
  have hA : ((⟨#[38]⟩ : ByteArray) ++ NM ++ rest).size ≤ 6000 := by
    rw [ByteArray.size_append, ByteArray.size_append]
    show 1 + NM.size + rest.size ≤ 6000
    omega
  have hB : ((⟨#[38, 35]⟩ : ByteArray) ++ rest).size ≤ 6000 := by
    rw [ByteArray.size_append]
    show 2 + rest.size ≤ 6000
    omega
  have hC : ((⟨#[38, 35, 120]⟩ : ByteArray) ++ rest).size ≤ 6000 := by
    rw [ByteArray.size_append]
    show 3 + rest.size ≤ 6000
    omega
  have hS : s.size ≤ 6000 := by omega
  generalize (⟨#[38]⟩ : ByteArray) ++ NM ++ rest = A at *
  generalize (⟨#[38, 35]⟩ : ByteArray) ++ rest = B at *
  generalize (⟨#[38, 35, 120]⟩ : ByteArray) ++ rest = C at *
  have HX := hid_mk (show (∀ k, k < 4 → ([s, A, B, C].getD k ⟨#[]⟩).size ≤ 6000) ∧ FourAt w1.heap.size [s, A, B, C] (w1.alloc (.cells #[.string s, .string A, .string B, .string C] 9)) ∧ Next w (w1.alloc (.cells #[.string s, .string A, .string B, .string C] 9)) from by
    refine ⟨fun k hk => ?_, ⟨by simp, fun j hj => ?_⟩, hn1.out.trans (Next.of hn1.out.2 ((Below.refl _ _).alloc (Nat.le_refl _) _))⟩
    · match k, hk with
      | 0, _ => exact hS
      | 1, _ => exact hA
      | 2, _ => exact hB
      | 3, _ => exact hC
    · rw [cell_of_row _ _ j _ _ _ (heap_alloc_new w1 _)]
      match j, hj with
      | 0, _ => rfl
      | 1, _ => rfl
      | 2, _ => rfl
      | 3, _ => rfl)
  clear hA hB hC hS hn1 c0
  generalize w1.alloc (.cells #[.string s, .string A, .string B, .string C] 9) = w2 at *
  generalize w1.heap.size = g at *
  generalize [s, A, B, C] = xs at *
  go_loopw [49] (fun vk wr => ∃ k : Nat, k ≤ 4 ∧ vk = .int .i64 (k : Int) ∧ Hid (FourAt g xs wr ∧ Next w wr)) (fun vk _ => (4 - intOf vk).toNat)
  case atStart => exact ⟨0, by omega, rfl, hid_mk ⟨HX.out.2.1, HX.out.2.2⟩⟩
  case round =>
    obtain ⟨k, hk, rfl, HW⟩ := hrel
    generalize wr = wo at *
    by_cases hin : k < 4
    · have hin' : (k : Int) < 4 := by omega
      have hik0 : (0 : Int) ≤ (k : Int) := by omega
      have e1 := HW.out.1.2 k hin
      have hxs := HX.out.1 k hin
      generalize xs.getD k ⟨#[]⟩ = x at e1 hxs
      have hf1 := hid_mk (find_any x (by omega) attr wo HW.out.2.2)
      have hf2 := hid_mk (fun w => refFind_any x (by omega) attr w)
      obtain ⟨r, n, ok, hres⟩ := resV_parts (findL (sl x) attr)
      rw [hres] at hf1 hf2
      clear hres hxs HX
      go_wp2_with fail
      ((with_reducible refine hf1.out.mono ?_); skip)
      rintro e w3 ⟨rfl, hn3⟩
      have H3 := hid_mk (show FourAt g xs w3 ∧ Next w w3 from ⟨HW.out.1.below hn3.1, HW.out.2.trans hn3⟩)
      clear hn3 hf1 HW e1
      go_wp2_with fail
      refine (hf2.out w3).mono ?_
      rintro e w4 ⟨rfl, hb4⟩
      have H4 := hid_mk (show FourAt g xs w4 ∧ Next w w4 from ⟨H3.out.1.below hb4, H3.out.2.trans (Next.of H3.out.2.2 hb4)⟩)
      clear hb4 hf2 H3
      go_wp2
      go_roundw
      case rel => exact ⟨k + 1, by omega, by go_num, H4⟩
      case measure => simp [intOf]; omega
    · have hin' : ¬ (k : Int) < 4 := by omega
      clear HX
      go_wp2_with fail
      refine (works_any wo HW.out.2.2).mono ?_
      rintro e w3 ⟨rfl, hn3⟩
      have H3 := hid_mk (HW.out.2.trans hn3)
      clear hn3 HW
      go_wp2
      go_ret
      exact ⟨rfl, H3.out⟩
theorem charrefFinds_c (s : ByteArray) (wh : Int) (rest : ByteArray) (attr : Bool) (w : World) {c e : Prop} (_ : c) (hk : (Lit.int .u8 wh).wf = true) (_ : e) (hT : Tab w) :
    Calls Tryd.prog 3 #[.string s, .int .u8 wh, .string rest, .bool attr] w fun e w' => e = .returned (.bool true) ∧ Next w w' := by
  have hb := bounds_u8 hk
  obtain ⟨k, rfl⟩ : ∃ k : Nat, wh = (k : Int) := ⟨wh.toNat, by omega⟩
  exact charrefFinds_w s k (by omega) rest attr w hT
end Go.Proofs.YtflgiejnklbjnaaDoor
