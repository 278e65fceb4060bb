/-
  The law's begins: does a text begin with one of the references that escaping writes? Condition: its length is bounded.
-/
import Derived.Test.YtnooofnlbfhopaaDoorSPure
import Derived.Deep.QuietTactic
import Derived.BigQuiet
namespace Go.Proofs.YtnooofnlbfhopaaDoor
open Go.RowKit
def safCells : Array Value := #[.string ⟨#[38, 97, 109, 112, 59]⟩, .string ⟨#[38, 108, 116, 59]⟩, .string ⟨#[38, 103, 116, 59]⟩, .string ⟨#[38, 110, 98, 115, 112, 59]⟩, .string ⟨#[38, 35, 49, 51, 59]⟩, .string ⟨#[38, 113, 117, 111, 116, 59]⟩]
theorem safe_at {v : Bool} {l : List UInt8} (h : SafeL v l) (i : Nat) (hi : i < l.length) : ¬ badB v l[i] ∧ (l[i].toNat = 38 → begL (l.drop i) = true) := by
  have := h i
  rw [List.drop_eq_getElem_cons hi] at this ⊢
  exact this
theorem pre_extract (s : ByteArray) (p : List UInt8) : ((s.extract 0 p.length).toList == (strOf p).toList) = Lib.hasPrefix (sl s) p := by
  rw [Lib.toList_data, Lib.toList_data]
  have h1 : (s.extract 0 p.length).data.toList = (sl s).take p.length := by
    have := sl_cut s 0 p.length
    rw [Nat.zero_add, List.drop_zero] at this
    exact this
  rw [h1, show (strOf p).data.toList = p from sl_strOf p, Bool.eq_iff_iff]
  unfold Lib.hasPrefix
  rw [beq_iff_eq, List.isPrefixOf_iff_prefix, List.prefix_iff_eq_take]
  exact eq_comm
theorem saf_drop (l : List UInt8) (i : Nat) (hi : i < safT.length) : ((safT.drop i).any fun p => Lib.hasPrefix l p) = (Lib.hasPrefix l safT[i] || (safT.drop (i + 1)).any fun p => Lib.hasPrefix l p) := by
  rw [List.drop_eq_getElem_cons hi]
  rfl
theorem pre_short {l p : List UInt8} (h : l.length < p.length) : Lib.hasPrefix l p = false := by
  cases hp : Lib.hasPrefix l p with
  | false => rfl
  | true =>
    have := (List.isPrefixOf_iff_prefix.1 hp).length_le
    omega
theorem saf_cell (k : Nat) (hk : k < safT.length) : safCells[k]? = some (.string (strOf safT[k])) ∧ safT[k].length ≤ 6 := by
  have h6 : k < 6 := hk
  rcases (by omega : k = 0 ∨ k = 1 ∨ k = 2 ∨ k = 3 ∨ k = 4 ∨ k = 5) with rfl | rfl | rfl | rfl | rfl | rfl <;> exact ⟨rfl, by show _ ≤ 6; simp [safT]⟩
theorem bel_drew {B : Nat} {a w : World} (h : Below B a w) : ∀ n, Below B a (w.drewN n)
  | 0 => h
  | n + 1 => (bel_drew h n).drew
set_option maxHeartbeats 4000000 in
set_option maxRecDepth 100000 in
theorem begins6_any (s : ByteArray) (w : World) :
    Calls Tryd.prog 13 #[.string s] w fun e w' => e = .returned (.bool (begL (sl s))) ∧ Below w.heap.size w w' := by
  obtain ⟨B, hB⟩ : ∃ B, B = begL (sl s) := ⟨_, rfl⟩
  rw [← hB]
  have HB := hid_mk hB
  clear hB
  obtain ⟨w0, hw0⟩ : ∃ w0, w0 = w.alloc (.cells safCells 9 (0, 0)) := ⟨_, rfl⟩
  have hcell := hid_mk (show ∀ j, w0.cell? ⟨w.heap.size, j, none⟩ = safCells[j]? from fun j => by rw [hw0]; exact cell_of_row _ _ j _ _ _ (heap_alloc_new w _))
  have hbel := hid_mk (show Below w.heap.size w w0 by rw [hw0]; exact (Below.refl _ _).alloc (Nat.le_refl _) _)
  have HW0 := hid_mk hw0.symm
  clear hw0
  go_enter Tryd.func13, Tryd.ntmps13
  go_wp2_with fail
  unfold safCells at HW0
  rw [HW0.out]
  clear HW0
  go_loopw [4] (fun vi wr => ∃ i : Nat, i ≤ 6 ∧ vi = .int .i64 (i : Int) ∧ Hid (B = ((safT.drop i).any fun p => Lib.hasPrefix (sl s) p)) ∧ Hid ((∀ j, wr.cell? ⟨w.heap.size, j, none⟩ = safCells[j]?) ∧ Below w.heap.size w wr)) (fun vi _ => 6 - (intOf vi).toNat)
  case atStart => exact ⟨0, by omega, rfl, HB, hid_mk ⟨hcell.out, hbel.out⟩⟩
  case round =>
    obtain ⟨i, hi, rfl, hf, HW⟩ := hrel
    clear HB hbel hcell
    by_cases hin : i < 6
    · have hin' : (i : Int) < 6 := by omega
      have hi0 : (0 : Int) ≤ (i : Int) := by omega
      have hsc := saf_cell i hin
      have hsd := saf_drop (sl s) i hin
      have hex := pre_extract s safT[i]
      have hpz := size_strOf safT[i]
      have c0 := (HW.out.1 i).trans hsc.1
      have hp6 := hsc.2
      rw [hsd] at hf
      clear hsc hsd
      generalize safT[i] = p at *
      by_cases hl : p.length ≤ s.size
      · have hl' : (p.length : Int) ≤ (s.size : Int) := by omega
        have hl2 : ((strOf p).size : Int) ≤ (s.size : Int) := by omega
        have hl3 : (strOf p).size ≤ s.size := by omega
        rw [← hpz] at hex
        cases hpp : Lib.hasPrefix (sl s) p with
        | true =>
          rw [hpp] at hex hf
          have HR := hid_mk (show B = true by rw [hf.out]; rfl)
          clear hpp hf hl hl' hp6 hpz hin hi
          generalize strOf p = P at *
          clear p
          go_wp2_with fail
          go_quiet (fail)
          have HD := hid_mk (And.intro (show ∀ j, (wr.drewN nq).cell? ⟨w.heap.size, j, none⟩ = safCells[j]? from HW.out.1) (bel_drew HW.out.2 nq))
          go_wp2_with fail
          go_ret
          rw [HR.out]
          exact ⟨rfl, HD.out.2⟩
        | false =>
          rw [hpp] at hex hf
          have HR := hid_mk (show B = ((safT.drop (i + 1)).any fun p => Lib.hasPrefix (sl s) p) by rw [hf.out]; rfl)
          clear hpp hf hl hl' hp6 hpz hin hi
          generalize strOf p = P at *
          clear p
          go_wp2_with fail
          go_quiet (fail)
          have HD := hid_mk (And.intro (show ∀ j, (wr.drewN nq).cell? ⟨w.heap.size, j, none⟩ = safCells[j]? from HW.out.1) (bel_drew HW.out.2 nq))
          go_wp2_with fail
          go_roundw
          case rel => exact ⟨i + 1, by omega, by first | rfl | go_num, HR, HD⟩
          case measure => simp [intOf]; omega
      · have hl' : ¬ (p.length : Int) ≤ (s.size : Int) := by omega
        have hl2 : decide ((strOf p).size ≤ s.size) = false := by simp; omega
        have HR := hid_mk (show B = ((safT.drop (i + 1)).any fun p => Lib.hasPrefix (sl s) p) by rw [hf.out, pre_short (by rw [len_sl]; omega)]; rfl)
        clear hf hex hl hl' hp6 hpz hi
        generalize strOf p = P at *
        clear p
        go_wp2_with fail
        go_quiet (fail)
        have HD := hid_mk (And.intro (show ∀ j, (wr.drewN nq).cell? ⟨w.heap.size, j, none⟩ = safCells[j]? from HW.out.1) (bel_drew HW.out.2 nq))
        go_wp2_with fail
        go_roundw
        case rel => exact ⟨i + 1, by omega, by first | rfl | go_num, HR, HD⟩
        case measure => simp [intOf]; omega
    · have hin' : ¬ (i : Int) < 6 := by omega
      obtain rfl : i = 6 := by omega
      have HR := hid_mk (show B = false by rw [hf.out]; rfl)
      go_wp2_with fail
      go_ret
      rw [HR.out]
      exact ⟨rfl, HW.out.2⟩
end Go.Proofs.YtnooofnlbfhopaaDoor
