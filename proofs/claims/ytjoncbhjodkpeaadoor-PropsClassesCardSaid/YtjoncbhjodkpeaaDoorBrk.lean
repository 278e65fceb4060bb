/-
  Bracket, of the program and of the document's answers: for every character what the table of pairs says. The program's table lies in the first package-level variable: a condition.
-/
import Derived.Test.YtjoncbhjodkpeaaDoorProg
import Derived.Test.YtjoncbhjodkpeaaDoorFlat
import Derived.Test.YtjoncbhjodkpeaaDoorLits
import Derived.Test.YtjoncbhjodkpeaaDoorTab
import Derived.Test.YtjoncbhjodkpeaaDoorRefMir
import Derived.WalkLawsBesides
import Derived.Deep.QuietTactic
import Derived.BigQuiet
namespace Go.Proofs.YtjoncbhjodkpeaaDoor
open Go.RowKit
def canI (x : Int) : Int := if x = 9002 then 12297 else x
theorem can_any (x : Int) (w : World) : Calls Tryd.prog 23 #[.int .i32 x] w fun e w' => e = .returned (.int .i32 (canI x)) ∧ w' = w := by
  by_cases h : x = 9002
  · subst h
    go_enter Tryd.func23, Tryd.ntmps23
    go_wp2
    go_ret
    exact ⟨rfl, rfl⟩
  · have hv : Hid (canI x = x) := hid_mk (if_neg h)
    go_enter Tryd.func23, Tryd.ntmps23
    go_wp2
    go_ret
    rw [hv.out]
    exact ⟨rfl, rfl⟩
def brL (r : Int) : List (Int × Int × Bool) → Int × Bool × Bool
  | [] => (0, false, false)
  | t :: l => if t.2.2 = true ∧ (r = t.1 ∨ r = t.2.1) then (canI t.2.1, r == t.1, true) else brL r l
theorem brL_drop (r : Int) (k : Nat) (hk : k < pairsT.length) : brL r (pairsT.drop k) = if pairsT[k].2.2 = true ∧ (r = pairsT[k].1 ∨ r = pairsT[k].2.1) then (canI pairsT[k].2.1, r == pairsT[k].1, true) else brL r (pairsT.drop (k + 1)) := by
  rw [List.drop_eq_getElem_cons hk]
  rfl
set_option maxHeartbeats 1000000 in
set_option maxRecDepth 100000 in
theorem bracket_any (r : Int) (w : World) (T : TypeId) (fr : Nat × Nat) (hg : w.heap[0]? = some (.cells pairCells T fr)) :
    Calls Tryd.prog 13 #[.int .i32 r] w fun e w' => e = .returned (.tuple #[.int .i32 (brL r pairsT).1, .bool (brL r pairsT).2.1, .bool (brL r pairsT).2.2]) ∧ Below w.heap.size w w' := by
  go_enter Tryd.func13, Tryd.ntmps13
  go_wp2_with (refine wpList_load_row rfl 48 _ rfl 0 rfl T _ fr _ hg Tryd.underlying48 rfl (by kernel_rfl) ?_)
  go_loopw [8] (fun i wr => ∃ k : Nat, k ≤ 30 ∧ i = .int .i64 k ∧ Hid (brL r pairsT = brL r (pairsT.drop k)) ∧ Below w.heap.size w wr) (fun i _ => 30 - (intOf i).toNat)
  case atStart => exact ⟨0, by omega, rfl, rfl, Below.refl _ _⟩
  case round =>
    obtain ⟨k, hk, rfl, hm, hb⟩ := hrel
    by_cases hlt : k < 30
    · have hk' : k < pairsT.length := by rw [lenP]; exact hlt
      have hi := idxP k hk'
      have hd : Hid _ := brL_drop r k hk'
      have hz := hb.size
      generalize pairsT[k] = t at hi hd
      obtain ⟨a, b, c⟩ := t
      simp only at hi hd
      have hal : ∀ v n, Below w.heap.size w ((wr.alloc v).drewN n) := fun v n => below_drewN (hb.alloc hz v) n
      have hal0 : ∀ v, Below w.heap.size w (wr.alloc v) := fun v => hb.alloc hz v
      cases c with
      | false =>
        have hv : Hid (brL r pairsT = brL r (pairsT.drop (k + 1))) := hid_mk (by rw [hm.out, hd.out, if_neg (fun h => by cases h.1)])
        go_wp2
        go_roundw
        case rel => exact ⟨k + 1, by omega, by go_num, hv, hal0 _⟩
        case measure => simp [intOf]; omega
      | true =>
        by_cases h1 : r = a
        · have hv : Hid (brL r pairsT = (canI b, true, true)) := hid_mk (by rw [hm.out, hd.out, if_pos ⟨rfl, Or.inl h1⟩]; simp [h1])
          subst h1
          go_wp2
          go_quiet ((go_at_call 23; exact Calls.quiet_of_same (can_any _ _)))
          go_wp2
          go_ret3
          rw [hv.out]
          exact ⟨by simp, hal _ _⟩
        · by_cases h2 : r = b
          · have hv : Hid (brL r pairsT = (canI b, false, true)) := hid_mk (by rw [hm.out, hd.out, if_pos ⟨rfl, Or.inr h2⟩]; simp [h1])
            subst h2
            go_wp2
            go_quiet ((go_at_call 23; exact Calls.quiet_of_same (can_any _ _)))
            go_wp2
            go_ret3
            rw [hv.out]
            exact ⟨by simp [h1], hal _ _⟩
          · have hv : Hid (brL r pairsT = brL r (pairsT.drop (k + 1))) := hid_mk (by rw [hm.out, hd.out, if_neg (fun h => by rcases h.2 with h | h <;> contradiction)])
            have h1b : (r == a) = false := by simpa using h1
            have h2b : (r == b) = false := by simpa using h2
            go_wp2
            go_roundw
            case rel => exact ⟨k + 1, by omega, by go_num, hv, hal0 _⟩
            case measure => simp [intOf]; omega
    · obtain rfl : k = 30 := by omega
      have hv : Hid (brL r pairsT = (0, false, false)) := hid_mk (by rw [hm.out]; rfl)
      go_wp2
      go_ret3
      rw [hv.out]
      exact ⟨rfl, hb⟩
/-! The document's. -/
def br2 (r : Int) : List (Int × Int) → Int × Bool × Bool
  | [] => (0, false, false)
  | t :: l => if r = t.1 ∨ r = t.2 then (if t.2 = 9002 then (12297, r == t.1, true) else (t.2, r == t.1, true)) else br2 r l
theorem lenBr : brackets.length = 23 := by decide
theorem br2_drop (r : Int) (k : Nat) (hk : k < brackets.length) : br2 r (brackets.drop k) = if r = brackets[k].1 ∨ r = brackets[k].2 then (if brackets[k].2 = 9002 then (12297, r == brackets[k].1, true) else (brackets[k].2, r == brackets[k].1, true)) else br2 r (brackets.drop (k + 1)) := by
  rw [List.drop_eq_getElem_cons hk]
  rfl
theorem br_at (k : Nat) (hk : k < brackets.length) : bracketCells[k * 2]? = some (.int .i32 brackets[k].1) ∧ bracketCells[k * 2 + 1]? = some (.int .i32 brackets[k].2) := by
  have h0 := flat_get cell2 2 (fun _ => rfl) brackets k 0 hk (by omega)
  have h1 := flat_get cell2 2 (fun _ => rfl) brackets k 1 hk (by omega)
  unfold bracketCells
  exact ⟨by simpa [cell2] using h0, by simpa [cell2] using h1⟩
set_option maxHeartbeats 1000000 in
set_option maxRecDepth 100000 in
theorem refBracket_any (r : Int) (w : World) :
    Calls Tryd.prog 14 #[.int .i32 r] w fun e w' => e = .returned (.tuple #[.int .i32 (br2 r brackets).1, .bool (br2 r brackets).2.1, .bool (br2 r brackets).2.2]) ∧ Below w.heap.size w w' := by
  have HC : Hid (∀ j, (w.alloc (.cells bracketCells 53)).cell? ⟨w.heap.size, j, none⟩ = bracketCells[j]?) := hid_mk (fun j => cell_of_row _ _ j _ _ _ (heap_alloc_new w _))
  go_enter Tryd.func14, Tryd.ntmps14
  go_wp2_with (go_at_call 24; refine (brackets_any _).mono ?_; rintro e w' ⟨rfl, rfl⟩)
  have hb : Below w.heap.size w (w.alloc (.cells bracketCells 53)) := (Below.refl _ _).alloc (Nat.le_refl _) _
  generalize w.alloc (.cells bracketCells 53) = w1 at HC hb
  go_loop [6] (fun i => ∃ k : Nat, k ≤ 23 ∧ i = .int .i64 k ∧ Hid (br2 r brackets = br2 r (brackets.drop k))) (fun i => 23 - (intOf i).toNat)
  case atStart => exact ⟨0, by omega, rfl, rfl⟩
  case round =>
    obtain ⟨k, hk, rfl, hm⟩ := hrel
    by_cases hlt : k < 23
    · have hk' : k < brackets.length := by rw [lenBr]; exact hlt
      have hd : Hid _ := br2_drop r k hk'
      obtain ⟨t0, t1⟩ := br_at k hk'
      have c0 := (HC.out (k * 2)).trans t0
      have c1 := (HC.out (k * 2 + 1)).trans t1
      clear t0 t1
      generalize brackets[k] = t at c0 c1 hd
      obtain ⟨a, b⟩ := t
      simp only at c0 c1 hd
      have h0k : (0 : Int) ≤ (k : Int) := by omega
      by_cases h1 : r = a
      · by_cases h3 : b = 9002
        · have hv : Hid (br2 r brackets = (12297, true, true)) := hid_mk (by rw [hm.out, hd.out, if_pos (Or.inl h1), if_pos h3]; simp [h1])
          subst h1
          go_wp2
          go_quiet (fail)
          go_wp2
          go_ret3
          rw [hv.out]
          exact ⟨by simp, below_drewN hb _⟩
        · have hv : Hid (br2 r brackets = (b, true, true)) := hid_mk (by rw [hm.out, hd.out, if_pos (Or.inl h1), if_neg h3]; simp [h1])
          subst h1
          go_wp2
          go_quiet (fail)
          go_wp2
          go_ret3
          rw [hv.out]
          exact ⟨by simp, below_drewN hb _⟩
      · by_cases h2 : r = b
        · subst h2
          have h1b : (r != a) = true := by simpa using h1
          by_cases h3 : r = 9002
          · have hv : Hid (br2 r brackets = (12297, false, true)) := hid_mk (by rw [hm.out, hd.out, if_pos (Or.inr rfl), if_pos h3]; simp [h1])
            subst h3
            go_wp2
            go_quiet (fail)
            go_wp2
            go_ret3
            rw [hv.out]
            exact ⟨by simp [h1], below_drewN hb _⟩
          · have hv : Hid (br2 r brackets = (r, false, true)) := hid_mk (by rw [hm.out, hd.out, if_pos (Or.inr rfl), if_neg h3]; simp [h1])
            go_wp2
            go_quiet (fail)
            go_wp2
            go_ret3
            rw [hv.out]
            exact ⟨by simp [h1], below_drewN hb _⟩
        · have hv : Hid (br2 r brackets = br2 r (brackets.drop (k + 1))) := hid_mk (by rw [hm.out, hd.out, if_neg (fun h => by rcases h with h | h <;> contradiction)])
          have h1b : (r != a) = true := by simpa using h1
          have h2b : (r != b) = true := by simpa using h2
          go_wp2
          go_round
          case rel => exact ⟨k + 1, by omega, by go_num, hv⟩
          case measure => simp [intOf]; omega
    · obtain rfl : k = 23 := by omega
      have hv : Hid (br2 r brackets = (0, false, false)) := hid_mk (by rw [hm.out]; rfl)
      go_wp2
      go_ret3
      rw [hv.out]
      exact ⟨rfl, hb⟩
end Go.Proofs.YtjoncbhjodkpeaaDoor
