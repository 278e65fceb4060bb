/-
  The look-up by halves: Class's closure, and sort.Search over it: what index comes out. Conditions: the character's cell and the ranges' cells lie in memory.
-/
import Derived.Test.YtjoncbhjodkpeaaDoorProg
import Derived.Test.YtjoncbhjodkpeaaDoorFlat
import Derived.Test.YtjoncbhjodkpeaaDoorCls
import Derived.Test.YtjoncbhjodkpeaaDoorSpans
import Derived.Test.YtjoncbhjodkpeaaDoorTab
import Derived.WalkLawsBesides
import Derived.Deep.QuietTactic
import Derived.BigQuiet
namespace Go.Proofs.YtjoncbhjodkpeaaDoor
open Go.RowKit
theorem span_at (k : Nat) (hk : k < spans.length) : spanCells[k * 3]? = some (.int .i32 spans[k].1) ∧ spanCells[k * 3 + 1]? = some (.int .i32 spans[k].2.1) ∧ spanCells[k * 3 + 2]? = some (.int .u8 spans[k].2.2) := by
  have h0 := flat_get cell3 3 (fun _ => rfl) spans k 0 hk (by omega)
  have h1 := flat_get cell3 3 (fun _ => rfl) spans k 1 hk (by omega)
  have h2 := flat_get cell3 3 (fun _ => rfl) spans k 2 hk (by omega)
  unfold spanCells
  exact ⟨by simpa [cell3] using h0, by simpa [cell3] using h1, by simpa [cell3] using h2⟩
theorem cl1_any (r L : Int) (k : Nat) (hk : k < 146) (b g : Nat) (w : World) (hb : w.cell? ⟨b, 0, none⟩ = some (.int .i32 r)) (hg : w.cell? ⟨g, k * 3 + 1, none⟩ = some (.int .i32 L)) :
    Calls Tryd.prog 22 #[.int .i64 k, .pointer (some ⟨b, 0, none⟩), .pointer (some ⟨g, 0, none⟩)] w fun e w' => e = .returned (.bool (decide (r ≤ L))) ∧ ∃ n, w' = w.drewN n := by
  have h0 : (0 : Int) ≤ (k : Int) := by omega
  have h1 : (k : Int) < 146 := by omega
  go_enter Tryd.func22, Tryd.ntmps22
  go_wp2
  go_quiet (fail)
  go_wp2
  go_ret
  exact ⟨rfl, _, rfl⟩
def Found (r : Int) (i : Nat) : Prop := i ≤ 146 ∧ (∀ k (h : k < spans.length), k < i → spans[k].2.1 < r) ∧ (∀ h : i < spans.length, r ≤ spans[i].2.1)
def Low (r : Int) (i : Nat) : Prop := ∀ k (h : k < spans.length), k < i → spans[k].2.1 < r
def High (r : Int) (j : Nat) : Prop := ∀ h : j < spans.length, r ≤ spans[j].2.1
def SearchPost (r : Int) (w : World) (e : Ending) (w' : World) : Prop := ∃ i : Nat, e = .returned (.int .i64 i) ∧ Found r i ∧ ∃ n, w' = w.drewN n
theorem cell_drewN (w : World) (n : Nat) (a : Addr) : (w.drewN n).cell? a = w.cell? a := by
  induction n with
  | zero => rfl
  | succ n ih => exact ih
theorem drewN_drewN (w : World) (m n : Nat) : ∃ k, (w.drewN m).drewN n = w.drewN k := by
  refine ⟨m + n, ?_⟩
  induction n with
  | zero => rfl
  | succ n ih => exact congrArg World.drew ih
set_option maxHeartbeats 1000000 in
theorem search_any (r : Int) (b g : Nat) (w : World) (hb : w.cell? ⟨b, 0, none⟩ = some (.int .i32 r)) (hg : ∀ j, w.cell? ⟨g, j, none⟩ = spanCells[j]?) :
    Calls Tryd.prog 21 #[.int .i64 146, .func (.func 22) #[] #[.pointer (some ⟨b, 0, none⟩), .pointer (some ⟨g, 0, none⟩)]] w (SearchPost r w) := by
  have HG : Hid _ := hg
  clear hg
  have HB : Hid _ := hb
  clear hb
  go_enter Tryd.func21, Tryd.ntmps21
  go_wp2
  go_loopw [5, 6] (fun vi vj wr => ∃ i j : Nat, i ≤ j ∧ j ≤ 146 ∧ vi = .int .i64 i ∧ vj = .int .i64 j ∧ Low r i ∧ High r j ∧ ∃ n, wr = w.drewN n) (fun vi vj _ => (intOf vj).toNat - (intOf vi).toNat)
  case atStart => exact ⟨0, 146, by omega, by omega, rfl, rfl, fun k h hk => absurd hk (by omega), fun h => absurd h (by rw [lenS]; omega), 0, rfl⟩
  case round =>
    obtain ⟨i, j, hij, hj, rfl, rfl, hlow, hhigh, n, rfl⟩ := hrel
    by_cases hlt : i < j
    · have hh : (i + j) / 2 < 146 := by omega
      have h0 : (0 : Int) ≤ (i : Int) := by omega
      have h1 : (0 : Int) ≤ (j : Int) := by omega
      have h2 : (j : Int) ≤ 146 := by omega
      have h3 : (i : Int) ≤ 146 := by omega
      have eh : ((i : Int) + (j : Int)) / 2 = (((i + j) / 2 : Nat) : Int) := by omega
      have EH : Hid _ := eh
      clear eh
      have hk : (i + j) / 2 < spans.length := by rw [lenS]; exact hh
      have ha : i ≤ (i + j) / 2 := by omega
      have hb2 : (i + j) / 2 < j := by omega
      have hc := (HG.out ((i + j) / 2 * 3 + 1)).trans (span_at _ hk).2.1
      have HC : Hid _ := hc
      clear hc
      have hL : Hid (∀ x, x = spans[(i + j) / 2].2.1 → (x < r → Low r ((i + j) / 2 + 1)) ∧ (r ≤ x → High r ((i + j) / 2))) := hid_mk (fun x hx => ⟨fun hlt k hk' hle => by have := last_mono hk' hk (by omega); omega, fun hge _ => by omega⟩)
      generalize hx : spans[(i + j) / 2].2.1 = x at HC
      have hL2 := hL.out x hx.symm
      clear hx hL
      go_wp2_with fail
      rw [EH.out]
      generalize (i + j) / 2 = m at *
      refine (cl1_any r x m hh b g (w.drewN n) ((cell_drewN w n _).trans HB.out) ((cell_drewN w n _).trans HC.out)).mono ?_
      rintro e w' ⟨rfl, n2, rfl⟩
      obtain ⟨n3, e3⟩ := drewN_drewN w n n2
      rw [e3]
      clear EH
      by_cases hr : r ≤ x
      · have hd : decide (r ≤ x) = true := by simpa using hr
        have hH := hL2.2 hr
        clear hL2
        go_wp2
        go_roundw
        case rel => exact ⟨i, m, by omega, by omega, rfl, rfl, hlow, hH, n3, rfl⟩
        case measure => simp [intOf]; omega
      · have hd : decide (r ≤ x) = false := by simpa using hr
        have hH := hL2.1 (by omega)
        clear hL2
        go_wp2
        go_roundw
        case rel => exact ⟨m + 1, j, by omega, by omega, by go_num, rfl, hH, hhigh, n3, rfl⟩
        case measure => simp [intOf]; omega
    · obtain rfl : i = j := by omega
      go_wp2
      go_ret
      exact ⟨i, rfl, ⟨hj, hlow, hhigh⟩, n, rfl⟩
end Go.Proofs.YtjoncbhjodkpeaaDoor
