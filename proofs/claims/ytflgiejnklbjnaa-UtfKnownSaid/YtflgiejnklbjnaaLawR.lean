/-
  The law of layer 2 about a text's characters: it returns true for every text.
-/
import Derived.Test.YtflgiejnklbjnaaWorks
namespace Go.Proofs.Ytflgiejnklbjnaa
open Go.RowKit
theorem own_rows {w : World} {base n : Nat} {v : Value} {rs : List Nat} (h : w.ownsRow base 21 1 v n (runeVals rs)) :
    ∃ a cap, v = .slice a n cap ∧ rs.length = n ∧ (0 < n → ∃ g cs, a = some ⟨g, 0, none⟩ ∧ base ≤ g ∧ w.heap[g]? = some (.cells cs 21 (0, 0)) ∧ ∀ j, j < n → cs[j]? = some (.int .i32 ((rs.getD j 0 : Nat) : Int))) := by
  have hlen : rs.length = n := by have := h.1; simpa [runeVals] using this
  rcases h.2 with ⟨rfl, rfl⟩ | ⟨g, cap, cur, rfl, h2, h3, h4, h5, h6, h7⟩
  · exact ⟨none, 0, rfl, hlen, fun h0 => absurd h0 (by omega)⟩
  · refine ⟨some ⟨g, 0, none⟩, cap, rfl, hlen, fun _ => ⟨g, cur, rfl, h2, h3, fun j hj => ?_⟩⟩
    have e : cur[j]? = (cur.toList.take (n * 1))[j]? := by
      rw [List.getElem?_take, if_pos (by omega), Array.getElem?_toList]
    rw [e, h7]
    have hj2 : j < rs.length := by omega
    simp [runeVals, List.getD, hj2]
theorem runesF_len : ∀ (f : Nat) (l : List UInt8), (runesF f l).length ≤ f
  | 0, _ => Nat.le_refl _
  | _ + 1, [] => Nat.zero_le _
  | f + 1, c :: l => by
    unfold runesF
    rw [List.length_cons]
    exact Nat.succ_le_succ (runesF_len f _)
theorem runesL_len (l : List UInt8) : (runesL l).length ≤ l.length := runesF_len _ _
/-- A row of characters that stands below. -/
def RowAt (w : World) (a : Option Addr) (n : Nat) (rs : List Nat) : Prop :=
  0 < n → ∃ g cs, a = some ⟨g, 0, none⟩ ∧ g < w.heap.size ∧ w.heap[g]? = some (.cells cs 21 (0, 0)) ∧ ∀ j, j < n → cs[j]? = some (.int .i32 ((rs.getD j 0 : Nat) : Int))
theorem RowAt.below {w w' : World} {a : Option Addr} {n : Nat} {rs : List Nat} (h : RowAt w a n rs) (hb : Below w.heap.size w w') : RowAt w' a n rs := fun hn => by
  obtain ⟨g, cs, h1, h2, h3, h4⟩ := h hn
  exact ⟨g, cs, h1, by have := hb.size; omega, (hb.block g h2).trans h3, h4⟩
set_option maxHeartbeats 4000000 in
set_option maxRecDepth 100000 in
theorem utfRunes_w (s : ByteArray) (w : World) :
    Calls Try.prog 12 #[.string s] w fun e w' => e = .returned (.bool true) ∧ (Below w.heap.size w w' ∧ True) := by
  by_cases hs : s.size ≤ 70000
  · have hs' : decide (70000 < (s.size : Int)) = false := by simp; omega
    have hsn : decide (70000 < s.size) = false := by simp; omega
    go_enter Try.func12, Try.ntmps12
    go_wp2_with fail
    refine (refRunes_any s (by omega) _).mono ?_
    rintro e w1 ⟨v, rfl, hown, hb1⟩
    obtain ⟨rs, hrs⟩ : ∃ rs, rs = runesL (sl s) := ⟨_, rfl⟩
    rw [← hrs] at hown
    have HRS := hid_mk hrs
    clear hrs
    obtain ⟨n, hn⟩ : ∃ n, n = rs.length := ⟨_, rfl⟩
    rw [← hn] at hown
    have HN := hid_mk hn
    have hnb : n ≤ 70000 := by
      have h1 := runesL_len (sl s)
      rw [← HRS.out, ← hn, len_sl] at h1
      omega
    clear hn
    obtain ⟨a, cap, rfl, _, hrow⟩ := own_rows hown
    have hat : RowAt w1 a n rs := fun h0 => by
      obtain ⟨g, cs, h1, h2, h3, h4⟩ := hrow h0
      exact ⟨g, cs, h1, (Array.getElem?_eq_some_iff.1 h3).1, h3, h4⟩
    have HH := hid_mk (And.intro hat hb1)
    clear hat hb1 hown hrow
    go_wp2_with fail
    go_loopw [4] (fun vt wr => ∃ t : Nat, t ≤ 2 ∧ vt = .int .i64 (t : Int) ∧ Hid (RowAt wr a n rs ∧ Below w.heap.size w wr)) (fun vt _ => (2 - intOf vt).toNat)
    case atStart => exact ⟨0, by omega, rfl, HH⟩
    case round =>
      obtain ⟨t, ht, rfl, HW⟩ := hrel
      generalize wr = wo at *
      by_cases h2 : t < 2
      · have h2' : (t : Int) < 2 := by omega
        go_wp2_with fail
        refine (runes_any s (by omega) _).mono ?_
        rintro e w3 ⟨v, rfl, hown, hb3⟩
        rw [← HRS.out, ← HN.out] at hown
        obtain ⟨al, capl, rfl, _, hrow⟩ := own_rows hown
        have HR := hid_mk (And.intro hrow hb3)
        clear hown hrow hb3
        go_wp2_with fail
        go_loopw [6] (fun vi w4 => ∃ i : Nat, i ≤ n ∧ vi = .int .i64 (i : Int) ∧ Hid (Below wo.heap.size wo w4) ∧ Hid (i < n → ∃ g cs, al = some ⟨g, 0, none⟩ ∧ wo.heap.size ≤ g ∧ w4.heap[g]? = some (.cells cs 21 (0, 0)) ∧ ∀ j, i ≤ j → j < n → cs[j]? = some (.int .i32 ((rs.getD j 0 : Nat) : Int)))) (fun vi _ => n - (intOf vi).toNat)
        case atStart =>
          refine ⟨0, by omega, rfl, hid_mk HR.out.2, hid_mk (fun h0 => ?_)⟩
          obtain ⟨g, cs, e1, e2, e3, e4⟩ := HR.out.1 h0
          exact ⟨g, cs, e1, e2, e3, fun j _ hj => e4 j hj⟩
        case round =>
          obtain ⟨i, hi, rfl, hbw, hrw⟩ := hrel
          by_cases hin : i < n
          · have hin' : (i : Int) < (n : Int) := by omega
            have hi0 : (0 : Int) ≤ (i : Int) := by omega
            obtain ⟨g, cs, rfl, hg, hgc, hcs⟩ := hrw.out hin
            obtain ⟨gw, cw, rfl, hgw, hgcw, hcw⟩ := HW.out.1 (by omega)
            have e1 : wr.cell? ⟨g, i, none⟩ = some (.int .i32 ((rs.getD i 0 : Nat) : Int)) := by rw [cell_of_row _ _ i _ _ _ hgc]; exact hcs i (Nat.le_refl _) hin
            have e2 : wr.cell? ⟨gw, i, none⟩ = some (.int .i32 ((rs.getD i 0 : Nat) : Int)) := by rw [cell_of_row _ _ i _ _ _ ((hbw.out.block gw hgw).trans hgcw)]; exact hcw i hin
            have f1 : wr.frozen? ⟨g, i, none⟩ = false := frozen_of_row _ _ i _ _ hgc
            generalize rs.getD i 0 = x at e1 e2
            have hfin := hid_mk (show Below wo.heap.size wo (wr.setCell ⟨g, i, none⟩ (.int .i32 0)).drew ∧ (i + 1 < n → ∃ g' cs', some (⟨g, 0, none⟩ : Addr) = some ⟨g', 0, none⟩ ∧ wo.heap.size ≤ g' ∧ (wr.setCell ⟨g, i, none⟩ (.int .i32 0)).drew.heap[g']? = some (.cells cs' 21 (0, 0)) ∧ ∀ j, i + 1 ≤ j → j < n → cs'[j]? = some (.int .i32 ((rs.getD j 0 : Nat) : Int))) from by
              refine ⟨(hbw.out.setCell (p := ⟨g, i, none⟩) hg _).drew, fun _ => ⟨g, _, rfl, hg, heap_setCell_same wr g i _ _ (.int .i32 0) hgc, fun j j1 j2 => ?_⟩⟩
              rw [Array.getElem?_setIfInBounds_ne (by omega)]
              exact hcs j (by omega) j2)
            clear hgc hcs hgcw hcw hbw hrw
            go_wp2_with fail
            go_region_held3 (fun w' => w' = wr.drew) (rfl) (fail)
            go_wp2
            refine ⟨⟨i + 1, by omega, by first | rfl | go_num, hid_mk hfin.out.1, hid_mk hfin.out.2⟩, ?_⟩
            simp [intOf]
            omega
          · have hin' : ¬ (i : Int) < (n : Int) := by omega
            go_wp2
            refine ⟨⟨t + 1, by omega, by first | rfl | go_num, hid_mk ⟨HW.out.1.below hbw.out, HW.out.2.trans (hbw.out.mono HW.out.2.size)⟩⟩, ?_⟩
            simp [intOf]
            omega
      · have h2' : ¬ (t : Int) < 2 := by omega
        go_wp2_with fail
        refine (works_any _).mono ?_
        rintro e w3 ⟨rfl, hb⟩
        have HB := hid_mk (HW.out.2.trans (hb.mono HW.out.2.size))
        clear hb
        go_wp2
        go_ret
        exact ⟨rfl, HB.out, trivial⟩
  · have hs' : decide (70000 < (s.size : Int)) = true := by simp; omega
    have hsn : decide (70000 < s.size) = true := by simp; omega
    go_enter Try.func12, Try.ntmps12
    go_wp2_with fail
    refine (works_any _).mono ?_
    rintro e w1 ⟨rfl, hb⟩
    go_wp2
    go_ret
    exact ⟨rfl, hb, trivial⟩
theorem utfRunes_c (s : ByteArray) (w : World) {c : Prop} (_ : c) :
    Calls Try.prog 12 #[.string s] w fun e w' => e = .returned (.bool true) ∧ (Below w.heap.size w w' ∧ True) := utfRunes_w s w
end Go.Proofs.Ytflgiejnklbjnaa
