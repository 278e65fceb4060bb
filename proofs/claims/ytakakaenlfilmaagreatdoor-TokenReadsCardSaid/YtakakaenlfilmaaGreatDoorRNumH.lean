/-
  The reference's number: a reference by number, behind &#. Condition: the text's length is bounded.
-/
import Derived.Test.YtakakaenlfilmaaGreatDoorRMath
import Derived.Test.YtakakaenlfilmaaGreatDoorExec
import Derived.Test.YtakakaenlfilmaaGreatDoorFlat
namespace Go.Proofs.YtakakaenlfilmaaGreatDoor
open Go.RowKit
theorem begins_any (s : ByteArray) (p : List UInt8) (w : World) :
    Calls Tryz.prog 75 #[.string s, .string (strOf p)] w fun e w' => e = .returned (.bool (pfx p (sl s))) ∧ w = w' := by
  have hps := size_strOf p
  have he := pfx_extract p s
  by_cases hl : p.length ≤ s.size
  · have hl' : (p.length : Int) ≤ (s.size : Int) := by omega
    have hp0 : (0 : Int) ≤ (p.length : Int) := by omega
    generalize pfx p (sl s) = b at *
    go_enter Tryz.func75, Tryz.ntmps75
    go_wp2
    go_ret
    exact ⟨rfl, rfl⟩
  · have hl' : ¬ (p.length : Int) ≤ (s.size : Int) := by omega
    have hv := hid_mk (pfx_short p (sl s) (by rw [len_sl]; omega))
    clear he
    go_enter Tryz.func75, Tryz.ntmps75
    go_wp2
    go_ret
    rw [hv.out]
    exact ⟨rfl, rfl⟩
/-- A digit's number; -1: it is none. -/
def digZ (c : Nat) : Int := if digV c = 16 then -1 else (digV c : Int)
set_option maxRecDepth 100000 in
set_option maxHeartbeats 1000000 in
theorem refDigit_any (c : Nat) (hc : c < 256) (w : World) :
    Calls Tryz.prog 94 #[.int .u8 (c : Int)] w fun e w' => e = .returned (.int .i32 (digZ c)) ∧ w = w' := by
  have h0 : (0 : Int) ≤ (c : Int) := by omega
  have hc2 : (c : Int) < 256 := by omega
  have hcase : (48 ≤ c ∧ c ≤ 57) ∨ (97 ≤ c ∧ c ≤ 102) ∨ (65 ≤ c ∧ c ≤ 70) ∨ (¬ (48 ≤ c ∧ c ≤ 57) ∧ ¬ (97 ≤ c ∧ c ≤ 102) ∧ ¬ (65 ≤ c ∧ c ≤ 70)) := by omega
  rcases hcase with h | h | h | h
  · have hv : Hid (digZ c = (c : Int) - 48) := hid_mk (by unfold digZ digV; rw [if_pos h, if_neg (by omega)]; omega)
    obtain ⟨a1, a2⟩ := h
    go_enter Tryz.func94, Tryz.ntmps94
    go_wp2
    all_goals
      go_ret
      rw [hv.out]
      exact ⟨rfl, rfl⟩
  · have hv : Hid (digZ c = (c : Int) - 97 + 10) := hid_mk (by
      have hd : digV c = c - 87 := by unfold digV; rw [if_neg (by omega), if_pos h]
      unfold digZ
      rw [hd, if_neg (by omega)]
      omega)
    obtain ⟨a1, a2⟩ := h
    go_enter Tryz.func94, Tryz.ntmps94
    go_wp2
    all_goals
      go_ret
      rw [hv.out]
      exact ⟨rfl, rfl⟩
  · have hv : Hid (digZ c = (c : Int) - 65 + 10) := hid_mk (by
      have hd : digV c = c - 55 := by unfold digV; rw [if_neg (by omega), if_neg (by omega), if_pos h]
      unfold digZ
      rw [hd, if_neg (by omega)]
      omega)
    obtain ⟨a1, a2⟩ := h
    go_enter Tryz.func94, Tryz.ntmps94
    go_wp2
    all_goals
      go_ret
      rw [hv.out]
      exact ⟨rfl, rfl⟩
  · have hv : Hid (digZ c = -1) := hid_mk (by unfold digZ digV; rw [if_neg h.1, if_neg h.2.1, if_neg h.2.2]; rfl)
    go_enter Tryz.func94, Tryz.ntmps94
    go_wp2
    all_goals first
      | (exfalso; omega)
      | (go_ret
         rw [hv.out]
         exact ⟨rfl, rfl⟩)
set_option maxRecDepth 100000 in
set_option maxHeartbeats 1000000 in
theorem alnum_any (c : Nat) (hc : c < 256) (w : World) :
    Calls Tryz.prog 78 #[.int .u8 (c : Int)] w fun e w' => e = .returned (.bool (goesB c && decide (c ≠ 61))) ∧ w = w' := by
  have h0 : (0 : Int) ≤ (c : Int) := by omega
  have hc2 : (c : Int) < 256 := by omega
  go_enter Tryz.func78, Tryz.ntmps78
  go_wp2
  all_goals
    go_ret
    refine ⟨ret_bool ?_, rfl⟩
    rw [Bool.eq_iff_iff]
    unfold goesB
    simp
    omega
def twoCell (p : Nat × Nat) : List Value := [.int .i32 (p.1 : Int), .int .i32 (p.2 : Int)]
def twoCells : Array Value := (twoTab.flatMap twoCell).toArray
theorem replaced_any (w : World) :
    Calls Tryz.prog 95 #[] w fun e w' => e = .returned (.slice (some ⟨w.heap.size, 0, none⟩) 27 27) ∧ w' = w.alloc (.cells twoCells 108) :=
  calls_exec Tryz.func95 rfl (by kernel_rfl)
theorem two_at (k : Nat) (hk : k < twoTab.length) : twoCells[k * 2]? = some (.int .i32 (twoTab[k].1 : Int)) ∧ twoCells[k * 2 + 1]? = some (.int .i32 (twoTab[k].2 : Int)) := by
  have h0 := flat_get twoCell 2 (fun _ => rfl) twoTab k 0 hk (by omega)
  have h1 := flat_get twoCell 2 (fun _ => rfl) twoTab k 1 hk (by omega)
  unfold twoCells
  exact ⟨by simpa [twoCell] using h0, by simpa [twoCell] using h1⟩
theorem lenTwo : twoTab.length = 27 := by decide
def lkp (m : Nat) (l : List (Nat × Nat)) : Nat := ((l.find? (fun p => p.1 == m)).map (·.2)).getD m
theorem lkp_drop (m k : Nat) (hk : k < twoTab.length) : lkp m (twoTab.drop k) = if twoTab[k].1 = m then twoTab[k].2 else lkp m (twoTab.drop (k + 1)) := by
  rw [List.drop_eq_getElem_cons hk]
  unfold lkp
  rw [List.find?_cons]
  by_cases h : twoTab[k].1 = m
  · rw [if_pos h]
    simp [h]
  · rw [if_neg h]
    have : (twoTab[k].1 == m) = false := by simpa using h
    rw [this]
theorem two_small : ∀ k < 27, 128 ≤ (twoTab.getD k (0, 0)).1 ∧ (twoTab.getD k (0, 0)).1 < 160 := by decide +kernel
theorem two_key (k : Nat) (hk : k < twoTab.length) : 128 ≤ twoTab[k].1 ∧ twoTab[k].1 < 160 := by
  have := two_small k (by rw [← lenTwo]; exact hk)
  rwa [show twoTab.getD k (0, 0) = twoTab[k] from by simp [List.getD, hk]] at this
theorem lkp_low : ∀ n < 160, 128 ≤ n → lkp n twoTab = numC n := by decide +kernel
theorem lkp_out (m : Nat) (h : m < 128 ∨ 160 ≤ m) : lkp m twoTab = m := by
  unfold lkp
  rw [List.find?_eq_none.2]
  · rfl
  · intro p hp
    obtain ⟨k, hk, rfl⟩ := List.mem_iff_getElem.1 hp
    have := two_key k hk
    simp
    omega
theorem lkp_num (n : Nat) (h : ¬ (n = 0 ∨ (55296 ≤ n ∧ n ≤ 57343) ∨ 1114111 < n)) : lkp n twoTab = numC n := by
  by_cases h1 : 128 ≤ n ∧ n < 160
  · exact lkp_low n h1.2 h1.1
  · rw [lkp_out n (by omega)]
    unfold numC
    rw [if_neg h, if_neg h1]
def nbR (x : List UInt8) : Nat := if atL x 0 = 120 ∨ atL x 0 = 88 then 16 else 10
def nfR (x : List UInt8) : Nat := if atL x 0 = 120 ∨ atL x 0 = 88 then 1 else 0
def numR (x : List UInt8) : Option (Nat × Nat) :=
  if (sumD (nbR x) (x.drop (nfR x)) 0).2 = 0 then none
  else some (numC (sumD (nbR x) (x.drop (nfR x)) 0).1, nfR x + (sumD (nbR x) (x.drop (nfR x)) 0).2 + if atL x (nfR x + (sumD (nbR x) (x.drop (nfR x)) 0).2) = 59 then 1 else 0)
theorem numR_find (l : List UInt8) : findNum l = (numR (l.drop 2)).map fun p => (p.1, p.2 + 2) := by
  have h0 : atL (l.drop 2) 0 = atL l 2 := by rw [atL_drop]
  have hb : nbR (l.drop 2) = baseOf l := by unfold nbR baseOf; rw [h0]
  have hf : nfR (l.drop 2) + 2 = fromOf l := by unfold nfR fromOf; rw [h0]; split <;> rfl
  have hd : (l.drop 2).drop (nfR (l.drop 2)) = l.drop (fromOf l) := by rw [List.drop_drop, ← hf, Nat.add_comm]
  unfold numR findNum
  rw [hb, hd, atL_drop]
  split
  · rfl
  · simp only [Option.map_some, Option.some.injEq, Prod.mk.injEq, true_and]
    rw [show 2 + (nfR (l.drop 2) + (sumD (baseOf l) (l.drop (fromOf l)) 0).2) = fromOf l + (sumD (baseOf l) (l.drop (fromOf l)) 0).2 by omega]
    omega
theorem pfx_byte (c : UInt8) (l : List UInt8) (h0 : c.toNat ≠ 0) : pfx [c] l = decide (atL l 0 = c.toNat) := by
  unfold pfx
  rw [decide_eq_decide]
  cases l with
  | nil =>
    show [] = [c] ↔ (0 : UInt8).toNat = c.toNat
    simp
    omega
  | cons a l =>
    show a :: l.take 0 = [c] ↔ a.toNat = c.toNat
    simp [← UInt8.toNat_inj]
end Go.Proofs.YtakakaenlfilmaaGreatDoor
