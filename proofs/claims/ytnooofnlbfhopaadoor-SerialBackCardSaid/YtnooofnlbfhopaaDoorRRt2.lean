/-
  Package tree's rightText, hasName, rightElement. Conditions: sizes are bounded; the world holds Go's own tables.
-/
import Derived.Test.YtnooofnlbfhopaaDoorRRt1
namespace Go.Proofs.YtnooofnlbfhopaaDoor
open Go.RowKit
theorem any_step {l : List (List UInt8 × List UInt8)} {k : Nat} (hk : k < l.length) (s : List UInt8) : (l.take (k + 1)).any (fun a => a.1 == s) = ((l.take k).any (fun a => a.1 == s) || (l[k].1 == s)) := by
  rw [List.take_add_one, List.any_append, List.getElem?_eq_getElem hk]
  simp
set_option maxHeartbeats 2000000 in
set_option maxRecDepth 100000 in
theorem hasName_any (a : Option Addr) (c : Nat) (l : List (List UInt8 × List UInt8)) (n : Nat) (s : ByteArray) (w : World) (h : HasRow w a (l.flatMap atF)) (hn : n ≤ l.length) (hl : l.length ≤ 1000000) :
    Calls Tryd.prog 68 #[.slice a n c, .string s] w fun e w' => e = .returned (.bool ((l.take n).any fun a => a.1 == sl s)) ∧ Below w.heap.size w w' := by
  obtain ⟨R, hR⟩ : ∃ R, R = (l.take n).any (fun a => a.1 == sl s) := ⟨_, rfl⟩
  rw [← hR]
  have HR := hid_mk hR
  have H := hid_mk h
  have HNL := hid_mk (And.intro hn hl)
  have hn2 : n ≤ 1000000 := by omega
  clear hR h hn hl
  go_enter Tryd.func68, Tryd.ntmps68
  go_wp2_with fail
  go_loopw [9] (fun i wr => ∃ k : Nat, k ≤ n ∧ i = .int .i64 k ∧ Hid ((l.take k).any (fun a => a.1 == sl s) = false) ∧ Hid (Below w.heap.size w wr)) (fun i _ => n - (intOf i).toNat)
  case atStart => exact ⟨0, Nat.zero_le _, rfl, hid_mk rfl, hid_mk (Below.refl _ _)⟩
  case round =>
    obtain ⟨k, hk, rfl, hno, hW⟩ := hrel
    generalize wr = wo at *
    by_cases hlt : k < n
    · have hlti : (k : Int) < (n : Int) := by omega
      have hkl : k < l.length := by have := HNL.out.1; omega
      obtain ⟨x, hx, hxl, c0, c1⟩ := (H.out.below hW.out).at2 hkl
      subst hx
      have HST := hid_mk (any_step hkl (sl s))
      obtain ⟨t, ht⟩ : ∃ t, t = l[k] := ⟨_, rfl⟩
      rw [← ht] at c0 c1 HST
      have c2 : wo.cell? ⟨(x.add (k * 2)).block, (x.add (k * 2)).off + 1, none⟩ = some (.string (strOf t.2)) := by rw [← show (x.add (k * 2)).add 1 = ⟨(x.add (k * 2)).block, (x.add (k * 2)).off + 1, none⟩ from rfl, Addr.add_add]; exact c1
      have HB := hid_mk (show Below w.heap.size w (wo.alloc (.cells #[.string (strOf t.1), .string (strOf t.2)] 35 (0, 0))) from hW.out.trans (((Below.refl _ _).alloc (Nat.le_refl _) _).mono hW.out.size))
      have HTL := hid_mk (show t.1 = t.1 → ∀ j, j < n → k = j → (l.take n).any (fun a => a.1 == t.1) = true from fun _ j hj hkj => by
        rw [List.any_eq_true]
        exact ⟨t, by rw [List.mem_iff_getElem?]; exact ⟨k, by rw [List.getElem?_take, if_pos hlt, List.getElem?_eq_getElem hkl, ht]⟩, by simp⟩)
      clear ht
      cases hq : (t.1 == sl s) with
      | true =>
        have heq : ((strOf t.1).toList == s.toList) = true := by rw [toList_strOf, Lib.toList_data]; exact hq
        have HE := hid_mk (show R = true by rw [HR.out, ← (beq_iff_eq.1 hq)]; exact HTL.out rfl k hlt rfl)
        clear hq
        go_wp2_with fail
        go_ret
        rw [HE.out]
        exact ⟨rfl, HB.out⟩
      | false =>
        have heq : ((strOf t.1).toList == s.toList) = false := by rw [toList_strOf, Lib.toList_data]; exact hq
        rw [hno.out, hq] at HST
        clear hq
        go_wp2_with fail
        go_roundw
        case rel => exact ⟨k + 1, by omega, by go_num, HST, HB⟩
        case measure => simp [intOf]; omega
    · have hlti : ¬ (k : Int) < (n : Int) := by omega
      have HE := hid_mk (show R = false by rw [HR.out, ← show k = n by omega]; exact hno.out)
      go_wp2_with fail
      go_ret
      rw [HE.out]
      exact ⟨rfl, hW.out⟩
set_option maxHeartbeats 1000000 in
set_option maxRecDepth 100000 in
theorem rightText_any (n : Nx) (a : Option Addr) (c : Nat) (kv : Value) (w : World) (hT : TabV w) (hs : n.data.length ≤ 1000000000) :
    Calls Tryd.prog 54 #[.agg #[.int .u8 (n.kind : Int), .string (strOf n.name), .slice a n.attrs.length c, .string (strOf n.data), .int .i64 n.up, kv]] w fun e w' => e = .returned (.bool (textX n)) ∧ Below w.heap.size w w' := by
  obtain ⟨R, hR⟩ : ∃ R, R = textX n := ⟨_, rfl⟩
  rw [← hR]
  have q3 : (strOf n.name).toList.isEmpty = (n.name == []) := by rw [toList_strOf]; cases n.name <;> rfl
  have q4 : ((n.attrs.length : Int) == 0) = (n.attrs.length == 0) := by rw [Bool.eq_iff_iff]; simp
  have q5 : (strOf n.data).toList.isEmpty = (n.data == []) := by rw [toList_strOf]; cases n.data <;> rfl
  have q0 : (⟨#[]⟩ : ByteArray).toList = [] := by rw [Lib.toList_data]
  have HR := hid_mk (show R = ((n.name == []) && (n.attrs.length == 0) && !(n.data == []) && dataX n.data) from hR)
  have hal : Below w.heap.size w (w.alloc (.cells #[.int .u8 (n.kind : Int), .string (strOf n.name), .slice a n.attrs.length c, .string (strOf n.data), .int .i64 n.up, kv] 33 (0, 0))) := (Below.refl _ _).alloc (Nat.le_refl _) _
  have HAL := hid_mk hal
  have hd := hid_mk (rightData_any (strOf n.data) _ (hT.below hal) (by rw [size_strOf]; exact hs))
  rw [sl_strOf] at hd
  clear hR hal hT
  generalize (n.name == []) = b3 at *
  generalize (n.attrs.length == 0) = b4 at *
  generalize (n.data == []) = b5 at *
  generalize dataX n.data = b6 at *
  go_enter Tryd.func54, Tryd.ntmps54
  cases b3
  all_goals cases b4
  all_goals cases b5
  all_goals
    go_wp2_with fail
    first
      | (go_ret
         rw [HR.out]
         exact ⟨rfl, HAL.out⟩)
      | ((with_reducible refine hd.out.mono ?_)
         rintro e w1 ⟨rfl, hb⟩
         have HB := hid_mk (HAL.out.trans (hb.mono HAL.out.size))
         clear hb
         go_wp2_with fail
         go_ret
         rw [HR.out]
         exact ⟨rfl, HB.out⟩)
end Go.Proofs.YtnooofnlbfhopaaDoor
