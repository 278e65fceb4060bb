/-
  The reference's String: characters as a text. Condition: their number is bounded.
-/
import Derived.Test.YtflgiejnklbjnaaDoorROne
import Derived.OwnWalk
namespace Go.Proofs.YtflgiejnklbjnaaDoor
open Go.RowKit
set_option maxHeartbeats 4000000 in
set_option maxRecDepth 100000 in
theorem refString_any (a : Option Addr) (cap : Nat) (rs : List Int) (hr : ∀ r ∈ rs, -2147483648 ≤ r ∧ r ≤ 2147483647) (hl : rs.length ≤ 20000) (w : World) (h : HasRunes w a rs) :
    Calls Tryd.prog 16 #[.slice a rs.length cap] w fun e w' => e = .returned (.string (strOf (encL rs))) ∧ Below w.heap.size w w' := by
  obtain ⟨n, hn⟩ : ∃ n, n = rs.length := ⟨_, rfl⟩
  rw [← hn] at hl ⊢
  have HN := hid_mk hn
  clear hn
  go_enter Tryd.func16, Tryd.ntmps16
  go_wp2_with fail
  go_loopw [3, 4] (fun vb vi wr => ∃ i : Nat, i ≤ n ∧ vi = .int .i64 (i : Int) ∧ Hid (wr.ownsRow w.heap.size 5 1 vb (encL (rs.take i)).length (Lib.byteCells (encL (rs.take i))) ∧ Below w.heap.size w wr)) (fun _ vi _ => n - (intOf vi).toNat)
  case atStart => exact ⟨0, by omega, rfl, hid_mk ⟨⟨rfl, .inl ⟨rfl, rfl⟩⟩, Below.refl _ _⟩⟩
  case round =>
    obtain ⟨i, hi, rfl, HS⟩ := hrel
    by_cases hin : i < n
    · have hin' : (i : Int) < (n : Int) := by omega
      have hi0 : (0 : Int) ≤ (i : Int) := by omega
      have hlen : i < rs.length := by rw [← HN.out]; exact hin
      have hrb := hr (rs.getD i 0) (by
        have e : rs.getD i 0 = rs[i] := by simp [List.getD, hlen]
        rw [e]
        exact List.getElem_mem hlen)
      have ht := hid_mk (encL_take rs i hlen)
      have h4 : (encL (rs.take i)).length ≤ 80000 := by
        have := encL_len (rs.take i)
        rw [List.length_take] at this
        omega
      rcases h.below HS.out.2 with ⟨_, h0⟩ | ⟨x, rfl, _, hc⟩
      · rw [h0] at hlen
        exact absurd hlen (by simp)
      have c0 := hc i hlen
      clear hc hlen
      generalize rs.getD i 0 = r at *
      generalize encL (rs.take i) = acc at *
      go_wp2_with fail
      refine (refOne_any r hrb.1 hrb.2 _).mono ?_
      rintro e w1 ⟨rfl, rfl⟩
      have hk := enc_le r
      have hkc : (Lib.runeCells r).length = (Lib.encodeRune r).length := Lib.runeCells_length r
      go_wp2_with (at_builtin; refine Classical.byContradiction fun hno => ?_)
      refine hno ?_
      clear hno
      obtain ⟨i0, hi, hz0, hz1, hz2⟩ := info_parts infoByte
      have hsz := HS.out.2.size
      refine wpList_append_own _ rfl (.tmp 11) (.tmp 16) _ rfl w.heap.size 5 i0 _ 1 1 Tryd.underlying33 hi hz0 hz1 hz2 rfl (by decide) _ acc.length (Lib.byteCells acc) rfl (HS.out.1.alloc _) ⟨wr.heap.size, 0, none⟩ (Lib.encodeRune r).length (Lib.encodeRune r).length (Lib.runeCells r) rfl (by rw [hkc, Nat.mul_one]) ?c1 ?c2 ?c3 ?c4 ?c5 ?_
      case c1 =>
        intro j u hu
        rw [addr_add0, cell_of_row _ _ j _ _ _ (heap_alloc_new wr _)]
        simpa using hu
      case c2 => exact runeCells_one r
      case c3 => unfold maxLen; omega
      case c4 => omega
      case c5 => simp; omega
      intro v' w2 hown1 hgrow _
      have hfin := hid_mk (show w2.ownsRow w.heap.size 5 1 v' (encL (rs.take (i + 1))).length (Lib.byteCells (encL (rs.take (i + 1)))) ∧ Below w.heap.size w w2 from by
        rw [ht.out, List.length_append, Lib.byteCells_append, Lib.byteCells_encodeRune]
        exact ⟨hown1, (HS.out.2.alloc hsz _).grown hgrow (by simp; omega) (fun k hk => own_base HS.out.1 k hk)⟩)
      clear HS hown1 hgrow hi hz0 hz1 hz2 hkc
      clear i0
      go_wp2
      go_roundw
      case rel => exact ⟨i + 1, by omega, by first | rfl | go_num, hfin⟩
      case measure => simp [intOf]; omega
    · obtain rfl : i = n := by omega
      have hv : rs.take i = rs := by rw [HN.out]; exact List.take_length
      rw [hv] at HS
      obtain ⟨a', cap', hv', hhas⟩ := own_bytes HS.out.1
      have hcv := bytes_conv wr a' cap' _ hhas
      have HB := hid_mk HS.out.2
      have hin' : ¬ (i : Int) < (i : Int) := by omega
      subst hv'
      clear HS hhas hv hin
      go_wp2
      go_ret
      exact ⟨rfl, HB.out⟩
/-- One character as a text. -/
theorem refString_one (w : World) (r : Int) (hr : -2147483648 ≤ r ∧ r ≤ 2147483647) (a : Option Addr) (cap : Nat) (hh : HasRunes w a [r]) :
    Calls Tryd.prog 16 #[.slice a 1 cap] w fun e w' => e = .returned (.string (strOf (Lib.encodeRune r))) ∧ Below w.heap.size w w' := by
  refine (refString_any a cap [r] (fun x hx => by simp at hx; rw [hx]; exact hr) (by simp) w hh).mono ?_
  rintro e w' ⟨rfl, hb⟩
  refine ⟨?_, hb⟩
  unfold encL
  rw [List.flatMap_cons, List.flatMap_nil, List.append_nil]
end Go.Proofs.YtflgiejnklbjnaaDoor
