/-
  The reference's String: characters as a text. Condition: their number is bounded.
-/
import Derived.Test.YtflgiejnklbjnaaRefOne
namespace Go.Proofs.Ytflgiejnklbjnaa
open Go.RowKit
theorem own_bytes {w : World} {base : Nat} {v : Value} {bs : List UInt8} (h : w.ownsRow base 5 1 v bs.length (Lib.byteCells bs)) : ∃ a cap, v = .slice a bs.length cap ∧ HasBytes w a bs := by
  rcases h.2 with ⟨rfl, h0⟩ | ⟨g, cap, cur, rfl, h2, h3, h4, h5, h6, h7⟩
  · exact ⟨none, 0, by rw [h0], .inl ⟨rfl, List.eq_nil_of_length_eq_zero h0⟩⟩
  · refine ⟨some ⟨g, 0, none⟩, cap, rfl, .inr ⟨_, rfl, fun _ => (Array.getElem?_eq_some_iff.1 h3).1, fun j u hu => ?_⟩⟩
    rw [addr_add0, cell_of_row w g j _ _ _ h3]
    have hj : j < bs.length * 1 := by
      have := (List.getElem?_eq_some_iff.1 hu).1
      rw [Lib.byteCells_length] at this
      omega
    have e : cur[j]? = (cur.toList.take (bs.length * 1))[j]? := by
      rw [List.getElem?_take, if_pos hj, Array.getElem?_toList]
    rw [e, h7]
    exact hu
theorem encL_take (rs : List Int) (i : Nat) (h : i < rs.length) : encL (rs.take (i + 1)) = encL (rs.take i) ++ Lib.encodeRune (rs.getD i 0) := by
  rw [List.take_add_one]
  unfold encL
  rw [List.flatMap_append]
  simp [List.getD, h]
theorem enc_le (r : Int) : 1 ≤ (Lib.encodeRune r).length ∧ (Lib.encodeRune r).length ≤ 4 := by
  unfold Lib.encodeRune
  rw [List.length_map]
  exact Lib.encodeRuneZ_length r
theorem encL_len : ∀ (rs : List Int), (encL rs).length ≤ 4 * rs.length
  | [] => Nat.le_refl _
  | r :: rs => by
    have h1 := encL_len rs
    have h2 := (enc_le r).2
    unfold encL at h1 ⊢
    rw [List.flatMap_cons, List.length_append, List.length_cons]
    omega
theorem runeCells_one (r : Int) : ∀ v ∈ Lib.runeCells r, v.oneCell' = true := by
  intro v hv
  unfold Lib.runeCells at hv
  rw [List.mem_map] at hv
  obtain ⟨x, _, rfl⟩ := hv
  rfl
set_option maxHeartbeats 4000000 in
set_option maxRecDepth 100000 in
theorem refString_any (a : Option Addr) (cap : Nat) (rs : List Int) (hr : ∀ r ∈ rs, -2147483648 ≤ r ∧ r ≤ 2147483647) (hl : rs.length ≤ 20000) (w : World) (h : HasRunes w a rs) :
    Calls Try.prog 23 #[.slice a rs.length cap] w fun e w' => e = .returned (.string (strOf (encL rs))) ∧ Below w.heap.size w w' := by
  obtain ⟨n, hn⟩ : ∃ n, n = rs.length := ⟨_, rfl⟩
  rw [← hn] at hl ⊢
  have HN := hid_mk hn
  clear hn
  go_enter Try.func23, Try.ntmps23
  go_wp2_with fail
  go_loopw [3, 4] (fun vb vi wr => ∃ i : Nat, i ≤ n ∧ vi = .int .i64 (i : Int) ∧ Hid (wr.ownsRow w.heap.size 5 1 vb (encL (rs.take i)).length (Lib.byteCells (encL (rs.take i))) ∧ Below w.heap.size w wr)) (fun _ vi _ => n - (intOf vi).toNat)
  case atStart => exact ⟨0, by omega, rfl, hid_mk ⟨⟨rfl, .inl ⟨rfl, rfl⟩⟩, Below.refl _ _⟩⟩
  case round =>
    obtain ⟨i, hi, rfl, HS⟩ := hrel
    by_cases hin : i < n
    · have hin' : (i : Int) < (n : Int) := by omega
      have hi0 : (0 : Int) ≤ (i : Int) := by omega
      have hlen : i < rs.length := by rw [← HN.out]; exact hin
      have hrb := hr (rs.getD i 0) (by
        have e : rs.getD i 0 = rs[i] := by simp [List.getD, hlen]
        rw [e]
        exact List.getElem_mem hlen)
      have ht := hid_mk (encL_take rs i hlen)
      have h4 : (encL (rs.take i)).length ≤ 80000 := by
        have := encL_len (rs.take i)
        rw [List.length_take] at this
        omega
      rcases h.below HS.out.2 with ⟨_, h0⟩ | ⟨x, rfl, _, hc⟩
      · rw [h0] at hlen
        exact absurd hlen (by simp)
      have c0 := hc i hlen
      clear hc hlen
      generalize rs.getD i 0 = r at *
      generalize encL (rs.take i) = acc at *
      go_wp2_with fail
      refine (refOne_any r hrb.1 hrb.2 _).mono ?_
      rintro e w1 ⟨rfl, rfl⟩
      have hk := enc_le r
      have hkc : (Lib.runeCells r).length = (Lib.encodeRune r).length := Lib.runeCells_length r
      go_wp2_with (at_builtin; refine Classical.byContradiction fun hno => ?_)
      refine hno ?_
      clear hno
      obtain ⟨i0, hi, hz0, hz1, hz2⟩ := info_parts infoByte
      have hsz := HS.out.2.size
      refine wpList_append_own _ rfl (.tmp 11) (.tmp 16) _ rfl w.heap.size 5 i0 _ 1 1 Try.underlying22 hi hz0 hz1 hz2 rfl (by decide) _ acc.length (Lib.byteCells acc) rfl (HS.out.1.alloc _) ⟨wr.heap.size, 0, none⟩ (Lib.encodeRune r).length (Lib.encodeRune r).length (Lib.runeCells r) rfl (by rw [hkc, Nat.mul_one]) ?c1 ?c2 ?c3 ?c4 ?c5 ?_
      case c1 =>
        intro j u hu
        rw [addr_add0, cell_of_row _ _ j _ _ _ (heap_alloc_new wr _)]
        simpa using hu
      case c2 => exact runeCells_one r
      case c3 => unfold maxLen; omega
      case c4 => omega
      case c5 => simp; omega
      intro v' w2 hown1 hgrow _
      have hfin := hid_mk (show w2.ownsRow w.heap.size 5 1 v' (encL (rs.take (i + 1))).length (Lib.byteCells (encL (rs.take (i + 1)))) ∧ Below w.heap.size w w2 from by
        rw [ht.out, List.length_append, Lib.byteCells_append, Lib.byteCells_encodeRune]
        exact ⟨hown1, (HS.out.2.alloc hsz _).grown hgrow (by simp; omega) (fun k hk => own_base HS.out.1 k hk)⟩)
      clear HS hown1 hgrow hi hz0 hz1 hz2 hkc
      clear i0
      go_wp2
      go_roundw
      case rel => exact ⟨i + 1, by omega, by first | rfl | go_num, hfin⟩
      case measure => simp [intOf]; omega
    · obtain rfl : i = n := by omega
      have hv : rs.take i = rs := by rw [HN.out]; exact List.take_length
      rw [hv] at HS
      obtain ⟨a', cap', hv', hhas⟩ := own_bytes HS.out.1
      have hcv := bytes_conv wr a' cap' _ hhas
      have HB := hid_mk HS.out.2
      have hin' : ¬ (i : Int) < (i : Int) := by omega
      subst hv'
      clear HS hhas hv hin
      go_wp2
      go_ret
      exact ⟨rfl, HB.out⟩
end Go.Proofs.Ytflgiejnklbjnaa
