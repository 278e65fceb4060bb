/-
  The law of layer 2 about decoding: it returns true for every row of bytes, which stays.
-/
import Derived.Test.YtflgiejnklbjnaaRefDec
import Derived.Test.YtflgiejnklbjnaaLawS
import Derived.Lib.AtoiErrMem
namespace Go.Proofs.Ytflgiejnklbjnaa
open Go.RowKit
theorem row_bytes {w : World} {a : Option Addr} {len cap : Nat} {zs : List Int} (h : IsRow .u8 w a len cap zs) : ∃ bs : List UInt8, bs.length = len ∧ HasBytes w a bs := by
  rcases h with ⟨rfl, rfl, _, rfl⟩ | ⟨x, rfl, h1, _, h2, h3, h4⟩
  · exact ⟨[], rfl, .inl ⟨rfl, rfl⟩⟩
  · refine ⟨(zs.take len).map (fun z => z.toNat.toUInt8), by rw [List.length_map, List.length_take]; omega, .inr ⟨x, rfl, fun h0 => ?_, fun j u hu => ?_⟩⟩
    · rw [List.length_map, List.length_take] at h0
      have := cell_block (h3 0 (by omega))
      rw [addr_block] at this
      exact this
    · have hj := (List.getElem?_eq_some_iff.1 hu).1
      rw [Lib.byteCells_length, List.length_map, List.length_take] at hj
      have hjz : j < zs.length := by omega
      rw [h3 j hjz, ← hu]
      have hb := bounds_u8 (h4 _ (List.getElem_mem hjz))
      have hz : ((zs[j].toNat.toUInt8.toNat : Nat) : Int) = zs[j] := by
        rw [show zs[j].toNat.toUInt8.toNat = zs[j].toNat % 256 from by simp]
        omega
      unfold Lib.byteCells
      rw [List.getElem?_map, List.getElem?_map, List.getElem?_take, if_pos (by omega), List.getElem?_eq_getElem hjz]
      simp only [Option.map_some]
      rw [hz]
      simp [List.getD, hjz]
theorem has_world (w : World) (bs : List UInt8) : HasBytes (Lib.bytesWorld w 5 (strOf bs)) (some ⟨w.heap.size, 0, none⟩) bs := by
  refine .inr ⟨_, rfl, fun _ => by rw [Lib.bytesWorld_size]; exact Nat.lt_succ_self _, fun j u hu => ?_⟩
  have hj := (List.getElem?_eq_some_iff.1 hu).1
  rw [Lib.byteCells_length] at hj
  have hs : (strOf bs).size = bs.length := by show bs.toArray.size = _; rw [List.size_toArray]
  rw [addr_add0, Lib.bytesWorld_cell w _ _ j (by rw [hs]; exact hj), ← hu]
  unfold Lib.byteCells
  rw [List.getElem?_map, List.getElem?_eq_getElem hj]
  simp [strOf, List.getD, hj]
set_option maxHeartbeats 4000000 in
set_option maxRecDepth 100000 in
theorem utfDecodes_w (a : Option Addr) (cap : Nat) (bs : List UInt8) (w : World) (h : HasBytes w a bs) :
    Calls Try.prog 11 #[.slice a bs.length cap] w fun e w' => e = .returned (.bool true) ∧ (Below w.heap.size w w' ∧ True) := by
  obtain ⟨n, hn⟩ : ∃ n, n = bs.length := ⟨_, rfl⟩
  by_cases hs : n ≤ 70000
  · have hs' : decide (70000 < (n : Int)) = false := by simp; omega
    have hsn : decide (70000 < n) = false := by simp; omega
    have hsz : (strOf bs).size = n := by show bs.toArray.size = _; rw [List.size_toArray, hn]
    have hcv1 := bytes_conv w a cap bs h
    have hcv2 := Lib.run_convert_string_bytes (P := Try.prog) w 9 22 5 (strOf bs) Try.underlying9 Try.underlying22 Try.underlying5
    have hB1 := Lib.bytesWorld_below w 5 (strOf bs)
    have H := hid_mk (And.intro (has_world w bs) (And.intro (h.below hB1) hB1))
    rw [hsz] at hcv2
    generalize grownCap w n 0 5 = gc at hcv2
    generalize Lib.bytesWorld w 5 (strOf bs) = w1 at *
    rw [← hn] at hcv1 ⊢
    have HN := hid_mk hn
    clear hn h hB1
    go_enter Try.func11, Try.ntmps11
    go_wp2_with fail
    rw [HN.out]
    refine (decode_any _ gc bs w1 (by rw [← HN.out]; omega) H.out.1).mono ?_
    rintro e w2 ⟨rfl, hb2⟩
    have H2 := hid_mk (And.intro (H.out.1.below hb2) (And.intro (H.out.2.1.below hb2) (H.out.2.2.trans (hb2.mono H.out.2.2.size))))
    clear hb2 H hcv1 hcv2
    go_wp2_with fail
    refine (refDecode_any a cap bs w2 (by rw [← HN.out]; omega) H2.out.2.1).mono ?_
    rintro e w3 ⟨rfl, hb3⟩
    have hcv3 := bytes_conv w3 _ gc bs (H2.out.1.below hb3)
    have hcv4 := bytes_conv w3 a cap bs (H2.out.2.1.below hb3)
    have H3 := hid_mk (H2.out.2.2.trans (hb3.mono H2.out.2.2.size))
    clear hb3 H2
    generalize decOut bs = d at *
    go_wp2_with fail
    refine (works_any _).mono ?_
    rintro e w4 ⟨rfl, hb⟩
    have H4 := hid_mk (H3.out.trans (hb.mono H3.out.size))
    clear hb H3 hcv3 hcv4
    go_wp2
    go_ret
    exact ⟨rfl, H4.out, trivial⟩
  · have hs' : decide (70000 < (n : Int)) = true := by simp; omega
    have hsn : decide (70000 < n) = true := by simp; omega
    rw [← hn]
    clear hn
    go_enter Try.func11, Try.ntmps11
    go_wp2_with fail
    refine (works_any _).mono ?_
    rintro e w1 ⟨rfl, hb⟩
    go_wp2
    go_ret
    exact ⟨rfl, hb, trivial⟩
theorem utfDecodes_c (a : Option Addr) (len cap : Nat) (z : List Int) (w : World) (h : IsRow .u8 w a len cap z) :
    Calls Try.prog 11 #[.slice a len cap] w fun e w' => e = .returned (.bool true) ∧ (Below w.heap.size w w' ∧ True) := by
  obtain ⟨bs, rfl, hh⟩ := row_bytes h
  exact utfDecodes_w a cap bs w hh
end Go.Proofs.Ytflgiejnklbjnaa
