/-
  works of the laws of layer 2: true. No condition.
-/
import Derived.Test.YtflgiejnklbjnaaRefRun
import Derived.Lib.SlBytesConst
import Derived.Lib.ConvBytes
namespace Go.Proofs.Ytflgiejnklbjnaa
open Go.RowKit
def litB : List UInt8 := [97, 13, 10, 98, 13, 99, 195, 40]
def litR : ByteArray := ⟨#[215, 144, 255]⟩
theorem lit_dec : decOut litB = ([97, 10, 98, 10, 99, 239, 191, 189, 40], 0) := by decide +kernel
theorem lit_runes : runesL (sl litR) = [1488, 65533] := by decide +kernel
theorem lit_str : encL [1488, 65533] = [215, 144, 239, 191, 189] := by decide +kernel
theorem has_new (w : World) (bs : List UInt8) (cs : Array Value) (fr : Nat × Nat) (h : cs.toList = Lib.byteCells bs) : HasBytes (w.alloc (.cells cs 5 fr)) (some ⟨w.heap.size, 0, none⟩) bs := by
  refine .inr ⟨_, rfl, fun _ => by simp, fun j u hu => ?_⟩
  have := cell_of_row (w.alloc (.cells cs 5 fr)) w.heap.size j _ _ _ (heap_alloc_new w _)
  have e : (⟨w.heap.size, 0, none⟩ : Addr).add j = ⟨w.heap.size, j, none⟩ := by
    unfold Addr.add
    split
    · rename_i h0
      subst h0
      rfl
    · simp
  rw [e, this, ← Array.getElem?_toList, h]
  exact hu
theorem addr_add0 (g j : Nat) : (⟨g, 0, none⟩ : Addr).add j = ⟨g, j, none⟩ := by
  unfold Addr.add
  split
  · rename_i h0
    subst h0
    rfl
  · simp
theorem own_runes {w : World} {base g cap n : Nat} {rs : List Nat} (h : w.ownsRow base 21 1 (.slice (some ⟨g, 0, none⟩) n cap) n (runeVals rs)) : HasRunes w (some ⟨g, 0, none⟩) (rs.map fun (r : Nat) => (r : Int)) := by
  rcases h.2 with ⟨h0, _⟩ | ⟨g', cap', cur, h1, h2, h3, h4, h5, h6, h7⟩
  · cases h0
  · injection h1 with h1 _ h1c
    injection h1 with h1
    injection h1 with h1
    subst h1
    refine .inr ⟨_, rfl, fun _ => (Array.getElem?_eq_some_iff.1 h3).1, fun j hj => ?_⟩
    rw [addr_add0, cell_of_row w g j _ _ _ h3]
    have hlen := h.1
    rw [List.length_map] at hj
    have hj2 : j < n * 1 := by rw [← hlen]; simpa [runeVals] using hj
    have e : cur[j]? = (cur.toList.take (n * 1))[j]? := by
      rw [List.getElem?_take, if_pos hj2, Array.getElem?_toList]
    rw [e, h7]
    simp [runeVals, List.getD, hj]
set_option maxHeartbeats 4000000 in
set_option maxRecDepth 100000 in
theorem works_any (w : World) :
    Calls Try.prog 6 #[] w fun e w' => e = .returned (.bool true) ∧ Below w.heap.size w w' := by
  have hcv := Lib.run_convert_bytes_const (P := Try.prog) w 22 5 #[.int .u8 97, .int .u8 13, .int .u8 10, .int .u8 98, .int .u8 13, .int .u8 99, .int .u8 195, .int .u8 40] 8 8 Try.underlying22 Try.underlying5
  have hB0 := has_new w litB #[.int .u8 97, .int .u8 13, .int .u8 10, .int .u8 98, .int .u8 13, .int .u8 99, .int .u8 195, .int .u8 40] (8, 9) rfl
  have hbel0 : Below w.heap.size w (w.alloc (.cells #[.int .u8 97, .int .u8 13, .int .u8 10, .int .u8 98, .int .u8 13, .int .u8 99, .int .u8 195, .int .u8 40] 5 (8, 9))) := (Below.refl _ _).alloc (Nat.le_refl _) _
  have HB := hid_mk (And.intro hB0 hbel0)
  clear hB0 hbel0
  go_enter Try.func6, Try.ntmps6
  go_wp2_with fail
  refine (decode_any _ 8 litB _ (by decide) HB.out.1).mono ?_
  rintro e w1 ⟨rfl, hb1⟩
  rw [lit_dec]
  have HB1 := hid_mk (HB.out.2.trans (hb1.mono (by simp)))
  clear HB hb1 hcv
  generalize w.alloc (.cells #[.int .u8 97, .int .u8 13, .int .u8 10, .int .u8 98, .int .u8 13, .int .u8 99, .int .u8 195, .int .u8 40] 5 (8, 9)) = w0 at *
  go_wp2_with fail
  refine (runes_any litR (by decide) _).mono ?_
  rintro e w2 ⟨v, rfl, hown, hb2⟩
  rw [lit_runes] at hown
  obtain ⟨g, cap, hv, hcap, hgl⟩ := hown.form (by decide)
  subst hv
  have hr : HasRunes w2 (some ⟨g, 0, none⟩) [1488, 65533] := own_runes hown
  have HB2 := hid_mk (HB1.out.trans (hb2.mono HB1.out.size))
  have hstr := hid_mk (string_any (some ⟨g, 0, none⟩) cap [1488, 65533] w2 hr)
  have hq1 : (strOf [97, 10, 98, 10, 99, 239, 191, 189, 40]).toList = [97, 10, 98, 10, 99, 239, 191, 189, 40] := by decide +kernel
  have hq2 : (strOf [215, 144, 239, 191, 189]).toList = [215, 144, 239, 191, 189] := by decide +kernel
  have c0 : w2.cell? ⟨g, 0, none⟩ = some (.int .i32 1488) := by
    rcases hr with ⟨h0, _⟩ | ⟨x, hx, _, hx3⟩
    · cases h0
    · injection hx with hx
      subst hx
      exact hx3 0 (by decide)
  have c1 : w2.cell? ⟨g, 1, none⟩ = some (.int .i32 65533) := by
    rcases hr with ⟨h0, _⟩ | ⟨x, hx, _, hx3⟩
    · cases h0
    · injection hx with hx
      subst hx
      exact hx3 1 (by decide)
  clear hr hown hb2 HB1 hgl
  go_wp2_with fail
  refine hstr.out.mono ?_
  rintro e w3 ⟨rfl, rfl⟩
  rw [lit_str]
  clear hstr
  go_wp2
  go_ret
  exact ⟨rfl, HB2.out⟩
end Go.Proofs.Ytflgiejnklbjnaa
