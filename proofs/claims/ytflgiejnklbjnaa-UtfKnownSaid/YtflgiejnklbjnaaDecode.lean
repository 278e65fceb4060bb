/-
  Decode of the program: the text of bytes. Condition: the length is bounded.
-/
import Derived.Test.YtflgiejnklbjnaaDec
import Derived.Laws.BytesString
import Derived.Laws.Cells
namespace Go.Proofs.Ytflgiejnklbjnaa
open Go.RowKit
/-- A slice of these bytes. -/
def HasBytes (w : World) (a : Option Addr) (bs : List UInt8) : Prop :=
  (a = none ∧ bs = []) ∨ ∃ x, a = some x ∧ (0 < bs.length → x.block < w.heap.size) ∧ ∀ j u, (Lib.byteCells bs)[j]? = some u → w.cell? (x.add j) = some u
def strOf (l : List UInt8) : ByteArray := ⟨l.toArray⟩
theorem sl_strOf (l : List UInt8) : sl (strOf l) = l := by simp [sl, strOf]
theorem strOf_sl (s : ByteArray) : strOf (sl s) = s := by cases s; simp [sl, strOf]
theorem push_fold : ∀ (bs : List UInt8) (s : ByteArray), (bs.map fun b => ((b.toNat : Nat) : Int)).foldl (fun r n => r.push (UInt8.ofNat n.toNat)) s = strOf (sl s ++ bs)
  | [], s => by simp [strOf_sl]
  | b :: bs, s => by
    simp only [List.map_cons, List.foldl_cons]
    rw [push_fold bs]
    have e : UInt8.ofNat (((b.toNat : Nat) : Int)).toNat = b := by simp
    rw [e]
    congr 1
    show (s.data.push b).toList ++ bs = _
    simp [sl]
theorem bytes_conv (w : World) (a : Option Addr) (cap : Nat) (bs : List UInt8) (h : HasBytes w a bs) :
    (convert 22 9 (.slice a bs.length cap)).run Try.prog w = .ok (.string (strOf bs)) w := by
  rw [run_convert_bytes_string w _ _ _ a _ cap Try.underlying22 Try.underlying5 Try.underlying9]
  rcases h with ⟨rfl, rfl⟩ | ⟨x, rfl, _, hc⟩
  · rfl
  · have hl := run_loadCells_list (w := w) (P := Try.prog) x (Lib.byteCells bs) (fun j v hv => hc j v hv)
    rw [Lib.byteCells_length] at hl
    have hz : (Lib.byteCells bs) = (bs.map fun b => ((b.toNat : Nat) : Int)).map (Value.int .u8) := by simp [Lib.byteCells]
    rw [hz] at hl
    rw [run_bytesToString w x _ cap _ hl, push_fold]
    rfl
theorem addr_block (x : Addr) (j : Nat) : (x.add j).block = x.block := by unfold Addr.add; split <;> rfl
theorem HasBytes.below {w w' : World} {a : Option Addr} {bs : List UInt8} (h : HasBytes w a bs) (hb : Below w.heap.size w w') : HasBytes w' a bs := by
  rcases h with h | ⟨x, h1, h2, h3⟩
  · exact .inl h
  · refine .inr ⟨x, h1, fun h0 => Nat.lt_of_lt_of_le (h2 h0) hb.size, fun j u hu => ?_⟩
    have h0 : 0 < bs.length := by
      have := (List.getElem?_eq_some_iff.1 hu).1
      rw [Lib.byteCells_length] at this
      omega
    rw [hb.cell (p := x.add j) (by rw [addr_block]; exact h2 h0)]
    exact h3 j u hu
/-- What Decode tells: the text, and the error. -/
def decOut (bs : List UInt8) : List UInt8 × Int := if 65536 < bs.length then ([], 3) else ((decSt (runesL bs)).2, 0)
set_option maxHeartbeats 2000000 in
theorem decode_any (a : Option Addr) (cap : Nat) (bs : List UInt8) (w : World) (hl : bs.length ≤ 100000000) (h : HasBytes w a bs) :
    Calls Try.prog 7 #[.slice a bs.length cap] w fun e w' => e = .returned (.tuple #[.string (strOf (decOut bs).1), .int .i64 (decOut bs).2]) ∧ Below w.heap.size w w' := by
  by_cases hbig : 65536 < bs.length
  · have ho : decOut bs = ([], 3) := by unfold decOut; rw [if_pos hbig]
    rw [ho]
    clear ho
    go_enter Try.func7, Try.ntmps7
    go_wp2
    go_ret2
    exact ⟨rfl, Below.refl _ _⟩
  · have ho : decOut bs = ((decSt (runesL bs)).2, 0) := by unfold decOut; rw [if_neg hbig]
    have HO := hid_mk ho
    clear ho
    have hb2 : Below w.heap.size w ((w.alloc (.cells #[.pointer none, .slice none 0 0] 38)).alloc (.cells #[.int .i32 0] 21)) :=
      ((Below.refl _ _).alloc (Nat.le_refl _) _).alloc (by simp) _
    have hcv := bytes_conv _ a cap bs (h.below hb2)
    have hI : DecI w [] ((w.alloc (.cells #[.pointer none, .slice none 0 0] 38)).alloc (.cells #[.int .i32 0] 21)) := by
      refine ⟨hb2, .inl ⟨Nat.le_refl _, .slice none 0 0, ?_, ⟨rfl, .inl ⟨rfl, rfl⟩⟩, by simp [Value.ownBlock]⟩, ?_⟩
      · rw [Below.heap_alloc _ _ _ (by simp)]
        exact heap_alloc_new w _
      · have := heap_alloc_new (w.alloc (.cells #[.pointer none, .slice none 0 0] 38)) (.cells #[.int .i32 0] 21)
        rw [show (w.alloc (.cells #[.pointer none, .slice none 0 0] 38)).heap.size = w.heap.size + 1 by simp] at this
        exact this
    have hE := eachPart_any (fun rs w' => DecI w rs w') 15 #[.pointer (some ⟨w.heap.size, 0, none⟩), .pointer (some ⟨w.heap.size + 1, 0, none⟩)] (strOf bs) (by show bs.toArray.size ≤ _; rw [List.size_toArray]; omega)
      (fun args w' => by kernel_rfl) (fun rs r w' hl2 hr hD => decFn_any w rs r w' (by have : (strOf bs).size = bs.length := (by show bs.toArray.size = _; rw [List.size_toArray]); omega) hr hD) (fun rs w' hD => hD.iter (strOf bs)) _ (fun rs w' pos pos' hD hk => hD.iterAt hk pos' (by simp; omega)) hI
    rw [sl_strOf] at hE
    have HE := hid_mk hE
    clear hE hI hb2
    generalize hw2 : ((w.alloc (.cells #[.pointer none, .slice none 0 0] 38)).alloc (.cells #[.int .i32 0] 21)) = w2 at *
    have HW := hid_mk hw2
    clear hw2
    go_enter Try.func7, Try.ntmps7
    go_wp2_with fail
    rw [HW.out]
    rw [hcv]
    go_wp2_with fail
    refine HE.out.mono ?_
    rintro e w3 ⟨rfl, hbel, hB, hq⟩
    have HBB := hid_mk hB
    have HBL := hid_mk hbel
    have hsz := hbel.size
    clear hB hbel hq HE hcv
    go_wp2_with fail
    refine (Try.Builder_String_any_k w.heap.size w.heap.size _ w3 HBB.out hsz).mono ?_
    rintro e w4 ⟨rfl, _, hb4, _⟩
    have HB4 := hid_mk (HBL.out.trans hb4)
    clear hb4 hsz
    go_wp2
    go_ret2
    rw [HO.out]
    exact ⟨rfl, HB4.out⟩
end Go.Proofs.Ytflgiejnklbjnaa
