/-
  Words of bytes, texts and characters, and how the walk's worlds hold them. No Go function in sight; no condition.
-/
import Derived.Test.YtlcijlklbabajaaGreatDoorProg
import Derived.WalkKit
import Derived.WalkSpells
import Derived.WalkLawsBesides
import Derived.WalkSmall
import Derived.Deep.AppendLies
import Derived.Deep.RegionHeld3
import Derived.Laws.BytesString
import Derived.Laws.Cells
import Derived.Laws.Rows
import Derived.Laws.Cover4
import Derived.Lib.OthersKept
import Derived.Lib.Strings
import Derived.Lib.IndexBytes
import Derived.Lib.ConvBytes
import Derived.Lib.SlBytesConst
import Derived.Lib.AppendStr
import Derived.Lib.UnsafeStr
import Derived.Lib.RuneBytes
import Derived.IntWalk
import Derived.Below
namespace Go.Proofs.YtlcijlklbabajaaGreatDoor
open Go.RowKit
theorem hid_mk {p : Prop} (h : p) : Hid p := h
theorem byte_lt (c : UInt8) : c.toNat < 256 := c.toNat_lt
def atL (l : List UInt8) (k : Nat) : Nat := (l[k]?.getD 0).toNat
theorem atL_lt (l : List UInt8) (k : Nat) : atL l k < 256 := byte_lt _
def sl (s : ByteArray) : List UInt8 := s.data.toList
theorem byte_atL (s : ByteArray) (k : Nat) (h : k < s.size) : (s[k]'h).toNat = atL (sl s) k := by
 unfold atL sl
 have h2 : k < s.data.toList.length := by rw [Array.length_toList]; exact h
 rw [List.getElem?_eq_getElem h2]
 rfl
theorem len_sl (s : ByteArray) : (sl s).length = s.size := Array.length_toList
theorem sl_extract (s : ByteArray) (i : Nat) : sl (s.extract i s.size) = (sl s).drop i := by
 exact Lib.extract_to_end s i
theorem size_extract (s : ByteArray) (i : Nat) : (s.extract i s.size).size = s.size - i := by
 rw [← len_sl, sl_extract, List.length_drop, len_sl]
theorem atL_drop (l : List UInt8) (i k : Nat) : atL (l.drop i) k = atL l (i + k) := by
 unfold atL
 rw [List.getElem?_drop]
theorem sl_cut (s : ByteArray) (i n : Nat) : sl (s.extract i (i + n)) = ((sl s).drop i).take n := by
 unfold sl
 rw [ByteArray.data_extract, Array.toList_extract]
 simp [List.extract]
/-- A slice of these bytes. -/
def HasBytes (w : World) (a : Option Addr) (bs : List UInt8) : Prop :=
 (a = none ∧ bs = []) ∨ ∃ x, a = some x ∧ (0 < bs.length → x.block < w.heap.size) ∧ ∀ j u, (Lib.byteCells bs)[j]? = some u → w.cell? (x.add j) = some u
def strOf (l : List UInt8) : ByteArray := ⟨l.toArray⟩
theorem sl_strOf (l : List UInt8) : sl (strOf l) = l := by simp [sl, strOf]
theorem strOf_sl (s : ByteArray) : strOf (sl s) = s := by cases s; simp [sl, strOf]
theorem push_fold : ∀ (bs : List UInt8) (s : ByteArray), (bs.map fun b => ((b.toNat : Nat) : Int)).foldl (fun r n => r.push (UInt8.ofNat n.toNat)) s = strOf (sl s ++ bs)
 | [], s => by simp [strOf_sl]
 | b :: bs, s => by
   simp only [List.map_cons, List.foldl_cons]
   rw [push_fold bs]
   have e : UInt8.ofNat (((b.toNat : Nat) : Int)).toNat = b := by simp
   rw [e]
   congr 1
   show (s.data.push b).toList ++ bs = _
   simp [sl]
theorem bytes_conv (w : World) (a : Option Addr) (cap : Nat) (bs : List UInt8) (h : HasBytes w a bs) :
 (convert 42 9 (.slice a bs.length cap)).run Tryz.prog w = .ok (.string (strOf bs)) w := by
 rw [run_convert_bytes_string w _ _ _ a _ cap Tryz.underlying42 Tryz.underlying5 Tryz.underlying9]
 rcases h with ⟨rfl, rfl⟩ | ⟨x, rfl, _, hc⟩
 ·rfl
 ·have hl := run_loadCells_list (w := w) (P := Tryz.prog) x (Lib.byteCells bs) (fun j v hv => hc j v hv)
  rw [Lib.byteCells_length] at hl
  have hz : (Lib.byteCells bs) = (bs.map fun b => ((b.toNat : Nat) : Int)).map (Value.int .u8) := by simp [Lib.byteCells]
  rw [hz] at hl
  rw [run_bytesToString w x _ cap _ hl, push_fold]
  rfl
theorem addr_block (x : Addr) (j : Nat) : (x.add j).block = x.block := by unfold Addr.add; split <;> rfl
theorem HasBytes.below {w w' : World} {a : Option Addr} {bs : List UInt8} (h : HasBytes w a bs) (hb : Below w.heap.size w w') : HasBytes w' a bs := by
 rcases h with h | ⟨x, h1, h2, h3⟩
 ·exact .inl h
 ·refine .inr ⟨x, h1, fun h0 => Nat.lt_of_lt_of_le (h2 h0) hb.size, fun j u hu => ?_⟩
  have h0 : 0 < bs.length := by
   have := (List.getElem?_eq_some_iff.1 hu).1
   rw [Lib.byteCells_length] at this
   omega
  rw [hb.cell (p := x.add j) (by rw [addr_block]; exact h2 h0)]
  exact h3 j u hu
/-- A slice of these characters. -/
def HasRunes (w : World) (a : Option Addr) (rs : List Int) : Prop :=
 (a = none ∧ rs = []) ∨ ∃ x, a = some x ∧ (0 < rs.length → x.block < w.heap.size) ∧ ∀ j, j < rs.length → w.cell? (x.add j) = some (.int .i32 (rs.getD j 0))
def encL (rs : List Int) : List UInt8 := rs.flatMap Lib.encodeRune
theorem sl_encode (r : Int) : sl (Utf8.encode r) = Lib.encodeRune r := by
 have hv : Utf8.valid r = true ↔ 0 ≤ r ∧ (r < 55296 ∨ 57344 ≤ r ∧ r ≤ 1114111) := by
  unfold Utf8.valid
  simp
  omega
 unfold Utf8.encode Lib.encodeRune
 by_cases h : 0 ≤ r ∧ (r < 55296 ∨ 57344 ≤ r ∧ r ≤ 1114111)
 ·have hv1 := hv.2 h
  obtain ⟨n, rfl⟩ : ∃ n : Nat, r = n := ⟨r.toNat, by omega⟩
  simp only [hv1, if_true, Int.toNat_natCast]
  by_cases c1 : n < 128
  ·rw [if_pos c1, Lib.encodeRuneZ_one (by omega) (by omega)]
   rfl
  ·rw [if_neg c1]
   by_cases c2 : n < 2048
   ·rw [if_pos c2, Lib.encodeRuneZ_two (by omega) (by omega)]
    have e1 : ((192 : Int) + (n : Int) / 64).toNat = 192 + n / 64 := by omega
    have e2 : ((128 : Int) + (n : Int) % 64).toNat = 128 + n % 64 := by omega
    simp only [List.map_cons, List.map_nil, e1, e2]
    rfl
   ·rw [if_neg c2]
    by_cases c3 : n < 65536
    ·rw [if_pos c3, Lib.encodeRuneZ_three (by omega)]
     have e1 : ((224 : Int) + (n : Int) / 4096).toNat = 224 + n / 4096 := by omega
     have e2 : ((128 : Int) + (n : Int) / 64 % 64).toNat = 128 + n / 64 % 64 := by omega
     have e3 : ((128 : Int) + (n : Int) % 64).toNat = 128 + n % 64 := by omega
     simp only [List.map_cons, List.map_nil, e1, e2, e3]
     rfl
    ·rw [if_neg c3, Lib.encodeRuneZ_four (by omega) (by omega)]
     have e1 : ((240 : Int) + (n : Int) / 262144).toNat = 240 + n / 262144 := by omega
     have e2 : ((128 : Int) + (n : Int) / 4096 % 64).toNat = 128 + n / 4096 % 64 := by omega
     have e3 : ((128 : Int) + (n : Int) / 64 % 64).toNat = 128 + n / 64 % 64 := by omega
     have e4 : ((128 : Int) + (n : Int) % 64).toNat = 128 + n % 64 := by omega
     simp only [List.map_cons, List.map_nil, e1, e2, e3, e4]
     rfl
 ·have hv1 : Utf8.valid r = false := by
   cases hvv : Utf8.valid r with
   | false => rfl
   | true => exact absurd (hv.1 hvv) h
  rw [Lib.encodeRuneZ_bad (by omega)]
  simp only [hv1, Bool.false_eq_true, if_false, show Utf8.runeError = 65533 from rfl]
  decide
theorem sl_append (s t : ByteArray) : sl (s ++ t) = sl s ++ sl t := by
 unfold sl
 rw [ByteArray.data_append, Array.toList_append]
theorem sl_fold : ∀ (rs : List Int) (s : ByteArray), sl (rs.foldl (fun r n => r ++ Utf8.encode n) s) = sl s ++ encL rs
 | [], s => by simp [encL]
 | r :: rs, s => by
   simp only [List.foldl_cons]
   rw [sl_fold rs, sl_append, sl_encode]
   simp [encL]
theorem runesBytes_enc (rs : List Int) : runesBytes rs = strOf (encL rs) := by
 rw [← strOf_sl (runesBytes rs)]
 unfold runesBytes
 rw [sl_fold]
 rfl
theorem runes_conv (w : World) (a : Option Addr) (cap : Nat) (rs : List Int) (h : HasRunes w a rs) :
 (convert 166 9 (.slice a rs.length cap)).run Tryz.prog w = .ok (.string (strOf (encL rs))) w := by
 rcases h with ⟨rfl, rfl⟩ | ⟨x, rfl, _, hc⟩
 ·exact run_convert_runes_nil w _ _ _ _ _ Tryz.underlying166 Tryz.underlying21 Tryz.underlying9
 ·rw [run_convert_runes w _ _ _ x rs.length cap rs (Nat.le_refl _) Tryz.underlying166 Tryz.underlying21 Tryz.underlying9 hc, List.take_length, runesBytes_enc]
theorem has_new (w : World) (bs : List UInt8) (cs : Array Value) (fr : Nat × Nat) (h : cs.toList = Lib.byteCells bs) : HasBytes (w.alloc (.cells cs 5 fr)) (some ⟨w.heap.size, 0, none⟩) bs := by
 refine .inr ⟨_, rfl, fun _ => by simp, fun j u hu => ?_⟩
 have := cell_of_row (w.alloc (.cells cs 5 fr)) w.heap.size j _ _ _ (heap_alloc_new w _)
 have e : (⟨w.heap.size, 0, none⟩ : Addr).add j = ⟨w.heap.size, j, none⟩ := by
  unfold Addr.add
  split
  ·rename_i h0
   subst h0
   rfl
  ·simp
 rw [e, this, ← Array.getElem?_toList, h]
 exact hu
theorem addr_add0 (g j : Nat) : (⟨g, 0, none⟩ : Addr).add j = ⟨g, j, none⟩ := by
 unfold Addr.add
 split
 ·rename_i h0
  subst h0
  rfl
 ·simp
theorem infoByte : (Tryz.prog.info? 5).map (fun i => (i.zero, i.size, i.bytes)) = some (some (.int .u8 0), 1, 1) := by kernel_rfl
theorem own_ne {w : World} {base b n size : Nat} {e t : TypeId} {v : Value} {xs : List Value} {cs : Array Value} {fr : Nat × Nat} (h : w.ownsRow base e size v n xs) (hb : w.heap[b]? = some (.cells cs t fr)) (hne : e ≠ t) : v.ownBlock ≠ some b := by
 rcases h.2 with ⟨rfl, _⟩ | ⟨g, cap, cur, rfl, _, hg, _⟩
 ·simp [Value.ownBlock]
 ·intro he
  have : g = b := by simpa [Value.ownBlock] using he
  subst this
  rw [hg] at hb
  injection hb with hb
  injection hb with _ ht
  exact hne ht
theorem own_below {w w' : World} {base n size : Nat} {e : TypeId} {v : Value} {xs : List Value} (h : w.ownsRow base e size v n xs) (hb : Below w.heap.size w w') : w'.ownsRow base e size v n xs := by
 refine ⟨h.1, ?_⟩
 rcases h.2 with h2 | ⟨g, cap, cur, h1, h2, h3, h4⟩
 ·exact .inl h2
 ·exact .inr ⟨g, cap, cur, h1, h2, (hb.block g (Array.getElem?_eq_some_iff.1 h3).1).trans h3, h4⟩
theorem own_base {w : World} {base n size : Nat} {e : TypeId} {v : Value} {xs : List Value} (h : w.ownsRow base e size v n xs) (k : Nat) (hk : v.ownBlock = some k) : base ≤ k := by
 rcases h.2 with ⟨rfl, _⟩ | ⟨g, cap, cur, rfl, hg, _⟩
 ·simp [Value.ownBlock] at hk
 ·simp [Value.ownBlock] at hk; omega
theorem own_bytes {w : World} {base : Nat} {v : Value} {bs : List UInt8} (h : w.ownsRow base 5 1 v bs.length (Lib.byteCells bs)) : ∃ a cap, v = .slice a bs.length cap ∧ HasBytes w a bs := by
 rcases h.2 with ⟨rfl, h0⟩ | ⟨g, cap, cur, rfl, h2, h3, h4, h5, h6, h7⟩
 ·exact ⟨none, 0, by rw [h0], .inl ⟨rfl, List.eq_nil_of_length_eq_zero h0⟩⟩
 ·refine ⟨some ⟨g, 0, none⟩, cap, rfl, .inr ⟨_, rfl, fun _ => (Array.getElem?_eq_some_iff.1 h3).1, fun j u hu => ?_⟩⟩
  rw [addr_add0, cell_of_row w g j _ _ _ h3]
  have hj : j < bs.length * 1 := by
   have := (List.getElem?_eq_some_iff.1 hu).1
   rw [Lib.byteCells_length] at this
   omega
  have e : cur[j]? = (cur.toList.take (bs.length * 1))[j]? := by
   rw [List.getElem?_take, if_pos hj, Array.getElem?_toList]
  rw [e, h7]
  exact hu
theorem enc_le (r : Int) : 1 ≤ (Lib.encodeRune r).length ∧ (Lib.encodeRune r).length ≤ 4 := by
 unfold Lib.encodeRune
 rw [List.length_map]
 exact Lib.encodeRuneZ_length r
theorem strOf_app (A B : List UInt8) : strOf A ++ strOf B = strOf (A ++ B) := by
 rw [← strOf_sl (strOf A ++ strOf B), sl_append, sl_strOf, sl_strOf]
theorem size_strOf (A : List UInt8) : (strOf A).size = A.length := by show A.toArray.size = _; rw [List.size_toArray]
theorem has_new_runes (w : World) (rs : List Int) (cs : Array Value) (fr : Nat × Nat) (h : cs.toList = rs.map (Value.int .i32)) : HasRunes (w.alloc (.cells cs 21 fr)) (some ⟨w.heap.size, 0, none⟩) rs := by
 refine .inr ⟨_, rfl, fun _ => by simp, fun j hj => ?_⟩
 rw [addr_add0, cell_of_row _ _ j _ _ _ (heap_alloc_new w _), ← Array.getElem?_toList, h]
 simp [List.getD, hj]
theorem u8_of (x : Int) (n : Nat) (h : x = (n : Int)) (h2 : n < 256) : (x.toNat.toUInt8).toNat = n := by
 subst h
 simp
 omega
end Go.Proofs.YtlcijlklbabajaaGreatDoor
