/-
  The reader of package token: one cell that holds what has not been read; how a call that writes it alone leaves a world. No condition.
-/
import Derived.Test.YtlcijlklbabajaaGreatDoorQPlNum
import Derived.Test.YtlcijlklbabajaaGreatDoorQWords
import Derived.Test.YtlcijlklbabajaaGreatDoorQShelf
import Derived.Deep.QuietTactic
import Derived.BigQuiet
import Derived.Deep.LoopGhost
import Derived.Laws.RangeAny
import Derived.Laws.RangeString
import Derived.Lib.MapLaws
import Derived.Lib.IndexAny
import Derived.Lib.IndexLaws
namespace Go.Proofs.YtlcijlklbabajaaGreatDoor
open Go.RowKit
/-- The reader in block b holds x. -/
def Rd (b : Nat) (x : ByteArray) (w : World) : Prop := w.heap[b]? = some (.cells #[.string x] 109 (0, 0))
/-- Behind a call that writes block b alone of what there was. -/
def Upd (b : Nat) (w w' : World) : Prop := w.grownBy w' (some b) ∧ Tab w'
theorem Rd.lt {b : Nat} {x : ByteArray} {w : World} (h : Rd b x w) : b < w.heap.size := (Array.getElem?_eq_some_iff.1 h).1
theorem Rd.cell {b : Nat} {x : ByteArray} {w : World} (h : Rd b x w) : w.cell? ⟨b, 0, none⟩ = some (.string x) := by
 rw [Lib.cell_of_heap h]
 rfl
theorem Rd.frozen {b : Nat} {x : ByteArray} {w : World} (h : Rd b x w) : w.frozen? ⟨b, 0, none⟩ = false := Lib.frozen_of_heap h 0
theorem Rd.next {b : Nat} {x : ByteArray} {w w' : World} (h : Rd b x w) (hn : Below w.heap.size w w') : Rd b x w' := (hn.block b h.lt).trans h
theorem Rd.set {b : Nat} {x : ByteArray} {w : World} (h : Rd b x w) (y : ByteArray) : Rd b y (w.setCell ⟨b, 0, none⟩ (.string y)) := by
 unfold Rd at h ⊢
 show (w.heap.modify b _)[b]? = _
 rw [Array.getElem?_modify, if_pos rfl, h]
 rfl
theorem Rd.ne_repl {b : Nat} {x : ByteArray} {w : World} (h : Rd b x w) (hT : Tab w) : b ≠ 3 := by
 rintro rfl
 obtain ⟨⟨T, fr, h1⟩, _⟩ := hT
 rw [Rd, h1] at h
 injection h with h
 injection h with h2 _
 have := congrArg Array.size h2
 simp [replCells, replT] at this
theorem Rd.ne_max {b : Nat} {x : ByteArray} {w : World} (h : Rd b x w) (hT : Tab w) : b ≠ 0 := by
 rintro rfl
 obtain ⟨_, m, h1⟩ := hT
 rw [h.cell] at h1
 cases h1
theorem Upd.trans {b : Nat} {w1 w2 w3 : World} (h : Upd b w1 w2) (k : Upd b w2 w3) : Upd b w1 w3 :=
 ⟨⟨k.1.os.trans h.1.os, k.1.tape.trans h.1.tape, k.1.output.trans h.1.output, Nat.le_trans h.1.size k.1.size, fun j hj hne => (k.1.block j (Nat.lt_of_lt_of_le hj h.1.size) hne).trans (h.1.block j hj hne)⟩, k.2⟩
theorem Upd.next {b : Nat} {w w' : World} (h : Next w w') : Upd b w w' := ⟨⟨h.1.os, h.1.tape, h.1.output, h.1.size, fun k hk _ => h.1.block k hk⟩, h.2⟩
theorem Upd.refl {b : Nat} {w : World} (h : Tab w) : Upd b w w := .next (Next.refl h)
theorem Upd.of {b : Nat} {w w' : World} (h : Tab w) (hb : Below w.heap.size w w') : Upd b w w' := .next (Next.of h hb)
theorem Upd.set {b : Nat} {x : ByteArray} {w : World} (h : Rd b x w) (hT : Tab w) (v : Value) : Upd b w (w.setCell ⟨b, 0, none⟩ v) :=
 ⟨⟨rfl, rfl, rfl, by simp [World.setCell], fun k _ hne => Below.heap_setCell _ _ _ _ (fun e => hne (by rw [e]))⟩,
  hT.of_blocks (Below.heap_setCell _ _ _ _ (h.ne_repl hT).symm) (Below.heap_setCell _ _ _ _ (h.ne_max hT).symm)⟩
theorem Upd.below {b : Nat} {w w' : World} (h : Upd b w w') {B : Nat} (hB : B ≤ b) (hw : B ≤ w.heap.size) : Below B w w' :=
 ⟨h.1.os, h.1.tape, h.1.output, h.1.size, fun k hk => h.1.block k (by omega) (fun e => by injection e with e; omega)⟩
theorem ext_take (x : ByteArray) (n : Nat) : x.extract 0 n = strOf ((sl x).take n) := by
 rw [← strOf_sl (x.extract 0 n)]
 have := sl_cut x 0 n
 rw [Nat.zero_add, List.drop_zero] at this
 rw [this]
theorem ext_drop (x : ByteArray) (n : Nat) : x.extract n x.size = strOf ((sl x).drop n) := by
 rw [← strOf_sl (x.extract n x.size), sl_extract]
/-- take reads n bytes. -/
theorem take_any (b n : Nat) (x : ByteArray) (w : World) (hT : Tab w) (hR : Rd b x w) (hn : n ≤ x.size) :
 Calls Tryz.prog 144 #[.pointer (some ⟨b, 0, none⟩), .int .i64 (n : Int)] w fun e w' => e = .returned (.string (strOf ((sl x).take n))) ∧ Rd b (strOf ((sl x).drop n)) w' ∧ Upd b w w' := by
 have hc := hR.cell
 have hf := hR.frozen
 have HP := hid_mk (And.intro (hR.set (x.extract n x.size)) (Upd.set hR hT (.string (x.extract n x.size))))
 clear hR hT
 have hn' : (n : Int) ≤ (x.size : Int) := by omega
 go_enter Tryz.func144, Tryz.ntmps144
 go_wp2_with fail
 go_ret
 rw [← ext_take, ← ext_drop]
 exact ⟨rfl, HP.out⟩
end Go.Proofs.YtlcijlklbabajaaGreatDoor
namespace Go.Proofs.YtlcijlklbabajaaGreatDoor
open Go.RowKit
theorem inBlock_ret {id : Nat} {Q : Exit → Act → World → Prop} {a : Act} {w : World} : Exit.inBlock id Q .ret a w = Q .ret a w := rfl
theorem then_ret {K : Act → World → Prop} {Q : Exit → Act → World → Prop} {a : Act} {w : World} : Exit.then K Q .ret a w = Q .ret a w := rfl
theorem enc_high (r : Int) (h : 128 ≤ r) : 2 ≤ (Lib.encodeRune r).length ∧ ∀ c ∈ Lib.encodeRune r, 128 ≤ c.toNat := by
 have hz : 2 ≤ (Lib.encodeRuneZ r).length ∧ ∀ z ∈ Lib.encodeRuneZ r, 128 ≤ z ∧ z < 256 := by
  by_cases hv : r < 55296 ∨ 57344 ≤ r ∧ r ≤ 1114111
  ·by_cases c2 : r < 2048
   ·rw [Lib.encodeRuneZ_two (by omega) (by omega)]
    refine ⟨by simp, fun z hz => ?_⟩
    simp only [List.mem_cons, List.not_mem_nil, or_false] at hz
    omega
   ·by_cases c3 : r < 65536
    ·rw [Lib.encodeRuneZ_three (by omega)]
     refine ⟨by simp, fun z hz => ?_⟩
     simp only [List.mem_cons, List.not_mem_nil, or_false] at hz
     omega
    ·rw [Lib.encodeRuneZ_four (by omega) (by omega)]
     refine ⟨by simp, fun z hz => ?_⟩
     simp only [List.mem_cons, List.not_mem_nil, or_false] at hz
     omega
  ·rw [Lib.encodeRuneZ_bad (by omega)]
   refine ⟨by simp, fun z hz => ?_⟩
   simp only [List.mem_cons, List.not_mem_nil, or_false] at hz
   omega
 unfold Lib.encodeRune
 refine ⟨by rw [List.length_map]; exact hz.1, fun c hc => ?_⟩
 rw [List.mem_map] at hc
 obtain ⟨z, h1, rfl⟩ := hc
 have := hz.2 z h1
 rw [u8_of z z.toNat (by omega) (by omega)]
 omega
/-- What is decoded at a byte that is none of ASCII: a character beyond ASCII, of bytes that are none of ASCII. -/
theorem dec_high (s : ByteArray) (i : Nat) (h : i < s.size) (hb : 128 ≤ (s[i]'h).toNat) :
 128 ≤ (Utf8.decode s i).1 ∧ (Utf8.decode s i).1 ≤ 1114111 ∧ 1 ≤ (Utf8.decode s i).2 ∧ i + (Utf8.decode s i).2 ≤ s.size ∧ ∀ j b, i ≤ j → j < i + (Utf8.decode s i).2 → (sl s)[j]? = some b → 128 ≤ b.toNat := by
 rw [← Lib.decodeL_drop, show s.data.toList = sl s from rfl]
 have hlen : (sl s).length = s.size := len_sl s
 have hne : (sl s).drop i ≠ [] := fun e => by
  have := congrArg List.length e
  rw [List.length_drop] at this
  simp at this
  omega
 have hlw := Lib.decodeL_le _ hne
 have h1w := Lib.decodeL_width ((sl s).drop i)
 have hr := Lib.decodeL_rune ((sl s).drop i)
 rw [List.length_drop, hlen] at hlw
 have hi0 : (sl s)[i]? = some (s[i]'h) := Lib.data_getElem? s i h
 by_cases hv : (Lib.decodeL ((sl s).drop i)).1 = 65533 ∧ (Lib.decodeL ((sl s).drop i)).2 = 1
 ·rw [hv.1, hv.2]
  refine ⟨by omega, by omega, by omega, by omega, fun j b h1 h2 h3 => ?_⟩
  obtain rfl : j = i := by omega
  rw [hi0] at h3
  cases h3
  exact hb
 ·have he := Lib.encode_decode _ hne hv
  generalize hd : Lib.decodeL ((sl s).drop i) = d at *
  have h128 : 128 ≤ d.1 := by
   rcases Nat.lt_or_ge d.1 128 with hlt | hge
   ·exfalso
    have hx : (Lib.encodeRune (d.1 : Int)) = [d.1.toUInt8] := by
     unfold Lib.encodeRune
     rw [Lib.encodeRuneZ_one (by omega) (by omega)]
     rfl
    rw [hx] at he
    have h0 : ((sl s).drop i).take d.2 = (s[i]'h) :: ((sl s).drop (i + 1)).take (d.2 - 1) := by
     rw [List.drop_eq_getElem_cons (by omega)]
     obtain ⟨k, hk⟩ : ∃ k, d.2 = k + 1 := ⟨d.2 - 1, by omega⟩
     rw [hk, List.take_succ_cons]
     rw [List.getElem?_eq_getElem (by omega)] at hi0
     injection hi0 with hi0
     rw [hi0]
     rfl
    rw [h0] at he
    injection he with he _
    rw [← he] at hb
    have : (d.1.toUInt8).toNat = d.1 := by simp; omega
    omega
   ·exact hge
  refine ⟨h128, hr, h1w, by omega, fun j b h1 h2 h3 => ?_⟩
  refine (enc_high d.1 (by omega)).2 b ?_
  rw [he]
  refine List.mem_iff_getElem?.2 ⟨j - i, ?_⟩
  rw [List.getElem?_take, if_pos (by omega), List.getElem?_drop, show i + (j - i) = j from by omega]
  exact h3
set_option maxHeartbeats 4000000 in
set_option maxRecDepth 1000000 in
theorem indexRune_bad (s : ByteArray) (w : World) (ha : ∀ j (h : j < s.size), (s[j]'h).toNat < 128) :
 Calls Tryz.prog 209 #[.string s, .int .i32 65533] w fun e w' => e = .returned (.int .i64 (-1)) ∧ Below w.heap.size w w' := by
 have HA := hid_mk ha
 clear ha
 go_enter Tryz.func209, Tryz.ntmps209
 go_wp2_with fail
 go_loopg [5, 6] s.size (fun g _ _ wx => ∃ i : Nat, i + g = s.size ∧ wx = w.iter s i)
 case atStart => exact ⟨0, by omega, rfl⟩
 case round =>
  obtain ⟨i, hig, rfl⟩ := hrel
  cases gk with
  | zero =>
    obtain rfl : i = s.size := by omega
    have hnx := run_next_end (P := Tryz.prog) w s s.size
    go_wp2_with fail
    go_ret
    exact ⟨rfl, (Below.refl _ _).alloc (Nat.le_refl _) _⟩
  | succ g =>
    have hi : i < s.size := by omega
    have hnx := fun ty => run_next_ascii (P := Tryz.prog) w s i ty hi (HA.out i hi)
    have hlt := HA.out i hi
    obtain ⟨x, hx⟩ : ∃ x : Nat, (s[i]'hi).toNat = x := ⟨_, rfl⟩
    rw [hx] at hnx hlt
    have hne : ((x : Int) == 65533) = false := beq_false_of_ne (by omega)
    clear hx
    go_wp2_with fail
    go_roundg g
    case measure => omega
    case rel => exact ⟨i + 1, by omega, rfl⟩
set_option maxHeartbeats 4000000 in
set_option maxRecDepth 1000000 in
theorem indexRune_high (s : ByteArray) (r : Int) (w : World) (h1 : 128 ≤ r) (h2 : r ≤ 1114111) (ha : ∀ j (h : j < s.size), (s[j]'h).toNat < 128) :
 Calls Tryz.prog 209 #[.string s, .int .i32 r] w fun e w' => e = .returned (.int .i64 (-1)) ∧ Below w.heap.size w w' := by
 by_cases hb : r = 65533
 ·subst hb
  exact indexRune_bad s w ha
 have hbe : (r == 65533) = false := beq_false_of_ne hb
 have HA := hid_mk ha
 clear ha hb
 by_cases hv : Lib.validRune r = true
 ·obtain ⟨R, hR⟩ : ∃ R, R = Utf8.encode r := ⟨_, rfl⟩
  have hRs : 2 ≤ R.size ∧ R.size ≤ 4 := by
   rw [hR, ← len_sl, sl_encode]
   exact ⟨(enc_high r h1).1, (enc_le r).2⟩
  have hRb : ∀ j (h : j < R.size), 128 ≤ (R[j]'h).toNat := fun j h => by
   have hm : (R[j]'h) ∈ sl R := by
    refine List.mem_iff_getElem?.2 ⟨j, ?_⟩
    exact Lib.data_getElem? R j h
   exact (enc_high r h1).2 _ (by rw [← sl_encode, ← hR]; exact hm)
  obtain ⟨hR1, hR2⟩ := hRs
  have HR := hid_mk hR.symm
  have HB := hid_mk hRb
  clear hRb hR
  obtain ⟨q, hq⟩ : ∃ q : Nat, R.size = q + 1 := ⟨R.size - 1, by omega⟩
  have HQ := hid_mk (show wrap64 ((R.size : Int) - 1) = (q : Int) by rw [show ((R.size : Int) - 1) = (q : Int) by omega]; exact IntWalk.wrap64_in _ ⟨by omega, by omega⟩)
  have hq2 : q < R.size := by omega
  have hq3 : R.size ≤ q + 1 := by omega
  clear hq
  go_enter Tryz.func209, Tryz.ntmps209
  go_wp2_with fail
  refine (Tryz.utf8_ValidRune r _).mono ?_
  rintro e w1 ⟨rfl, rfl⟩
  go_wp2_with fail
  go_step3
  go_wp2_with fail
  rw [HR.out, HQ.out]
  go_loopw [9] (fun v wr => v = .int .i64 (q : Int) ∧ wr = w1) (fun _ _ => 0)
  case atStart => exact ⟨rfl, rfl⟩
  case round =>
   obtain ⟨rfl, rfl⟩ := hrel
   by_cases hlt : q < s.size
   ·have a1 := HA.out q hlt
    have b1 := HB.out q (by omega)
    have hlt' : (q : Int) < (s.size : Int) := by omega
    have hqi : (0 : Int) ≤ (q : Int) := by omega
    have hqi2 : (q : Int) < (R.size : Int) := by omega
    have hne : ((s[q].toNat : Int) == (R[q].toNat : Int)) = false := beq_false_of_ne (by omega)
    have hnn : ((s[q].toNat : Int) != (R[q].toNat : Int)) = true := by rw [bne, hne]; rfl
    go_wp2_with fail
    go_step3
    go_wp2_with fail
    go_quiet (fail)
    have hb2 : Below wr.heap.size wr (wr.drewN nq) := below_drewN (Below.refl _ _) nq
    generalize wr.drewN nq = w2 at *
    have hix : Lib.indexByte ((sl s).drop (q + 1)) (R[q]) = -1 := by
     have hge := Lib.indexByte_ge ((sl s).drop (q + 1)) (R[q])
     by_cases h : Lib.indexByte ((sl s).drop (q + 1)) (R[q]) < 0
     ·omega
     ·exfalso
      obtain ⟨k, hk⟩ : ∃ k : Nat, Lib.indexByte ((sl s).drop (q + 1)) (R[q]) = (k : Int) := ⟨(Lib.indexByte ((sl s).drop (q + 1)) (R[q])).toNat, by omega⟩
      obtain ⟨h1, _⟩ := Lib.indexByte_some hk
      rw [List.getElem?_drop] at h1
      have hlt := (List.getElem?_eq_some_iff.1 h1).1
      rw [len_sl] at hlt
      have h3 := HA.out (q + 1 + k) hlt
      have h4 : (sl s)[q + 1 + k]? = some (s[q + 1 + k]'hlt) := Lib.data_getElem? s _ hlt
      rw [h4] at h1
      injection h1 with h1
      rw [h1] at h3
      omega
    have hib : ∀ w, Calls Tryz.prog 77 #[.string (s.extract (q + 1) s.size), .int .u8 ((R[q]'hq2).toNat : Int)] w fun e w' => e = .returned (.int .i64 (-1)) ∧ w' = w := fun w => by
     have h := Tryz.strings_IndexByte (s.extract (q + 1) s.size) ((R[q]'hq2).toNat : Int) w
     have e1 : (s.extract (q + 1) s.size).data.toList = (sl s).drop (q + 1) := sl_extract s (q + 1)
     have e2 : (((R[q]'hq2).toNat : Int)).toNat.toUInt8 = R[q] := by simp
     rw [e1, e2, hix] at h
     exact h
    have HI := hid_mk hib
    clear hib hix
    have hs2 : (q : Int) + 1 ≤ (s.size : Int) := by omega
    go_wp2_with fail
    go_quiet ((go_at_call 77; exact Calls.quiet_of_same (HI.out _)))
    have hb3 := below_drewN hb2 nq
    clear hb2
    go_wp2_with fail
    rw [Exit.noGoto_ret]
    rw [inBlock_ret]
    simp (config := {zetaDelta := true}) only []
    rw [then_ret, inBlock_ret, then_ret, Exit.noGoto_ret, inBlock_ret]
    go_ret
    exact ⟨rfl, hb3⟩
   ·have hlt' : ¬ (q : Int) < (s.size : Int) := by omega
    go_wp2_with fail
    go_ret
    exact ⟨rfl, Below.refl _ _⟩
 ·have hv' : Lib.validRune r = false := by simpa using hv
  clear hv
  go_enter Tryz.func209, Tryz.ntmps209
  go_wp2_with fail
  refine (Tryz.utf8_ValidRune r _).mono ?_
  rintro e w1 ⟨rfl, rfl⟩
  go_wp2
  go_ret
  exact ⟨rfl, Below.refl _ _⟩
theorem iterAt_heap (w : World) (k : Nat) (s : ByteArray) (pos pos' : Nat) (hk : w.heap[k]? = some (.stringIter s pos)) : (w.iterAt k s pos').heap[k]? = some (.stringIter s pos') := Lib.iterAt_heap w k s pos pos' hk
theorem run_next_end_at {P : Program} (w : World) (k : Nat) (s : ByteArray) (pos : Nat) (ty : TypeId) (hk : w.heap[k]? = some (.stringIter s pos)) (h : ¬ pos < s.size) :
 (Instr.next (.pointer (some ⟨k, 0, none⟩)) true ty).run P w = .ok (.tuple #[.bool false]) w := Lib.run_next_end_at w k s pos ty hk h
theorem iterAt_below (w : World) (B k : Nat) (s : ByteArray) (pos : Nat) (h : B ≤ k) : Below B w (w.iterAt k s pos) := by
 refine ⟨rfl, rfl, rfl, by simp [World.iterAt], fun j hj => ?_⟩
 show (w.heap.setIfInBounds k _)[j]? = _
 rw [Array.getElem?_setIfInBounds_ne (by omega)]
set_option maxHeartbeats 8000000 in
set_option maxRecDepth 1000000 in
theorem indexAny_small (s chars : ByteArray) (w : World) (h2 : 2 ≤ chars.size) (h8 : s.size ≤ 8) (hascii : ∀ (j : Nat) b, chars.data.toList[j]? = some b → b.toNat < 128) :
 Calls Tryz.prog 190 #[.string s, .string chars] w fun e w' => e = .returned (.int .i64 (Lib.indexAny s.data.toList chars.data.toList)) ∧ Below w.heap.size w w' := by
 have HA := hid_mk hascii
 have ha : ∀ j (h : j < chars.size), (chars[j]'h).toNat < 128 := fun j h => hascii j _ (Lib.data_getElem? chars j h)
 have HB := hid_mk ha
 clear hascii ha
 have hemp : chars.toList.isEmpty = false := by
  rw [Lib.toList_data]
  cases h : chars.data.toList with
  | nil => have := Lib.size_eq chars; rw [h, List.length_nil] at this; omega
  | cons _ _ => rfl
 have hn1 : ((chars.size : Int) == 1) = false := beq_eq_false_iff_ne.2 (by omega)
 have h8z : decide ((8 : Int) < (s.size : Int)) = false := decide_eq_false (by omega)
 go_enter Tryz.func190, Tryz.ntmps190
 go_wp2_with fail
 refine (Tryz.strings_shouldUseASCIISet _ _).mono ?_
 rintro e w1 ⟨rfl, hw1⟩
 have hw1 := hw1.symm
 subst hw1
 rw [h8z]
 go_wp2_with fail
 go_loopg [9, 10] s.size (fun g _ _ wx => ∃ i : Nat, i + g = s.size ∧ Hid (wx.heap[w.heap.size]? = some (.stringIter s i) ∧ Below w.heap.size w wx) ∧ Hid (Lib.NoAny s.data.toList chars.data.toList i))
 case atStart => exact ⟨0, by omega, hid_mk ⟨World.iter_heap _ _ _, (Below.refl _ _).alloc (Nat.le_refl _) _⟩, hid_mk (Lib.NoAny.zero _ _)⟩
 case round =>
  obtain ⟨i, hig, hW, HN⟩ := hrel
  cases gk with
  | zero =>
    obtain rfl : i = s.size := by omega
    have hnx := fun ty => run_next_end_at (P := Tryz.prog) wr w.heap.size s s.size ty hW.out.1 (Nat.lt_irrefl _)
    have hr := Lib.indexAny_none (by rw [← Lib.size_eq]; exact HN.out)
    have HR := hid_mk hr
    clear hr hig
    go_wp2_with fail
    go_ret
    rw [HR.out]
    exact ⟨rfl, hW.out.2⟩
  | succ g =>
    have hi : i < s.size := by omega
    obtain ⟨x, hx⟩ : ∃ x : UInt8, s[i]'hi = x := ⟨_, rfl⟩
    have hxl : s.data.toList[i]? = some x := by rw [← hx]; exact Lib.data_getElem? s i hi
    have Hx := hid_mk hxl
    clear hxl
    have hk0 : w.heap.size < wr.heap.size := (Array.getElem?_eq_some_iff.1 hW.out.1).1
    by_cases h128 : x.toNat < 128
    ·have hnx := fun ty => Lib.run_next_ascii_at (P := Tryz.prog) wr w.heap.size s i ty hW.out.1 hi (by rw [hx]; exact h128)
     have hW2 := hid_mk (And.intro (iterAt_heap wr w.heap.size s i (i + 1) hW.out.1) (hW.out.2.trans (iterAt_below wr w.heap.size w.heap.size s (i + 1) (Nat.le_refl _))))
     rw [hx] at hnx
     clear hx
     generalize wr.iterAt w.heap.size s (i + 1) = w2 at *
     have hcon := Lib.contains_iff_indexByte chars.data.toList x
     have hback : ((x.toNat : Int)).toNat.toUInt8 = x := by simp
     cases hin : chars.data.toList.contains x
     ·rw [hin] at hcon
      have hlt : ¬ ((0 : Int) ≤ Lib.indexByte chars.data.toList x) := of_decide_eq_false hcon.symm
      have HN2 := hid_mk (HN.out.succ Hx.out hin)
      clear hcon hin
      go_wp2_with fail
      refine (Tryz.strings_IndexRune_ascii _ _ _ (by omega) (by omega)).mono ?_
      rintro e w3 ⟨rfl, rfl⟩
      rw [hback]
      go_wp2_with fail
      go_roundg g
      case measure => omega
      case rel => exact ⟨i + 1, by omega, hW2, HN2⟩
     ·rw [hin] at hcon
      have hge : (0 : Int) ≤ Lib.indexByte chars.data.toList x := of_decide_eq_true hcon.symm
      have HR := hid_mk (Lib.indexAny_hit HN.out Hx.out hin)
      clear hcon hin
      go_wp2_with fail
      refine (Tryz.strings_IndexRune_ascii _ _ _ (by omega) (by omega)).mono ?_
      rintro e w3 ⟨rfl, rfl⟩
      rw [hback]
      go_wp2_with fail
      go_ret
      rw [HR.out]
      exact ⟨rfl, hW2.out.2⟩
    ·have hd := dec_high s i hi (by rw [hx]; omega)
     have hnx := fun ty => Lib.run_next_any_at (P := Tryz.prog) wr w.heap.size s i ty hW.out.1 hi
     clear hx
     obtain ⟨⟨r, n⟩, hrn⟩ : ∃ d, d = Utf8.decode s i := ⟨_, rfl⟩
     rw [← hrn] at hd hnx
     clear hrn
     simp only at hd hnx
     obtain ⟨d1, d2, d3, d4, d5⟩ := hd
     have hW2 := hid_mk (And.intro (iterAt_heap wr w.heap.size s i (i + n) hW.out.1) (hW.out.2.trans (iterAt_below wr w.heap.size w.heap.size s (i + n) (Nat.le_refl _))))
     have HN2 := hid_mk (show Lib.NoAny s.data.toList chars.data.toList (i + n) from fun j b hj hb => by
      rcases Nat.lt_or_ge j i with h | h
      ·exact HN.out j b h hb
      ·have h128 := d5 j b h hj hb
       cases hin : chars.data.toList.contains b
       ·rfl
       ·exfalso
        rw [List.contains_iff_mem] at hin
        obtain ⟨k, hk, rfl⟩ := List.mem_iff_getElem.1 hin
        have := HA.out k _ (List.getElem?_eq_getElem hk)
        omega)
     clear d5
     generalize wr.iterAt w.heap.size s (i + n) = w2 at *
     have hih := hid_mk (fun w => indexRune_high chars (r : Int) w (by omega) (by omega) HB.out)
     clear HN Hx h128 hi
     go_wp2_with fail
     refine (hih.out _).mono ?_
     rintro e w3 ⟨rfl, hb3⟩
     have hk2 : w.heap.size < w2.heap.size := (Array.getElem?_eq_some_iff.1 hW2.out.1).1
     have hW3 := hid_mk (And.intro ((hb3.block _ hk2).trans hW2.out.1) (hW2.out.2.trans (hb3.mono hW2.out.2.size)))
     clear hb3
     go_wp2_with fail
     go_roundg (s.size - (i + n))
     case measure => omega
     case rel => exact ⟨i + n, by omega, hW3, HN2⟩
/-- strings.IndexAny at ASCII chars: the place of the first byte that is one of them. -/
theorem indexAny_any (s chars : ByteArray) (w : World) (hs : s.size ≤ 1000000000) (hcs : chars.size ≤ 1000) (hac : ∀ (j : Nat) b, chars.data.toList[j]? = some b → b.toNat < 128) :
 Calls Tryz.prog 190 #[.string s, .string chars] w fun e w' => e = .returned (.int .i64 (Lib.indexAny s.data.toList chars.data.toList)) ∧ Below w.heap.size w w' := by
 by_cases h0 : chars.size = 0
 ·exact (Tryz.strings_IndexAny_none s chars w h0).mono fun e w' ⟨h1, h2⟩ => ⟨h1, h2 ▸ Below.refl _ _⟩
 by_cases h1 : chars.size = 1
 ·exact (Tryz.strings_IndexAny_one s chars w h1 hac).mono fun e w' ⟨h1, h2⟩ => ⟨h1, h2 ▸ Below.refl _ _⟩
 by_cases h8 : s.size ≤ 8
 ·exact indexAny_small s chars w (by omega) h8 hac
 ·refine (Tryz.strings_IndexAny_long (zero_of_info (P := Tryz.prog) (t := 174) (n := 256) (by kernel_rfl)).1 s chars w (by omega) (by omega) (by omega) (by omega) hac).mono fun e w' ⟨h1, h2⟩ => ⟨h1, ?_⟩
  rw [h2]
  exact ((Below.refl _ _).alloc (Nat.le_refl _) _).alloc (by simp) _
set_option maxHeartbeats 1000000 in
theorem containsAny_any (s chars : ByteArray) (w : World) (hs : s.size ≤ 1000000000) (hcs : chars.size ≤ 1000) (hac : ∀ (j : Nat) b, chars.data.toList[j]? = some b → b.toNat < 128) :
 Calls Tryz.prog 211 #[.string s, .string chars] w fun e w' => e = .returned (.bool (Lib.containsAny s.data.toList chars.data.toList)) ∧ Below w.heap.size w w' := by
 have c := hid_mk (indexAny_any s chars w hs hcs hac)
 clear hac
 go_enter Tryz.func211, Tryz.ntmps211
 go_wp2_with fail
 refine c.out.mono ?_
 rintro e w1 ⟨rfl, hb⟩
 go_wp2
 go_ret
 exact ⟨rfl, hb⟩
end Go.Proofs.YtlcijlklbabajaaGreatDoor
