/-
  Package utf's Decode, with what it calls. Condition: the length is bounded.
-/
import Derived.Test.YtlcijlklbabajaaGreatDoorQUCut
import Derived.Test.YtlcijlklbabajaaGreatDoorProg
import Derived.Deep.AppendLies
import Derived.Test.YtlcijlklbabajaaGreatDoorQShelf
import Derived.Shelf.Strings.BuilderK
import Derived.Shelf.Strings.BuilderRune
import Derived.Shelf.Utf8.AppendRune
namespace Go.Proofs.YtlcijlklbabajaaGreatDoor.U
open Go.RowKit
theorem wellFormed_any (b : Nat) (hb : b < 256) (w : World) : Calls Tryz.prog 139 #[.int .u8 b] w fun e w' => e = .returned (.tuple #[.int .i64 (wh b), .int .u8 (lo2 b), .int .u8 (hi2 b)]) ∧ w = w' := by
 have hcase : b = 224 ∨ b = 237 ∨ b = 240 ∨ b = 244 ∨ (194 ≤ b ∧ b ≤ 223) ∨ (225 ≤ b ∧ b ≤ 236) ∨ (238 ≤ b ∧ b ≤ 239) ∨ (241 ≤ b ∧ b ≤ 243) ∨ b < 194 ∨ 244 < b := by omega
 rcases hcase with rfl | rfl | rfl | rfl | h | h | h | h | h | h
 ·go_enter Tryz.func139, Tryz.ntmps139
  go_wp2
  go_ret3
  exact ⟨rfl, rfl⟩
 ·go_enter Tryz.func139, Tryz.ntmps139
  go_wp2
  go_ret3
  exact ⟨rfl, rfl⟩
 ·go_enter Tryz.func139, Tryz.ntmps139
  go_wp2
  go_ret3
  exact ⟨rfl, rfl⟩
 ·go_enter Tryz.func139, Tryz.ntmps139
  go_wp2
  go_ret3
  exact ⟨rfl, rfl⟩
 ·have hv : Hid (wh b = 2 ∧ lo2 b = 128 ∧ hi2 b = 191) := hid_mk (by unfold wh lo2 hi2; refine ⟨?_, ?_, ?_⟩ <;> (repeat' split) <;> omega)
  go_enter Tryz.func139, Tryz.ntmps139
  go_wp2
  all_goals
   go_ret3
   rw [hv.out.1, hv.out.2.1, hv.out.2.2]
   exact ⟨rfl, rfl⟩
 ·have hv : Hid (wh b = 3 ∧ lo2 b = 128 ∧ hi2 b = 191) := hid_mk (by unfold wh lo2 hi2; refine ⟨?_, ?_, ?_⟩ <;> (repeat' split) <;> omega)
  go_enter Tryz.func139, Tryz.ntmps139
  go_wp2
  all_goals
   go_ret3
   rw [hv.out.1, hv.out.2.1, hv.out.2.2]
   exact ⟨rfl, rfl⟩
 ·have hv : Hid (wh b = 3 ∧ lo2 b = 128 ∧ hi2 b = 191) := hid_mk (by unfold wh lo2 hi2; refine ⟨?_, ?_, ?_⟩ <;> (repeat' split) <;> omega)
  go_enter Tryz.func139, Tryz.ntmps139
  go_wp2
  all_goals
   go_ret3
   rw [hv.out.1, hv.out.2.1, hv.out.2.2]
   exact ⟨rfl, rfl⟩
 ·have hv : Hid (wh b = 4 ∧ lo2 b = 128 ∧ hi2 b = 191) := hid_mk (by unfold wh lo2 hi2; refine ⟨?_, ?_, ?_⟩ <;> (repeat' split) <;> omega)
  go_enter Tryz.func139, Tryz.ntmps139
  go_wp2
  all_goals
   go_ret3
   rw [hv.out.1, hv.out.2.1, hv.out.2.2]
   exact ⟨rfl, rfl⟩
 ·have hv : Hid (wh b = 1 ∧ lo2 b = 0 ∧ hi2 b = 0) := hid_mk (by unfold wh lo2 hi2; refine ⟨?_, ?_, ?_⟩ <;> (repeat' split) <;> omega)
  go_enter Tryz.func139, Tryz.ntmps139
  go_wp2
  all_goals
   go_ret3
   rw [hv.out.1, hv.out.2.1, hv.out.2.2]
   exact ⟨rfl, rfl⟩
 ·have hv : Hid (wh b = 1 ∧ lo2 b = 0 ∧ hi2 b = 0) := hid_mk (by unfold wh lo2 hi2; refine ⟨?_, ?_, ?_⟩ <;> (repeat' split) <;> omega)
  go_enter Tryz.func139, Tryz.ntmps139
  go_wp2
  all_goals
   go_ret3
   rw [hv.out.1, hv.out.2.1, hv.out.2.2]
   exact ⟨rfl, rfl⟩
set_option maxHeartbeats 2000000 in
theorem partLength_any (s : ByteArray) (hs : 0 < s.size) (hm : s.size ≤ 9223372036854775807) (w : World) :
 Calls Tryz.prog 107 #[.string s] w fun e w' => e = .returned (.int .i64 (cutL (sl s)).n) ∧ w = w' := by
 have hb0 := byte_atL s 0 hs
 have h256 := atL_lt (sl s) 0
 have B0 : Hid _ := hb0
 clear hb0
 go_enter Tryz.func107, Tryz.ntmps107
 go_wp2_with fail
 rw [B0.out]
 refine (wellFormed_any _ h256 w).mono ?_
 rintro e w1 ⟨rfl, rfl⟩
 obtain ⟨b0, hb⟩ : ∃ b0, b0 = atL (sl s) 0 := ⟨_, rfl⟩
 rw [← hb]
 have HB : Hid _ := hb
 clear hb B0
 have hw4 : wh b0 ≤ 4 := by unfold wh; (repeat' split) <;> omega
 have hw1 : 1 ≤ wh b0 := by unfold wh; (repeat' split) <;> omega
 have hlh : lo2 b0 ≤ 255 ∧ hi2 b0 ≤ 255 := by unfold lo2 hi2; constructor <;> (repeat' split) <;> omega
 have hsec : Hid (1 < wh b0 → ∀ x, okAt b0 1 x ↔ lo2 b0 ≤ x ∧ x ≤ hi2 b0) := hid_mk (fun h x => by
  unfold okAt Sec lo2 hi2 wh at *
  rw [if_pos rfl]
  (repeat' split at h) <;> (repeat' split) <;> omega)
 go_wp2_with fail
 go_loop [6, 4, 5] (fun vk vl vh => ∃ k lo hi : Nat, 1 ≤ k ∧ k ≤ wh b0 ∧ lo ≤ 255 ∧ hi ≤ 255 ∧ vk = .int .i64 k ∧ vl = .int .u8 lo ∧ vh = .int .u8 hi ∧ Hid (k = 1 → lo = lo2 b0 ∧ hi = hi2 b0) ∧ Hid (1 < k → lo = 128 ∧ hi = 191) ∧ Hid (∀ j, 1 ≤ j → j < k → j < (sl s).length ∧ okAt b0 j (atL (sl s) j))) (fun vk _ _ => 4 - (intOf vk).toNat)
 case atStart => exact ⟨1, lo2 b0, hi2 b0, by omega, hw1, hlh.1, hlh.2, rfl, rfl, rfl, fun _ => ⟨rfl, rfl⟩, fun h => absurd h (by omega), fun j h1 h2 => absurd h2 (by omega)⟩
 case round =>
  obtain ⟨k, lo, hi, h1, hk, hl1, hh1, rfl, rfl, rfl, e1, e2, acc⟩ := hrel
  have hstop : Hid (k = wh b0 ∨ (sl s).length ≤ k ∨ ¬ okAt b0 k (atL (sl s) k) → (cutL (sl s)).n = k) := hid_mk (fun st => cut_stop (sl s) k h1 (HB.out ▸ hk) (HB.out ▸ acc.out) (HB.out ▸ st))
  by_cases c1 : k < wh b0
  ·have c1' : (k : Int) < (wh b0 : Int) := by omega
   by_cases c2 : k < s.size
   ·have c2' : (k : Int) < (s.size : Int) := by omega
    have hby := byte_atL s k c2
    have hok : Hid (okAt b0 k (atL (sl s) k) ↔ lo ≤ (s[k]'c2).toNat ∧ (s[k]'c2).toNat ≤ hi) := hid_mk (by
     rw [hby]
     rcases Nat.lt_or_ge 1 k with hk1 | hk1
     ·obtain ⟨rfl, rfl⟩ := e2.out hk1
      unfold okAt Cont
      rw [if_neg (by omega)]
     ·obtain rfl : k = 1 := by omega
      obtain ⟨rfl, rfl⟩ := e1.out rfl
      exact hsec.out (by omega) _)
    clear hby
    by_cases c3 : lo ≤ (s[k]'c2).toNat
    ·have c3' : (lo : Int) ≤ ((s[k]'c2).toNat : Int) := by omega
     by_cases c4 : (s[k]'c2).toNat ≤ hi
     ·have c4' : ((s[k]'c2).toNat : Int) ≤ (hi : Int) := by omega
      go_wp2
      go_round
      case rel =>
       refine ⟨k + 1, 128, 191, by omega, by omega, by omega, by omega, by go_num, rfl, rfl, fun h => absurd h (by omega), fun _ => ⟨rfl, rfl⟩, fun j j1 j2 => ?_⟩
       rcases Nat.lt_or_ge j k with hj | hj
       ·exact acc.out j j1 hj
       ·obtain rfl : j = k := by omega
        exact ⟨by rw [len_sl]; exact c2, hok.out.2 ⟨c3, c4⟩⟩
      case measure => simp [intOf]; omega
     ·have hv : Hid ((cutL (sl s)).n = k) := hid_mk (hstop.out (.inr (.inr (fun h => c4 (hok.out.1 h).2))))
      have c4' : ¬ ((s[k]'c2).toNat : Int) ≤ (hi : Int) := by omega
      go_wp2
      go_ret
      rw [hv.out]
      exact ⟨rfl, rfl⟩
    ·have hv : Hid ((cutL (sl s)).n = k) := hid_mk (hstop.out (.inr (.inr (fun h => c3 (hok.out.1 h).1))))
     have c3' : ¬ (lo : Int) ≤ ((s[k]'c2).toNat : Int) := by omega
     go_wp2
     go_ret
     rw [hv.out]
     exact ⟨rfl, rfl⟩
   ·have hv : Hid ((cutL (sl s)).n = k) := hid_mk (hstop.out (.inr (.inl (by rw [len_sl]; omega))))
    have c2' : ¬ (k : Int) < (s.size : Int) := by omega
    go_wp2
    go_ret
    rw [hv.out]
    exact ⟨rfl, rfl⟩
  ·have hv : Hid ((cutL (sl s)).n = k) := hid_mk (hstop.out (.inl (by omega)))
   have c1' : ¬ (k : Int) < (wh b0 : Int) := by omega
   go_wp2
   go_ret
   rw [hv.out]
   exact ⟨rfl, rfl⟩
set_option maxHeartbeats 4000000 in
set_option maxRecDepth 100000 in
theorem eachPart_any (I : List Nat → World → Prop) (f : Nat) (caps : Array Value) (s : ByteArray) (hm : s.size ≤ 9223372036854775800)
 (hent : ∀ args w, (callFunc f args).run Tryz.prog w = .ok (.enter f args) w)
 (hcall : ∀ rs (r : Nat) w, rs.length < s.size → r ≤ 1114111 → I rs w → Calls Tryz.prog f (#[.int .i32 r] ++ caps) w fun e w' => e = .returned (.tuple #[]) ∧ I (rs ++ [r]) w' ∧ IterKept w w')
 (hnew : ∀ rs w, I rs w → I rs (w.iter s 0)) (w : World) (hiter : ∀ rs w1 pos pos', I rs w1 → w1.heap[w.heap.size]? = some (.stringIter s pos) → I rs (w1.iterAt w.heap.size s pos')) (h0 : I [] w) :
 Calls Tryz.prog 73 #[.string s, .func (.func f) #[] caps] w fun e w' => e = .returned (.tuple #[]) ∧ I (runesL (sl s)) w' := by
 have H1 : Hid _ := hcall
 have H2 : Hid _ := hnew
 have H3 : Hid _ := hiter
 clear hcall hnew hiter
 go_enter Tryz.func73, Tryz.ntmps73
 go_wp2
 go_loopw [4] (fun ve wr => ∃ (pos e : Nat) (acc : List Nat), ve = .int .i64 e ∧ wr.heap[w.heap.size]? = some (.stringIter s pos) ∧ pos ≤ s.size ∧ e ≤ s.size + 4 ∧ acc.length ≤ pos ∧ I acc wr ∧ St s pos e acc) (fun _ wr => s.size - wr.iterPos w.heap.size)
 case atStart => exact ⟨0, 0, [], rfl, World.iter_heap w s 0, Nat.zero_le _, by omega, Nat.le_refl _, H2.out _ _ h0, .inl ⟨Nat.le_refl _, by rw [List.drop_zero]; rfl⟩⟩
 case round =>
  obtain ⟨pos, e, acc, rfl, hit, hps, hes, hal, hI, hst⟩ := hrel
  by_cases hp : pos < s.size
  ·have hnx : ∀ ty, (Instr.next (.pointer (some ⟨w.heap.size, 0, none⟩)) true ty).run Tryz.prog wr = _ := fun ty => Lib.run_next_any_at wr w.heap.size s pos ty hit hp
   simp only [decode_sl] at hnx
   have hit2 := Lib.iterAt_heap wr w.heap.size s pos (pos + (decL ((sl s).drop pos)).2) hit
   have hI2 := H3.out acc wr pos (pos + (decL ((sl s).drop pos)).2) hI hit
   have HI2 : Hid _ := hI2
   have HIT2 : Hid _ := hit2
   clear hI2 hit2 hI
   by_cases he : pos < e
   ·obtain ⟨hd, hst2⟩ := hst.inside he
    rw [hd] at hnx HI2 HIT2
    have he' : (pos : Int) < (e : Int) := by omega
    go_wp2
    go_roundw
    case rel => exact ⟨pos + 1, e, acc, rfl, HIT2.out, by omega, hes, by omega, HI2.out, hst2⟩
    case measure =>
     simp only [World.iterPos, HIT2.out, hit]
     omega
   ·obtain ⟨r1, wd1, n1, wd2, hst2⟩ := hst.begin (by omega) hp
    have he' : ¬ (pos : Int) < (e : Int) := by omega
    have hxs : Hid ((cutL (sl (s.extract pos s.size))).n = (cutL ((sl s).drop pos)).n) := hid_mk (by rw [sl_extract])
    have hsz := size_extract s pos
    have HSZ : Hid _ := hsz
    clear hsz
    generalize (decL ((sl s).drop pos)).1 = rr at *
    generalize (decL ((sl s).drop pos)).2 = wd at *
    go_wp2_with fail
    refine (partLength_any (s.extract pos s.size) (by rw [HSZ.out]; omega) (by rw [HSZ.out]; omega) _).mono ?_
    rintro e1 w1 ⟨rfl, rfl⟩
    rw [hxs.out]
    generalize (cutL ((sl s).drop pos)).n = n at *
    go_wp2_with fail
    refine (H1.out acc rr _ (by omega) r1 HI2.out).mono ?_
    rintro e2 w2 ⟨rfl, hI3, hkeep⟩
    have hit3 := hkeep _ _ _ HIT2.out
    have HIT3 : Hid _ := hit3
    have HI3 : Hid _ := hI3
    clear hit3 hI3 hkeep
    go_wp2
    go_roundw
    case rel => exact ⟨pos + wd, pos + n, acc ++ [rr], by go_num, HIT3.out, by omega, by omega, by rw [List.length_append, List.length_singleton]; omega, HI3.out, hst2⟩
    case measure =>
     simp only [World.iterPos, HIT3.out, hit]
     omega
  ·have hnx : ∀ ty, (Instr.next (.pointer (some ⟨w.heap.size, 0, none⟩)) true ty).run Tryz.prog wr = _ := fun ty => Lib.run_next_end_at wr w.heap.size s pos ty hit hp
   have hv : Hid (acc = runesL (sl s)) := hid_mk (hst.done hp)
   go_wp2
   go_end0
   exact ⟨rfl, hv.out ▸ hI⟩
theorem own_ne {w : World} {base b n size : Nat} {e t : TypeId} {v : Value} {xs : List Value} {cs : Array Value} {fr : Nat × Nat} (h : w.ownsRow base e size v n xs) (hb : w.heap[b]? = some (.cells cs t fr)) (hne : e ≠ t) : v.ownBlock ≠ some b := by
 rcases h.2 with ⟨rfl, _⟩ | ⟨g, cap, cur, rfl, _, hg, _⟩
 ·simp [Value.ownBlock]
 ·intro he
  have : g = b := by simpa [Value.ownBlock] using he
  subst this
  rw [hg] at hb
  injection hb with hb
  injection hb with _ ht
  exact hne ht
theorem sizeBuilder : (Tryz.prog.info? 78).map (·.size) = some 2 := by kernel_rfl
theorem liesBuilder : liesAt Tryz.prog Tryz.prog.depth 78 (2 / Tryz.prog.cellsOf 78) 0 78 1 = true := by kernel_rfl
theorem infoByte : (Tryz.prog.info? 5).map (fun i => (i.zero, i.size, i.bytes)) = some (some (.int .u8 0), 1, 1) := by kernel_rfl
set_option maxHeartbeats 2000000 in
theorem copyCheck_fresh (b : Nat) (w : World) (h0 : w.cell? ⟨b, 0, none⟩ = some (.pointer none)) (hsh : w.shape? b = some (78, 2)) (hfz : w.frozen? ⟨b, 0, none⟩ = false) :
 Calls Tryz.prog 108 #[.pointer (some ⟨b, 0, none⟩)] w fun e w' => e = .returned (.tuple #[]) ∧ w' = w.setCell ⟨b, 0, none⟩ (.pointer (some ⟨b, 0, none⟩)) := by
 obtain ⟨j, hj, hjs⟩ := Option.map_eq_some_iff.1 sizeBuilder
 have k1 := Lib.run_to_unsafe (P := Tryz.prog) w ⟨b, 0, none⟩ Tryz.underlying76 Tryz.underlying151 hj (by rw [hjs]; decide) hsh (Nat.zero_lt_succ 1)
 have k3 := Lib.run_from_unsafe (P := Tryz.prog) w ⟨b, 0, none⟩ Tryz.underlying151 Tryz.underlying76 hj hsh liesBuilder
 have k2 := run_callFunc_extern (args := #[.pointer (some ⟨b, 0, none⟩)]) (w := w) Tryz.func140 (by kernel_rfl) (by kernel_rfl) (by kernel_rfl) (e := Extern.AbiNoEscape.same) (by kernel_rfl)
 rw [Lib.run_noEscape] at k2
 simp only [Result.andThen] at k2
 clear hj hjs
 go_enter Tryz.func108, Tryz.ntmps108
 go_wp2
 go_end0
 exact ⟨rfl, rfl⟩
set_option maxHeartbeats 2000000 in
theorem copyCheck_used (b : Nat) (w : World) (h0 : w.cell? ⟨b, 0, none⟩ = some (.pointer (some ⟨b, 0, none⟩))) :
 Calls Tryz.prog 108 #[.pointer (some ⟨b, 0, none⟩)] w fun e w' => e = .returned (.tuple #[]) ∧ w' = w := by
 obtain ⟨j, hj, _⟩ := Option.map_eq_some_iff.1 sizeBuilder
 have k1 := Lib.run_neq_ptr_same (P := Tryz.prog) w ⟨b, 0, none⟩ Tryz.underlying76 hj
 clear hj
 go_enter Tryz.func108, Tryz.ntmps108
 go_wp2
 go_end0
 exact ⟨rfl, rfl⟩
theorem copyCheck_any (B b : Nat) (bs : List Value) (w : World) (h : Lib.IsBuilderF 78 5 B b bs w) :
 Calls Tryz.prog 108 #[.pointer (some ⟨b, 0, none⟩)] w fun e w' => e = .returned (.tuple #[]) ∧ (Lib.BuilderAtF 78 5 B b (.pointer (some ⟨b, 0, none⟩)) bs w' ∧ Below B w w' ∧ Lib.OthersKept 5 (some b) w w') := by
 rcases h with h | h
 ·refine (copyCheck_fresh b w h.cell0 h.shape h.frozen0).mono ?_
  rintro e w' ⟨rfl, rfl⟩
  exact ⟨rfl, h.used _, (Below.refl B w).setCell (p := ⟨b, 0, none⟩) h.1 _, (Lib.OthersKept.refl _ _ w).setCell ⟨b, 0, none⟩ rfl _⟩
 ·refine (copyCheck_used b w h.cell0).mono ?_
  rintro e w' ⟨rfl, rfl⟩
  exact ⟨rfl, h, Below.refl B _, Lib.OthersKept.refl _ _ _⟩
theorem neB5 : (78 : Nat) ≠ 5 := by decide
set_option maxHeartbeats 2000000 in
theorem writeByte_any (B b : Nat) (bs : List Value) (c : Int) (w : World) (h : Lib.IsBuilderF 78 5 B b bs w) (hlen : bs.length + 1 ≤ 140737488355328) (hBw : B ≤ w.heap.size) :
 Calls Tryz.prog 75 #[.pointer (some ⟨b, 0, none⟩), .int .u8 c] w fun e w' => e = .returned .nilIface ∧ (Lib.BuilderAtF 78 5 B b (.pointer (some ⟨b, 0, none⟩)) (bs ++ [.int .u8 c]) w' ∧ Below B w w' ∧ Lib.OthersKept 5 (some b) w w') := by
 obtain ⟨i0, hi, hz0, hz1, hz2⟩ := info_parts infoByte
 go_enter Tryz.func75, Tryz.ntmps75
 go_wp2_with (go_at_call 108; refine (copyCheck_any B b bs _ h).mono ?_; rintro e w1 ⟨rfl, hb⟩; refine Classical.byContradiction fun hno => ?_)
 refine hno ?_
 clear hno
 obtain ⟨h1, hbel, hoth⟩ := hb
 obtain ⟨hB, v, hbk, hown, hne⟩ := h1
 have hlt : b < w1.heap.size := (Array.getElem?_eq_some_iff.1 hbk).1
 have c0 : w1.cell? ⟨b, 0, none⟩ = some (.pointer (some ⟨b, 0, none⟩)) := by rw [Lib.cell_of_heap hbk]; rfl
 have c1 : w1.cell? ⟨b, 1, none⟩ = some v := by rw [Lib.cell_of_heap hbk]; rfl
 have HH := hid_mk (And.intro hbk (And.intro hown (And.intro hbel hoth)))
 clear hbk hown hbel hoth
 go_wp2_with (at_builtin; refine Classical.byContradiction fun hno => ?_)
 refine hno ?_
 clear hno
 obtain ⟨hbk, hown, hbel, hoth⟩ := HH.out
 refine wpList_append_ownF _ rfl (.tmp 11) (.tmp 13) _ rfl B 5 i0 (.int .u8 0) 1 1 Tryz.underlying42 hi hz0 hz1 hz2 rfl (by decide) v bs.length bs rfl (hown.alloc _) ⟨w1.heap.size, 0, none⟩ 1 1 [.int .u8 c] rfl rfl ?c1 ?c2 ?c3 ?c4 ?c5 ?_
 case c1 =>
  intro j u hu
  match j, hu with
  | 0, hu => simp at hu; subst hu; simp [Addr.add]
 case c2 => intro u hu; simp at hu; subst hu; rfl
 case c3 => unfold maxLen; omega
 case c4 => omega
 case c5 => have := hbel.size; simp; omega
 intro v' w2 hown1 hgrow _
 have hb2 : w2.heap[b]? = some (.cells #[.pointer (some ⟨b, 0, none⟩), v] 78 (0, 0)) := by
  rw [hgrow.block b (by simp; omega) (fun e => hne e.symm), Below.heap_alloc w1 _ b hlt]
  exact hbk
 have d0 : w2.cell? ⟨b, 0, none⟩ = some (.pointer (some ⟨b, 0, none⟩)) := by rw [Lib.cell_of_heap hb2]; rfl
 have d1 : w2.cell? ⟨b, 1, none⟩ = some v := by rw [Lib.cell_of_heap hb2]; rfl
 have f1 : w2.frozen? ⟨b, 1, none⟩ = false := Lib.frozen_of_heap hb2 1
 obtain ⟨g, cap, hv⟩ : ∃ g cap, v' = .slice (some ⟨g, 0, none⟩) (bs.length + 1) cap := by
  rcases hown1.2 with ⟨_, h0⟩ | ⟨g, cap, cur, fz, hv, _⟩
  ·omega
  ·exact ⟨g, cap, hv⟩
 have hfin := hid_mk (show Lib.BuilderAtF 78 5 B b (.pointer (some ⟨b, 0, none⟩)) (bs ++ [.int .u8 c]) (w2.setCell ⟨b, 1, none⟩ v') ∧ Below B w (w2.setCell ⟨b, 1, none⟩ v') ∧ Lib.OthersKept 5 (some b) w (w2.setCell ⟨b, 1, none⟩ v') from by
  refine ⟨?_, ?_, ((hoth.alloc _).grown hgrow (Lib.ownsRowF_kind (hown.alloc _))).setCell ⟨b, 1, none⟩ rfl _⟩
  ·exact Lib.BuilderAtF.put (T := 78) (e := 5) hB hb2 (bs' := bs ++ [.int .u8 c]) (by simpa using hown1) neB5
  ·exact ((hbel.alloc (by have := hbel.size; omega) _).grown hgrow (by have := hbel.size; simp; omega) (fun k hk => (hown.lt k hk).1)).setCell (p := ⟨b, 1, none⟩) hB _)
 clear HH hbk hown hbel hoth hown1 hgrow hb2 hi hz0 hz1 hz2
 clear i0
 rw [hv] at hfin ⊢
 clear hv
 go_wp2
 go_ret
 exact ⟨rfl, hfin.out⟩
set_option maxHeartbeats 2000000 in
theorem writeRune_any (B b : Nat) (bs : List Value) (r : Int) (hr0 : -2147483648 ≤ r) (hr1 : r ≤ 2147483647) (w : World) (h : Lib.IsBuilderF 78 5 B b bs w) (hlen : bs.length + 4 ≤ 140737488355328) (hBw : B ≤ w.heap.size) :
 Calls Tryz.prog 76 #[.pointer (some ⟨b, 0, none⟩), .int .i32 r] w fun e w' => e = .returned (.tuple #[.int .i64 (Lib.runeCells r).length, .nilIface]) ∧ (Lib.BuilderAtF 78 5 B b (.pointer (some ⟨b, 0, none⟩)) (bs ++ Lib.runeCells r) w' ∧ Below B w w' ∧ Lib.OthersKept 5 (some b) w w') := by
 have hrl := Lib.runeCells_le r
 go_enter Tryz.func76, Tryz.ntmps76
 go_wp2_with (go_at_call 108; refine (copyCheck_any B b bs _ h).mono ?_; rintro e w1 ⟨rfl, hb⟩; refine Classical.byContradiction fun hno => ?_)
 refine hno ?_
 clear hno
 obtain ⟨h1, hbel, hoth⟩ := hb
 obtain ⟨hB, v, hbk, hown, hne⟩ := h1
 have hlt : b < w1.heap.size := (Array.getElem?_eq_some_iff.1 hbk).1
 have c0 : w1.cell? ⟨b, 0, none⟩ = some (.pointer (some ⟨b, 0, none⟩)) := by rw [Lib.cell_of_heap hbk]; rfl
 have c1 : w1.cell? ⟨b, 1, none⟩ = some v := by rw [Lib.cell_of_heap hbk]; rfl
 have hvf : ∃ a cap, v = .slice a bs.length cap := by
  rcases hown.2 with ⟨hv, h0⟩ | ⟨g, cap, cur, fz, hv, _⟩
  ·exact ⟨none, 0, by rw [hv, h0]⟩
  ·exact ⟨_, cap, hv⟩
 obtain ⟨a, cap, rfl⟩ := hvf
 have hbsz := hbel.size
 have HH := hid_mk (And.intro hbk (And.intro hown (And.intro hbel (And.intro hoth hne))))
 clear hbk hown hbel hoth hne
 go_wp2_with (go_at_call 109; refine Classical.byContradiction fun hno => ?_)
 refine hno ?_
 clear hno
 refine (Tryz.utf8_AppendRune_row B (.slice a bs.length cap) bs.length bs r hr0 hr1 w1 HH.out.2.1 hlen (by omega)).mono ?_
 rintro e w2 ⟨v', rfl, hown2, o, hgrow⟩
 obtain ⟨hbk, hown, hbel, hoth, hne⟩ := HH.out
 have hb2 : w2.heap[b]? = some (.cells #[.pointer (some ⟨b, 0, none⟩), .slice a bs.length cap] 78 (0, 0)) := by
  rw [hgrow.block b (by simp; omega) (fun e => hne e.symm), Below.heap_alloc w1 _ b hlt]
  exact hbk
 have d0 : w2.cell? ⟨b, 0, none⟩ = some (.pointer (some ⟨b, 0, none⟩)) := by rw [Lib.cell_of_heap hb2]; rfl
 have d1 : w2.cell? ⟨b, 1, none⟩ = some (.slice a bs.length cap) := by rw [Lib.cell_of_heap hb2]; rfl
 have f1 : w2.frozen? ⟨b, 1, none⟩ = false := Lib.frozen_of_heap hb2 1
 obtain ⟨g, cap2, hv⟩ : ∃ g cap2, v' = .slice (some ⟨g, 0, none⟩) (bs.length + (Lib.runeCells r).length) cap2 := by
  rcases hown2.2 with ⟨_, h0⟩ | ⟨g, cap2, cur, fz, hv, _⟩
  ·omega
  ·exact ⟨g, cap2, hv⟩
 have hfin := hid_mk (show Lib.BuilderAtF 78 5 B b (.pointer (some ⟨b, 0, none⟩)) (bs ++ Lib.runeCells r) (w2.setCell ⟨b, 1, none⟩ v') ∧ Below B w (w2.setCell ⟨b, 1, none⟩ v') ∧ Lib.OthersKept 5 (some b) w (w2.setCell ⟨b, 1, none⟩ v') from by
  refine ⟨?_, ?_, ((hoth.alloc _).grown hgrow (Lib.ownsRowF_kind (hown.alloc _))).setCell ⟨b, 1, none⟩ rfl _⟩
  ·exact Lib.BuilderAtF.put (T := 78) (e := 5) hB hb2 (bs' := bs ++ Lib.runeCells r) (by rw [List.length_append]; exact hown2) neB5
  ·exact ((hbel.alloc (by omega) _).grown hgrow (by simp; omega) (fun k hk => (hown.lt k hk).1)).setCell (p := ⟨b, 1, none⟩) hB _)
 clear HH hbk hown hbel hoth hown2 hgrow hb2 hne
 rw [hv] at hfin ⊢
 clear hv
 have he := hid_mk (show ((bs.length : Int) + ((Lib.runeCells r).length : Int) - (bs.length : Int)) = ((Lib.runeCells r).length : Int) by omega)
 go_wp2
 go_ret2
 refine ⟨?_, hfin.out⟩
 show Ending.returned (.tuple #[.int .i64 ((bs.length : Int) + ((Lib.runeCells r).length : Int) - (bs.length : Int)), .nilIface]) = _
 rw [he.out]
/-- What the closure of Decode keeps: the builder holds what has been told, 'before' the last character. -/
def DecI (W : World) (rs : List Nat) (w : World) : Prop :=
 Below W.heap.size W w ∧ Lib.IsBuilderF 78 5 W.heap.size W.heap.size (Lib.byteCells (decSt rs).2) w ∧ w.heap[W.heap.size + 1]? = some (.cells #[.int .i32 ((decSt rs).1 : Nat)] 21 (0, 0))
theorem DecI.iter {W : World} {rs : List Nat} {w : World} (h : DecI W rs w) (s : ByteArray) : DecI W rs (w.iter s 0) := by
 obtain ⟨hbel, hB, hq⟩ := h
 have hlt : W.heap.size + 1 < w.heap.size := (Array.getElem?_eq_some_iff.1 hq).1
 exact ⟨hbel.alloc hbel.size _, hB.alloc _, (Below.heap_alloc w _ _ hlt).trans hq⟩
theorem DecI.iterAt {W : World} {rs : List Nat} {w : World} (h : DecI W rs w) {k : Nat} {s : ByteArray} {pos : Nat} (hk : w.heap[k]? = some (.stringIter s pos)) (pos' : Nat) (hWk : W.heap.size ≤ k) : DecI W rs (w.iterAt k s pos') := by
 obtain ⟨hbel, hB, hq⟩ := h
 refine ⟨Lib.below_iterAt hbel hWk s pos', hB.iterAt hk pos', ?_⟩
 rw [Lib.iterAt_other w k _ s pos' (fun e => by subst e; rw [hq] at hk; cases hk)]
 exact hq
theorem kept_q {w w' : World} {b q : Nat} {v : Value} (hk : Lib.OthersKept 5 (some b) w w') (hq : w.heap[q]? = some (.cells #[v] 21 (0, 0))) (hne : q ≠ b) : w'.heap[q]? = some (.cells #[v] 21 (0, 0)) :=
 hk q _ hq (fun e => hne (Option.some.inj e)) (fun c fz e => by injection e with _ h; exact absurd h (by decide))
theorem builder_set {B b q : Nat} {bs : List Value} {w : World} {x v : Value} (h : Lib.IsBuilderF 78 5 B b bs w) (hq : w.heap[q]? = some (.cells #[x] 21 (0, 0))) : Lib.IsBuilderF 78 5 B b bs (w.setCell ⟨q, 0, none⟩ v) := by
 have one : ∀ p, Lib.BuilderAtF 78 5 B b p bs w → Lib.BuilderAtF 78 5 B b p bs (w.setCell ⟨q, 0, none⟩ v) := by
  rintro p ⟨hB, u, hb, hown, hne⟩
  have hbq : b ≠ q := fun e => by
   subst e
   rw [hb] at hq
   injection hq with hq
   injection hq with _ ht
   exact absurd ht (by decide)
  refine ⟨hB, u, ?_, ⟨hown.1, ?_⟩, hne⟩
  ·rw [heap_setCell_other w _ b _ hbq]; exact hb
  ·rcases hown.2 with h2 | ⟨g, cap, cur, fz, h1, h2, h3, h4⟩
   ·exact .inl h2
   ·refine .inr ⟨g, cap, cur, fz, h1, h2, ?_, h4⟩
    rw [heap_setCell_other w _ g _ (fun e => by
     have e' : g = q := e
     subst e'
     rw [h3] at hq
     injection hq with hq
     injection hq with _ ht
     exact absurd ht (by decide))]
    exact h3
 exact h.elim (fun h => .inl (one _ h)) (fun h => .inr (one _ h))
theorem builder_block {B b : Nat} {bs : List Value} {w : World} (h : Lib.IsBuilderF 78 5 B b bs w) : ∃ cs fz, w.heap[b]? = some (.cells cs 78 fz) := by
 rcases h with ⟨_, v, hb, _⟩ | ⟨_, v, hb, _⟩ <;> exact ⟨_, _, hb⟩
/-- The end of each way through the closure: the piece is written, the character is stored. -/
theorem decI_end {W : World} {rs : List Nat} {r : Nat} {w w1 : World} (h : DecI W rs w)
 (hb : Lib.IsBuilderF 78 5 W.heap.size W.heap.size (Lib.byteCells (decSt rs).2 ++ Lib.byteCells (piece (decSt rs).1 r)) w1) (hbel : Below W.heap.size w w1) (hoth : Lib.OthersKept 5 (some W.heap.size) w w1) :
 DecI W (rs ++ [r]) (w1.setCell ⟨W.heap.size + 1, 0, none⟩ (.int .i32 (r : Int))) ∧ IterKept w (w1.setCell ⟨W.heap.size + 1, 0, none⟩ (.int .i32 (r : Int))) := by
 obtain ⟨hbw, hB, hq⟩ := h
 have hq1 := kept_q hoth hq (by omega)
 refine ⟨⟨(hbw.trans hbel).setCell (p := ⟨W.heap.size + 1, 0, none⟩) (by simp) _, ?_, ?_⟩, fun k s pos hk => ?_⟩
 ·rw [decSt_snoc]
  show Lib.IsBuilderF _ _ _ _ (Lib.byteCells ((decSt rs).2 ++ piece (decSt rs).1 r)) _
  rw [Lib.byteCells_append]
  exact builder_set hb hq1
 ·rw [heap_setCell_same w1 _ 0 _ _ _ hq1, decSt_snoc]
  rfl
 ·have hkb : k ≠ W.heap.size := fun e => by
   subst e
   obtain ⟨cs, fz, hc⟩ := builder_block hB
   rw [hk] at hc
   cases hc
  have h1 := hoth.iter hk hkb
  rw [heap_setCell_other w1 _ k _ (fun e => by
   have e' : k = W.heap.size + 1 := e
   subst e'
   rw [hq] at hk
   cases hk)]
  exact h1
set_option maxHeartbeats 2000000 in
theorem decFn_any (W : World) (rs : List Nat) (r : Nat) (w : World) (hn : rs.length < 140737488) (hr : r ≤ 1114111) (h : DecI W rs w) :
 Calls Tryz.prog 74 #[.int .i32 r, .pointer (some ⟨W.heap.size, 0, none⟩), .pointer (some ⟨W.heap.size + 1, 0, none⟩)] w fun e w' => e = .returned (.tuple #[]) ∧ DecI W (rs ++ [r]) w' ∧ IterKept w w' := by
 have hl := decSt_len rs (0, [])
 have hl2 : (Lib.byteCells (decSt rs).2).length ≤ 4 * rs.length := by
  rw [Lib.byteCells_length]
  simpa [decSt] using hl
 clear hl
 have hq := h.2.2
 have hsz : W.heap.size + 1 < w.heap.size := (Array.getElem?_eq_some_iff.1 hq).1
 have HD := hid_mk h
 have c0 : w.cell? ⟨W.heap.size + 1, 0, none⟩ = some (.int .i32 ((decSt rs).1 : Nat)) := by rw [cell_of_row w _ 0 _ _ _ hq]; rfl
 have fin := hid_mk (fun (w1 : World) (hb : Lib.IsBuilderF 78 5 W.heap.size W.heap.size (Lib.byteCells (decSt rs).2 ++ Lib.byteCells (piece (decSt rs).1 r)) w1) (hbel : Below W.heap.size w w1) (hoth : Lib.OthersKept 5 (some W.heap.size) w w1) => decI_end h hb hbel hoth)
 have HQ := hid_mk hq
 have HB := hid_mk h.2.1
 have hWs : W.heap.size ≤ w.heap.size := by omega
 clear hq h HD
 by_cases h13 : r = 13
 ·have hp : piece (decSt rs).1 r = [10] := by unfold piece; rw [if_pos h13]
  have HP := hid_mk hp
  subst h13
  clear hp
  generalize (decSt rs).1 = bf at *
  generalize (decSt rs).2 = acc at *
  go_enter Tryz.func74, Tryz.ntmps74
  go_wp2_with fail
  refine (writeByte_any W.heap.size W.heap.size (Lib.byteCells acc) 10 w HB.out (by omega) hWs).mono ?_
  rintro e w1 ⟨rfl, h1, b1, k1⟩
  have hq1 := kept_q k1 HQ.out (by omega)
  have d0 : w1.cell? ⟨W.heap.size + 1, 0, none⟩ = some (.int .i32 (bf : Nat)) := by rw [cell_of_row w1 _ 0 _ _ _ hq1]; rfl
  have f0 : w1.frozen? ⟨W.heap.size + 1, 0, none⟩ = false := frozen_of_row w1 _ 0 _ _ hq1
  have hfin := hid_mk (fin.out w1 (by rw [HP.out]; exact Or.inr h1) b1 k1)
  clear hq1 h1 b1 k1 fin HB HQ HP
  go_wp2
  go_end0
  exact ⟨rfl, hfin.out⟩
 ·by_cases hskip : r = 10 ∧ (decSt rs).1 = 13
  ·have hp : piece (decSt rs).1 r = [] := by unfold piece; rw [if_neg h13, if_pos hskip]
   have HP := hid_mk hp
   obtain ⟨h10, hbf⟩ := hskip
   rw [hbf] at c0 HQ HP fin
   subst h10
   clear hp hbf h13
   generalize (decSt rs).2 = acc at *
   have f0 : w.frozen? ⟨W.heap.size + 1, 0, none⟩ = false := frozen_of_row w _ 0 _ _ HQ.out
   have hfin := hid_mk (fin.out w (by rw [HP.out]; show Lib.IsBuilderF _ _ _ _ (Lib.byteCells acc ++ []) w; rw [List.append_nil]; exact HB.out) (Below.refl _ _) (Lib.OthersKept.refl _ _ _))
   clear fin HB HQ HP
   go_enter Tryz.func74, Tryz.ntmps74
   go_wp2
   go_end0
   exact ⟨rfl, hfin.out⟩
  ·have hp : piece (decSt rs).1 r = Lib.encodeRune r := by unfold piece; rw [if_neg h13, if_neg hskip]
   have HP := hid_mk hp
   have hway : r ≠ 10 ∨ (r = 10 ∧ (decSt rs).1 ≠ 13) := by
    by_cases h10 : r = 10
    ·exact .inr ⟨h10, fun h => hskip ⟨h10, h⟩⟩
    ·exact .inl h10
   clear hp hskip
   generalize (decSt rs).1 = bf at *
   generalize (decSt rs).2 = acc at *
   have hc13 : ((r : Int) == 13) = false := by simp; omega
   rcases hway with h10 | ⟨rfl, hbf⟩
   ·have hc10 : ((r : Int) != 10) = true := by simp; omega
    clear h13 h10
    go_enter Tryz.func74, Tryz.ntmps74
    go_wp2_with fail
    refine (writeRune_any W.heap.size W.heap.size (Lib.byteCells acc) r (by omega) (by omega) w HB.out (by omega) hWs).mono ?_
    rintro e w1 ⟨rfl, h1, b1, k1⟩
    have hq1 := kept_q k1 HQ.out (by omega)
    have d0 : w1.cell? ⟨W.heap.size + 1, 0, none⟩ = some (.int .i32 (bf : Nat)) := by rw [cell_of_row w1 _ 0 _ _ _ hq1]; rfl
    have f0 : w1.frozen? ⟨W.heap.size + 1, 0, none⟩ = false := frozen_of_row w1 _ 0 _ _ hq1
    have hfin := hid_mk (fin.out w1 (by rw [HP.out, Lib.byteCells_encodeRune]; exact Or.inr h1) b1 k1)
    clear hq1 h1 b1 k1 fin HB HQ HP
    go_wp2
    go_end0
    exact ⟨rfl, hfin.out⟩
   ·have hb13 : ((bf : Int) != 13) = true := by simp; omega
    clear h13 hc13 hbf
    go_enter Tryz.func74, Tryz.ntmps74
    go_wp2_with fail
    refine (writeRune_any W.heap.size W.heap.size (Lib.byteCells acc) 10 (by omega) (by omega) w HB.out (by omega) hWs).mono ?_
    rintro e w1 ⟨rfl, h1, b1, k1⟩
    have hq1 := kept_q k1 HQ.out (by omega)
    have d0 : w1.cell? ⟨W.heap.size + 1, 0, none⟩ = some (.int .i32 (bf : Nat)) := by rw [cell_of_row w1 _ 0 _ _ _ hq1]; rfl
    have f0 : w1.frozen? ⟨W.heap.size + 1, 0, none⟩ = false := frozen_of_row w1 _ 0 _ _ hq1
    have hfin := hid_mk (fin.out w1 (by rw [HP.out, Lib.byteCells_encodeRune]; exact Or.inr h1) b1 k1)
    clear hq1 h1 b1 k1 fin HB HQ HP
    go_wp2
    go_end0
    exact ⟨rfl, hfin.out⟩
/-- A slice of these bytes. -/
def HasBytes (w : World) (a : Option Addr) (bs : List UInt8) : Prop :=
 (a = none ∧ bs = []) ∨ ∃ x, a = some x ∧ (0 < bs.length → x.block < w.heap.size) ∧ ∀ j u, (Lib.byteCells bs)[j]? = some u → w.cell? (x.add j) = some u
def strOf (l : List UInt8) : ByteArray := ⟨l.toArray⟩
theorem sl_strOf (l : List UInt8) : sl (strOf l) = l := by simp [sl, strOf]
theorem strOf_sl (s : ByteArray) : strOf (sl s) = s := by cases s; simp [sl, strOf]
theorem push_fold : ∀ (bs : List UInt8) (s : ByteArray), (bs.map fun b => ((b.toNat : Nat) : Int)).foldl (fun r n => r.push (UInt8.ofNat n.toNat)) s = strOf (sl s ++ bs)
 | [], s => by simp [strOf_sl]
 | b :: bs, s => by
   simp only [List.map_cons, List.foldl_cons]
   rw [push_fold bs]
   have e : UInt8.ofNat (((b.toNat : Nat) : Int)).toNat = b := by simp
   rw [e]
   congr 1
   show (s.data.push b).toList ++ bs = _
   simp [sl]
theorem bytes_conv (w : World) (a : Option Addr) (cap : Nat) (bs : List UInt8) (h : HasBytes w a bs) :
 (convert 42 9 (.slice a bs.length cap)).run Tryz.prog w = .ok (.string (strOf bs)) w := by
 rw [run_convert_bytes_string w _ _ _ a _ cap Tryz.underlying42 Tryz.underlying5 Tryz.underlying9]
 rcases h with ⟨rfl, rfl⟩ | ⟨x, rfl, _, hc⟩
 ·rfl
 ·have hl := run_loadCells_list (w := w) (P := Tryz.prog) x (Lib.byteCells bs) (fun j v hv => hc j v hv)
  rw [Lib.byteCells_length] at hl
  have hz : (Lib.byteCells bs) = (bs.map fun b => ((b.toNat : Nat) : Int)).map (Value.int .u8) := by simp [Lib.byteCells]
  rw [hz] at hl
  rw [run_bytesToString w x _ cap _ hl, push_fold]
  rfl
theorem addr_block (x : Addr) (j : Nat) : (x.add j).block = x.block := by unfold Addr.add; split <;> rfl
theorem HasBytes.below {w w' : World} {a : Option Addr} {bs : List UInt8} (h : HasBytes w a bs) (hb : Below w.heap.size w w') : HasBytes w' a bs := by
 rcases h with h | ⟨x, h1, h2, h3⟩
 ·exact .inl h
 ·refine .inr ⟨x, h1, fun h0 => Nat.lt_of_lt_of_le (h2 h0) hb.size, fun j u hu => ?_⟩
  have h0 : 0 < bs.length := by
   have := (List.getElem?_eq_some_iff.1 hu).1
   rw [Lib.byteCells_length] at this
   omega
  rw [hb.cell (p := x.add j) (by rw [addr_block]; exact h2 h0)]
  exact h3 j u hu
/-- What Decode tells: the text, and the error. -/
def decOut (bs : List UInt8) : List UInt8 × Int := if 65536 < bs.length then ([], 3) else ((decSt (runesL bs)).2, 0)
set_option maxHeartbeats 2000000 in
set_option maxRecDepth 100000 in
theorem decode_any (a : Option Addr) (cap : Nat) (bs : List UInt8) (w : World) (hl : bs.length ≤ 100000000) (h : HasBytes w a bs) :
 Calls Tryz.prog 42 #[.slice a bs.length cap] w fun e w' => e = .returned (.tuple #[.string (strOf (decOut bs).1), .int .i64 (decOut bs).2]) ∧ Below w.heap.size w w' := by
 by_cases hbig : 65536 < bs.length
 ·have ho : decOut bs = ([], 3) := by unfold decOut; rw [if_pos hbig]
  rw [ho]
  clear ho
  go_enter Tryz.func42, Tryz.ntmps42
  go_wp2
  go_ret2
  exact ⟨rfl, Below.refl _ _⟩
 ·have ho : decOut bs = ((decSt (runesL bs)).2, 0) := by unfold decOut; rw [if_neg hbig]
  have HO := hid_mk ho
  clear ho
  have hb2 : Below w.heap.size w ((w.alloc (.cells #[.pointer none, .slice none 0 0] 78)).alloc (.cells #[.int .i32 0] 21)) :=
   ((Below.refl _ _).alloc (Nat.le_refl _) _).alloc (by simp) _
  have hcv := bytes_conv _ a cap bs (h.below hb2)
  have hI : DecI w [] ((w.alloc (.cells #[.pointer none, .slice none 0 0] 78)).alloc (.cells #[.int .i32 0] 21)) := by
   refine ⟨hb2, .inl ⟨Nat.le_refl _, .slice none 0 0, ?_, ⟨rfl, .inl ⟨rfl, rfl⟩⟩, by simp [Value.ownBlock]⟩, ?_⟩
   ·rw [Below.heap_alloc _ _ _ (by simp)]
    exact heap_alloc_new w _
   ·have := heap_alloc_new (w.alloc (.cells #[.pointer none, .slice none 0 0] 78)) (.cells #[.int .i32 0] 21)
    rw [show (w.alloc (.cells #[.pointer none, .slice none 0 0] 78)).heap.size = w.heap.size + 1 by simp] at this
    exact this
  have hE := eachPart_any (fun rs w' => DecI w rs w') 74 #[.pointer (some ⟨w.heap.size, 0, none⟩), .pointer (some ⟨w.heap.size + 1, 0, none⟩)] (strOf bs) (by show bs.toArray.size ≤ _; rw [List.size_toArray]; omega)
   (fun args w' => by kernel_rfl) (fun rs r w' hl2 hr hD => decFn_any w rs r w' (by have : (strOf bs).size = bs.length := (by show bs.toArray.size = _; rw [List.size_toArray]); omega) hr hD) (fun rs w' hD => hD.iter (strOf bs)) _ (fun rs w' pos pos' hD hk => hD.iterAt hk pos' (by simp; omega)) hI
  rw [sl_strOf] at hE
  have HE := hid_mk hE
  clear hE hI hb2
  generalize hw2 : ((w.alloc (.cells #[.pointer none, .slice none 0 0] 78)).alloc (.cells #[.int .i32 0] 21)) = w2 at *
  have HW := hid_mk hw2
  clear hw2
  go_enter Tryz.func42, Tryz.ntmps42
  go_wp2_with fail
  rw [HW.out]
  rw [hcv]
  go_wp2_with fail
  refine HE.out.mono ?_
  rintro e w3 ⟨rfl, hbel, hB, hq⟩
  have HBB := hid_mk hB
  have HBL := hid_mk hbel
  have hsz := hbel.size
  clear hB hbel hq HE hcv
  go_wp2_with fail
  refine (Tryz.Builder_String_any_k w.heap.size w.heap.size _ w3 HBB.out hsz).mono ?_
  rintro e w4 ⟨rfl, _, hb4, _⟩
  have HB4 := hid_mk (HBL.out.trans hb4)
  clear hb4 hsz
  go_wp2
  go_ret2
  rw [HO.out]
  exact ⟨rfl, HB4.out⟩
end Go.Proofs.YtlcijlklbabajaaGreatDoor.U
