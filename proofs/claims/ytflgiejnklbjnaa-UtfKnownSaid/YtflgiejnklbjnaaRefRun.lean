/-
  The reference's Runes: the characters of the parts, in a slice of its own. Condition: the text's length is bounded.
-/
import Derived.Test.YtflgiejnklbjnaaRefCut
namespace Go.Proofs.Ytflgiejnklbjnaa
open Go.RowKit
theorem own_below {w w' : World} {base n size : Nat} {e : TypeId} {v : Value} {xs : List Value} (h : w.ownsRow base e size v n xs) (hb : Below w.heap.size w w') : w'.ownsRow base e size v n xs := by
  refine ⟨h.1, ?_⟩
  rcases h.2 with h2 | ⟨g, cap, cur, h1, h2, h3, h4⟩
  · exact .inl h2
  · exact .inr ⟨g, cap, cur, h1, h2, (hb.block g (Array.getElem?_eq_some_iff.1 h3).1).trans h3, h4⟩
theorem own_base {w : World} {base n size : Nat} {e : TypeId} {v : Value} {xs : List Value} (h : w.ownsRow base e size v n xs) (k : Nat) (hk : v.ownBlock = some k) : base ≤ k := by
  rcases h.2 with ⟨rfl, _⟩ | ⟨g, cap, cur, rfl, hg, _⟩
  · simp [Value.ownBlock] at hk
  · simp [Value.ownBlock] at hk; omega
set_option maxHeartbeats 4000000 in
set_option maxRecDepth 100000 in
theorem refRunes_any (s : ByteArray) (hs : s.size ≤ 100000000) (w : World) :
    Calls Try.prog 22 #[.string s] w fun e w' => ∃ v, e = .returned v ∧ w'.ownsRow w.heap.size 21 1 v (runesL (sl s)).length (runeVals (runesL (sl s))) ∧ Below w.heap.size w w' := by
  go_enter Try.func22, Try.ntmps22
  go_wp2_with fail
  go_loopw [3, 4] (fun vl va wr => ∃ (pos : Nat) (acc : List Nat), va = .int .i64 (pos : Int) ∧ pos ≤ s.size ∧ acc.length ≤ pos ∧ Hid (acc ++ runesL ((sl s).drop pos) = runesL (sl s)) ∧ wr.ownsRow w.heap.size 21 1 vl acc.length (runeVals acc) ∧ Below w.heap.size w wr) (fun _ va _ => s.size - (intOf va).toNat)
  case atStart => exact ⟨0, [], rfl, by omega, by simp, hid_mk (by rw [List.drop_zero]; rfl), ⟨rfl, .inl ⟨rfl, rfl⟩⟩, Below.refl _ _⟩
  case round =>
    obtain ⟨pos, acc, rfl, hps, hal, hacc, hown, hbel⟩ := hrel
    by_cases hp : pos < s.size
    · have hp' : (pos : Int) < (s.size : Int) := by omega
      have hp2 : (pos : Int) ≤ (s.size : Int) := by omega
      have hl : 0 < ((sl s).drop pos).length := by rw [List.length_drop, len_sl]; omega
      have hcf := cut_facts _ hl
      rw [List.length_drop, len_sl] at hcf
      obtain ⟨n1, n2, n4, r1, _⟩ := hcf
      have hacc2 : Hid (∀ r n, r = (cutL ((sl s).drop pos)).r → n = (cutL ((sl s).drop pos)).n → (acc ++ [r]) ++ runesL ((sl s).drop (pos + n)) = runesL (sl s)) := hid_mk (fun r n hr hn => by
        have := hacc.out
        rw [runesL_cons _ hl, List.drop_drop] at this
        subst hr hn
        rw [List.append_assoc]
        exact this)
      have HS := hid_mk (And.intro hown hbel)
      clear hown hbel hacc hl
      go_wp2_with fail
      refine (refCut_any (s.extract pos s.size) (by rw [size_extract]; omega) (by rw [size_extract]; omega) _).mono ?_
      rintro e w1 ⟨rfl, hb1⟩
      rw [sl_extract]
      have hacc3 := hid_mk (hacc2.out _ _ rfl rfl)
      generalize (cutL ((sl s).drop pos)).r = r at *
      generalize (cutL ((sl s).drop pos)).n = n at *
      generalize (cutL ((sl s).drop pos)).ok = ok at *
      have HS1 := hid_mk (And.intro (own_below HS.out.1 hb1) (And.intro (HS.out.2.trans (hb1.mono HS.out.2.size)) (Nat.le_trans HS.out.2.size hb1.size)))
      clear HS hb1 hacc2
      go_wp2_with (at_builtin; refine Classical.byContradiction fun hno => ?_)
      refine hno ?_
      clear hno
      obtain ⟨i0, hi, hz0, hz1, hz2⟩ := info_parts infoRune
      have hsz := HS1.out.2.2
      refine wpList_append_own _ rfl (.tmp 14) (.tmp 17) _ rfl w.heap.size 21 i0 _ 1 4 Try.underlying23 hi hz0 hz1 hz2 rfl (by decide) _ acc.length (runeVals acc) rfl ((HS1.out.1.alloc _).alloc _) ⟨w1.heap.size + 1, 0, none⟩ 1 1 [.int .i32 r] rfl rfl ?c1 ?c2 ?c3 ?c4 ?c5 ?_
      case c1 =>
        intro j u hu
        match j, hu with
        | 0, hu => simp at hu; subst hu; simp [Addr.add]
      case c2 => intro u hu; simp at hu; subst hu; rfl
      case c3 => unfold maxLen; omega
      case c4 => omega
      case c5 => simp; omega
      intro v' w2 hown1 hgrow _
      clear hi hz0 hz1 hz2
      clear i0
      have hbB : ((w1.alloc (.cells #[.int .i32 r, .int .i64 n, .bool ok] 48)).alloc (.cells #[.int .i32 r] 21)).heap[w1.heap.size]? = some (.cells #[.int .i32 r, .int .i64 n, .bool ok] 48 (0, 0)) := by
        rw [Below.heap_alloc _ _ _ (by simp)]
        exact heap_alloc_new w1 _
      have hne := own_ne ((HS1.out.1.alloc _).alloc _) hbB (by decide)
      have hp1 : w2.heap[w1.heap.size]? = some (.cells #[.int .i32 r, .int .i64 n, .bool ok] 48 (0, 0)) := by
        rw [hgrow.block w1.heap.size (by simp; omega) (fun e => hne e.symm)]
        exact hbB
      have c1 : w2.cell? ⟨w1.heap.size, 1, none⟩ = some (.int .i64 n) := cell_of_row _ _ 1 _ _ _ hp1
      have hfin := hid_mk (show w2.ownsRow w.heap.size 21 1 v' (acc ++ [r]).length (runeVals (acc ++ [r])) ∧ Below w.heap.size w w2 from by
        refine ⟨?_, ((HS1.out.2.1.alloc hsz _).alloc (by simp; omega) _).grown hgrow (by simp; omega) (fun k hk => own_base HS1.out.1 k hk)⟩
        simpa [runeVals] using hown1)
      clear HS1 hown1 hgrow hbB hne hp1
      go_wp2
      go_roundw
      case rel => exact ⟨pos + n, acc ++ [r], by first | rfl | go_num, by omega, by rw [List.length_append, List.length_singleton]; omega, hacc3, hfin.out.1, hfin.out.2⟩
      case measure => simp [intOf]; omega
    · have hv : Hid (acc = runesL (sl s)) := hid_mk (by
        have := hacc.out
        rw [List.drop_eq_nil_of_le (by rw [len_sl]; omega), runesL_nil, List.append_nil] at this
        exact this)
      have hp' : ¬ (pos : Int) < (s.size : Int) := by omega
      have HS := hid_mk (And.intro hown hbel)
      clear hown hbel hacc
      go_wp2
      go_ret
      rw [← hv.out]
      exact ⟨_, rfl, HS.out.1, HS.out.2⟩
end Go.Proofs.Ytflgiejnklbjnaa
