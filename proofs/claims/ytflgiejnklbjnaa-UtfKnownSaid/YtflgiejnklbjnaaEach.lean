/-
  eachPart of the program: the closure is handed the character of each part, in their order; whatever the closure keeps (I) is carried on. Conditions: what the closure does, told as a contract; I bears the string's iterator.
-/
import Derived.Test.YtflgiejnklbjnaaPart
import Derived.Test.YtflgiejnklbjnaaRunes
import Derived.Lib.OthersKept
import Derived.Lib.Strings
import Derived.Lib.IndexBytes
namespace Go.Proofs.Ytflgiejnklbjnaa
open Go.RowKit
def IterKept (w w' : World) : Prop := ∀ (k : Nat) (s : ByteArray) (pos : Nat), w.heap[k]? = some (.stringIter s pos) → w'.heap[k]? = some (.stringIter s pos)
theorem sl_extract (s : ByteArray) (i : Nat) : sl (s.extract i s.size) = (sl s).drop i := by
  exact Lib.extract_to_end s i
theorem size_extract (s : ByteArray) (i : Nat) : (s.extract i s.size).size = s.size - i := by
  rw [← len_sl, sl_extract, List.length_drop, len_sl]
theorem atL_drop (l : List UInt8) (i k : Nat) : atL (l.drop i) k = atL l (i + k) := by
  unfold atL
  rw [List.getElem?_drop]
theorem decode_sl (s : ByteArray) (i : Nat) : Utf8.decode s i = decL ((sl s).drop i) := decode_list s i
/-- Where the loop stands: at a part's beginning, or within an ill-formed one. -/
def St (s : ByteArray) (pos e : Nat) (acc : List Nat) : Prop :=
  (e ≤ pos ∧ acc ++ runesL ((sl s).drop pos) = runesL (sl s)) ∨
  (pos < e ∧ e ≤ s.size ∧ (∀ j, pos ≤ j → j < e → Cont (atL (sl s) j)) ∧ acc ++ runesL ((sl s).drop e) = runesL (sl s))
theorem St.inside {s : ByteArray} {pos e : Nat} {acc : List Nat} (h : St s pos e acc) (hp : pos < e) : decL ((sl s).drop pos) = (65533, 1) ∧ St s (pos + 1) e acc := by
  rcases h with ⟨h1, _⟩ | ⟨_, h2, h3, h4⟩
  · omega
  · refine ⟨decL_cont _ ?_, ?_⟩
    · rw [atL_drop]; exact h3 pos (Nat.le_refl _) hp
    · by_cases he : pos + 1 = e
      · subst he; exact .inl ⟨Nat.le_refl _, h4⟩
      · exact .inr ⟨by omega, h2, fun j j1 j2 => h3 j (by omega) j2, h4⟩
theorem St.begin {s : ByteArray} {pos e : Nat} {acc : List Nat} (h : St s pos e acc) (hp : e ≤ pos) (hs : pos < s.size) :
    (decL ((sl s).drop pos)).1 ≤ 1114111 ∧ 1 ≤ (decL ((sl s).drop pos)).2 ∧ (cutL ((sl s).drop pos)).n ≤ s.size - pos ∧ pos + (decL ((sl s).drop pos)).2 ≤ s.size ∧ St s (pos + (decL ((sl s).drop pos)).2) (pos + (cutL ((sl s).drop pos)).n) (acc ++ [(decL ((sl s).drop pos)).1]) := by
  have hl : 0 < ((sl s).drop pos).length := by rw [List.length_drop, len_sl]; omega
  obtain ⟨n1, n2, _, r1, hb⟩ := cut_facts _ hl
  rw [List.length_drop, len_sl] at n2
  rcases h with ⟨_, h2⟩ | ⟨h1, _⟩
  · rw [runesL_cons _ hl, List.drop_drop] at h2
    unfold decL
    cases hok : (cutL ((sl s).drop pos)).ok with
    | true =>
      rw [if_pos rfl]
      exact ⟨r1, n1, by omega, by omega, .inl ⟨Nat.le_refl _, by rw [List.append_assoc]; exact h2⟩⟩
    | false =>
      obtain ⟨hr, hc⟩ := hb hok
      rw [if_neg (by simp)]
      rw [hr] at h2
      refine ⟨by simp, by simp, by omega, by simp; omega, ?_⟩
      by_cases hn : (cutL ((sl s).drop pos)).n = 1
      · rw [hn] at h2 ⊢
        exact .inl ⟨Nat.le_refl _, by rw [List.append_assoc]; exact h2⟩
      · refine .inr ⟨by simp; omega, by omega, fun j j1 j2 => ?_, by rw [List.append_assoc]; exact h2⟩
        have := hc (j - pos) (by simp at j1; omega) (by omega)
        rw [atL_drop] at this
        rwa [show pos + (j - pos) = j from by simp at j1; omega] at this
  · omega
theorem St.done {s : ByteArray} {pos e : Nat} {acc : List Nat} (h : St s pos e acc) (hp : ¬ pos < s.size) : acc = runesL (sl s) := by
  rcases h with ⟨_, h2⟩ | ⟨h1, h2, _⟩
  · rw [List.drop_eq_nil_of_le (by rw [len_sl]; omega), runesL_nil, List.append_nil] at h2
    exact h2
  · omega
set_option maxHeartbeats 4000000 in
set_option maxRecDepth 100000 in
theorem eachPart_any (I : List Nat → World → Prop) (f : Nat) (caps : Array Value) (s : ByteArray) (hm : s.size ≤ 9223372036854775800)
    (hent : ∀ args w, (callFunc f args).run Try.prog w = .ok (.enter f args) w)
    (hcall : ∀ rs (r : Nat) w, rs.length < s.size → r ≤ 1114111 → I rs w → Calls Try.prog f (#[.int .i32 r] ++ caps) w fun e w' => e = .returned (.tuple #[]) ∧ I (rs ++ [r]) w' ∧ IterKept w w')
    (hnew : ∀ rs w, I rs w → I rs (w.iter s 0)) (w : World) (hiter : ∀ rs w1 pos pos', I rs w1 → w1.heap[w.heap.size]? = some (.stringIter s pos) → I rs (w1.iterAt w.heap.size s pos')) (h0 : I [] w) :
    Calls Try.prog 14 #[.string s, .func (.func f) #[] caps] w fun e w' => e = .returned (.tuple #[]) ∧ I (runesL (sl s)) w' := by
  have H1 : Hid _ := hcall
  have H2 : Hid _ := hnew
  have H3 : Hid _ := hiter
  clear hcall hnew hiter
  go_enter Try.func14, Try.ntmps14
  go_wp2
  go_loopw [4] (fun ve wr => ∃ (pos e : Nat) (acc : List Nat), ve = .int .i64 e ∧ wr.heap[w.heap.size]? = some (.stringIter s pos) ∧ pos ≤ s.size ∧ e ≤ s.size + 4 ∧ acc.length ≤ pos ∧ I acc wr ∧ St s pos e acc) (fun _ wr => s.size - wr.iterPos w.heap.size)
  case atStart => exact ⟨0, 0, [], rfl, World.iter_heap w s 0, Nat.zero_le _, by omega, Nat.le_refl _, H2.out _ _ h0, .inl ⟨Nat.le_refl _, by rw [List.drop_zero]; rfl⟩⟩
  case round =>
    obtain ⟨pos, e, acc, rfl, hit, hps, hes, hal, hI, hst⟩ := hrel
    by_cases hp : pos < s.size
    · have hnx : ∀ ty, (Instr.next (.pointer (some ⟨w.heap.size, 0, none⟩)) true ty).run Try.prog wr = _ := fun ty => Lib.run_next_any_at wr w.heap.size s pos ty hit hp
      simp only [decode_sl] at hnx
      have hit2 := Lib.iterAt_heap wr w.heap.size s pos (pos + (decL ((sl s).drop pos)).2) hit
      have hI2 := H3.out acc wr pos (pos + (decL ((sl s).drop pos)).2) hI hit
      have HI2 : Hid _ := hI2
      have HIT2 : Hid _ := hit2
      clear hI2 hit2 hI
      by_cases he : pos < e
      · obtain ⟨hd, hst2⟩ := hst.inside he
        rw [hd] at hnx HI2 HIT2
        have he' : (pos : Int) < (e : Int) := by omega
        go_wp2
        go_roundw
        case rel => exact ⟨pos + 1, e, acc, rfl, HIT2.out, by omega, hes, by omega, HI2.out, hst2⟩
        case measure =>
          simp only [World.iterPos, HIT2.out, hit]
          omega
      · obtain ⟨r1, wd1, n1, wd2, hst2⟩ := hst.begin (by omega) hp
        have he' : ¬ (pos : Int) < (e : Int) := by omega
        have hxs : Hid ((cutL (sl (s.extract pos s.size))).n = (cutL ((sl s).drop pos)).n) := hid_mk (by rw [sl_extract])
        have hsz := size_extract s pos
        have HSZ : Hid _ := hsz
        clear hsz
        generalize (decL ((sl s).drop pos)).1 = rr at *
        generalize (decL ((sl s).drop pos)).2 = wd at *
        go_wp2_with fail
        refine (partLength_any (s.extract pos s.size) (by rw [HSZ.out]; omega) (by rw [HSZ.out]; omega) _).mono ?_
        rintro e1 w1 ⟨rfl, rfl⟩
        rw [hxs.out]
        generalize (cutL ((sl s).drop pos)).n = n at *
        go_wp2_with fail
        refine (H1.out acc rr _ (by omega) r1 HI2.out).mono ?_
        rintro e2 w2 ⟨rfl, hI3, hkeep⟩
        have hit3 := hkeep _ _ _ HIT2.out
        have HIT3 : Hid _ := hit3
        have HI3 : Hid _ := hI3
        clear hit3 hI3 hkeep
        go_wp2
        go_roundw
        case rel => exact ⟨pos + wd, pos + n, acc ++ [rr], by go_num, HIT3.out, by omega, by omega, by rw [List.length_append, List.length_singleton]; omega, HI3.out, hst2⟩
        case measure =>
          simp only [World.iterPos, HIT3.out, hit]
          omega
    · have hnx : ∀ ty, (Instr.next (.pointer (some ⟨w.heap.size, 0, none⟩)) true ty).run Try.prog wr = _ := fun ty => Lib.run_next_end_at wr w.heap.size s pos ty hit hp
      have hv : Hid (acc = runesL (sl s)) := hid_mk (hst.done hp)
      go_wp2
      go_end0
      exact ⟨rfl, hv.out ▸ hI⟩
end Go.Proofs.Ytflgiejnklbjnaa
