/-
  Package token: attributes and how they lie; oneMore, attribute. Conditions: the text's length is bounded; the world holds what Tab says.
-/
import Derived.Test.YtfjhljhgmbhklaaGreatDoorTVal
import Derived.Test.YtfjhljhgmbhklaaGreatDoorDecC
import Derived.Test.YtfjhljhgmbhklaaGreatDoorFlat
namespace Go.Proofs.YtfjhljhgmbhklaaGreatDoor
open Go.RowKit
abbrev Atr := List UInt8 × List UInt8
def atCell (a : Atr) : List Value := [.string (strOf a.1), .string (strOf a.2)]
def atCells (l : List Atr) : List Value := l.flatMap atCell
theorem infoAttr : (Tryz.prog.info? 40).map (fun i => (i.zero, i.size, i.bytes)) = some (some (.agg #[.string ⟨#[]⟩, .string ⟨#[]⟩]), 2, 32) := by kernel_rfl
/-- A slice value of these attributes, as it is read. -/
def HasAttrs (w : World) (a : Option Addr) (l : List Atr) : Prop :=
  (a = none ∧ l = []) ∨ ∃ g, a = some ⟨g, 0, none⟩ ∧ g < w.heap.size ∧ ∀ k (h : k < l.length), w.cell? ⟨g, k * 2, none⟩ = some (.string (strOf l[k].1)) ∧ w.cell? ⟨g, k * 2 + 1, none⟩ = some (.string (strOf l[k].2))
theorem HasAttrs.below {w w' : World} {a : Option Addr} {l : List Atr} (h : HasAttrs w a l) (hb : Below w.heap.size w w') : HasAttrs w' a l := by
  rcases h with h | ⟨g, h1, h2, h3⟩
  · exact .inl h
  · refine .inr ⟨g, h1, Nat.lt_of_lt_of_le h2 hb.size, fun k hk => ?_⟩
    have := h3 k hk
    exact ⟨(hb.cell (p := ⟨g, _, none⟩) h2).trans this.1, (hb.cell (p := ⟨g, _, none⟩) h2).trans this.2⟩
theorem own_attrs {w : World} {base : Nat} {v : Value} {l : List Atr} (h : w.ownsRow base 40 2 v l.length (atCells l)) : ∃ a cap, v = .slice a l.length cap ∧ HasAttrs w a l := by
  rcases h.2 with ⟨rfl, h0⟩ | ⟨g, cap, cur, rfl, h2, h3, h4, h5, h6, h7⟩
  · exact ⟨none, 0, by rw [h0], .inl ⟨rfl, List.eq_nil_of_length_eq_zero h0⟩⟩
  · refine ⟨_, cap, rfl, .inr ⟨g, rfl, (Array.getElem?_eq_some_iff.1 h3).1, fun k hk => ?_⟩⟩
    have cell : ∀ j, j < 2 → w.cell? ⟨g, k * 2 + j, none⟩ = (atCell l[k])[j]? := fun j hj => by
      rw [cell_of_row w g _ _ _ _ h3, ← flat_get atCell 2 (fun _ => rfl) l k j hk hj]
      have hlt : k * 2 + j < l.length * 2 := by omega
      show _ = (atCells l)[k * 2 + j]?
      rw [← h7, List.getElem?_take, if_pos hlt, Array.getElem?_toList]
    exact ⟨cell 0 (by omega), cell 1 (by omega)⟩
theorem toList_strOf (l : List UInt8) : (strOf l).toList = l := by rw [Lib.toList_data]; exact sl_strOf l
theorem strOf_inj {a b : List UInt8} (h : strOf a = strOf b) : a = b := by rw [← sl_strOf a, h, sl_strOf]
def oneMoreL (l : List Atr) (nm : List UInt8) : Int := if l.any (fun b => b.1 == nm) then 41 else if l.length = 16 then 3 else 0
theorem any_take {l : List Atr} {nm : List UInt8} {k : Nat} (hk : k < l.length) : (l.take (k + 1)).any (fun b => b.1 == nm) = ((l.take k).any (fun b => b.1 == nm) || (l[k].1 == nm)) := by
  rw [List.take_add_one, List.any_append, List.getElem?_eq_getElem hk]
  simp
set_option maxHeartbeats 2000000 in
set_option maxRecDepth 100000 in
theorem oneMore_go (g : Nat) (cap : Nat) (l : List Atr) (nm : List UInt8) (w : World) (h : HasAttrs w (some ⟨g, 0, none⟩) l) (hl2 : l.length ≤ 16) :
    Calls Tryz.prog 147 #[.slice (some ⟨g, 0, none⟩) l.length cap, .string (strOf nm)] w fun e w' => e = .returned (.int .i64 (oneMoreL l nm)) ∧ Below w.heap.size w w' := by
  obtain ⟨n, hn⟩ : ∃ n, n = l.length := ⟨_, rfl⟩
  obtain ⟨R, hR⟩ : ∃ R, R = oneMoreL l nm := ⟨_, rfl⟩
  rw [← hn] at hl2 ⊢
  rw [← hR]
  have HN := hid_mk hn
  have HH := hid_mk h
  have HR := hid_mk hR
  clear hn h hR
  go_enter Tryz.func147, Tryz.ntmps147
  go_wp2_with fail
  go_loopw [6, 9] (fun _ i wr => ∃ k : Nat, k ≤ n ∧ i = .int .i64 k ∧ Hid ((l.take k).any (fun b => b.1 == nm) = false) ∧ Hid (Below w.heap.size w wr)) (fun _ i _ => n - (intOf i).toNat)
  case atStart => exact ⟨0, Nat.zero_le _, rfl, hid_mk rfl, hid_mk (Below.refl _ _)⟩
  case round =>
    obtain ⟨k, hk, rfl, hm, hW⟩ := hrel
    by_cases hlt : k < n
    · rcases HH.out with ⟨hx, _⟩ | ⟨g', hg, hgl, hcell⟩
      · cases hx
      · obtain rfl : g = g' := by injection hg with hg; injection hg
        have hkl : k < l.length := by rw [← HN.out]; exact hlt
        have hc := hcell k hkl
        have hat := any_take (nm := nm) hkl
        rw [hm.out, Bool.false_or] at hat
        have hall : (l[k].1 == nm) = true → l.any (fun b => b.1 == nm) = true := fun h => List.any_eq_true.2 ⟨_, List.getElem_mem hkl, h⟩
        obtain ⟨a, ha⟩ : ∃ a, a = l[k]'hkl := ⟨_, rfl⟩
        rw [← ha] at hc hat hall
        obtain ⟨hc1, hc2⟩ := hc
        have hd1 := (hW.out.cell (p := ⟨g, k * 2, none⟩) hgl).trans hc1
        have hd2 := (hW.out.cell (p := ⟨g, k * 2 + 1, none⟩) hgl).trans hc2
        have hbl := hid_mk (hW.out.alloc hW.out.size (.cells #[.string (strOf a.1), .string (strOf a.2)] 40))
        clear hc1 hc2 ha hcell hg hkl
        by_cases he : a.1 = nm
        · have HE := hid_mk (show R = 41 by rw [HR.out]; unfold oneMoreL; rw [if_pos (hall (by rw [he]; exact beq_self_eq_true nm))])
          have heq : ((strOf a.1).toList == (strOf nm).toList) = true := by rw [he]; exact beq_self_eq_true _
          clear hat hall he
          go_wp2_with fail
          go_ret
          rw [HE.out]
          exact ⟨rfl, hbl.out⟩
        · have heq : ((strOf a.1).toList == (strOf nm).toList) = false := by rw [toList_strOf, toList_strOf]; exact beq_false_of_ne he
          have HT := hid_mk (hat.trans (beq_false_of_ne he))
          clear hat hall he
          go_wp2_with fail
          go_roundw
          case rel => exact ⟨k + 1, by omega, by go_num, HT, hbl⟩
          case measure => simp [intOf]; omega
    · obtain rfl : k = n := by omega
      have hm2 := hm.out
      rw [List.take_of_length_le (by rw [HN.out]; exact Nat.le_refl _)] at hm2
      have hlt' : ¬ (k : Int) < (k : Int) := by omega
      by_cases h16 : k = 16
      · have HE := hid_mk (show R = 3 by rw [HR.out]; unfold oneMoreL; rw [if_neg (by rw [hm2]; exact Bool.false_ne_true), if_pos (by rw [← HN.out]; exact h16)])
        have h16' : ((k : Int) == 16) = true := by rw [h16]; rfl
        have h16n : (k == 16) = true := by rw [h16]; rfl
        clear hm2 h16
        go_wp2_with fail
        go_ret
        rw [HE.out]
        exact ⟨rfl, hW.out⟩
      · have HE := hid_mk (show R = 0 by rw [HR.out]; unfold oneMoreL; rw [if_neg (by rw [hm2]; exact Bool.false_ne_true), if_neg (by rw [← HN.out]; exact h16)])
        have h16' : ((k : Int) == 16) = false := beq_false_of_ne (by omega)
        have h16n : (k == 16) = false := beq_false_of_ne h16
        clear hm2
        go_wp2_with fail
        go_ret
        rw [HE.out]
        exact ⟨rfl, hW.out⟩
set_option maxHeartbeats 1000000 in
theorem oneMore_nil (nm : ByteArray) (w : World) :
    Calls Tryz.prog 147 #[.slice none 0 0, .string nm] w fun e w' => e = .returned (.int .i64 0) ∧ Below w.heap.size w w' := by
  go_enter Tryz.func147, Tryz.ntmps147
  go_wp2_with fail
  refine wp_loop_rounds 1 ?_
  rw [rounds_succ]
  go_wp2_with fail
  go_ret
  exact ⟨rfl, Below.refl _ _⟩
theorem oneMore_any (v : Value) (base : Nat) (l : List Atr) (nm : List UInt8) (w : World) (h : w.ownsRow base 40 2 v l.length (atCells l)) (hl2 : l.length ≤ 16) :
    Calls Tryz.prog 147 #[v, .string (strOf nm)] w fun e w' => e = .returned (.int .i64 (oneMoreL l nm)) ∧ Below w.heap.size w w' := by
  rcases h.2 with ⟨rfl, h0⟩ | ⟨g, cap, cur, rfl, h2, h3, rest⟩
  · have hn : l = [] := List.eq_nil_of_length_eq_zero h0
    subst hn
    exact oneMore_nil (strOf nm) w
  · obtain ⟨a, cap', hv, hh⟩ := own_attrs h
    injection hv with ha _ hc
    subst ha
    exact oneMore_go g cap l nm w hh hl2
end Go.Proofs.YtfjhljhgmbhklaaGreatDoor
