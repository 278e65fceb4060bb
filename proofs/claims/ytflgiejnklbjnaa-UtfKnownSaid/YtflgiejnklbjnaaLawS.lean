/-
  The law of layer 2 about characters as a text: it returns true for every row of characters, which stays.
-/
import Derived.Test.YtflgiejnklbjnaaRefStr
import Derived.OpenShut
namespace Go.Proofs.Ytflgiejnklbjnaa
open Go.RowKit
/-- A slice of numbers that came in: nil, or a row of which the first are its elements. -/
def IsRow (k : IntKind) (w : World) (a : Option Addr) (len cap : Nat) (zs : List Int) : Prop :=
  (a = none ∧ len = 0 ∧ cap = 0 ∧ zs = []) ∨
  ∃ x, a = some x ∧ len ≤ cap ∧ cap ≤ maxLen ∧ zs.length = cap ∧ (∀ i, i < zs.length → w.cell? (x.add i) = some (.int k (zs.getD i 0))) ∧ ∀ n ∈ zs, (Lit.int k n).wf = true
theorem cell_block {w : World} {x : Addr} {v : Value} (h : w.cell? x = some v) : x.block < w.heap.size := by
  rcases Nat.lt_or_ge x.block w.heap.size with h' | h'
  · exact h'
  · simp [World.cell?, Array.getElem?_eq_none h'] at h
theorem row_runes {w : World} {a : Option Addr} {len cap : Nat} {zs : List Int} (h : IsRow .i32 w a len cap zs) : ∃ rs : List Int, rs.length = len ∧ HasRunes w a rs ∧ ∀ r ∈ rs, -2147483648 ≤ r ∧ r ≤ 2147483647 := by
  rcases h with ⟨rfl, rfl, _, rfl⟩ | ⟨x, rfl, h1, _, h2, h3, h4⟩
  · exact ⟨[], rfl, .inl ⟨rfl, rfl⟩, fun r hr => by cases hr⟩
  · refine ⟨zs.take len, by rw [List.length_take]; omega, .inr ⟨x, rfl, fun h0 => ?_, fun j hj => ?_⟩, fun r hr => bounds_i32 (h4 r (List.mem_of_mem_take hr))⟩
    · rw [List.length_take] at h0
      have := cell_block (h3 0 (by omega))
      rw [addr_block] at this
      exact this
    · rw [List.length_take] at hj
      rw [h3 j (by omega)]
      have e : (zs.take len).getD j 0 = zs.getD j 0 := by
        simp only [List.getD]
        rw [List.getElem?_take, if_pos (by omega)]
      rw [e]
theorem own_ints {w : World} {base n : Nat} {v : Value} {rs : List Int} (h : w.ownsRow base 21 1 v n (rs.map (Value.int .i32))) : ∃ a cap, v = .slice a n cap ∧ HasRunes w a rs := by
  have hlen : rs.length = n := by have := h.1; simpa using this
  rcases h.2 with ⟨rfl, rfl⟩ | ⟨g, cap, cur, rfl, h2, h3, h4, h5, h6, h7⟩
  · exact ⟨none, 0, rfl, .inl ⟨rfl, List.eq_nil_of_length_eq_zero hlen⟩⟩
  · refine ⟨some ⟨g, 0, none⟩, cap, rfl, .inr ⟨_, rfl, fun _ => (Array.getElem?_eq_some_iff.1 h3).1, fun j hj => ?_⟩⟩
    rw [addr_add0, cell_of_row w g j _ _ _ h3]
    have e : cur[j]? = (cur.toList.take (n * 1))[j]? := by
      rw [List.getElem?_take, if_pos (by omega), Array.getElem?_toList]
    rw [e, h7]
    simp [List.getD, hj]
set_option maxHeartbeats 4000000 in
set_option maxRecDepth 100000 in
theorem utfStrings_w (a : Option Addr) (cap : Nat) (rs : List Int) (hr : ∀ r ∈ rs, -2147483648 ≤ r ∧ r ≤ 2147483647) (w : World) (h : HasRunes w a rs) :
    Calls Try.prog 13 #[.slice a rs.length cap] w fun e w' => e = .returned (.bool true) ∧ (Below w.heap.size w w' ∧ True) := by
  obtain ⟨n, hn⟩ : ∃ n, n = rs.length := ⟨_, rfl⟩
  have hL := string_any (rs := rs)
  by_cases hs : n ≤ 20000
  · have hs' : decide (20000 < (n : Int)) = false := by simp; omega
    have hsn : decide (20000 < n) = false := by simp; omega
    rw [← hn]
    have HN := hid_mk hn
    clear hn hL
    rcases h with ⟨rfl, rfl⟩ | ⟨x, rfl, hblk, hc⟩
    · have hn0 : n = 0 := HN.out
      subst hn0
      have hs1 := refString_any none cap [] (fun r hr => by cases hr) (by simp) w (.inl ⟨rfl, rfl⟩)
      have hs2 := string_any none 0 [] w (.inl ⟨rfl, rfl⟩)
      have HSS := hid_mk (And.intro hs1 hs2)
      clear hs1 hs2 hr
      go_enter Try.func13, Try.ntmps13
      go_wp2_with fail
      refine HSS.out.2.mono ?_
      rintro e w1 ⟨rfl, rfl⟩
      go_wp2_with fail
      refine HSS.out.1.mono ?_
      rintro e w2 ⟨rfl, hb⟩
      have HB := hid_mk hb
      clear hb HSS
      have hq : (strOf (encL [])).toList = [] := by decide +kernel
      go_wp2_with fail
      go_loopw [4] (fun vi wr => vi = .int .i64 0 ∧ Hid (Below w1.heap.size w1 wr)) (fun vi _ => 0)
      case atStart => exact ⟨rfl, HB⟩
      case round =>
        obtain ⟨rfl, HB2⟩ := hrel
        go_wp2_with fail
        refine (works_any _).mono ?_
        rintro e w3 ⟨rfl, hb⟩
        have HB3 := hid_mk (HB2.out.trans (hb.mono HB2.out.size))
        clear hb
        go_wp2
        go_ret
        exact ⟨rfl, HB3.out, trivial⟩
    · have H := hid_mk (And.intro hblk hc)
      clear hblk hc
      go_enter Try.func13, Try.ntmps13
      go_wp2_with (at_builtin; refine Classical.byContradiction fun hno => ?_)
      refine hno ?_
      clear hno
      obtain ⟨i0, hi, hz0, hz1, hz2⟩ := info_parts infoRune
      refine wpList_append_own _ rfl (.tmp 9) (.tmp 10) _ rfl w.heap.size 21 i0 _ 1 4 Try.underlying23 hi hz0 hz1 hz2 rfl (by decide) _ 0 [] rfl ⟨rfl, .inl ⟨rfl, rfl⟩⟩ x n cap (rs.map (Value.int .i32)) rfl (by rw [List.length_map, Nat.mul_one]; exact HN.out.symm) ?c1 ?c2 ?c3 ?c4 ?c5 ?_
      case c1 =>
        intro j u hu
        rw [List.getElem?_map] at hu
        obtain ⟨r, hr1, rfl⟩ := Option.map_eq_some_iff.1 hu
        have hj := (List.getElem?_eq_some_iff.1 hr1).1
        rw [H.out.2 j hj]
        simp [List.getD, hr1]
      case c2 =>
        intro u hu
        rw [List.mem_map] at hu
        obtain ⟨r, _, rfl⟩ := hu
        rfl
      case c3 => unfold maxLen; omega
      case c4 => omega
      case c5 => omega
      intro v' w2 hown1 hgrow _
      clear hi hz0 hz1 hz2
      clear i0
      rw [Nat.zero_add, List.nil_append] at hown1
      have hb2 : Below w.heap.size w w2 := (Below.refl _ _).grown hgrow (Nat.le_refl _) (fun k hk => by cases hk)
      obtain ⟨a', cap', rfl, hha⟩ := own_ints hown1
      have hx : HasRunes w (some x) rs := .inr ⟨x, rfl, H.out.1, H.out.2⟩
      have HS1 := hid_mk (string_any a' cap' rs w2 hha)
      have HS2 := hid_mk (refString_any (some x) cap rs hr (by rw [← HN.out]; exact hs) w2 (hx.below hb2))
      have HS3 := hid_mk (And.intro hha (And.intro (hx.below hb2) hb2))
      rw [← HN.out] at HS1 HS2
      clear hx hha hown1 hgrow hb2 H hr
      go_wp2_with fail
      refine HS1.out.mono ?_
      rintro e w3 ⟨rfl, rfl⟩
      go_wp2_with fail
      refine HS2.out.mono ?_
      rintro e w4 ⟨rfl, hb⟩
      have HS4 := hid_mk (And.intro (HS3.out.1.below hb) (And.intro (HS3.out.2.1.below hb) (HS3.out.2.2.trans (hb.mono HS3.out.2.2.size))))
      clear hb HS1 HS2 HS3
      go_wp2_with fail
      go_loopw [4] (fun vi wr => ∃ i : Nat, i ≤ n ∧ vi = .int .i64 (i : Int) ∧ Hid (HasRunes wr a' rs ∧ HasRunes wr (some x) rs ∧ Below w.heap.size w wr)) (fun vi _ => n - (intOf vi).toNat)
      case atStart => exact ⟨0, by omega, rfl, HS4⟩
      case round =>
        obtain ⟨i, hi, rfl, HW⟩ := hrel
        by_cases hin : i < n
        · have hin' : (i : Int) < (n : Int) := by omega
          have hi0 : (0 : Int) ≤ (i : Int) := by omega
          have hlen : i < rs.length := by rw [← HN.out]; exact hin
          rcases HW.out.1 with ⟨_, h0⟩ | ⟨y, rfl, _, hcy⟩
          · rw [h0] at hlen
            exact absurd hlen (by simp)
          rcases HW.out.2.1 with ⟨h0, _⟩ | ⟨x', hx', _, hcx⟩
          · cases h0
          injection hx' with hx'
          subst hx'
          have e1 := hcy i hlen
          have e2 := hcx i hlen
          clear hcy hcx hlen
          generalize rs.getD i 0 = r at e1 e2
          have hfin := hid_mk (show HasRunes wr.drew (some y) rs ∧ HasRunes wr.drew (some x) rs ∧ Below w.heap.size w wr.drew from ⟨HW.out.1.below (Below.refl _ _).drew, HW.out.2.1.below (Below.refl _ _).drew, HW.out.2.2.drew⟩)
          clear HW HS4
          go_wp2_with fail
          go_region_held3 (fun w' => w' = wr.drew) (rfl) (fail)
          go_wp2
          refine ⟨⟨i + 1, by omega, by first | rfl | go_num, hfin⟩, ?_⟩
          simp [intOf]
          omega
        · have hin' : ¬ (i : Int) < (n : Int) := by omega
          have HB2 := hid_mk HW.out.2.2
          clear HW HS4
          go_wp2_with fail
          refine (works_any _).mono ?_
          rintro e w3 ⟨rfl, hb⟩
          have HB3 := hid_mk (HB2.out.trans (hb.mono HB2.out.size))
          clear hb
          go_wp2
          go_ret
          exact ⟨rfl, HB3.out, trivial⟩
  · have hs' : decide (20000 < (n : Int)) = true := by simp; omega
    have hsn : decide (20000 < n) = true := by simp; omega
    rw [← hn]
    clear hn hL
    go_enter Try.func13, Try.ntmps13
    go_wp2_with fail
    refine (works_any _).mono ?_
    rintro e w1 ⟨rfl, hb⟩
    go_wp2
    go_ret
    exact ⟨rfl, hb, trivial⟩
theorem utfStrings_c (a : Option Addr) (len cap : Nat) (z : List Int) (w : World) (h : IsRow .i32 w a len cap z) :
    Calls Try.prog 13 #[.slice a len cap] w fun e w' => e = .returned (.bool true) ∧ (Below w.heap.size w w' ∧ True) := by
  obtain ⟨rs, rfl, hh, hr⟩ := row_runes h
  exact utfStrings_w a cap rs hr w hh
end Go.Proofs.Ytflgiejnklbjnaa
