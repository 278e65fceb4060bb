/-
  The law of layer 1 about pairs: it returns true for every character. The table of pairs lies in the first package-level variable: a condition.
-/
import Derived.Test.YtjoncbhjodkpeaaDoorWorks
namespace Go.Proofs.YtjoncbhjodkpeaaDoor
open Go.RowKit
theorem space_class (r : Int) : spaceB r = false ∨ (spaceB r = true ∧ r ≤ 32 ∧ cls r = 13) ∨ (spaceB r = true ∧ r ≤ 32 ∧ cls r = 12) ∨ (spaceB r = true ∧ r ≤ 32 ∧ cls r = 11) := by
  cases h : spaceB r with
  | false => exact .inl rfl
  | true =>
    have := space_low r h
    rcases this with ⟨h1, h2 | h2 | h2⟩
    · exact .inr (.inl ⟨rfl, h1, h2⟩)
    · exact .inr (.inr (.inl ⟨rfl, h1, h2⟩))
    · exact .inr (.inr (.inr ⟨rfl, h1, h2⟩))
set_option maxHeartbeats 4000000 in
set_option maxRecDepth 100000 in
theorem pairs_law (r : Int) (w : World) (hg : Tab w) : Calls Tryd.prog 6 #[.int .i32 r] w fun e w' => e = .returned (.bool true) ∧ Next w w' := by
  obtain ⟨m, ok, hm⟩ : ∃ m ok, mirL r pairsT = (m, ok) := ⟨_, _, rfl⟩
  obtain ⟨a, o, k, hb⟩ : ∃ a o k, brL r pairsT = (a, o, k) := ⟨_, _, _, rfl⟩
  obtain ⟨a2, o2, k2, hb2⟩ : ∃ a o k, brL m pairsT = (a, o, k) := ⟨_, _, _, rfl⟩
  obtain ⟨c, hc⟩ : ∃ c, cls r = c := ⟨_, rfl⟩
  obtain ⟨s, hs⟩ : ∃ s, spaceB r = s := ⟨_, rfl⟩
  have hback := mir_back r
  have hpair := br_pair r
  have hr := cls_range r
  have hsp := space_class r
  rw [hm] at hback hpair
  rw [hb, hb2, hc] at hpair
  rw [hc] at hr hsp
  rw [hs] at hsp
  simp only at hback hpair
  obtain ⟨hback, hne⟩ := hback
  obtain ⟨hr1, hr2⟩ := hr
  have HM : Hid _ := hm
  have HB : Hid _ := hb
  have HB2 : Hid _ := hb2
  have HC : Hid _ := hc
  have HS : Hid _ := hs
  have HK : Hid _ := hback
  clear hm hb hb2 hc hs hback
  have hcase : (ok = false ∧ m = r ∧ k = false) ∨ (ok = true ∧ (m == r) = false ∧ k = false) ∨ (ok = true ∧ (m == r) = false ∧ k = true ∧ k2 = true ∧ a = a2 ∧ (o == o2) = false ∧ c = 14) := by
    cases k with
    | false =>
      cases ok with
      | false => exact .inl ⟨rfl, by simpa using hne, rfl⟩
      | true => exact .inr (.inl ⟨rfl, by simpa using hne, rfl⟩)
    | true =>
      obtain ⟨h1, h2, h3, h4, h5⟩ := hpair rfl
      subst h1
      exact .inr (.inr ⟨rfl, by simpa using hne, rfl, h2, h3, h4, h5⟩)
  clear hpair hne
  rcases hcase with ⟨rfl, rfl, rfl⟩ | ⟨rfl, hmr, rfl⟩ | ⟨rfl, hmr, rfl, rfl, rfl, ho, rfl⟩
  · rcases hsp with rfl | ⟨rfl, h32, rfl⟩ | ⟨rfl, h32, rfl⟩ | ⟨rfl, h32, rfl⟩
    all_goals
      go_enter Tryd.func6, Tryd.ntmps6
      go_wp2_with fail
      refine (mirror_eq HM.out w hg).mono ?_
      rintro e w1 ⟨rfl, n1⟩
      go_wp2_with fail
      refine (mirror_eq HK.out w1 n1.2).mono ?_
      rintro e w2 ⟨rfl, n2⟩
      go_wp2_with fail
      refine (bracket_eq HB.out w2 n2.2).mono ?_
      rintro e w3 ⟨rfl, n3⟩
      go_wp2_with fail
      refine (bracket_eq HB2.out w3 n3.2).mono ?_
      rintro e w4 ⟨rfl, n4⟩
      go_wp2_with fail
      refine (class_eq HC.out w4 n4.2).mono ?_
      rintro e w5 ⟨rfl, n5⟩
      go_wp2_with fail
      refine (space_eq HS.out w5).mono ?_
      rintro e w6 ⟨rfl, rfl⟩
      go_wp2_with fail
      refine (works_any w5 n5.2).mono ?_
      rintro e w6 ⟨rfl, n6⟩
      go_wp2
      go_ret
      exact ⟨rfl, ((((n1.trans n2).trans n3).trans n4).trans n5).trans n6⟩
  · rcases hsp with rfl | ⟨rfl, h32, rfl⟩ | ⟨rfl, h32, rfl⟩ | ⟨rfl, h32, rfl⟩
    all_goals
      go_enter Tryd.func6, Tryd.ntmps6
      go_wp2_with fail
      refine (mirror_eq HM.out w hg).mono ?_
      rintro e w1 ⟨rfl, n1⟩
      go_wp2_with fail
      refine (mirror_eq HK.out w1 n1.2).mono ?_
      rintro e w2 ⟨rfl, n2⟩
      go_wp2_with fail
      refine (bracket_eq HB.out w2 n2.2).mono ?_
      rintro e w3 ⟨rfl, n3⟩
      go_wp2_with fail
      refine (bracket_eq HB2.out w3 n3.2).mono ?_
      rintro e w4 ⟨rfl, n4⟩
      go_wp2_with fail
      refine (class_eq HC.out w4 n4.2).mono ?_
      rintro e w5 ⟨rfl, n5⟩
      go_wp2_with fail
      refine (space_eq HS.out w5).mono ?_
      rintro e w6 ⟨rfl, rfl⟩
      go_wp2_with fail
      refine (works_any w5 n5.2).mono ?_
      rintro e w6 ⟨rfl, n6⟩
      go_wp2
      go_ret
      exact ⟨rfl, ((((n1.trans n2).trans n3).trans n4).trans n5).trans n6⟩
  · have hs0 : s = false := by
      rcases hsp with h | ⟨_, _, h⟩ | ⟨_, _, h⟩ | ⟨_, _, h⟩
      · exact h
      all_goals exact absurd h (by decide)
    subst hs0
    clear hsp
    go_enter Tryd.func6, Tryd.ntmps6
    go_wp2_with fail
    refine (mirror_eq HM.out w hg).mono ?_
    rintro e w1 ⟨rfl, n1⟩
    go_wp2_with fail
    refine (mirror_eq HK.out w1 n1.2).mono ?_
    rintro e w2 ⟨rfl, n2⟩
    go_wp2_with fail
    refine (bracket_eq HB.out w2 n2.2).mono ?_
    rintro e w3 ⟨rfl, n3⟩
    go_wp2_with fail
    refine (bracket_eq HB2.out w3 n3.2).mono ?_
    rintro e w4 ⟨rfl, n4⟩
    go_wp2_with fail
    refine (class_eq HC.out w4 n4.2).mono ?_
    rintro e w5 ⟨rfl, n5⟩
    go_wp2_with fail
    refine (class_eq HC.out w5 n5.2).mono ?_
    rintro e w6 ⟨rfl, n6⟩
    go_wp2_with fail
    refine (space_eq HS.out w6).mono ?_
    rintro e w7 ⟨rfl, rfl⟩
    go_wp2_with fail
    refine (works_any w6 n6.2).mono ?_
    rintro e w7 ⟨rfl, n7⟩
    go_wp2
    go_ret
    exact ⟨rfl, (((((n1.trans n2).trans n3).trans n4).trans n5).trans n6).trans n7⟩
end Go.Proofs.YtjoncbhjodkpeaaDoor
