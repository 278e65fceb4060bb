/-
  The law of layer 5 about a document within a div: it returns true for all bytes. Condition: the world holds what Tab says.
-/
import Derived.Test.YtcbfbbobcmdbaaaGreatDoorTrWT
import Derived.Test.YtcbfbbobcmdbaaaGreatDoorLpWrapP
import Derived.Test.YtcbfbbobcmdbaaaGreatDoorTSameQ
import Derived.Deep.QuietTactic
import Derived.BigQuiet
import Derived.IntWalk
namespace Go.Proofs.YtcbfbbobcmdbaaaGreatDoor
open Go.RowKit
theorem below_at {w w' : World} (h : Below w.heap.size w w') {p : Addr} {v : Value} (hc : w.cell? p = some v) : w'.cell? p = some v := (h.cell (World.block_lt_of_cell? w p hc)).trans hc
theorem buildF_zero : ∀ (ts : List Tk) (i : Nat) (b : Bd), (buildF ts i b).1 = 0 → buildF ts i b = (0, 0, (buildF ts i b).2.2)
  | [], _, _, _ => rfl
  | t :: l, i, b, h => by
    unfold buildF at h ⊢
    by_cases h0 : (takeB b t (i == 0)).1 = 0
    · rw [if_pos h0] at h ⊢
      exact buildF_zero l (i + 1) _ h
    · rw [if_neg h0] at h
      exact absurd h h0
theorem parse_zero (bs : List UInt8) (h : (parseL bs).1 = 0) : parseL bs = (0, 0, (parseL bs).2.2) := by
  unfold parseL at h ⊢
  by_cases h1 : 65536 < bs.length
  · rw [if_pos h1] at h; cases h
  · rw [if_neg h1] at h ⊢
    by_cases h2 : (tokensL (U.decT bs)).1 = 0
    · rw [if_pos h2] at h ⊢
      exact buildF_zero _ _ _ h
    · rw [if_neg h2] at h
      exact absurd h h2
theorem depU_le (U : List Int) : ∀ f i, depU U f i ≤ f
  | 0, _ => Nat.le_refl _
  | f + 1, i => by
    unfold depU
    split
    · exact Nat.zero_le _
    · have := depU_le U f ((U[i]?.getD 0).toNat)
      omega
/-- A node's parent, as it lies. -/
theorem up_at {ns : List Nd} (hd : DecU (ups ns)) {u : Nat} (h0 : 0 < u) (hl : u < ns.length) : ∃ v : Nat, ns[u].up = (v : Int) ∧ v < u ∧ depU (ups ns) u u = 1 + depU (ups ns) v v := by
  obtain ⟨v, hv, hvu⟩ := hd u h0 (by rw [ups_len]; exact hl)
  refine ⟨v, ?_, hvu, depU_step hd h0 (by rw [ups_len]; exact hl) hv⟩
  unfold ups at hv
  rw [List.getElem?_map, List.getElem?_eq_getElem hl] at hv
  simpa using hv
def AllA (P : List Atr → Prop) (t : List Nd) : Prop := ∀ n ∈ t, P n.attrs
theorem allA_modify {P : List Atr → Prop} (f : Nd → Nd) (hf : ∀ n, (f n).attrs = n.attrs) : ∀ (t : List Nd) (j : Nat), AllA P t → AllA P (t.modify j f)
  | [], j, _ => by
    intro n hn
    cases j <;> cases hn
  | a :: r, 0, h => by
    intro n hn
    have hn : n ∈ f a :: r := hn
    rw [List.mem_cons] at hn
    rcases hn with rfl | hn
    · rw [hf]; exact h a (List.mem_cons_self ..)
    · exact h n (List.mem_cons_of_mem _ hn)
  | a :: r, j + 1, h => by
    intro n hn
    rw [List.modify_succ_cons, List.mem_cons] at hn
    rcases hn with rfl | hn
    · exact h n (List.mem_cons_self ..)
    · exact allA_modify f hf r j (fun m hm => h m (List.mem_cons_of_mem _ hm)) n hn
theorem allA_add {P : List Atr → Prop} {b c : Bd} {n : Nd} (h : AllA P b.tree) (hn : P n.attrs) (ha : addN b n = some c) : AllA P c.tree := by
  unfold addN at ha
  split at ha
  · cases ha
  injection ha with ha
  rw [← ha]
  intro m hm
  have hm : m ∈ addKid b.tree (topO b.opn).node b.tree.length ++ [({ n with up := ((topO b.opn).node : Int) } : Nd)] := hm
  rw [List.mem_append, List.mem_singleton] at hm
  rcases hm with hm | rfl
  · exact allA_modify (fun n => { n with kids := n.kids ++ [b.tree.length] }) (fun _ => rfl) b.tree _ h m hm
  · exact hn
theorem allA_take {P : List Atr → Prop} (h0 : P []) {b c : Bd} {t : Tk} {f : Bool} (h : AllA P b.tree) (ht : P t.attrs) (hk : takeB b t f = (0, c)) : AllA P c.tree := by
  unfold takeB at hk
  split at hk
  · split at hk
    · injection hk with _ hk; rw [← hk]; exact h
    · injection hk with hk; cases hk
  split at hk
  · unfold textB at hk
    split at hk
    · injection hk with _ hk; rw [← hk]; exact h
    · split at hk
      · injection hk with _ hk
        rw [← hk]
        exact allA_modify (fun n => { n with data := n.data ++ t.data }) (fun _ => rfl) b.tree _ h
      · cases ha : addN b ⟨2, [], [], t.data, 0, []⟩ with
        | none => rw [ha] at hk; injection hk with hk; cases hk
        | some d =>
          rw [ha] at hk
          injection hk with _ hk
          rw [← hk]
          exact allA_add h h0 ha
  split at hk
  · unfold startB at hk
    split at hk
    · injection hk with hk; cases hk
    split at hk
    · injection hk with hk; cases hk
    split at hk
    · injection hk with hk; cases hk
    split at hk
    · injection hk with hk; cases hk
    cases ha : addN { b with opn := closeS (kindL t.name) b.opn } ⟨1, t.name, t.attrs, [], 0, []⟩ with
    | none => rw [ha] at hk; injection hk with hk; cases hk
    | some d =>
      rw [ha] at hk
      injection hk with _ hk
      have := allA_add (b := { b with opn := closeS (kindL t.name) b.opn }) h ht ha
      rw [← hk]
      split <;> exact this
  split at hk
  · unfold endB at hk
    split at hk
    · injection hk with hk; cases hk
    split at hk
    · injection hk with hk; cases hk
    · injection hk with _ hk
      rw [← hk]
      exact h
  · injection hk with _ hk; rw [← hk]; exact h
theorem allA_build {P : List Atr → Prop} (h0 : P []) : ∀ (ts : List Tk) (i : Nat) (b : Bd), AllA P b.tree → (∀ t ∈ ts, P t.attrs) → AllA P (buildF ts i b).2.2
  | [], _, _, h, _ => h
  | t :: l, i, b, h, ht => by
    unfold buildF
    by_cases hz : (takeB b t (i == 0)).1 = 0
    · rw [if_pos hz]
      have e : takeB b t (i == 0) = (0, (takeB b t (i == 0)).2) := by
        conv => lhs; rw [← Prod.eta (takeB b t (i == 0)), hz]
      exact allA_build h0 l (i + 1) _ (allA_take h0 h (ht t (List.mem_cons_self ..)) e) (fun x hx => ht x (List.mem_cons_of_mem _ hx))
    · rw [if_neg hz]
      intro n hn
      cases hn
theorem parse_few (bs : List UInt8) : AllA (fun l => l.length ≤ 16) (parseL bs).2.2 := by
  unfold parseL
  split
  · intro n hn; cases hn
  split
  · refine allA_build (Nat.zero_le _) _ _ _ (fun n hn => ?_) (fun t ht => ((tokensL_right _).each t ht).few)
    have : n ∈ ([⟨0, [], [], [], -1, []⟩] : List Nd) := hn
    rw [List.mem_singleton] at this
    rw [this]
    exact Nat.zero_le _
  · intro n hn; cases hn
theorem wrapT_get {m : List Nd} (h : 0 < m.length) : (wrapT m)[0]? = some docW ∧ (∃ d, (wrapT m)[1]? = some (dvN d)) ∧ ∀ j, 1 ≤ j → (hj : j < m.length) → (wrapT m)[j + 1]? = some (sh m[j]) := by
  cases m with
  | nil => cases h
  | cons d r =>
    refine ⟨rfl, ⟨d, rfl⟩, fun j h1 hj => ?_⟩
    obtain ⟨k, rfl⟩ : ∃ k, j = k + 1 := ⟨j - 1, by omega⟩
    show (docW :: dvN d :: r.map sh)[k + 1 + 1]? = _
    rw [List.getElem?_cons_succ, List.getElem?_cons_succ, List.getElem?_map, List.getElem?_eq_getElem (by simpa using hj)]
    rfl
set_option maxHeartbeats 8000000 in
set_option maxRecDepth 100000 in
theorem treeWraps_w (a : Option Addr) (cap : Nat) (bs : List UInt8) (w : World) (hT : Tab w) (h : HasBytes w a bs) :
    Calls Tryz.prog 7 #[.slice a bs.length cap] w fun e w' => e = .returned (.bool true) ∧ Next w w' := by
  have hwo := hid_mk (fun w hT => works_any w hT)
  have HT := hid_mk hT
  by_cases h1 : 2000 < bs.length
  · have q1 : decide (2000 < (bs.length : Int)) = true := by simp; omega
    have q2 : decide (2000 < bs.length) = true := by simp; omega
    have hw0 := hid_mk (hwo.out w hT)
    clear hT h1
    go_enter Tryz.func7, Tryz.ntmps7
    go_wp2_with fail
    (with_reducible refine hw0.out.mono ?_)
    rintro e w1 ⟨rfl, hn1⟩
    have H1 := hid_mk hn1
    clear hn1
    go_wp2_with fail
    go_ret
    exact ⟨rfl, H1.out⟩
  have q1 : decide (2000 < (bs.length : Int)) = false := by simp; omega
  have q2 : decide (2000 < bs.length) = false := by simp; omega
  have hpa := hid_mk (parse_any a cap bs w hT (by omega) h)
  have HB := hid_mk h
  obtain ⟨n, hn⟩ : ∃ n, n = bs.length := ⟨_, rfl⟩
  rw [← hn] at q1 q2 hpa ⊢
  have HN := hid_mk hn
  have hn2 : n ≤ 2000 := by omega
  clear hT h hn h1
  go_enter Tryz.func7, Tryz.ntmps7
  go_wp2_with fail
  (with_reducible refine hpa.out.mono ?_)
  rintro e w1 ⟨v, ns, rfl, hns, htr, hn1⟩
  have H1 := hid_mk hn1
  clear hn1 hpa
  by_cases he : (parseL bs).1 = 0
  · have hpz := parse_zero bs he
    rw [hpz]
    simp only
    rw [show ((0 : Nat) : Int) = 0 from rfl]
    have HPZ := hid_mk hpz
    have HNS := hid_mk hns
    clear hpz he hns
    go_wp2_with fail
    go_loop [6] (fun vi => ∃ i : Nat, vi = .int .i64 (i : Int) ∧ i ≤ n ∧ Hid (0 < i → ¬ (atL bs 0 = 60 ∧ atL bs 1 = 33))) (fun vi => n - (intOf vi).toNat)
    case atStart => exact ⟨0, rfl, Nat.zero_le _, hid_mk (fun h => absurd h (Nat.lt_irrefl _))⟩
    case round =>
      obtain ⟨i, rfl, hi, hf⟩ := hrel
      by_cases hin : i + 1 < n
      · have hin' : (i : Int) + 1 < (n : Int) := by omega
        have hil : (i : Int) < (n : Int) := by omega
        have hi0 : (0 : Int) ≤ (i : Int) := by omega
        have hi1 : (0 : Int) ≤ (i : Int) + 1 := by omega
        have hq : ((i : Int) + 1).toNat = i + 1 := by omega
        rcases HB.out.below H1.out.1 with ⟨_, hx⟩ | ⟨x, rfl, _, hc⟩
        · have := HN.out
          rw [hx] at this
          simp at this
          omega
        have c0 := hc i (.int .u8 (atL bs i : Int)) (by unfold Lib.byteCells; rw [List.getElem?_map, List.getElem?_eq_getElem (by have := HN.out; omega)]; unfold atL; rw [List.getElem?_eq_getElem (by have := HN.out; omega)]; rfl)
        have c1 := hc (i + 1) (.int .u8 (atL bs (i + 1) : Int)) (by unfold Lib.byteCells; rw [List.getElem?_map, List.getElem?_eq_getElem (by have := HN.out; omega)]; unfold atL; rw [List.getElem?_eq_getElem (by have := HN.out; omega)]; rfl)
        rw [show x.add (i + 1) = ⟨x.block, x.off + (i + 1), none⟩ by unfold Addr.add; rw [if_neg (by omega)]] at c1
        clear hc
        by_cases g1 : atL bs i = 60
        · have b1 : (((atL bs i : Nat) : Int) == 60) = true := by rw [g1]; rfl
          by_cases g2 : atL bs (i + 1) = 33
          · have b2 : (((atL bs (i + 1) : Nat) : Int) == 33) = true := by rw [g2]; rfl
            have hw1 := hid_mk (hwo.out w1 H1.out.2)
            clear g1 g2 hf
            generalize atL bs i = A at *
            generalize atL bs (i + 1) = B at *
            go_wp2_with fail
            (with_reducible refine hw1.out.mono ?_)
            rintro e w2 ⟨rfl, hn2⟩
            have H2 := hid_mk (H1.out.trans hn2)
            clear hn2
            go_wp2_with fail
            go_ret
            exact ⟨rfl, H2.out⟩
          · have b2 : (((atL bs (i + 1) : Nat) : Int) == 33) = false := beq_false_of_ne (by omega)
            have HF := hid_mk (show 0 < i + 1 → ¬ (atL bs 0 = 60 ∧ atL bs 1 = 33) by
              intro _
              by_cases hz : i = 0
              · subst hz
                exact fun e => g2 e.2
              · exact hf.out (by omega))
            clear g1 g2 hf
            generalize atL bs i = A at *
            generalize atL bs (i + 1) = B at *
            go_wp2_with fail
            go_round
            case rel => exact ⟨i + 1, by first | rfl | go_num, by omega, HF⟩
            case measure => simp [intOf]; omega
        · have b1 : (((atL bs i : Nat) : Int) == 60) = false := beq_false_of_ne (by omega)
          have HF := hid_mk (show 0 < i + 1 → ¬ (atL bs 0 = 60 ∧ atL bs 1 = 33) by
            intro _
            by_cases hz : i = 0
            · subst hz
              exact fun e => g1 e.1
            · exact hf.out (by omega))
          clear g1 hf
          generalize atL bs i = A at *
          generalize atL bs (i + 1) = B at *
          go_wp2_with fail
          go_round
          case rel => exact ⟨i + 1, by first | rfl | go_num, by omega, HF⟩
          case measure => simp [intOf]; omega
      · have hin' : ¬ (i : Int) + 1 < (n : Int) := by omega
        have h33 : ¬ (atL bs 0 = 60 ∧ atL bs 1 = 33) := by
          by_cases hz : 0 < i
          · exact hf.out hz
          · intro e
            have hl : ¬ 1 < bs.length := by have := HN.out; omega
            have := e.2
            unfold atL at this
            rw [List.getElem?_eq_none (by omega)] at this
            exact absurd this (by decide)
        obtain ⟨hd, hpos, hlen, hkd, hwr⟩ := parse_wrap HPZ.out (by have := HN.out; omega) h33
        rw [HNS.out] at hd hpos hlen hkd hwr
        rw [List.length_map] at hpos hlen
        have HWR := hid_mk hwr
        have HD := hid_mk hd
        clear hf h33 hin hwr hd hkd
        obtain ⟨g, cap1, cur, hv, hr1, hr2, hr3, hr4, hc⟩ := htr.look hpos
        have hgl : g < w1.heap.size := (Array.getElem?_eq_some_iff.1 hr2).1
        subst hv
        have HC := hid_mk hc
        have HTR := hid_mk htr
        clear hr1 hr2 hr3 hr4 hc htr
        obtain ⟨N, hN⟩ : ∃ N, N = ns.length := ⟨_, rfl⟩
        rw [← hN] at hpos hlen ⊢
        have HNN := hid_mk hN
        clear hN
        go_wp2_with fail
        go_loop [7, 8] (fun vd vi => ∃ i D : Nat, vi = .int .i64 (i : Int) ∧ vd = .int .i64 (D : Int) ∧ i ≤ N ∧ D ≤ N ∧ Hid (∀ j, j < i → depU (ups (ns.map (·.1))) j j ≤ D)) (fun _ vi => N - (intOf vi).toNat)
        case atStart => exact ⟨0, 0, rfl, rfl, Nat.zero_le _, Nat.zero_le _, hid_mk (fun j h => absurd h (Nat.not_lt_zero _))⟩
        case round =>
          obtain ⟨i, D, rfl, rfl, hi, hDn, hf⟩ := hrel
          by_cases hin : i < N
          · have hin' : (i : Int) < (N : Int) := by omega
            go_wp2_with fail
            go_loop [9, 10] (fun vk vu => ∃ k u : Nat, vk = .int .i64 (k : Int) ∧ vu = .int .i64 (u : Int) ∧ u < N ∧ k ≤ N ∧ Hid (k + depU (ups (ns.map (·.1))) u u = depU (ups (ns.map (·.1))) i i)) (fun _ vu => (intOf vu).toNat)
            case atStart => exact ⟨0, i, rfl, rfl, hin, Nat.zero_le _, hid_mk (Nat.zero_add _)⟩
            case round =>
              obtain ⟨k, u, rfl, rfl, hul, hkN, hdk⟩ := hrel
              have hdi := depU_le (ups (ns.map (·.1))) i i
              by_cases hu0 : 0 < u
              · have hu' : (0 : Int) < (u : Int) := by omega
                have hui : (u : Int) < (N : Int) := by omega
                have hu1 : (0 : Int) ≤ (u : Int) := by omega
                obtain ⟨v, hv1, hv2, hv3⟩ := up_at HD.out hu0 (by rw [List.length_map]; have := HNN.out; omega)
                have c4 : w1.cell? ⟨g, u * 6 + 4, none⟩ = some (.int .i64 (v : Int)) := by
                  rw [HC.out u (by have := HNN.out; omega) 4 (by decide)]
                  rw [List.getElem_map] at hv1
                  simp [ndF, hv1]
                have HK := hid_mk (show (k + 1) + depU (ups (ns.map (·.1))) v v = depU (ups (ns.map (·.1))) i i by have := hdk.out; rw [hv3] at this; omega)
                have hkb : k + 1 ≤ N := by have := HK.out; omega
                clear hdk hv1 hv3 hdi
                go_wp2_with fail
                go_round
                case rel => exact ⟨k + 1, v, by first | rfl | go_num, rfl, by omega, hkb, HK⟩
                case measure => simp [intOf]; omega
              · have hu' : ¬ (0 : Int) < (u : Int) := by omega
                obtain rfl : u = 0 := by omega
                have hkd : depU (ups (ns.map (·.1))) i i = k := by have := hdk.out; rw [show depU (ups (ns.map (·.1))) 0 0 = 0 from rfl] at this; omega
                have HM := hid_mk (show ∀ j, j < i + 1 → depU (ups (ns.map (·.1))) j j ≤ max D k by
                  intro j hj
                  by_cases hji : j = i
                  · rw [hji, hkd]; omega
                  · have := hf.out j (by omega)
                    omega)
                have hM : max D k ≤ N := by omega
                clear hdk hkd hdi hf
                go_wp2_with fail
                exact ⟨⟨i + 1, max D k, by first | rfl | go_num, congrArg (Value.int .i64) (show max (D : Int) (k : Int) = ((max D k : Nat) : Int) by omega), by omega, hM, HM⟩, by simp [intOf]; omega⟩
          · have hin' : ¬ (i : Int) < (N : Int) := by omega
            obtain rfl : i = N := by omega
            by_cases hD : 150 < D
            · have hD1 : (150 : Int) < (D : Int) := by omega
              have hw1 := hid_mk (hwo.out w1 H1.out.2)
              clear hf
              go_wp2_with fail
              (with_reducible refine hw1.out.mono ?_)
              rintro e w2 ⟨rfl, hn2⟩
              have H2 := hid_mk (H1.out.trans hn2)
              clear hn2
              go_wp2_with fail
              go_ret
              exact ⟨rfl, H2.out⟩
            have hD1 : ¬ (150 : Int) < (D : Int) := by omega
            have HPW := hid_mk (HWR.out (fun j hj => by have := hf.out j (by rw [List.length_map] at hj; have := HNN.out; omega); omega))
            have hcv1 := bytes_conv w1 a cap bs (HB.out.below H1.out.1)
            rw [← HN.out] at hcv1
            have hcat : (⟨#[60, 100, 105, 118, 62]⟩ : ByteArray) ++ strOf bs = strOf (preW ++ bs) := strOf_app [60, 100, 105, 118, 62] bs
            have hpt := parse_text (preW ++ bs) (by rw [List.length_append]; have := HN.out; show 5 + bs.length ≤ 10000000; omega) w1 H1.out.2
            rw [← hcat, show (preW ++ bs).length = 5 + n by rw [List.length_append, HN.out]; rfl] at hpt
            obtain ⟨gc, w2, hcv, hn2, hpa⟩ := hpt
            have H2 := hid_mk (H1.out.trans hn2)
            have HC2 := hid_mk (fun k hk j hj u hu => below_at (p := ⟨g, k * 6 + j, none⟩) (v := u) hn2.1 ((HC.out k hk j hj).trans hu))
            have HTR2 := hid_mk (HTR.out.below hn2.1)
            have HPA := hid_mk hpa
            have hsz : (strOf bs).size = n := by rw [size_strOf, HN.out]
            generalize strOf bs = Sb at *
            have r1 : ¬ 9223372036854775807 < 5 + Sb.size := by omega
            clear hf hpa hn2 hcat HC HTR HWR
            go_wp2_with fail
            (with_reducible refine HPA.out.mono ?_)
            rintro e w3 ⟨v2, ns2, rfl, hns2, htr2, hn3⟩
            rw [HPW.out] at hns2 ⊢
            simp only at hns2 ⊢
            rw [show ((0 : Nat) : Int) = 0 from rfl]
            have H3 := hid_mk (H2.out.trans hn3)
            have HC3 := hid_mk (fun k hk j hj u hu => below_at (p := ⟨g, k * 6 + j, none⟩) (v := u) hn3.1 (HC2.out k hk j hj u hu))
            have HTR3 := hid_mk (HTR2.out.below hn3.1)
            have hml : 0 < (ns.map (·.1)).length := by rw [List.length_map]; have := HNN.out; omega
            have hl2 : ns2.length = i + 1 := by
              have := congrArg List.length hns2
              rw [wrapT_len hml, List.length_map, List.length_map] at this
              have := HNN.out
              omega
            obtain ⟨g2, cap2, cur2, hv2, hr1, hr2, hr3, hr4, hc2⟩ := htr2.look (by omega)
            rw [hl2] at hv2
            subst hv2
            obtain ⟨wg0, ⟨dd, wg1⟩, wg2⟩ := wrapT_get hml
            rw [hns2] at wg0 wg1 wg2
            have k0 : ns2[0].1 = docW := by
              rw [List.getElem?_map, List.getElem?_eq_getElem (by omega)] at wg0
              simpa using wg0
            have k1 : ns2[1].1 = dvN dd := by
              rw [List.getElem?_map, List.getElem?_eq_getElem (by omega)] at wg1
              simpa using wg1
            have K2 := hid_mk (show ∀ j, 1 ≤ j → (hj : j < ns.length) → (hj2 : j + 1 < ns2.length) → ns2[j + 1].1 = sh ns[j].1 by
              intro j h1 hj hj2
              have := wg2 j h1 (by rw [List.length_map]; exact hj)
              rw [List.getElem?_map, List.getElem?_eq_getElem hj2, List.getElem_map] at this
              simpa using this)
            have e7 : w3.cell? ⟨g2, 7, none⟩ = some (.string ⟨#[100, 105, 118]⟩) := by
              have := hc2 1 (by omega) 1 (by decide)
              simp only [ndF] at this
              rw [k1] at this
              exact this
            have hkk := htr2.kids ns2[0] (List.getElem_mem _)
            rw [k0] at hkk
            obtain ⟨ka, kc, hks⟩ := own_slice hkk
            have e5 : w3.cell? ⟨g2, 5, none⟩ = some (.slice ka 1 kc) := by
              have := hc2 0 (by omega) 5 (by decide)
              simp only [ndF] at this
              rw [hks] at this
              exact this
            have HC4 := hid_mk hc2
            have HTR4 := hid_mk htr2
            have hn64 : IntKind.i64.wrap ((i : Int) + 1) = (i : Int) + 1 := IntWalk.i64_in _ (by omega)
            clear hkk hks k0 k1 wg0 wg1 wg2 hr1 hr2 hr3 hr4 hc2 htr2 hn3 hns2 HPA hcv hcv1 HC2 HTR2 HPW
            go_wp2_with fail
            go_loopw [13] (fun vi wr => ∃ q : Nat, vi = .int .i64 (q : Int) ∧ 1 ≤ q ∧ q ≤ i ∧ Hid (Next w3 wr)) (fun vi _ => i - (intOf vi).toNat)
            case atStart => exact ⟨1, rfl, Nat.le_refl _, hpos, hid_mk (Next.refl H3.out.2)⟩
            case round =>
              obtain ⟨q, rfl, hq1, hqi, HW⟩ := hrel
              by_cases hqn : q < i
              · have hqn' : (q : Int) < (i : Int) := by omega
                have hq0 : (0 : Int) ≤ (q : Int) := by omega
                have hqs : q < ns.length := by have := HNN.out; omega
                have hqs2 : q + 1 < ns2.length := by omega
                have hy := K2.out q hq1 hqs hqs2
                obtain ⟨v, hv1, hv2, _⟩ := up_at HD.out (by omega : 0 < q) (by rw [List.length_map]; exact hqs)
                rw [List.getElem_map] at hv1
                have tc : ∀ j u, j < 6 → (ndF ns[q])[j]? = some u → wr.cell? ⟨g, q * 6 + j, none⟩ = some u := fun j u hj hu => below_at (p := ⟨g, q * 6 + j, none⟩) HW.out.1 (HC3.out q hqs j hj u hu)
                have uc : ∀ j u, j < 6 → (ndF ns2[q + 1])[j]? = some u → wr.cell? ⟨g2, (q + 1) * 6 + j, none⟩ = some u := fun j u hj hu => below_at (p := ⟨g2, (q + 1) * 6 + j, none⟩) HW.out.1 ((HC4.out (q + 1) hqs2 j hj).trans hu)
                obtain ⟨a1, p1, he1, ha1⟩ := own_attrs (HTR3.out.attrs ns[q] (List.getElem_mem _))
                obtain ⟨a2, p2, he2, ha2⟩ := own_attrs (HTR4.out.attrs ns2[q + 1] (List.getElem_mem _))
                rw [show ns2[q + 1].1.attrs = ns[q].1.attrs by rw [hy]; rfl] at he2 ha2
                have t0 := tc 0 (.int .u8 (ns[q].1.kind : Int)) (by decide) rfl
                have t1 := tc 1 (.string (strOf ns[q].1.name)) (by decide) rfl
                have t2 := tc 2 (.slice a1 ns[q].1.attrs.length p1) (by decide) (by rw [← he1]; rfl)
                have t3 := tc 3 (.string (strOf ns[q].1.data)) (by decide) rfl
                have t4 := tc 4 (.int .i64 (v : Int)) (by decide) (by rw [← hv1]; rfl)
                have u0 := uc 0 (.int .u8 (ns[q].1.kind : Int)) (by decide) (by simp only [ndF]; rw [hy]; rfl)
                have u1 := uc 1 (.string (strOf ns[q].1.name)) (by decide) (by simp only [ndF]; rw [hy]; rfl)
                have u2 := uc 2 (.slice a2 ns[q].1.attrs.length p2) (by decide) (by rw [← he2]; rfl)
                have u3 := uc 3 (.string (strOf ns[q].1.data)) (by decide) (by simp only [ndF]; rw [hy]; rfl)
                have u4 := uc 4 (.int .i64 ((v : Int) + 1)) (by decide) (by simp only [ndF]; rw [hy]; simp [sh, hv1])
                have hsa := hid_mk (fun m => sameAttrs_q a2 a1 p2 p1 ns[q].1.attrs (wr.drewN m) ((ha2.below HW.out.1).below (below_drewN (Below.refl _ _) m)) ((ha1.below HW.out.1).below (below_drewN (Below.refl _ _) m)) (by
                  have := parse_few bs
                  rw [HNS.out] at this
                  have := this ns[q].1 (List.mem_map.2 ⟨_, List.getElem_mem _, rfl⟩)
                  omega))
                clear tc uc ha1 ha2 he1 he2 hv1 hy hqs2
                generalize ns[q].1.attrs.length = AL at *
                generalize ns[q].1.attrs = AT at *
                generalize strOf ns[q].1.name = NM at *
                generalize strOf ns[q].1.data = DT at *
                generalize ns[q].1.kind = KD at *
                have x0 : ((KD : Int) == (KD : Int)) = true := beq_self_eq_true _
                have x0' : ((KD : Int) != (KD : Int)) = false := by rw [bne, x0]; rfl
                have x1 : (NM.toList == NM.toList) = true := beq_self_eq_true _
                have x1' : (NM.toList != NM.toList) = false := by rw [bne, x1]; rfl
                have x2 : (DT.toList == DT.toList) = true := beq_self_eq_true _
                have x2' : (DT.toList != DT.toList) = false := by rw [bne, x2]; rfl
                have x3 : ((v : Int) + 1 == (v : Int) + 1) = true := beq_self_eq_true _
                have x3' : ((v : Int) + 1 != (v : Int) + 1) = false := by rw [bne, x3]; rfl
                rw [Nat.add_zero] at t0 u0
                have hq2 : ((q : Int) + 1).toNat = q + 1 := by omega
                have hq3 : (0 : Int) ≤ (q : Int) + 1 := by omega
                have hq4 : (q : Int) + 1 < (i : Int) + 1 := by omega
                have hq5 : IntKind.i64.wrap ((q : Int) + 1) = (q : Int) + 1 := IntWalk.i64_in _ (by omega)
                have hv5 : IntKind.i64.wrap ((v : Int) + 1) = (v : Int) + 1 := IntWalk.i64_in _ (by omega)
                clear hqs
                go_wp2_with fail
                go_quiet ((go_at_call 26; with_reducible exact Calls.quiet_of (hsa.out _)))
                have HD5 := hid_mk (show Next w3 (wr.drewN nq) from HW.out.trans (Next.of HW.out.2 (below_drewN (Below.refl _ _) nq)))
                go_wp2_with fail
                go_roundw
                case rel => exact ⟨q + 1, by first | rfl | go_num, by omega, by omega, HD5⟩
                case measure => simp [intOf]; omega
              · have hqn' : ¬ (q : Int) < (i : Int) := by omega
                have H6 := hid_mk (H3.out.trans HW.out)
                have hw1 := hid_mk (hwo.out wr HW.out.2)
                clear HC3 HTR3 K2 HC4 HTR4 e7 e5
                go_wp2_with fail
                (with_reducible refine hw1.out.mono ?_)
                rintro e w4 ⟨rfl, hn4⟩
                have H7 := hid_mk (H6.out.trans hn4)
                clear hn4
                go_wp2_with fail
                go_ret
                exact ⟨rfl, H7.out⟩
  · have hne : (((parseL bs).1 : Int) == 0) = false := beq_false_of_ne (by omega)
    have hne2 : (((parseL bs).1 : Int) != 0) = true := by rw [bne, hne]; rfl
    have hw1 := hid_mk (hwo.out w1 H1.out.2)
    clear hns htr
    generalize (parseL bs).1 = E1 at *
    generalize (parseL bs).2.1 = E2 at *
    clear he
    go_wp2_with fail
    (with_reducible refine hw1.out.mono ?_)
    rintro e w2 ⟨rfl, hn2⟩
    have H2 := hid_mk (H1.out.trans hn2)
    clear hn2
    go_wp2_with fail
    go_ret
    exact ⟨rfl, H2.out⟩
end Go.Proofs.YtcbfbbobcmdbaaaGreatDoor
