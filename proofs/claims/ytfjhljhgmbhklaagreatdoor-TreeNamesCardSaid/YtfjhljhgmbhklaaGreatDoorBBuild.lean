/-
  Package tree's Build. Condition: the tokens' sizes are bounded, an end tag has a name.
-/
import Derived.Test.YtfjhljhgmbhklaaGreatDoorBStep
import Derived.Test.YtfjhljhgmbhklaaGreatDoorKKind
import Derived.Test.YtfjhljhgmbhklaaGreatDoorTHas
import Derived.Test.YtfjhljhgmbhklaaGreatDoorTSizeP
namespace Go.Proofs.YtfjhljhgmbhklaaGreatDoor
open Go.RowKit
def TokOk (t : Tk) : Prop := t.name.length ≤ 1000000000 ∧ (t.kind = 2 → t.name ≠ []) ∧ t.attrs.length ≤ 100000 ∧ ∀ a ∈ t.attrs, a.1.length ≤ 1000000000 ∧ a.2.length ≤ 1000000000
theorem sumTk_take {l : List Tk} {k : Nat} (h : k < l.length) : sumTk (l.take (k + 1)) = sumTk (l.take k) + l[k].data.length := by
  unfold sumTk
  rw [List.take_add_one, List.getElem?_eq_getElem h, List.map_append, List.sum_append]
  simp
theorem sumTk_le (l : List Tk) (k : Nat) : sumTk (l.take k) ≤ sumTk l := by
  have : sumTk l = sumTk (l.take k) + sumTk (l.drop k) := by
    unfold sumTk
    rw [← List.sum_append, ← List.map_append, List.take_append_drop]
  omega
def BuildPost (ts : List Tk) (w : World) (e : Ending) (w' : World) : Prop :=
  ∃ v ns, e = .returned (.tuple #[v, .int .i64 ((buildL ts).1 : Int), .int .i64 ((buildL ts).2.1 : Int)]) ∧ (buildL ts).2.2 = ns.map (·.1) ∧ TreeRow w.heap.size v ns w' ∧ Below w.heap.size w w'
theorem TreeRow.nil (B : Nat) (w : World) : TreeRow B (.slice none 0 0) [] w := ⟨World.ownsRow_nil _ _ _ _, fun _ hp => (nomatch hp), fun _ hp => (nomatch hp), List.Pairwise.nil⟩
theorem BInv.new {B b g : Nat} {cs : Array Value} {w : World} (h : BdU B b cs g 1 [(⟨0, [], [], [], -1, []⟩, .slice none 0 0, .slice none 0 0)] [] [] w) (hB : B ≤ w.heap.size) : BInv B b .new 0 [(⟨0, [], [], [], -1, []⟩, .slice none 0 0, .slice none 0 0)] [] (⟨0, [], [], [], -1, []⟩, .slice none 0 0, .slice none 0 0) w :=
  ⟨h.pack, rfl, rfl, fun h => absurd h (by decide), fun _ => rfl, by decide, fun o ho => (nomatch ho), by decide, fun q hq => by rw [List.mem_singleton.1 hq]; decide, Nat.le_refl _, hB⟩
theorem buildF_step {ts : List Tk} {k : Nat} (h : k < ts.length) (b : Bd) : buildF (ts.drop k) k b = if (takeB b ts[k] (k == 0)).1 = 0 then buildF (ts.drop (k + 1)) (k + 1) (takeB b ts[k] (k == 0)).2 else ((takeB b ts[k] (k == 0)).1, k, []) := by
  rw [List.drop_eq_getElem_cons h]
  rfl
set_option maxHeartbeats 4000000 in
set_option maxRecDepth 100000 in
theorem build_any {B0 : Nat} {v : Value} {ps : List (Tk × Value)} {w : World} (h : TokRow B0 v ps w) (hl : ps.length ≤ 1000000000) (hok : ∀ p ∈ ps, TokOk p.1) (hsum : sumTk (ps.map (·.1)) ≤ 500000000) :
    Calls Tryz.prog 12 #[v] w (BuildPost (ps.map (·.1)) w) := by
  obtain ⟨ta, tc, rfl, _⟩ := h.has
  obtain ⟨n, hn⟩ : ∃ n, n = ps.length := ⟨_, rfl⟩
  obtain ⟨ts, hts⟩ : ∃ ts, ts = ps.map (·.1) := ⟨_, rfl⟩
  have hnt : ts.length = n := by rw [hts, List.length_map, hn]
  rw [← hts] at hsum ⊢
  rw [← hn] at hl ⊢
  have HN := hid_mk (And.intro hn (And.intro hts hnt))
  have H := hid_mk (show TokRow B0 (.slice ta n tc) ps w by rw [hn]; exact h)
  have HOK := hid_mk (And.intro hok hsum)
  obtain ⟨G, hG⟩ : ∃ G, G = buildL ts := ⟨_, rfl⟩
  have HG := hid_mk hG
  clear h hok hsum hn hts hnt hG
  have hnb := hid_mk (newBuilder_any w)
  go_enter Tryz.func12, Tryz.ntmps12
  go_wp2_with fail
  (with_reducible refine hnb.out.mono ?_)
  rintro e w1 ⟨b, g, cs, rfl, hb1, hbu⟩
  have H1 := hid_mk (show ∃ bd ns bs p, BInv w.heap.size b bd (sumTk (ts.take 0)) ns bs p w1 ∧ Below w.heap.size w w1 ∧ G = buildF (ts.drop 0) 0 bd from ⟨.new, _, _, _, BInv.new hbu hb1.size, hb1, by rw [HG.out]; rfl⟩)
  clear hb1 hbu hnb
  go_wp2_with fail
  go_loopw [12] (fun i wr => ∃ k : Nat, k ≤ n ∧ i = .int .i64 k ∧ Hid (∃ bd ns bs p, BInv w.heap.size b bd (sumTk (ts.take k)) ns bs p wr ∧ Below w.heap.size w wr ∧ G = buildF (ts.drop k) k bd)) (fun i _ => n - (intOf i).toNat)
  case atStart => exact ⟨0, Nat.zero_le _, rfl, H1⟩
  case round =>
    obtain ⟨k, hk, rfl, hI⟩ := hrel
    generalize wr = wo at *
    obtain ⟨bd, ns, bs, p, hinv, hlow, hgb⟩ := hI.out
    clear hI H1
    by_cases hlt : k < n
    · have hlti : (k : Int) < (n : Int) := by omega
      have hrow := H.out.below hlow
      have hkp : k < ps.length := by rw [← HN.out.1]; exact hlt
      have hkt : k < ts.length := by rw [HN.out.2.2]; exact hlt
      obtain ⟨tg, tcc, hvv⟩ := hrow.some (by omega)
      injection hvv with hta hvn hvc
      subst hta
      clear hvn hvc
      have hcell := fun j hj => hrow.cells k hkp j hj
      obtain ⟨t, ht⟩ : ∃ t, t = ts[k] := ⟨_, rfl⟩
      obtain ⟨av, hav⟩ : ∃ av, av = (ps[k]).2 := ⟨_, rfl⟩
      have hpt : (ps[k]).1 = t := by rw [ht]; simp only [HN.out.2.1, List.getElem_map]
      have hatr := hrow.2 _ (List.getElem_mem hkp)
      have hokk := HOK.out.1 _ (List.getElem_mem hkp)
      simp only [tkF, tkCells] at hcell
      rw [hpt, ← hav] at hcell hatr
      rw [hpt] at hokk
      have c0 : wo.cell? ⟨tg, k * 5, none⟩ = some (.int .u8 (t.kind : Int)) := hcell 0 (by decide)
      have c1 : wo.cell? ⟨tg, k * 5 + 1, none⟩ = some (.string (strOf t.name)) := hcell 1 (by decide)
      have c2 : wo.cell? ⟨tg, k * 5 + 2, none⟩ = some av := hcell 2 (by decide)
      have c3 : wo.cell? ⟨tg, k * 5 + 3, none⟩ = some (.bool t.self) := hcell 3 (by decide)
      have c4 : wo.cell? ⟨tg, k * 5 + 4, none⟩ = some (.string (strOf t.data)) := hcell 4 (by decide)
      obtain ⟨ba, bc, hav2⟩ := own_slice hatr
      subst hav2
      have hal : Below wo.heap.size wo (wo.alloc (tokO t (.slice ba t.attrs.length bc))) := (Below.refl _ _).alloc (Nat.le_refl _) _
      have hinv' := hinv.below hal
      obtain ⟨cs, g, cap, hun⟩ := hinv'.1.un
      have hnm := sumTk_take hkt
      have hsl := sumTk_le ts (k + 1)
      have hbl := hinv.2.2.2.2.2.2.2.2.2.1
      rw [← ht] at hnm
      have htk := hid_mk (fun first => btake_any kind_any hun hinv.2.2.2.2.2.2.2.1 p hinv.2.2.1 hinv.2.2.2.1 hinv.2.2.2.2.1 (by have := hinv.2.2.2.2.2.1; omega) hinv.2.2.2.2.2.2.1 (fun q hq => by have := hinv.2.2.2.2.2.2.2.2.1 q hq; have := hinv.2.2.2.2.2.2.2.1; omega) t B0 _ first (hatr.below hal) (by have := HOK.out.2; omega) hokk.1 hokk.2.1 hokk.2.2.1 hokk.2.2.2 hinv'.2.2.2.2.2.2.2.2.2.2)
      have HI := hid_mk (fun (first : Bool) e w' (hp : takePost w.heap.size b g cap ns bd.opn bs p t first (wo.alloc (tokO t (.slice ba t.attrs.length bc))) ((wo.alloc (tokO t (.slice ba t.attrs.length bc))).alloc (tokO t (.slice ba t.attrs.length bc))) e w') => hinv'.step hp)
      have HB := hid_mk (And.intro hlow (hal.mono hlow.size))
      have HS := hid_mk (show G = (if (takeB bd t (k == 0)).1 = 0 then buildF (ts.drop (k + 1)) (k + 1) (takeB bd t (k == 0)).2 else ((takeB bd t (k == 0)).1, k, [])) by rw [hgb, buildF_step hkt, ht])
      have HM := hid_mk hnm
      unfold tokO tkCells at htk HI HB
      clear hinv hinv' hun hal hlow hgb hrow hcell hatr hokk hnm hsl hbl hkp hkt hav hpt ht
      obtain ⟨f, hf⟩ : ∃ f, f = (k == 0) := ⟨_, rfl⟩
      have hq : ((k : Int) == 0) = f := by
        rw [hf, Bool.eq_iff_iff]
        simp
      rw [← hf] at HS
      clear hf
      have hps : (0 : Int) < (n : Int) := by omega
      have hps0 : 0 < n := by omega
      go_wp2_with fail
      (with_reducible refine (htk.out f).mono ?_)
      intro e w2 hp2
      obtain ⟨he, hl2, hnx⟩ := HI.out f e w2 hp2
      subst he
      have HL := hid_mk (HB.out.1.trans (HB.out.2.trans hl2))
      obtain ⟨R, hR⟩ : ∃ R, R = takeB bd t f := ⟨_, rfl⟩
      rw [← hR] at hnx HS ⊢
      clear hp2 hR htk HI hl2 c0 c1 c2 c3 c4 hps hps0 hq
      obtain ⟨r, bd2⟩ := R
      simp only at hnx HS
      have HNX := hid_mk hnx
      clear hnx
      by_cases hr : r = 0
      · have hq1 : ((r : Int) == 0) = true := by rw [hr]; rfl
        have hq2 : ((r : Int) != 0) = false := by rw [bne, hq1]; rfl
        have HF := hid_mk (show ∃ bd ns bs p, BInv w.heap.size b bd (sumTk (ts.take (k + 1))) ns bs p w2 ∧ Below w.heap.size w w2 ∧ G = buildF (ts.drop (k + 1)) (k + 1) bd from by
          obtain ⟨ns, bs, p, hb⟩ := HNX.out hr
          exact ⟨bd2, ns, bs, p, by rw [HM.out]; exact hb, HL.out, by rw [HS.out, if_pos hr]⟩)
        clear hr
        go_wp2_with fail
        go_roundw
        case rel => exact ⟨k + 1, by omega, by go_num, HF⟩
        case measure => simp [intOf]; omega
      · have hq1 : ((r : Int) == 0) = false := beq_false_of_ne (by omega)
        have hq2 : ((r : Int) != 0) = true := by rw [bne, hq1]; rfl
        have HF := hid_mk (show buildL ts = (r, k, []) by rw [← HG.out, HS.out, if_neg hr])
        clear hr
        go_wp2_with fail
        go_ret3
        exact ⟨_, [], by rw [HF.out]; rfl, by rw [HF.out]; rfl, .nil _ _, HL.out⟩
    · have hlti : ¬ (k : Int) < (n : Int) := by omega
      have hkn : k = n := by omega
      obtain ⟨cs, g, cap, hun⟩ := hinv.1.un
      have hfi := hid_mk (finish_any hun (by have := hinv.2.2.2.2.2.2.2.1; omega) p hinv.2.2.1 hinv.2.2.2.1)
      have HF := hid_mk (show buildL ts = (0, 0, (endNs ns bs p).map (·.1)) by
        rw [← HG.out, hgb, hkn, List.drop_eq_nil_of_le (by rw [HN.out.2.2]; exact Nat.le_refl _)]
        show (0, 0, bd.tree) = _
        rw [hinv.2.1]
        rfl)
      have HL := hid_mk hlow
      clear hinv hlow hgb hun hkn
      go_wp2_with fail
      (with_reducible refine hfi.out.mono ?_)
      rintro e w2 ⟨rfl, hl2, htr⟩
      have H2 := hid_mk (And.intro (HL.out.trans hl2) htr)
      clear hl2 htr hfi
      go_wp2_with fail
      go_ret3
      exact ⟨_, _, by rw [HF.out]; rfl, by rw [HF.out], H2.out.2, H2.out.1⟩
end Go.Proofs.YtfjhljhgmbhklaaGreatDoor
