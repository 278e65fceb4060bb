/-
  A tree that is handed in, opened: what lies there, and how large each part is. Condition: what is read weighs no more than the reach.
-/
import Derived.Test.YtlcijlklbabajaaGreatDoorKSize
import Derived.Deep.SlicePairs
import Derived.ChangeSlices
namespace Go.Proofs.YtlcijlklbabajaaGreatDoor
open Go.RowKit Go.ChangeShapes Go.WideShapes Go.Deep R
section
variable {H : Type} {enc : TypeId × Value → H} {W : World} {base : Nat} {sp : Nat → Bool} {hd : Bool}
theorem weights_mem {P : Program} {e : TypeId} {n : Nat} {d : DataW H} : ∀ {l : List (DataW H)}, d ∈ l → n ∈ d.weights P e → n ∈ DataW.weightsAll P e l
  | a :: r, hd, hn => by
    unfold DataW.weightsAll
    rw [List.mem_append]
    rcases List.mem_cons.1 hd with rfl | h
    · exact .inl hn
    · exact .inr (weights_mem h hn)
theorem weights_slice {P : Program} {t e : TypeId} (ht : P.underlying t = some (.slice e)) (elems spare : List (DataW H)) : (DataW.slice elems spare).weights P t = (elems.length + spare.length) * P.bytesOf e :: (DataW.weightsAll P e elems ++ DataW.weightsAll P e spare) := by
  unfold DataW.weights
  rw [ht]
theorem weights_agg {P : Program} {t : TypeId} {fs : Array Field} (ht : P.underlying t = some (.struct fs)) (l : List (DataW H)) : (DataW.agg l).weights P t = DataW.weightsEach P (fs.toList.map (·.type)) l := by
  unfold DataW.weights
  rw [ht]
theorem weights_cons {P : Program} (t : TypeId) (ts : List TypeId) (d : DataW H) (l : List (DataW H)) : DataW.weightsEach P (t :: ts) (d :: l) = d.weights P t ++ DataW.weightsEach P ts l := by
  conv => lhs; unfold DataW.weightsEach
theorem weights_str {P : Program} (t : TypeId) (l : List UInt8) : (DataW.lit (.string l) : DataW H).weights P t = [l.length] := by unfold DataW.weights; rfl
theorem row_fam {α : Type} (F : α → List Value) (n : Nat) (hn : 0 < n) (hF : ∀ x, (F x).length = n) (a : Addr) (len : Nat) (q : Nat → α) (w : World) (h : ∀ i, i < len → ∀ j, j < n → w.cell? (a.add (i * n + j)) = (F (q i))[j]?) : HasRow w (some a) (((List.range len).map q).flatMap F) := by
  by_cases h0 : len = 0
  · subst h0; exact .inl rfl
  · refine .inr ⟨a, rfl, ?_, fun j u hu => ?_⟩
    · have h1 := h 0 (by omega) 0 hn
      rw [List.getElem?_eq_getElem (by rw [hF]; exact hn)] at h1
      have h2 := Lib.lt_of_cell h1
      rwa [addrBlock] at h2
    · have hjl : j < len * n := by
        have := (List.getElem?_eq_some_iff.1 hu).1
        rw [flat_length F n hF, List.length_map, List.length_range] at this; exact this
      have hk : j / n < len := Nat.div_lt_of_lt_mul (by rw [Nat.mul_comm]; exact hjl)
      have hjm := Nat.mod_lt j hn
      have e : j = j / n * n + j % n := by rw [Nat.mul_comm]; exact (Nat.div_add_mod j n).symm
      rw [e] at hu ⊢
      rw [flat_get F n hF _ _ _ (by simpa using hk) hjm] at hu
      rw [h _ hk _ hjm, ← hu]
      simp
theorem six_of {α : Type} : ∀ {l : List α}, l.length = 6 → ∃ a b c d e f, l = [a, b, c, d, e, f]
  | [a, b, c, d, e, f], _ => ⟨a, b, c, d, e, f, rfl⟩
theorem open_attrs {fuel : Nat} {cs : List Value} {y : DataW H × List MemPlace} (h : DataW.trod enc Tryz.prog W base sp hd fuel 23 cs = some y) (hw : ∀ n ∈ y.1.weights Tryz.prog 23, n ≤ reachBytes) :
    ∃ (v : Value) (l : List (List UInt8 × List UInt8)), cs = [v] ∧ HasAt W v l ∧ l.length ≤ reachBytes ∧ ∀ a ∈ l, a.1.length ≤ reachBytes ∧ a.2.length ≤ reachBytes := by
  rcases open_slice_pairs Tryz.underlying23 Tryz.underlying40 (by kernel_rfl) rfl rfl (by kernel_rfl) (by kernel_rfl) h with ⟨rfl, _⟩ | ⟨a, len, cap, m, n, V0, V1, D0, D1, P0, P1, rfl, hb, hl, hm, hmm, rfl, hx⟩
  · exact ⟨_, [], rfl, ⟨none, 0, rfl, Nat.le_refl _, .inl rfl⟩, Nat.zero_le _, fun a ha => by cases ha⟩
  have hlm : len ≤ m := by rw [hmm]; split <;> omega
  have each : ∀ i, i < len → ∃ q : List UInt8 × List UInt8, V0 i = .string (strOf q.1) ∧ V1 i = .string (strOf q.2) ∧ D0 i = .lit (.string q.1) ∧ D1 i = .lit (.string q.2) := fun i hi => by
    obtain ⟨_, _, t0, t1⟩ := hx i (by omega)
    obtain ⟨s0, e0, e0', _⟩ := DataW.trod_string Tryz.underlying9 t0
    obtain ⟨s1, e1, e1', _⟩ := DataW.trod_string Tryz.underlying9 t1
    simp only [List.cons.injEq, and_true, Prod.mk.injEq] at e0 e1 e0' e1'
    exact ⟨(sl s0, sl s1), by rw [e0, strOf_sl], by rw [e1, strOf_sl], e0'.1, e1'.1⟩
  obtain ⟨q, hq⟩ := choose_lt each
  rw [weights_slice Tryz.underlying23] at hw
  have hlen : len ≤ reachBytes := by
    have h1 := hw _ (List.mem_cons_self ..)
    rw [List.length_map, List.length_range] at h1
    have h2 : 0 < Tryz.prog.bytesOf 40 := by rw [show Tryz.prog.bytesOf 40 = 32 by kernel_rfl]; omega
    exact Nat.le_trans (Nat.le_trans (Nat.le_add_right _ _) (Nat.le_mul_of_pos_right _ h2)) h1
  have hsz : ∀ i, i < len → (q i).1.length ≤ reachBytes ∧ (q i).2.length ≤ reachBytes := fun i hi => by
    obtain ⟨_, _, d0, d1⟩ := hq i hi
    have hmem : (DataW.agg [D0 i, D1 i] : DataW H) ∈ (List.range len).map fun i => DataW.agg [D0 i, D1 i] := List.mem_map.2 ⟨i, List.mem_range.2 hi, rfl⟩
    have hall : ∀ n ∈ (DataW.agg [D0 i, D1 i] : DataW H).weights Tryz.prog 40, n ≤ reachBytes := fun n hn => hw n (List.mem_cons_of_mem _ (List.mem_append_left _ (weights_mem hmem hn)))
    rw [weights_agg Tryz.underlying40, d0, d1] at hall
    simp only [List.map_cons, weights_cons, weights_str] at hall
    exact ⟨hall _ (by simp), hall _ (by simp)⟩
  refine ⟨_, (List.range len).map q, rfl, ⟨some a, cap, by simp, by simpa using hl, row_fam atF 2 (by omega) (fun _ => rfl) a len q W (fun i hi j hj => ?_)⟩, by simpa using hlen, fun z hz => ?_⟩
  · obtain ⟨c0, c1, _, _⟩ := hx i (by omega)
    obtain ⟨e0, e1, _, _⟩ := hq i hi
    rcases j with _ | _ | j
    · rw [Nat.add_zero, c0, e0]; rfl
    · rw [c1, e1]; rfl
    · omega
  · obtain ⟨i, hi, rfl⟩ := List.mem_map.1 hz
    exact hsz i (List.mem_range.1 hi)
theorem open_kids {fuel : Nat} {cs : List Value} {y : DataW H × List MemPlace} (h : DataW.trod enc Tryz.prog W base sp hd fuel 36 cs = some y) (hw : ∀ n ∈ y.1.weights Tryz.prog 36, n ≤ reachBytes) :
    ∃ (v : Value) (l : List Int), cs = [v] ∧ HasInts W v l ∧ l.length ≤ reachBytes := by
  rcases open_ints Tryz.underlying36 Tryz.underlying3 (by kernel_rfl) h with ⟨rfl, _⟩ | ⟨a, len, cap, zs, rfl, hb, hl, hm, hz, rfl, hcell, _⟩
  · exact ⟨_, [], rfl, ⟨none, 0, rfl, .inl rfl⟩, Nat.zero_le _⟩
  have hlz : len ≤ zs.length := by rw [hz]; split <;> omega
  rw [weights_slice Tryz.underlying36] at hw
  have hlen : len ≤ reachBytes := by
    have h1 := hw _ (List.mem_cons_self ..)
    have h2 : 0 < Tryz.prog.bytesOf 3 := by rw [show Tryz.prog.bytesOf 3 = 8 by kernel_rfl]; omega
    have h3 : len ≤ (lits .i64 (zs.take len) : List (DataW H)).length := by unfold lits; rw [List.length_map, List.length_take]; omega
    exact Nat.le_trans (Nat.le_trans (Nat.le_trans h3 (Nat.le_add_right _ _)) (Nat.le_mul_of_pos_right _ h2)) h1
  have hll : (zs.take len).length = len := by rw [List.length_take]; omega
  refine ⟨_, zs.take len, rfl, ⟨some a, cap, by rw [hll], ?_⟩, by rw [hll]; exact hlen⟩
  by_cases h0 : len = 0
  · subst h0; exact .inl rfl
  · refine .inr ⟨a, rfl, ?_, fun j u hu => ?_⟩
    · have h1 := hcell 0 (by omega)
      have h2 := Lib.lt_of_cell h1
      rwa [addrBlock] at h2
    · rw [List.getElem?_map, Option.map_eq_some_iff] at hu
      obtain ⟨z, hz1, rfl⟩ := hu
      have hj := (List.getElem?_eq_some_iff.1 hz1).1
      rw [hll] at hj
      rw [hcell j (by omega)]
      rw [List.getElem?_take, if_pos hj] at hz1
      rw [List.getD_eq_getElem?_getD, hz1]
      rfl
theorem open_nodes {fuel : Nat} {cs : List Value} {y : DataW H × List MemPlace} (h : DataW.trod enc Tryz.prog W base sp hd fuel 28 cs = some y) (hw : ∀ n ∈ y.1.weights Tryz.prog 28, n ≤ reachBytes) :
    ∃ (a : Option Addr) (c : Nat) (ns : List NxM), cs = [.slice a ns.length c] ∧ HasTree W a ns ∧ ns.length ≤ reachBytes ∧ ∀ p ∈ ns, SmallN reachBytes p.1 := by
  rcases open_slice Tryz.underlying28 h with ⟨rfl, _⟩ | ⟨a, len, cap, m, n, D, Pl, rfl, hb, hl, hm, hmm, rfl, hx⟩
  · exact ⟨none, 0, [], rfl, ⟨.inl rfl, fun p hp => (by cases hp), fun p hp => (by cases hp)⟩, Nat.zero_le _, fun p hp => (by cases hp)⟩
  have hlm : len ≤ m := by rw [hmm]; split <;> omega
  have hc6 : Tryz.prog.cellsOf 38 = 6 := by kernel_rfl
  rw [weights_slice Tryz.underlying28] at hw
  have hlen : len ≤ reachBytes := by
    have h1 := hw _ (List.mem_cons_self ..)
    rw [List.length_map, List.length_range] at h1
    have h2 : 0 < Tryz.prog.bytesOf 38 := by rw [show Tryz.prog.bytesOf 38 = 96 by kernel_rfl]; omega
    exact Nat.le_trans (Nat.le_trans (Nat.le_add_right _ _) (Nat.le_mul_of_pos_right _ h2)) h1
  have each : ∀ i, i < len → ∃ p : NxM, (∀ j, j < 6 → W.cell? (a.add (i * 6 + j)) = (nxF p)[j]?) ∧ HasAt W p.2.1 p.1.attrs ∧ HasInts W p.2.2 p.1.kids ∧ SmallN reachBytes p.1 := fun i hi => by
    obtain ⟨cs', h1, h2⟩ := hx i (by omega)
    rw [hc6] at h1
    obtain ⟨_, hcl, hcell⟩ := World.cells?_some h1
    obtain ⟨xs, k, hk, hxy, _, hxl, hf⟩ := DataW.trod_struct Tryz.underlying38 h2
    have hmem : D i ∈ (List.range len).map D := List.mem_map.2 ⟨i, List.mem_range.2 hi, rfl⟩
    have hall : ∀ n ∈ (D i).weights Tryz.prog 38, n ≤ reachBytes := fun n hn => hw n (List.mem_cons_of_mem _ (List.mem_append_left _ (weights_mem hmem hn)))
    simp only [Prod.mk.injEq] at hxy
    rw [hxy.1, weights_agg Tryz.underlying38] at hall
    obtain ⟨y0, y1, y2, y3, y4, y5, rfl⟩ := six_of (show xs.length = 6 from hxl)
    obtain ⟨v0, v1, v2, v3, v4, v5, rfl⟩ := six_of hcl
    simp only [List.map_cons, weights_cons] at hall
    have g0 := hf 0 _ rfl
    have g1 := hf 1 _ rfl
    have g2 := hf 2 _ rfl
    have g3 := hf 3 _ rfl
    have g4 := hf 4 _ rfl
    have g5 := hf 5 _ rfl
    simp [show Tryz.prog.cellsOf 5 = 1 by kernel_rfl, show Tryz.prog.cellsOf 9 = 1 by kernel_rfl, show Tryz.prog.cellsOf 23 = 1 by kernel_rfl, show Tryz.prog.cellsOf 3 = 1 by kernel_rfl, show Tryz.prog.cellsOf 36 = 1 by kernel_rfl] at g0 g1 g2 g3 g4 g5
    obtain ⟨kd, e0, _, hwf⟩ := DataW.trod_int Tryz.underlying5 g0
    obtain ⟨s1, e1, f1, _⟩ := DataW.trod_string Tryz.underlying9 g1
    obtain ⟨at2, l2, e2, hat, hal, has⟩ := open_attrs g2 (fun n hn => hall n (by simp [hn]))
    obtain ⟨s3, e3, f3, _⟩ := DataW.trod_string Tryz.underlying9 g3
    obtain ⟨up, e4, _, _⟩ := DataW.trod_int Tryz.underlying3 g4
    obtain ⟨ki5, l5, e5, hki, hkl⟩ := open_kids g5 (fun n hn => hall n (by simp [hn]))
    simp only [List.cons.injEq, and_true] at e0 e1 e2 e3 e4 e5
    rw [f1, f3, weights_str, weights_str] at hall
    have hk0 : (kd.toNat : Int) = kd := by
      simp only [Lit.wf, IntKind.min, IntKind.max, IntKind.signed, IntKind.bits, Bool.and_eq_true] at hwf
      exact Int.toNat_of_nonneg (by simpa using hwf.1)
    refine ⟨(⟨kd.toNat, sl s1, l2, sl s3, up, l5⟩, at2, ki5), fun j hj => ?_, hat, hki, ?_⟩
    · have := hcell j hj
      rw [add_add] at this
      rw [this, e0, e1, e2, e3, e4, e5]
      unfold nxF
      rw [strOf_sl, strOf_sl, hk0]
    · exact ⟨hall _ (by simp [sl]), hall _ (by simp [sl]), hkl, hal, has⟩
  haveI : Inhabited NxM := ⟨(nxD, .bool false, .bool false)⟩
  obtain ⟨q, hq⟩ := choose_lt each
  have hlq : ((List.range len).map q).length = len := by simp
  refine ⟨some a, cap, (List.range len).map q, by rw [hlq], ⟨row_fam nxF 6 (by omega) (fun _ => rfl) a len q W (fun i hi j hj => (hq i hi).1 j hj), fun p hp => ?_, fun p hp => ?_⟩, by rw [hlq]; exact hlen, fun p hp => ?_⟩
  · obtain ⟨i, hi, rfl⟩ := List.mem_map.1 hp
    exact (hq i (List.mem_range.1 hi)).2.1
  · obtain ⟨i, hi, rfl⟩ := List.mem_map.1 hp
    exact (hq i (List.mem_range.1 hi)).2.2.1
  · obtain ⟨i, hi, rfl⟩ := List.mem_map.1 hp
    exact (hq i (List.mem_range.1 hi)).2.2.2
end
end Go.Proofs.YtlcijlklbabajaaGreatDoor
