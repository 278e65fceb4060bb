/-
  Package tree's cloneAttrs. Condition: the attributes' number and sizes are bounded.
-/
import Derived.Test.YtfjhljhgmbhklaaGreatDoorBText
import Derived.Test.YtfjhljhgmbhklaaGreatDoorBStC
namespace Go.Proofs.YtfjhljhgmbhklaaGreatDoor
open Go.RowKit
set_option maxHeartbeats 2000000 in
set_option maxRecDepth 100000 in
theorem cloneAttrs_go (g cap : Nat) (l : List Atr) (w : World) (h : HasAttrs w (some ⟨g, 0, none⟩) l) (hl : l.length ≤ 100000) (hs : ∀ a ∈ l, a.1.length ≤ 1000000000 ∧ a.2.length ≤ 1000000000) :
    Calls Tryz.prog 85 #[.slice (some ⟨g, 0, none⟩) l.length cap] w fun e w' => ∃ v, e = .returned v ∧ AtRow w.heap.size v l w' ∧ Below w.heap.size w w' := by
  obtain ⟨i0, hi, hz0, hz1, hz2⟩ := info_parts infoAttr
  have HI := hid_mk (And.intro hi (And.intro hz0 (And.intro hz1 hz2)))
  obtain ⟨n, hn⟩ : ∃ n, n = l.length := ⟨_, rfl⟩
  rw [← hn] at hl ⊢
  have HN := hid_mk hn
  have HH := hid_mk h
  have HS := hid_mk hs
  clear hn h hs hi hz0 hz1 hz2
  go_enter Tryz.func85, Tryz.ntmps85
  go_wp2_with fail
  go_loopw [3, 8] (fun c i wr => ∃ k : Nat, k ≤ n ∧ i = .int .i64 k ∧ Hid (AtRow w.heap.size c (l.take k) wr) ∧ Hid (Below w.heap.size w wr)) (fun _ i _ => n - (intOf i).toNat)
  case atStart => exact ⟨0, Nat.zero_le _, rfl, hid_mk (World.ownsRow_nil _ _ _ _), hid_mk (Below.refl _ _)⟩
  case round =>
    obtain ⟨k, hk, rfl, hR, hW⟩ := hrel
    generalize wr = wo at *
    by_cases hlt : k < n
    · rcases HH.out.below hW.out with ⟨hx, _⟩ | ⟨g', hg, hgl, hcell⟩
      · cases hx
      · obtain rfl : g = g' := by injection hg with hg; injection hg
        have hkl : k < l.length := by rw [← HN.out]; exact hlt
        have hc := hcell k hkl
        obtain ⟨e0, e1⟩ := hc
        have hsz := HS.out _ (List.getElem_mem hkl)
        obtain ⟨a, ha⟩ : ∃ a, a = l[k] := ⟨_, rfl⟩
        rw [← ha] at e0 e1 hsz
        have htk : l.take (k + 1) = l.take k ++ [a] := by rw [List.take_add_one, List.getElem?_eq_getElem hkl, ← ha]; rfl
        have HT := hid_mk htk
        obtain ⟨ca, cc, hca⟩ := own_slice hR.out
        have hlen : (l.take k).length = k := by rw [List.length_take]; omega
        rw [hlen] at hca
        have HZ := hid_mk (And.intro hsz hlen)
        obtain ⟨wl, hwl⟩ : ∃ wl, wl = wo.alloc (.cells #[.string (strOf a.1), .string (strOf a.2)] 40 (0, 0)) := ⟨_, rfl⟩
        have hol : Below wo.heap.size wo wl := by rw [hwl]; exact (Below.refl _ _).alloc (Nat.le_refl _) _
        have hL : wl.heap[wo.heap.size]? = some (.cells #[.string (strOf a.1), .string (strOf a.2)] 40 (0, 0)) := by rw [hwl]; exact heap_alloc_new wo _
        have hkeep := hid_mk (show ∀ w', Below wl.heap.size wl w' → w'.cell? ⟨wo.heap.size, 0, none⟩ = some (.string (strOf a.1)) ∧ w'.cell? ⟨wo.heap.size, 1, none⟩ = some (.string (strOf a.2)) ∧ Below wl.heap.size wl w' from by
          intro w' hb'
          have hL' := (hb'.block _ (Array.getElem?_eq_some_iff.1 hL).1).trans hL
          refine ⟨?_, ?_, hb'⟩
          · rw [cell_of_row w' _ 0 _ _ _ hL']; rfl
          · rw [cell_of_row w' _ 1 _ _ _ hL']; rfl)
        have hRl : AtRow w.heap.size (.slice ca k cc) (l.take k) wl := by rw [← hca]; exact hR.out.below hol
        have HRL := hid_mk (And.intro hRl (And.intro (hW.out.trans (hol.mono hW.out.size)) hW.out.size))
        have HWL := hid_mk hwl.symm
        rw [hca]
        have hkc : (k : Int) < (n : Int) := by omega
        have cl1 := hid_mk (fun w => clone_any (strOf a.1) w (by rw [size_strOf]; exact HZ.out.1.1))
        have cl2 := hid_mk (fun w => clone_any (strOf a.2) w (by rw [size_strOf]; exact HZ.out.1.2))
        have hcl0 := hkeep.out wl (Below.refl _ _)
        obtain ⟨m0, m1, _⟩ := hcl0
        clear hcell hsz ha htk hca hlen hwl hol hL hRl hR
        go_wp2_with fail
        rw [HWL.out]
        go_region_law
          (first
            | (obtain ⟨hi, hz0, hz1, hz2⟩ := HI.out
               obtain ⟨hRl, hwwl, hwsz⟩ := HRL.out
               obtain ⟨w5, hw5⟩ : ∃ w5, w5 = wB.alloc (.cells #[.string (strOf a.1), .string (strOf a.2)] 40 (0, 0)) := ⟨_, rfl⟩
               have b5 : Below wl.heap.size wl w5 := by rw [hw5]; exact bB.trans (((Below.refl _ _).alloc (Nat.le_refl _) _).mono bB.size)
               have hnew5 : w5.heap[wB.heap.size]? = some (.cells #[.string (strOf a.1), .string (strOf a.2)] 40 (0, 0)) := by rw [hw5]; exact heap_alloc_new wB _
               have hown5 : w5.ownsRow w.heap.size 40 2 (.slice ca k cc) k (atCells (l.take k)) := by
                 have := hRl.below b5
                 unfold AtRow at this
                 rw [HZ.out.2] at this
                 exact this
               have h5s : w.heap.size ≤ w5.heap.size := Nat.le_trans hwwl.size b5.size
               rw [← hw5]
               refine step_append_lies w5 rfl (.tmp 12) (.tmp 20) 23 rfl w.heap.size 40 i0 _ 2 32 Tryz.underlying23 hi hz0 hz1 hz2 rfl (by decide) _ k (atCells (l.take k)) rfl hown5 ⟨wB.heap.size, 0, none⟩ 1 1 [.string (strOf a.1), .string (strOf a.2)] rfl rfl (World.news_of_block hnew5) (by
                 intro u hu
                 simp only [List.mem_cons, List.not_mem_nil, or_false] at hu
                 rcases hu with rfl | rfl <;> rfl) (by decide) (by unfold maxLen; omega) (by omega) h5s _ rfl ?_
               intro g6 cap6 w6 hown6 hgrow6 _ _
               have HE := hid_mk (show AtRow w.heap.size (.slice (some ⟨g6, 0, none⟩) (k + 1) cap6) (l.take (k + 1)) w6 from by
                 unfold AtRow
                 rw [HT.out, List.length_append, HZ.out.2, ← atCells_snoc]
                 exact hown6)
               have HE2 := hid_mk (show Below w.heap.size w w6 from (hwwl.trans (b5.mono hwwl.size)).trans (grown_low hgrow6 (fun q hq => own_base hown5 q hq) h5s))
               clear hi hz0 hz1 hz2 hRl hwwl hwsz hw5 b5 hnew5 hown5 h5s hown6 hgrow6)
            | (go_simp
               go_at_call 84
               (with_reducible refine (cl1.out _).mono ?_)
               rintro e wA ⟨rfl, nA⟩
               have bA : Below wl.heap.size wl wA := ⟨nA.os, nA.tape, nA.output, nA.size, nA.block⟩
               obtain ⟨x0, x1, _⟩ := hkeep.out wA bA
               clear nA)
            | (go_simp
               go_at_call 84
               (with_reducible refine (cl2.out _).mono ?_)
               rintro e wB ⟨rfl, nB⟩
               have bB : Below wl.heap.size wl wB := bA.trans (nB.mono bA.size)
               obtain ⟨y0, y1, _⟩ := hkeep.out wB bB
               clear nB))
        all_goals
          go_wp2_with fail
          go_roundw
          case rel => exact ⟨k + 1, by omega, rfl, HE, HE2⟩
          case measure => simp [intOf]; omega
    · have hin : ¬ (k : Int) < (n : Int) := by omega
      have hkn : k = n := by omega
      have HF := hid_mk (show AtRow w.heap.size _ l wo ∧ Below w.heap.size w wo from ⟨by have := hR.out; rw [hkn, HN.out, List.take_length] at this; exact this, hW.out⟩)
      clear hR hW
      go_wp2_with fail
      go_ret
      exact ⟨_, rfl, HF.out⟩
set_option maxHeartbeats 1000000 in
theorem cloneAttrs_nil (c : Nat) (w : World) :
    Calls Tryz.prog 85 #[.slice none 0 c] w fun e w' => e = .returned (.slice none 0 0) ∧ Below w.heap.size w w' := by
  go_enter Tryz.func85, Tryz.ntmps85
  go_wp2_with fail
  refine wp_loop_rounds 1 ?_
  rw [rounds_succ]
  go_wp2_with fail
  go_ret
  exact ⟨rfl, Below.refl _ _⟩
theorem cloneAttrs_any {B : Nat} {v : Value} {l : List Atr} {w : World} (h : AtRow B v l w) (hl : l.length ≤ 100000) (hs : ∀ a ∈ l, a.1.length ≤ 1000000000 ∧ a.2.length ≤ 1000000000) :
    Calls Tryz.prog 85 #[v] w fun e w' => ∃ v', e = .returned v' ∧ AtRow w.heap.size v' l w' ∧ Below w.heap.size w w' := by
  obtain ⟨a, c, rfl, ha⟩ := own_attrs h
  rcases ha with ⟨rfl, rfl⟩ | ⟨g, rfl, hgl, hc⟩
  · refine (cloneAttrs_nil c w).mono ?_
    rintro e w' ⟨rfl, hb⟩
    exact ⟨_, rfl, World.ownsRow_nil _ _ _ _, hb⟩
  · exact cloneAttrs_go g c l w (.inr ⟨g, rfl, hgl, hc⟩) hl hs
end Go.Proofs.YtfjhljhgmbhklaaGreatDoor
/-
  Package tree's end and finish. Condition: Kind's contract; the stack's height, the nodes' number are bounded.
-/
namespace Go.Proofs.YtfjhljhgmbhklaaGreatDoor
open Go.RowKit
theorem BdU.stpost {B b g cap : Nat} {cs : Array Value} {ns : List NdM} {st st' : List Opn} {bs : List UInt8} {w w' : World} (h : BdU B b cs g cap ns st bs w) (hp : StPost B b 1 cs 89 st' w w') (hB : B ≤ w.heap.size) : (∃ cs', BdU B b cs' g cap ns st' bs w') ∧ Below B w w' := by
  obtain ⟨⟨h1, h2, h3, h4, v, h5, h6⟩, htv, htr, _, hpos⟩ := h
  obtain ⟨cs', hs', hbut, hch⟩ := hp
  refine ⟨⟨cs', ⟨hs'.1, hbut.1.trans h2, h3, ?_, v, (hbut.2 3 (by decide)).trans h5, own_blocksF h6 (fun q cq fr hq => hch.blocks q _ hq (fun e => ?_) (.inr fun c2 f2 e => ?_))⟩, (hbut.2 0 (by decide)).trans htv, htr.schg h1 hch, hs', hpos⟩, hch.low h3 hB⟩
  · rw [hbut.2 2 (by decide)]
    exact h4
  · subst e
    rw [h1] at hq
    injection hq with hq
    injection hq with _ hq _
    exact absurd hq (by decide)
  · injection e with _ e _
    exact absurd e (by decide)
def bendPost (B b g cap : Nat) (ns : List NdM) (st : List Opn) (bs : List UInt8) (nm : List UInt8) (w : World) (e : Ending) (w' : World) : Prop :=
  Below B w w' ∧ if kindL nm = 0 then e = .returned (.int .i64 50)
  else match closeE nm st with
    | some st' => e = .returned (.int .i64 0) ∧ ∃ cs', BdU B b cs' g cap ns st' bs w'
    | none => e = .returned (.int .i64 51)
set_option maxHeartbeats 2000000 in
set_option maxRecDepth 100000 in
theorem bend_any (hK : KindC) {B b g cap : Nat} {cs : Array Value} {ns : List NdM} {st : List Opn} {bs : List UInt8} {w : World} (h : BdU B b cs g cap ns st bs w) (nm : ByteArray) (hst : st.length ≤ 10000) (hs : nm.size ≤ 1000000000) (hne : sl nm ≠ []) (hB : B ≤ w.heap.size) :
    Calls Tryz.prog 54 #[.pointer (some ⟨b, 0, none⟩), .string nm] w (bendPost B b g cap ns st bs (sl nm) w) := by
  have hk := hid_mk (hK nm w hs)
  have hce := hid_mk (fun w' (hb : Below w.heap.size w w') => closeForEnd_st hK nm (h.below hb).2.2.2.1 hst hs hne)
  have H := hid_mk (And.intro h hB)
  obtain ⟨k, hkk⟩ : ∃ k, k = kindL (sl nm) := ⟨_, rfl⟩
  rw [← hkk] at hk
  have HKK := hid_mk hkk
  clear h hB hkk hs hne
  go_enter Tryz.func54, Tryz.ntmps54
  go_wp2_with fail
  (with_reducible refine hk.out.mono ?_)
  rintro e w1 ⟨rfl, hb1⟩
  have H1 := hid_mk hb1
  clear hb1
  by_cases hk0 : k = 0
  · have hq : ((k : Int) == 0) = true := by rw [hk0]; rfl
    have hqn : (k == 0) = true := by rw [hk0]; rfl
    have HK0 := hid_mk hk0
    clear hk0
    go_wp2_with fail
    go_ret
    refine ⟨H1.out.mono H.out.2, ?_⟩
    rw [if_pos (HKK.out.symm.trans HK0.out)]
    rfl
  · have hq : ((k : Int) == 0) = false := beq_false_of_ne (by omega)
    have hqn : (k == 0) = false := beq_false_of_ne hk0
    have HK0 := hid_mk hk0
    clear hk0
    go_wp2_with fail
    (with_reducible refine (hce.out _ H1.out).mono ?_)
    intro e w2 hp
    unfold EndPost at hp
    cases hc : closeE (sl nm) st with
    | some st' =>
      rw [hc] at hp
      obtain ⟨rfl, hp⟩ := hp
      have HF := hid_mk ((H.out.1.below H1.out).stpost hp (Nat.le_trans H.out.2 H1.out.size))
      have HC := hid_mk hc
      clear hp hc
      go_wp2_with fail
      go_ret
      refine ⟨(H1.out.mono H.out.2).trans HF.out.2, ?_⟩
      rw [if_neg (fun e => HK0.out (HKK.out.trans e)), HC.out]
      exact ⟨rfl, HF.out.1⟩
    | none =>
      rw [hc] at hp
      obtain ⟨rfl, st', hp⟩ := hp
      have HF := hid_mk ((H.out.1.below H1.out).stpost hp (Nat.le_trans H.out.2 H1.out.size))
      have HC := hid_mk hc
      clear hp hc
      go_wp2_with fail
      go_ret
      refine ⟨(H1.out.mono H.out.2).trans HF.out.2, ?_⟩
      rw [if_neg (fun e => HK0.out (HKK.out.trans e)), HC.out]
      rfl
set_option maxHeartbeats 2000000 in
set_option maxRecDepth 100000 in
theorem finish_any {B b g cap : Nat} {cs : Array Value} {ns : List NdM} {st : List Opn} {bs : List UInt8} {w : World} (h : BdU B b cs g cap ns st bs w) (hn : ns.length ≤ 1000000) (p : NdM) (hp : ns[ns.length - 1]? = some p) (h2 : p.1.kind = 2 → bs ≠ []) :
    Calls Tryz.prog 33 #[.pointer (some ⟨b, 0, none⟩)] w fun e w' => e = .returned (.slice (some ⟨g, 0, none⟩) ns.length cap) ∧ Below B w w' ∧ TreeRow B (.slice (some ⟨g, 0, none⟩) ns.length cap) (endNs ns bs p) w' := by
  have he := hid_mk (endText_any h hn p hp h2)
  obtain ⟨n, hnn⟩ : ∃ n, n = ns.length := ⟨_, rfl⟩
  rw [← hnn]
  have HN := hid_mk hnn
  clear h hn hp h2 hnn
  go_enter Tryz.func33, Tryz.ntmps33
  go_wp2_with fail
  (with_reducible refine he.out.mono ?_)
  rintro e w1 ⟨rfl, hlow, hke, hif⟩
  have hx : ∃ cs1, BdU B b cs1 g cap (endNs ns bs p) st (endBs bs p) w1 := by
    unfold endNs endBs
    by_cases hk : p.1.kind = 2
    · rw [if_pos hk] at hif
      rw [if_pos hk, if_pos hk]
      exact hif
    · rw [if_neg hk] at hif
      rw [if_neg hk, if_neg hk]
      exact ⟨cs, hif⟩
  obtain ⟨cs1, hd, htv, htr, _⟩ := hx
  rw [endNs_length, ← HN.out] at htv htr
  have c0 : w1.cell? ⟨b, 0, none⟩ = some (.slice (some ⟨g, 0, none⟩) n cap) := by rw [cell_of_row w1 b 0 _ _ _ hd.1]; exact htv
  have HF := hid_mk (And.intro hlow htr)
  clear hlow hke hif hd htv htr
  go_wp2_with fail
  go_ret
  exact ⟨rfl, HF.out⟩
end Go.Proofs.YtfjhljhgmbhklaaGreatDoor
/-
  Package tree's newStack and newBuilder. No condition.
-/
namespace Go.Proofs.YtfjhljhgmbhklaaGreatDoor
open Go.RowKit
theorem newStack_any (w : World) :
    Calls Tryz.prog 51 #[] w fun e w' => e = .returned (.slice (some ⟨w.heap.size, 0, none⟩) 1 1) ∧ w' = w.alloc (.cells #[.int .i64 0, .string ⟨#[]⟩, .int .u8 0] 114 (0, 0)) := by
  go_enter Tryz.func51, Tryz.ntmps51
  go_wp2_with fail
  go_ret
  exact ⟨rfl, rfl⟩
theorem own_fresh {w : World} {base size g : Nat} {e : TypeId} {cs : Array Value} (h : w.heap[g]? = some (.cells cs e (0, 0))) (hb : base ≤ g) (hs : cs.size = size) : w.ownsRow base e size (.slice (some ⟨g, 0, none⟩) 1 1) 1 cs.toList := by
  refine ⟨by simp [hs], .inr ⟨g, 1, cs, rfl, hb, h, Nat.le_refl _, by unfold maxLen; omega, by omega, ?_⟩⟩
  rw [List.take_of_length_le (by simp [hs])]
set_option maxHeartbeats 1000000 in
set_option maxRecDepth 100000 in
theorem newBuilder_any (w : World) :
    Calls Tryz.prog 31 #[] w fun e w' => ∃ b g cs, e = .returned (.pointer (some ⟨b, 0, none⟩)) ∧ Below w.heap.size w w' ∧ BdU w.heap.size b cs g 1 [(⟨0, [], [], [], -1, []⟩, .slice none 0 0, .slice none 0 0)] [] [] w' := by
  go_enter Tryz.func31, Tryz.ntmps31
  go_wp2_with fail
  (with_reducible refine (newStack_any _).mono ?_)
  rintro e w1 ⟨rfl, rfl⟩
  go_wp2_with fail
  go_ret
  generalize hO1 : Obj.cells #[.int .u8 0, .string ⟨#[]⟩, .slice none 0 0, .string ⟨#[]⟩, .int .i64 (-1), .slice none 0 0] 38 (0, 0) = O1
  generalize hO2 : Obj.cells #[.int .i64 0, .string ⟨#[]⟩, .int .u8 0] 114 (0, 0) = O2
  generalize hO3 : Obj.cells #[.slice (some ⟨w.heap.size, 0, none⟩) 1 1, .slice (some ⟨w.heap.size + 1, 0, none⟩) 1 1, .pointer none, .slice none 0 0] 89 (0, 0) = O3
  obtain ⟨w1, h1⟩ : ∃ w1, w1 = w.alloc O1 := ⟨_, rfl⟩
  rw [← h1]
  obtain ⟨w2, h2⟩ : ∃ w2, w2 = w1.alloc O2 := ⟨_, rfl⟩
  rw [← h2]
  obtain ⟨w3, h3⟩ : ∃ w3, w3 = w2.alloc O3 := ⟨_, rfl⟩
  rw [← h3]
  have s1 : w1.heap.size = w.heap.size + 1 := by rw [h1]; simp
  have s2 : w2.heap.size = w.heap.size + 1 + 1 := by rw [h2, ← s1]; simp
  have b1 : Below w.heap.size w w1 := by rw [h1]; exact (Below.refl _ _).alloc (Nat.le_refl _) _
  have b2 : Below w1.heap.size w1 w2 := by rw [h2]; exact (Below.refl _ _).alloc (Nat.le_refl _) _
  have b3 : Below w2.heap.size w2 w3 := by rw [h3]; exact (Below.refl _ _).alloc (Nat.le_refl _) _
  have n1 : w1.heap[w.heap.size]? = some O1 := by rw [h1]; exact heap_alloc_new w O1
  have n2 : w2.heap[w.heap.size + 1]? = some O2 := by rw [h2, ← s1]; exact heap_alloc_new w1 O2
  have n3 : w3.heap[w.heap.size + 1 + 1]? = some O3 := by rw [h3, ← s2]; exact heap_alloc_new w2 O3
  have n2' : w3.heap[w.heap.size + 1]? = some O2 := (b3.block _ (by omega)).trans n2
  have n1' : w3.heap[w.heap.size]? = some O1 := (b3.block _ (by omega)).trans ((b2.block _ (by omega)).trans n1)
  rw [← hO1] at n1'
  rw [← hO2] at n2'
  rw [← hO3] at n3
  refine ⟨w.heap.size + 1 + 1, w.heap.size, _, rfl, b1.trans ((b2.mono b1.size).trans (b3.mono (Nat.le_trans b1.size b2.size))), ⟨n3, rfl, by omega, .inl rfl, _, rfl, ⟨rfl, .inl ⟨rfl, rfl⟩⟩⟩, rfl, ⟨?_, ?_, ?_, ?_⟩, ⟨n3, by decide, by omega, _, rfl, ?_⟩, by decide⟩
  · exact own_fresh n1' (Nat.le_refl _) rfl
  · intro p hp
    rw [List.mem_singleton.1 hp]
    exact World.ownsRow_nil _ _ _ _
  · intro p hp
    rw [List.mem_singleton.1 hp]
    exact World.ownsRow_nil _ _ _ _
  · exact List.pairwise_singleton ..
  · exact own_fresh n2' (by omega) rfl
end Go.Proofs.YtfjhljhgmbhklaaGreatDoor
