/-
  Package tree's take. Condition: Kind's contract; what is bounded.
-/
import Derived.Test.YtfjhljhgmbhklaaGreatDoorBSta
namespace Go.Proofs.YtfjhljhgmbhklaaGreatDoor
open Go.RowKit
def tokO (t : Tk) (av : Value) : Obj := .cells (tkCells t av) 25 (0, 0)
def takePost (B b g cap : Nat) (ns : List NdM) (st : List Opn) (bs : List UInt8) (p : NdM) (t : Tk) (first : Bool) (w w1 : World) (e : Ending) (w' : World) : Prop :=
  if t.kind = 5 then e = .returned (.int .i64 (if first then 0 else 51)) ∧ Below w.heap.size w w'
  else if t.kind = 3 then textPost B b ns st bs t.data p w1 e w'
  else if t.kind = 1 then startPost B b ns st bs p t w1 e w'
  else if t.kind = 2 then bendPost B b g cap ns st bs t.name w1 e w'
  else e = .returned (.int .i64 0) ∧ Below w.heap.size w w'
theorem textPost.ret {B b : Nat} {ns : List NdM} {st : List Opn} {bs d : List UInt8} {p : NdM} {w : World} {e : Ending} {w' : World} (h : textPost B b ns st bs d p w e w') : ∃ r : Int, e = .returned (.int .i64 r) := by
  unfold textPost at h
  split at h
  · exact ⟨_, h.1⟩
  · split at h
    · exact ⟨_, h.1⟩
    · split at h
      · exact ⟨_, h.1⟩
      · exact ⟨_, h.1⟩
theorem startPost.ret {B b : Nat} {ns : List NdM} {st : List Opn} {bs : List UInt8} {p : NdM} {t : Tk} {w : World} {e : Ending} {w' : World} (h : startPost B b ns st bs p t w e w') : ∃ r : Int, e = .returned (.int .i64 r) := by
  unfold startPost at h
  have h := h.2
  split at h
  · exact ⟨_, h⟩
  · split at h
    · exact ⟨_, h⟩
    · split at h
      · exact ⟨_, h⟩
      · split at h
        · exact ⟨_, h⟩
        · split at h
          · exact ⟨_, h⟩
          · exact ⟨_, h.1⟩
theorem bendPost.ret {B b g cap : Nat} {ns : List NdM} {st : List Opn} {bs nm : List UInt8} {w : World} {e : Ending} {w' : World} (h : bendPost B b g cap ns st bs nm w e w') : ∃ r : Int, e = .returned (.int .i64 r) := by
  unfold bendPost at h
  have h := h.2
  split at h
  · exact ⟨_, h⟩
  · split at h
    · exact ⟨_, h.1⟩
    · exact ⟨_, h⟩
set_option maxHeartbeats 4000000 in
set_option maxRecDepth 100000 in
theorem btake_any (hK : KindC) {B b g cap : Nat} {cs : Array Value} {ns : List NdM} {st : List Opn} {bs : List UInt8} {w : World} (h : BdU B b cs g cap ns st bs w) (hn : ns.length ≤ 16384) (p : NdM) (hp : ns[ns.length - 1]? = some p) (h2 : p.1.kind = 2 → bs ≠ []) (h2n : p.1.kind ≠ 2 → bs = []) (hst : st.length ≤ 10000) (hup : ∀ o ∈ st, o.node < ns.length) (hks : ∀ q ∈ ns, q.1.kids.length ≤ 16384)
    (t : Tk) (B0 : Nat) (av : Value) (first : Bool) (hav : AtRow B0 av t.attrs w) (hsm : bs.length + t.data.length ≤ 1000000000) (hsn : t.name.length ≤ 1000000000) (hne : t.kind = 2 → t.name ≠ []) (hal : t.attrs.length ≤ 100000) (has : ∀ a ∈ t.attrs, a.1.length ≤ 1000000000 ∧ a.2.length ≤ 1000000000) (hB : B ≤ w.heap.size) :
    Calls Tryz.prog 32 #[.pointer (some ⟨b, 0, none⟩), .agg (tkCells t av), .bool first] w (takePost B b g cap ns st bs p t first w (w.alloc (tokO t av))) := by
  obtain ⟨aa, ac, rfl⟩ := own_slice hav
  have hal0 : Below w.heap.size w (w.alloc (tokO t (.slice aa t.attrs.length ac))) := (Below.refl _ _).alloc (Nat.le_refl _) _
  have hbu := h.below hal0
  have hav0 := hav.below hal0
  have hB0 := Nat.le_trans hB hal0.size
  have hup0 : (topO st).node < ns.length := topO_lt hup (by obtain ⟨_, _, _, _, hps⟩ := h; exact hps)
  have htx := hid_mk (btext_any hbu hn p hp h2 h2n hst hup0 hks t.data hsm hB0)
  have hstt := hid_mk (start_any hK hbu hn p hp h2 hst hup hks t B0 _ hav0 hsn hal has hB0)
  have hen := hid_mk (fun hk2 : t.kind = 2 => bend_any hK hbu (strOf t.name) hst (by rw [size_strOf]; exact hsn) (by rw [sl_strOf]; exact hne hk2) hB0)
  rw [sl_strOf] at hen
  have HA := hid_mk hal0
  unfold tokO at htx hstt hen HA
  unfold tokO
  unfold tkCells at htx hstt hen HA ⊢
  obtain ⟨k, hk⟩ : ∃ k, k = t.kind := ⟨_, rfl⟩
  rw [← hk] at htx hstt hen HA ⊢
  have HK := hid_mk hk
  clear h hn hp h2 h2n hst hup hks hav hsm hsn hne hal has hB hal0 hbu hav0 hB0 hup0 hk
  by_cases h5 : k = 5
  · have q5 : ((k : Int) == 5) = true := by rw [h5]; rfl
    have HP := hid_mk h5
    clear h5 htx hstt hen
    cases first
    all_goals
      go_enter Tryz.func32, Tryz.ntmps32
      go_wp2_with fail
      go_ret
      unfold takePost
      rw [← HK.out, if_pos HP.out]
      exact ⟨rfl, HA.out⟩
  · have q5 : ((k : Int) == 5) = false := beq_false_of_ne (by omega)
    by_cases h3 : k = 3
    · have q3 : ((k : Int) == 3) = true := by rw [h3]; rfl
      have HP := hid_mk (And.intro h5 h3)
      clear h5 h3 hstt hen
      go_enter Tryz.func32, Tryz.ntmps32
      go_wp2_with fail
      (with_reducible refine htx.out.mono ?_)
      intro e w1 hpost
      obtain ⟨r, rfl⟩ := hpost.ret
      have HX := hid_mk hpost
      clear hpost
      go_wp2_with fail
      go_ret
      unfold takePost
      rw [← HK.out, if_neg HP.out.1, if_pos HP.out.2]
      exact HX.out
    · have q3 : ((k : Int) == 3) = false := beq_false_of_ne (by omega)
      by_cases h1 : k = 1
      · have q1 : ((k : Int) == 1) = true := by rw [h1]; rfl
        have HP := hid_mk (And.intro h5 (And.intro h3 h1))
        clear h5 h3 h1 htx hen
        go_enter Tryz.func32, Tryz.ntmps32
        go_wp2_with fail
        (with_reducible refine hstt.out.mono ?_)
        intro e w1 hpost
        obtain ⟨r, rfl⟩ := hpost.ret
        have HX := hid_mk hpost
        clear hpost
        go_wp2_with fail
        go_ret
        unfold takePost
        rw [← HK.out, if_neg HP.out.1, if_neg HP.out.2.1, if_pos HP.out.2.2]
        exact HX.out
      · have q1 : ((k : Int) == 1) = false := beq_false_of_ne (by omega)
        by_cases h2 : k = 2
        · have q2 : ((k : Int) == 2) = true := by rw [h2]; rfl
          have HP := hid_mk (And.intro h5 (And.intro h3 (And.intro h1 h2)))
          have hen := hid_mk (hen.out h2)
          clear h5 h3 h1 h2 htx hstt
          go_enter Tryz.func32, Tryz.ntmps32
          go_wp2_with fail
          (with_reducible refine hen.out.mono ?_)
          intro e w1 hpost
          obtain ⟨r, rfl⟩ := hpost.ret
          have HX := hid_mk hpost
          clear hpost
          go_wp2_with fail
          go_ret
          unfold takePost
          rw [← HK.out, if_neg HP.out.1, if_neg HP.out.2.1, if_neg HP.out.2.2.1, if_pos HP.out.2.2.2]
          exact HX.out
        · have q2 : ((k : Int) == 2) = false := beq_false_of_ne (by omega)
          have HP := hid_mk (And.intro h5 (And.intro h3 (And.intro h1 h2)))
          clear h5 h3 h1 h2 htx hstt hen
          go_enter Tryz.func32, Tryz.ntmps32
          go_wp2_with fail
          go_ret
          unfold takePost
          rw [← HK.out, if_neg HP.out.1, if_neg HP.out.2.1, if_neg HP.out.2.2.1, if_neg HP.out.2.2.2]
          exact ⟨rfl, HA.out⟩
end Go.Proofs.YtfjhljhgmbhklaaGreatDoor
/-
  Package tree's builder, as it lies and plain: what add and the last text's end come to. No Go in sight but the values beside the nodes.
-/
namespace Go.Proofs.YtfjhljhgmbhklaaGreatDoor
theorem kidN_map (ns : List NdM) (up k : Nat) (kv : Value) : (kidN ns up kv k).map (·.1) = addKid (ns.map (·.1)) up k := by
  apply List.ext_getElem?
  intro i
  unfold kidN addKid
  rw [List.getElem?_map, List.getElem?_modify, List.getElem?_modify, List.getElem?_map]
  split <;> cases ns[i]? <;> rfl
theorem endN_snoc (l : List NdM) (q : NdM) (d : List UInt8) : endN (l ++ [q]) d = l ++ [({ q.1 with data := d }, q.2)] := by
  unfold endN
  apply List.ext_getElem?
  intro i
  rw [List.getElem?_modify, List.length_append, List.length_singleton, Nat.add_sub_cancel]
  by_cases e : l.length = i
  · subst e
    simp
  · by_cases h : i < l.length
    · rw [List.getElem?_append_left h, List.getElem?_append_left h]
      cases l[i]? <;> simp [e]
    · rw [List.getElem?_eq_none (by simp; omega), List.getElem?_eq_none (by simp; omega)]
      rfl
theorem endN_map (ns : List NdM) (d : List UInt8) : (endN ns d).map (·.1) = (ns.map (·.1)).modify (ns.length - 1) fun n => { n with data := d } := by
  apply List.ext_getElem?
  intro i
  unfold endN
  rw [List.getElem?_map, List.getElem?_modify, List.getElem?_modify, List.getElem?_map]
  split <;> cases ns[i]? <;> rfl
/-- The plain tree of what lies there: the last text with its bytes. -/
def plN (ns : List NdM) (bs : List UInt8) (p : NdM) : List Nd := (endNs ns bs p).map (·.1)
theorem plN_length (ns : List NdM) (bs : List UInt8) (p : NdM) : (plN ns bs p).length = ns.length := by unfold plN; rw [List.length_map, endNs_length]
/-- A node more that is no text. -/
theorem plN_add {ns : List NdM} {bs bs' : List UInt8} {p q : NdM} {up : Nat} {kv : Value} (hq : q.1.kind ≠ 2) :
    plN (kidN (endNs ns bs p) up kv ns.length ++ [q]) bs' q = addKid (plN ns bs p) up (plN ns bs p).length ++ [q.1] := by
  rw [plN_length]
  unfold plN
  rw [show endNs (kidN (endNs ns bs p) up kv ns.length ++ [q]) bs' q = kidN (endNs ns bs p) up kv ns.length ++ [q] from if_neg hq, List.map_append, kidN_map]
  rfl
/-- A text more. -/
theorem plN_text {ns : List NdM} {bs d : List UInt8} {p q : NdM} {up : Nat} {kv : Value} (hq : q.1.kind = 2) :
    plN (kidN (endNs ns bs p) up kv ns.length ++ [q]) d q = addKid (plN ns bs p) up (plN ns bs p).length ++ [{ q.1 with data := d }] := by
  rw [plN_length]
  unfold plN
  rw [show endNs (kidN (endNs ns bs p) up kv ns.length ++ [q]) d q = endN (kidN (endNs ns bs p) up kv ns.length ++ [q]) d from if_pos hq, endN_snoc, List.map_append, kidN_map]
  rfl
/-- The last text grows. -/
theorem plN_grow {ns : List NdM} {bs d : List UInt8} {p : NdM} (hp : p.1.kind = 2) :
    plN ns (bs ++ d) p = (plN ns bs p).modify ((plN ns bs p).length - 1) fun n => { n with data := n.data ++ d } := by
  rw [plN_length]
  unfold plN
  rw [show endNs ns (bs ++ d) p = endN ns (bs ++ d) from if_pos hp, show endNs ns bs p = endN ns bs from if_pos hp, endN_map, endN_map]
  apply List.ext_getElem?
  intro i
  rw [List.getElem?_modify, List.getElem?_modify, List.getElem?_modify]
  by_cases e : ns.length - 1 = i
  · cases (List.map (fun x => x.1) ns)[i]? <;> simp [e]
  · cases (List.map (fun x => x.1) ns)[i]? <;> simp [e]
end Go.Proofs.YtfjhljhgmbhklaaGreatDoor
/-
  Package tree's builder, token by token: as it lies and plain stay together. No condition but that what comes is bounded.
-/
namespace Go.Proofs.YtfjhljhgmbhklaaGreatDoor
open Go.RowKit
/-- The builder in block b is the plain one; n bounds the last text's bytes. -/
def BInv (B b : Nat) (bd : Bd) (n : Nat) (ns : List NdM) (bs : List UInt8) (p : NdM) (w : World) : Prop :=
  BdM B b ns bd.opn bs w ∧ bd.tree = plN ns bs p ∧ ns[ns.length - 1]? = some p ∧ (p.1.kind = 2 → bs ≠ []) ∧ (p.1.kind ≠ 2 → bs = []) ∧ bd.opn.length ≤ 200 ∧ (∀ o ∈ bd.opn, o.node < ns.length) ∧ ns.length ≤ 16384 ∧ (∀ q ∈ ns, q.1.kids.length ≤ ns.length) ∧ bs.length ≤ n ∧ B ≤ w.heap.size
theorem plN_last {ns : List NdM} {bs : List UInt8} {p : NdM} (hp : ns[ns.length - 1]? = some p) (d : Nd) : ((plN ns bs p).getLastD d).kind = p.1.kind ∧ ((plN ns bs p).getLastD d).up = p.1.up := by
  have hne : ns ≠ [] := by rintro rfl; simp at hp
  have hl : (plN ns bs p).getLastD d = ((plN ns bs p)[(plN ns bs p).length - 1]?).getD d := by
    rw [List.getLastD_eq_getLast?, List.getLast?_eq_getElem?]
  rw [hl, plN_length]
  unfold plN
  rw [List.getElem?_map]
  unfold endNs
  split
  · unfold endN
    rw [List.getElem?_modify, hp]
    simp
  · rw [hp]
    exact ⟨rfl, rfl⟩
theorem kidN_length (ns : List NdM) (up : Nat) (kv : Value) (k : Nat) : (kidN ns up kv k).length = ns.length := by unfold kidN; rw [List.length_modify]
theorem kids_next {ns : List NdM} {bs : List UInt8} {p q : NdM} {up : Nat} {kv : Value} (h : ∀ r ∈ ns, r.1.kids.length ≤ ns.length) (hq : q.1.kids = []) :
    ∀ r ∈ kidN (endNs ns bs p) up kv ns.length ++ [q], r.1.kids.length ≤ (kidN (endNs ns bs p) up kv ns.length ++ [q]).length := by
  intro r hr
  rw [List.length_append, kidN_length, endNs_length]
  rw [List.mem_append] at hr
  rcases hr with hr | hr
  · have h1 : ∀ r ∈ endNs ns bs p, r.1.kids.length ≤ ns.length := by
      unfold endNs endN
      intro r hr
      split at hr
      · obtain ⟨i, hi⟩ := List.mem_iff_getElem?.1 hr
        rw [List.getElem?_modify] at hi
        cases hx : ns[i]? with
        | none => rw [hx] at hi; split at hi <;> cases hi
        | some x =>
          rw [hx] at hi
          have := h x (List.mem_of_getElem? hx)
          split at hi
          · obtain rfl := Option.some.inj (show some _ = some r from hi)
            exact this
          · obtain rfl := Option.some.inj (show some _ = some r from hi)
            exact this
      · exact h r hr
    unfold kidN at hr
    obtain ⟨i, hi⟩ := List.mem_iff_getElem?.1 hr
    rw [List.getElem?_modify] at hi
    cases hx : (endNs ns bs p)[i]? with
    | none => rw [hx] at hi; split at hi <;> cases hi
    | some x =>
      rw [hx] at hi
      have := h1 x (List.mem_of_getElem? hx)
      split at hi
      · obtain rfl := Option.some.inj (show some _ = some r from hi)
        simp
        omega
      · obtain rfl := Option.some.inj (show some _ = some r from hi)
        simp
        omega
  · rw [List.mem_singleton.1 hr, hq]
    simp
theorem BInv.below {B b n : Nat} {bd : Bd} {ns : List NdM} {bs : List UInt8} {p : NdM} {w w' : World} (h : BInv B b bd n ns bs p w) (hb : Below w.heap.size w w') : BInv B b bd n ns bs p w' := by
  obtain ⟨h0, h⟩ := h
  refine ⟨?_, h.1, h.2.1, h.2.2.1, h.2.2.2.1, h.2.2.2.2.1, h.2.2.2.2.2.1, h.2.2.2.2.2.2.1, h.2.2.2.2.2.2.2.1, h.2.2.2.2.2.2.2.2.1, Nat.le_trans h.2.2.2.2.2.2.2.2.2 hb.size⟩
  obtain ⟨cs, g, cap, hu⟩ := h0.un
  exact (hu.below hb).pack
theorem BInv.more {B b n m : Nat} {bd : Bd} {ns : List NdM} {bs : List UInt8} {p : NdM} {w : World} (h : BInv B b bd n ns bs p w) (hm : n ≤ m) : BInv B b bd m ns bs p w :=
  ⟨h.1, h.2.1, h.2.2.1, h.2.2.2.1, h.2.2.2.2.1, h.2.2.2.2.2.1, h.2.2.2.2.2.2.1, h.2.2.2.2.2.2.2.1, h.2.2.2.2.2.2.2.2.1, Nat.le_trans h.2.2.2.2.2.2.2.2.2.1 hm, h.2.2.2.2.2.2.2.2.2.2⟩
theorem last_snoc {α : Type} (l : List α) (a : α) : (l ++ [a])[(l ++ [a]).length - 1]? = some a := by
  rw [List.length_append, List.length_singleton, Nat.add_sub_cancel]
  simp
theorem closeE_suffix {nm : List UInt8} {st st' : List Opn} (h : closeE nm st = some st') : (∀ o ∈ st', o ∈ st) ∧ st'.length ≤ st.length := by
  unfold closeE at h
  have h1 := List.dropWhile_suffix (l := st) fun o => endsToo (kindL nm) o.kind
  generalize (st.dropWhile fun o => endsToo (kindL nm) o.kind) = s1 at *
  have h : (if ((topO s1).name == nm) = true then some s1.tail else none) = some st' := h
  split at h
  · injection h with h
    subst h
    refine ⟨fun o ho => h1.subset (List.mem_of_mem_tail ho), ?_⟩
    have := h1.length_le
    rw [List.length_tail]
    omega
  · cases h
/-- What a token's step leaves. -/
def StepR (B b : Nat) (bd : Bd) (n : Nat) (t : Tk) (first : Bool) (w : World) (e : Ending) (w' : World) : Prop :=
  e = .returned (.int .i64 ((takeB bd t first).1 : Int)) ∧ Below B w w' ∧ ((takeB bd t first).1 = 0 → ∃ ns bs p, BInv B b (takeB bd t first).2 (n + t.data.length) ns bs p w')
theorem BInv.text {B b n : Nat} {bd : Bd} {ns : List NdM} {bs d : List UInt8} {p : NdM} {w : World} {e : Ending} {w' : World} (h : BInv B b bd n ns bs p w) (hp : textPost B b ns bd.opn bs d p w e w') :
    e = .returned (.int .i64 ((textB bd d).1 : Int)) ∧ Below B w w' ∧ ((textB bd d).1 = 0 → ∃ ns bs p, BInv B b (textB bd d).2 (n + d.length) ns bs p w') := by
  have hB := h.2.2.2.2.2.2.2.2.2.2
  have hlast := plN_last (bs := bs) h.2.2.1 ⟨0, [], [], [], -1, []⟩
  rw [← h.2.1] at hlast
  have hlen : bd.tree.length = ns.length := by rw [h.2.1, plN_length]
  unfold textPost at hp
  unfold textB
  by_cases hd : d = []
  · rw [if_pos hd] at hp ⊢
    obtain ⟨rfl, hb⟩ := hp
    exact ⟨rfl, hb.mono hB, fun _ => ⟨ns, bs, p, (h.below hb).more (by omega)⟩⟩
  · rw [if_neg hd] at hp ⊢
    rw [hlast.1, hlast.2]
    by_cases hk : p.1.kind = 2 ∧ p.1.up = ((topO bd.opn).node : Int)
    · rw [if_pos hk] at hp
      rw [if_pos (by rw [hk.1, hk.2]; simp)]
      obtain ⟨rfl, hb, hm⟩ := hp
      refine ⟨rfl, hb, fun _ => ⟨ns, bs ++ d, p, hm, ?_, h.2.2.1, fun _ => by simp [hd], fun hx => absurd hk.1 hx, h.2.2.2.2.2.1, h.2.2.2.2.2.2.1, h.2.2.2.2.2.2.2.1, h.2.2.2.2.2.2.2.2.1, ?_, Nat.le_trans hB hb.size⟩⟩
      · rw [plN_grow hk.1, h.2.1]
      · rw [List.length_append]
        have := h.2.2.2.2.2.2.2.2.2.1
        omega
    · rw [if_neg hk] at hp
      rw [if_neg (by rw [Bool.and_eq_true, beq_iff_eq, beq_iff_eq]; exact hk)]
      unfold addN
      rw [hlen]
      by_cases hn : 16384 ≤ ns.length
      · rw [if_pos hn] at hp ⊢
        obtain ⟨rfl, hb⟩ := hp
        exact ⟨rfl, hb.mono hB, fun h0 => Nat.noConfusion h0⟩
      · rw [if_neg hn] at hp ⊢
        obtain ⟨rfl, hb, kv, hm⟩ := hp
        refine ⟨rfl, hb, fun _ => ⟨_, d, _, hm, ?_, last_snoc _ _, fun _ => hd, fun hx => absurd rfl hx, h.2.2.2.2.2.1, ?_, ?_, kids_next h.2.2.2.2.2.2.2.2.1 rfl, by omega, Nat.le_trans hB hb.size⟩⟩
        · rw [plN_text rfl]
          show addKid bd.tree _ _ ++ _ = _
          rw [h.2.1, plN_length]
        · intro o ho
          have := h.2.2.2.2.2.2.1 o ho
          rw [List.length_append, kidN_length, endNs_length]
          simp
          omega
        · rw [List.length_append, kidN_length, endNs_length]
          simp
          omega
theorem BInv.start {B b n : Nat} {bd : Bd} {ns : List NdM} {bs : List UInt8} {p : NdM} {t : Tk} {w : World} {e : Ending} {w' : World} (h : BInv B b bd n ns bs p w) (hp : startPost B b ns bd.opn bs p t w e w') :
    e = .returned (.int .i64 ((startB bd t).1 : Int)) ∧ Below B w w' ∧ ((startB bd t).1 = 0 → ∃ ns bs p, BInv B b (startB bd t).2 n ns bs p w') := by
  have hB := h.2.2.2.2.2.2.2.2.2.2
  have hlen : bd.tree.length = ns.length := by rw [h.2.1, plN_length]
  unfold startPost at hp
  unfold startB
  obtain ⟨hb, hp⟩ := hp
  by_cases h0 : kindL t.name = 0
  · rw [if_pos h0] at hp ⊢
    exact ⟨hp, hb, fun hx => Nat.noConfusion hx⟩
  rw [if_neg h0] at hp ⊢
  by_cases h1 : (t.self && !voidK (kindL t.name)) = true
  · rw [if_pos h1] at hp ⊢
    exact ⟨hp, hb, fun hx => Nat.noConfusion hx⟩
  rw [if_neg h1] at hp ⊢
  by_cases h2 : admitsO (kindL t.name) (closeS (kindL t.name) bd.opn) = false
  · rw [if_pos h2] at hp
    rw [if_pos (by rw [h2]; rfl)]
    exact ⟨hp, hb, fun hx => Nat.noConfusion hx⟩
  rw [if_neg h2] at hp
  rw [if_neg (by simpa using h2)]
  by_cases h3 : 200 ≤ (closeS (kindL t.name) bd.opn).length
  · rw [if_pos h3] at hp ⊢
    exact ⟨hp, hb, fun hx => Nat.noConfusion hx⟩
  rw [if_neg h3] at hp ⊢
  unfold addN
  simp only [hlen]
  by_cases h4 : 16384 ≤ ns.length
  · rw [if_pos h4] at hp ⊢
    exact ⟨hp, hb, fun hx => Nat.noConfusion hx⟩
  rw [if_neg h4] at hp ⊢
  obtain ⟨rfl, kv, av, hm⟩ := hp
  have hcl := closeS_length (kindL t.name) bd.opn
  have hend : endBs bs p = [] := by
    unfold endBs
    split
    · rfl
    · rename_i hx
      exact h.2.2.2.2.1 hx
  have hop : (if voidK (kindL t.name) = true then (⟨addKid bd.tree (topO (closeS (kindL t.name) bd.opn)).node ns.length ++ [({ (⟨1, t.name, t.attrs, [], 0, []⟩ : Nd) with up := ((topO (closeS (kindL t.name) bd.opn)).node : Int) } : Nd)], closeS (kindL t.name) bd.opn⟩ : Bd)
      else ⟨addKid bd.tree (topO (closeS (kindL t.name) bd.opn)).node ns.length ++ [({ (⟨1, t.name, t.attrs, [], 0, []⟩ : Nd) with up := ((topO (closeS (kindL t.name) bd.opn)).node : Int) } : Nd)], ⟨ns.length, t.name, kindL t.name⟩ :: closeS (kindL t.name) bd.opn⟩).opn =
      (if voidK (kindL t.name) = true then closeS (kindL t.name) bd.opn else ⟨ns.length, t.name, kindL t.name⟩ :: closeS (kindL t.name) bd.opn) := by
    split <;> rfl
  have htr : (if voidK (kindL t.name) = true then (⟨addKid bd.tree (topO (closeS (kindL t.name) bd.opn)).node ns.length ++ [({ (⟨1, t.name, t.attrs, [], 0, []⟩ : Nd) with up := ((topO (closeS (kindL t.name) bd.opn)).node : Int) } : Nd)], closeS (kindL t.name) bd.opn⟩ : Bd)
      else ⟨addKid bd.tree (topO (closeS (kindL t.name) bd.opn)).node ns.length ++ [({ (⟨1, t.name, t.attrs, [], 0, []⟩ : Nd) with up := ((topO (closeS (kindL t.name) bd.opn)).node : Int) } : Nd)], ⟨ns.length, t.name, kindL t.name⟩ :: closeS (kindL t.name) bd.opn⟩).tree =
      addKid bd.tree (topO (closeS (kindL t.name) bd.opn)).node ns.length ++ [(⟨1, t.name, t.attrs, [], ((topO (closeS (kindL t.name) bd.opn)).node : Int), []⟩ : Nd)] := by
    split <;> rfl
  refine ⟨rfl, hb, fun _ => ⟨kidN (endNs ns bs p) (topO (closeS (kindL t.name) bd.opn)).node kv ns.length ++ [(⟨1, t.name, t.attrs, [], ((topO (closeS (kindL t.name) bd.opn)).node : Int), []⟩, av, .slice none 0 0)], [], (⟨1, t.name, t.attrs, [], ((topO (closeS (kindL t.name) bd.opn)).node : Int), []⟩, av, .slice none 0 0), ?_, ?_, last_snoc _ _, fun hx => absurd (show (1 : Nat) = 2 from hx) (by decide), fun _ => rfl, ?_, ?_, ?_, kids_next h.2.2.2.2.2.2.2.2.1 rfl, Nat.zero_le _, Nat.le_trans hB hb.size⟩⟩
  · show BdM B b _ _ [] w'
    rw [hend] at hm
    exact hop ▸ hm
  · show (_ : List Nd) = _
    rw [plN_add (show (1 : Nat) ≠ 2 by decide), plN_length, ← h.2.1]
    exact htr
  · show (_ : List Opn).length ≤ 200
    have hle : ∀ (x y : List Opn), x = y → y.length ≤ 200 → x.length ≤ 200 := fun x y e h => by rw [e]; exact h
    refine hle _ _ hop ?_
    split
    · omega
    · simp
      omega
  · intro o ho
    have ho : o ∈ (if voidK (kindL t.name) = true then closeS (kindL t.name) bd.opn else ⟨ns.length, t.name, kindL t.name⟩ :: closeS (kindL t.name) bd.opn) := hop ▸ ho
    rw [List.length_append, kidN_length, endNs_length]
    have hcm : ∀ o ∈ closeS (kindL t.name) bd.opn, o.node < ns.length := fun o ho => h.2.2.2.2.2.2.1 o (closeS_mem ho)
    split at ho
    · have := hcm o ho
      simp
      omega
    · rw [List.mem_cons] at ho
      rcases ho with rfl | ho
      · simp
      · have := hcm o ho
        simp
        omega
  · rw [List.length_append, kidN_length, endNs_length]
    simp
    omega
theorem BInv.ends {B b n g cap : Nat} {bd : Bd} {ns : List NdM} {bs nm : List UInt8} {p : NdM} {w : World} {e : Ending} {w' : World} (h : BInv B b bd n ns bs p w) (hp : bendPost B b g cap ns bd.opn bs nm w e w') :
    e = .returned (.int .i64 ((endB bd nm).1 : Int)) ∧ Below B w w' ∧ ((endB bd nm).1 = 0 → ∃ ns bs p, BInv B b (endB bd nm).2 n ns bs p w') := by
  have hB := h.2.2.2.2.2.2.2.2.2.2
  unfold bendPost at hp
  unfold endB
  obtain ⟨hb, hp⟩ := hp
  by_cases h0 : kindL nm = 0
  · rw [if_pos h0] at hp ⊢
    exact ⟨hp, hb, fun hx => Nat.noConfusion hx⟩
  rw [if_neg h0] at hp ⊢
  cases hc : closeE nm bd.opn with
  | none =>
    rw [hc] at hp
    exact ⟨hp, hb, fun hx => Nat.noConfusion hx⟩
  | some st' =>
    rw [hc] at hp
    obtain ⟨rfl, cs', hm⟩ := hp
    obtain ⟨hs1, hs2⟩ := closeE_suffix hc
    refine ⟨rfl, hb, fun _ => ⟨ns, bs, p, hm.pack, h.2.1, h.2.2.1, h.2.2.2.1, h.2.2.2.2.1, ?_, fun o ho => h.2.2.2.2.2.2.1 o (hs1 o ho), h.2.2.2.2.2.2.2.1, h.2.2.2.2.2.2.2.2.1, h.2.2.2.2.2.2.2.2.2.1, Nat.le_trans hB hb.size⟩⟩
    have := h.2.2.2.2.2.1
    show st'.length ≤ 200
    omega
theorem BInv.step {B b n g cap : Nat} {bd : Bd} {ns : List NdM} {bs : List UInt8} {p : NdM} {t : Tk} {av : Value} {first : Bool} {w : World} {e : Ending} {w' : World} (h : BInv B b bd n ns bs p w) (hp : takePost B b g cap ns bd.opn bs p t first w (w.alloc (tokO t av)) e w') : StepR B b bd n t first w e w' := by
  have hB := h.2.2.2.2.2.2.2.2.2.2
  have hal : Below w.heap.size w (w.alloc (tokO t av)) := (Below.refl _ _).alloc (Nat.le_refl _) _
  have h' := h.below hal
  unfold takePost at hp
  unfold StepR takeB
  by_cases h5 : t.kind = 5
  · rw [if_pos h5] at hp ⊢
    obtain ⟨rfl, hb⟩ := hp
    cases first with
    | true => exact ⟨rfl, hb.mono hB, fun _ => ⟨ns, bs, p, (h.below hb).more (by omega)⟩⟩
    | false => exact ⟨rfl, hb.mono hB, fun hx => Nat.noConfusion hx⟩
  rw [if_neg h5] at hp ⊢
  by_cases h3 : t.kind = 3
  · rw [if_pos h3] at hp ⊢
    obtain ⟨a, b, c⟩ := h'.text hp
    exact ⟨a, (hal.mono hB).trans b, c⟩
  rw [if_neg h3] at hp ⊢
  by_cases h1 : t.kind = 1
  · rw [if_pos h1] at hp ⊢
    obtain ⟨a, b, c⟩ := h'.start hp
    exact ⟨a, (hal.mono hB).trans b, fun h0 => by obtain ⟨x, y, z, q⟩ := c h0; exact ⟨x, y, z, q.more (by omega)⟩⟩
  rw [if_neg h1] at hp ⊢
  by_cases h2 : t.kind = 2
  · rw [if_pos h2] at hp ⊢
    obtain ⟨a, b, c⟩ := h'.ends hp
    exact ⟨a, (hal.mono hB).trans b, fun h0 => by obtain ⟨x, y, z, q⟩ := c h0; exact ⟨x, y, z, q.more (by omega)⟩⟩
  rw [if_neg h2] at hp ⊢
  obtain ⟨rfl, hb⟩ := hp
  exact ⟨rfl, hb.mono hB, fun _ => ⟨ns, bs, p, (h.below hb).more (by omega)⟩⟩
end Go.Proofs.YtfjhljhgmbhklaaGreatDoor
