/-
  Package serial's Serialize. Conditions: sizes are bounded; the world holds Go's own tables.
-/
import Derived.Test.YtlcijlklbabajaaGreatDoorQSNod
import Derived.Test.YtlcijlklbabajaaGreatDoorQRKSU
import Derived.Test.YtlcijlklbabajaaGreatDoorQRR67
namespace Go.Proofs.YtlcijlklbabajaaGreatDoor.R.Pg
open Go.RowKit
def pageX (ts : List Nx) : Pst := nodeF ts ts.length ([], false) 0
def serialX (ts : List Nx) : List UInt8 × Nat := if rightX ts then (if (pageX ts).2 then ([], 3) else ((pageX ts).1, 0)) else ([], 53)
theorem page_new (w : World) : PageM w.heap.size w.heap.size ([], false) (w.alloc (.cells #[.pointer none, .slice none 0 0, .bool false] 80 (0, 0))) :=
 ⟨_, ⟨heap_alloc_new w _, rfl, Nat.le_refl _, .inl rfl, .slice none 0 0, rfl, ⟨rfl, .inl ⟨rfl, rfl⟩⟩⟩, rfl, Nat.zero_le _⟩
set_option maxHeartbeats 2000000 in
set_option maxRecDepth 100000 in
theorem serialize_any (a : Option Addr) (c : Nat) (ns : List NxM) (w : World) (hT : TabV w) (h : HasTree w a ns) (hl : ns.length ≤ 1000000000) (hok : ∀ p ∈ ns, NxOk p.1 ∧ p.1.kids.length ≤ 1000000000 ∧ p.1.attrs.length ≤ 1000000) :
 Calls Tryz.prog 28 #[.slice a ns.length c] w fun e w' => e = .returned (.tuple #[.string (strOf (serialX (ns.map (·.1))).1), .int .i64 ((serialX (ns.map (·.1))).2 : Int)]) ∧ Below w.heap.size w w' := by
 have hr := hid_mk (right_any a c ns w hT h hl (fun p hp => ⟨(hok p hp).1, (hok p hp).2.1⟩))
 obtain ⟨R, hR⟩ : ∃ R, R = rightX (ns.map (·.1)) := ⟨_, rfl⟩
 obtain ⟨Z, hZ⟩ : ∃ Z, Z = serialX (ns.map (·.1)) := ⟨_, rfl⟩
 have HZ := hid_mk (show Z = if R then (if (pageX (ns.map (·.1))).2 then ([], 3) else ((pageX (ns.map (·.1))).1, 0)) else ([], 53) by rw [hZ, hR]; rfl)
 unfold rightN at hr
 rw [← hR] at hr
 rw [← hZ]
 have H := hid_mk (And.intro h (And.intro hok hR))
 clear hZ hT h hl hok hR
 cases R with
 | false =>
   have hF : Z = ([], 53) := HZ.out
   have HF := hid_mk hF
   clear hF
   go_enter Tryz.func28, Tryz.ntmps28
   go_wp2_with fail
   with_reducible refine hr.out.mono ?_
   rintro e1 w1 ⟨rfl, hb1⟩
   go_wp2_with fail
   go_ret2
   rw [HF.out]
   exact ⟨rfl, hb1⟩
 | true =>
   have hne : 0 < ns.length := by
    cases ns with
    | nil => exact absurd H.out.2.2 (by decide)
    | cons => simp
   obtain ⟨x, hx, hxx⟩ := H.out.1.cell hne
   clear hxx
   subst hx
   have HOK := hid_mk (show TreeOk ns from ⟨fun p hp => (H.out.2.1 p hp).1, fun p hp => (H.out.2.1 p hp).2.1, fun p hp => (H.out.2.1 p hp).2.2, fun i hi k hk => by
    have := kids_up (t := ns.map (·.1)) H.out.2.2.symm (u := i) (by rw [List.length_map]; exact hi) k (by
     unfold kidsAt
     rw [List.getD_eq_getElem?_getD, List.getElem?_map, List.getElem?_eq_getElem hi]
     exact hk)
    rw [List.length_map] at this
    exact this⟩)
   have HNE := hid_mk hne
   have HP := hid_mk (show pageX (ns.map (·.1)) = nodeF (ns.map (·.1)) ns.length ([], false) 0 by unfold pageX; rw [List.length_map])
   obtain ⟨P, hP⟩ : ∃ P, P = pageX (ns.map (·.1)) := ⟨_, rfl⟩
   rw [← hP] at HZ HP
   clear hP hne
   go_enter Tryz.func28, Tryz.ntmps28
   go_wp2_with fail
   with_reducible refine hr.out.mono ?_
   rintro e1 w1 ⟨rfl, hb1⟩
   have HW := hid_mk (writeTree_any (c := c) rfl (H.out.1.below hb1) HOK.out HNE.out ([], false) _ (page_new w1) ((Below.refl _ _).alloc (Nat.le_refl _) _))
   have HB1 := hid_mk hb1
   clear hb1
   go_wp2_with fail
   with_reducible refine HW.out.mono ?_
   rintro e2 w2 ⟨rfl, hp2, hd2⟩
   rw [← HP.out] at hp2
   have c2 := hp2.cell
   have hb2 : Below w1.heap.size w1 w2 := ((Below.refl _ _).alloc (Nat.le_refl _) _).trans (hd2.low (Nat.le_refl _) (by rw [show (w1.alloc _).heap.size = _ from Array.size_push _]; exact Nat.le_succ _))
   have HB2 := hid_mk (HB1.out.trans (hb2.mono HB1.out.size))
   have HP2 := hid_mk hp2
   have HSZ := hid_mk (show w.heap.size ≤ w1.heap.size from HB1.out.size)
   clear hp2 hd2 hb2
   cases hf : P.2 with
   | true =>
     have hF : Z = ([], 3) := by rw [HZ.out, hf]; rfl
     have HF := hid_mk hF
     rw [hf] at c2
     clear hF hf
     go_wp2_with fail
     go_ret2
     rw [HF.out]
     exact ⟨rfl, HB2.out⟩
   | false =>
     have hF : Z = (P.1, 0) := by rw [HZ.out, hf]; rfl
     have HF := hid_mk hF
     rw [hf] at c2
     have HS := hid_mk (string_page HP2.out)
     clear hF hf
     go_wp2_with fail
     with_reducible refine HS.out.mono ?_
     rintro e3 w3 ⟨rfl, hd3⟩
     have hb3 := hd3.low (Nat.le_refl _) (Nat.le_of_lt HP2.out.at.2)
     have HB3 := hid_mk (HB2.out.trans (hb3.mono HSZ.out))
     clear hd3 hb3
     go_wp2_with fail
     go_ret2
     rw [HF.out]
     exact ⟨rfl, HB3.out⟩
end Go.Proofs.YtlcijlklbabajaaGreatDoor.R.Pg
namespace Go.Proofs.YtlcijlklbabajaaGreatDoor.R.Pg
open Go.RowKit
def wTree : List Nx := [⟨0, [], [], [], -1, [1, 3]⟩, ⟨1, [112], [([99, 108, 97, 115, 115], [120, 34, 121])], [], 0, [2]⟩, ⟨2, [], [], [49, 32, 62, 32, 48], 1, []⟩, ⟨1, [98, 114], [], [], 0, []⟩]
def wDoc : List UInt8 := [60, 112, 32, 99, 108, 97, 115, 115, 61, 34, 120, 38, 113, 117, 111, 116, 59, 121, 34, 62, 49, 32, 38, 103, 116, 59, 32, 48, 60, 47, 112, 62, 60, 98, 114, 62]
set_option maxRecDepth 100000 in
theorem wSerial : serialX wTree = (wDoc, 0) := by decide +kernel
set_option maxRecDepth 100000 in
theorem wEsc : escL false [97, 32, 60, 32, 98, 32, 38, 32, 99] = [97, 32, 38, 108, 116, 59, 32, 98, 32, 38, 97, 109, 112, 59, 32, 99] := by decide +kernel
def wNs (s : Nat) : List NxM := [(⟨0, [], [], [], -1, [1, 3]⟩, .slice none 0 0, .slice (some ⟨s, 0, none⟩) 2 2), (⟨1, [112], [([99, 108, 97, 115, 115], [120, 34, 121])], [], 0, [2]⟩, .slice (some ⟨s + 1, 0, none⟩) 1 1, .slice (some ⟨s + 1 + 1, 0, none⟩) 1 1), (⟨2, [], [], [49, 32, 62, 32, 48], 1, []⟩, .slice none 0 0, .slice none 0 0), (⟨1, [98, 114], [], [], 0, []⟩, .slice none 0 0, .slice none 0 0)]
def wCells (s : Nat) : Array Value := ((wNs s).flatMap nxF).toArray
theorem row_of {w : World} {g : Nat} {C : Array Value} {T : TypeId} {fr : Nat × Nat} {l : List Value} (h : w.heap[g]? = some (.cells C T fr)) (hl : C.toList = l) : HasRow w (some ⟨g, 0, none⟩) l := by
 refine .inr ⟨_, rfl, (Array.getElem?_eq_some_iff.1 h).1, fun j u hu => ?_⟩
 rw [show (⟨g, 0, none⟩ : Addr).add j = ⟨g, j, none⟩ by cases j <;> simp [Addr.add], cell_of_row w g j _ _ _ h, ← hu, ← hl, Array.getElem?_toList]
theorem wHas {w : World} {s : Nat} (h0 : w.heap[s]? = some (.cells #[.int .i64 1, .int .i64 3] 3 (0, 0))) (h1 : w.heap[s + 1]? = some (.cells #[.string ⟨#[99, 108, 97, 115, 115]⟩, .string ⟨#[120, 34, 121]⟩] 40 (0, 0))) (h2 : w.heap[s + 1 + 1]? = some (.cells #[.int .i64 2] 3 (0, 0))) (h3 : w.heap[s + 1 + 1 + 1]? = some (.cells (wCells s) 38 (0, 0))) : HasTree w (some ⟨s + 1 + 1 + 1, 0, none⟩) (wNs s) := by
 refine ⟨row_of h3 rfl, ?_, ?_⟩
 ·intro p hp
  simp only [wNs, List.mem_cons, List.not_mem_nil, or_false] at hp
  rcases hp with rfl | rfl | rfl | rfl
  ·exact ⟨none, 0, rfl, Nat.le_refl _, .inl rfl⟩
  ·exact ⟨_, 1, rfl, Nat.le_refl _, row_of h1 rfl⟩
  ·exact ⟨none, 0, rfl, Nat.le_refl _, .inl rfl⟩
  ·exact ⟨none, 0, rfl, Nat.le_refl _, .inl rfl⟩
 ·intro p hp
  simp only [wNs, List.mem_cons, List.not_mem_nil, or_false] at hp
  rcases hp with rfl | rfl | rfl | rfl
  ·exact ⟨_, 2, rfl, row_of h0 rfl⟩
  ·exact ⟨_, 1, rfl, row_of h2 rfl⟩
  ·exact ⟨none, 0, rfl, .inl rfl⟩
  ·exact ⟨none, 0, rfl, .inl rfl⟩
theorem wOk (s : Nat) : ∀ p ∈ wNs s, NxOk p.1 ∧ p.1.kids.length ≤ 1000000000 ∧ p.1.attrs.length ≤ 1000000 := by
 intro p hp
 simp only [wNs, List.mem_cons, List.not_mem_nil, or_false] at hp
 unfold NxOk
 rcases hp with rfl | rfl | rfl | rfl <;> simp
set_option maxHeartbeats 4000000 in
set_option maxRecDepth 100000 in
theorem works_any (w : World) (hT : TabV w) :
 Calls Tryz.prog 27 #[] w fun e w' => e = .returned (.bool true) ∧ Below w.heap.size w w' := by
 have HT := hid_mk hT
 clear hT
 go_enter Tryz.func27, Tryz.ntmps27
 go_wp2_with fail
 obtain ⟨o0, h0⟩ : ∃ o, o = Obj.cells #[.int .i64 1, .int .i64 3] 3 (0, 0) := ⟨_, rfl⟩
 obtain ⟨o1, h1⟩ : ∃ o, o = Obj.cells #[.string ⟨#[99, 108, 97, 115, 115]⟩, .string ⟨#[120, 34, 121]⟩] 40 (0, 0) := ⟨_, rfl⟩
 obtain ⟨o2, h2⟩ : ∃ o, o = Obj.cells #[.int .i64 2] 3 (0, 0) := ⟨_, rfl⟩
 obtain ⟨o3, h3⟩ : ∃ o, o = Obj.cells (wCells w.heap.size) 38 (0, 0) := ⟨_, rfl⟩
 have h3' : o3 = Obj.cells #[.int .u8 0, .string ⟨#[]⟩, .slice none 0 0, .string ⟨#[]⟩, .int .i64 (-1), .slice (some ⟨w.heap.size, 0, none⟩) 2 2, .int .u8 1, .string ⟨#[112]⟩, .slice (some ⟨w.heap.size + 1, 0, none⟩) 1 1, .string ⟨#[]⟩, .int .i64 0, .slice (some ⟨w.heap.size + 1 + 1, 0, none⟩) 1 1, .int .u8 2, .string ⟨#[]⟩, .slice none 0 0, .string ⟨#[49, 32, 62, 32, 48]⟩, .int .i64 1, .slice none 0 0, .int .u8 1, .string ⟨#[98, 114]⟩, .slice none 0 0, .string ⟨#[]⟩, .int .i64 0, .slice none 0 0] 38 (0, 0) := h3
 have hwl : ∃ W, W = (((w.alloc o0).alloc o1).alloc o2).alloc o3 := ⟨_, rfl⟩
 obtain ⟨W, hW⟩ := hwl
 have z1 : (w.alloc o0).heap.size = w.heap.size + 1 := Array.size_push _
 have z2 : ((w.alloc o0).alloc o1).heap.size = w.heap.size + 1 + 1 := (Array.size_push _).trans (congrArg (· + 1) z1)
 have z3 : (((w.alloc o0).alloc o1).alloc o2).heap.size = w.heap.size + 1 + 1 + 1 := (Array.size_push _).trans (congrArg (· + 1) z2)
 have hb : Below w.heap.size w W := by rw [hW]; exact ((((Below.refl _ _).alloc (Nat.le_refl _) o0).alloc (by omega) o1).alloc (by omega) o2).alloc (by omega) o3
 have n0 : (w.alloc o0).heap[w.heap.size]? = some o0 := heap_alloc_new _ _
 have n1 : ((w.alloc o0).alloc o1).heap[w.heap.size + 1]? = some o1 := by rw [← z1]; exact heap_alloc_new _ _
 have n2 : (((w.alloc o0).alloc o1).alloc o2).heap[w.heap.size + 1 + 1]? = some o2 := by rw [← z2]; exact heap_alloc_new _ _
 have n3 : ((((w.alloc o0).alloc o1).alloc o2).alloc o3).heap[w.heap.size + 1 + 1 + 1]? = some o3 := by rw [← z3]; exact heap_alloc_new _ _
 have hh : HasTree W (some ⟨w.heap.size + 1 + 1 + 1, 0, none⟩) (wNs w.heap.size) := by
  rw [hW]
  exact wHas (by rw [Below.heap_alloc _ _ _ (by omega), Below.heap_alloc _ _ _ (by omega), Below.heap_alloc _ _ _ (by omega), n0, h0]) (by rw [Below.heap_alloc _ _ _ (by omega), Below.heap_alloc _ _ _ (by omega), n1, h1]) (by rw [Below.heap_alloc _ _ _ (by omega), n2, h2]) (by rw [n3, h3])
 have hs := serialize_any (some ⟨w.heap.size + 1 + 1 + 1, 0, none⟩) 4 (wNs w.heap.size) W (HT.out.below hb) hh (by simp [wNs]) (wOk _)
 rw [show (wNs w.heap.size).map (·.1) = wTree from rfl, wSerial, show (wNs w.heap.size).length = 4 from rfl] at hs
 have HS := hid_mk hs
 have HB := hid_mk hb
 rw [← h0, ← h1, ← h2, ← h3', ← hW]
 clear h0 h1 h2 h3 h3' z1 z2 z3 hb n0 n1 n2 n3 hh hs hW
 with_reducible refine HS.out.mono ?_
 rintro e1 w1 ⟨rfl, hb1⟩
 have HB1 := hid_mk (HB.out.trans (hb1.mono HB.out.size))
 clear hb1
 have he := escapeText_any ⟨#[97, 32, 60, 32, 98, 32, 38, 32, 99]⟩ (by decide) w1
 rw [show sl ⟨#[97, 32, 60, 32, 98, 32, 38, 32, 99]⟩ = [97, 32, 60, 32, 98, 32, 38, 32, 99] from rfl, wEsc] at he
 have HE := hid_mk he
 clear he
 rw [show strOf (wDoc, 0).1 = (⟨#[60, 112, 32, 99, 108, 97, 115, 115, 61, 34, 120, 38, 113, 117, 111, 116, 59, 121, 34, 62, 49, 32, 38, 103, 116, 59, 32, 48, 60, 47, 112, 62, 60, 98, 114, 62]⟩ : ByteArray) from rfl, show (((wDoc, 0) : List UInt8 × Nat).2 : Int) = 0 from rfl]
 go_wp2_with fail
 with_reducible refine HE.out.mono ?_
 rintro e2 w2 ⟨rfl, hb2⟩
 have HB2 := hid_mk (HB1.out.trans (hb2.mono HB1.out.size))
 clear hb2
 rw [show strOf [97, 32, 38, 108, 116, 59, 32, 98, 32, 38, 97, 109, 112, 59, 32, 99] = (⟨#[97, 32, 38, 108, 116, 59, 32, 98, 32, 38, 97, 109, 112, 59, 32, 99]⟩ : ByteArray) from rfl]
 go_wp2_with fail
 go_ret
 exact ⟨rfl, HB2.out⟩
end Go.Proofs.YtlcijlklbabajaaGreatDoor.R.Pg
