/-
  works of the laws of layer 6: true. Condition: the world holds Go's own tables.
-/
import Derived.Test.YtnooofnlbfhopaaDoorSSer
namespace Go.Proofs.YtnooofnlbfhopaaDoor.Pg
open Go.RowKit
def wTree : List Nx := [⟨0, [], [], [], -1, [1, 3]⟩, ⟨1, [112], [([99, 108, 97, 115, 115], [120, 34, 121])], [], 0, [2]⟩, ⟨2, [], [], [49, 32, 62, 32, 48], 1, []⟩, ⟨1, [98, 114], [], [], 0, []⟩]
def wDoc : List UInt8 := [60, 112, 32, 99, 108, 97, 115, 115, 61, 34, 120, 38, 113, 117, 111, 116, 59, 121, 34, 62, 49, 32, 38, 103, 116, 59, 32, 48, 60, 47, 112, 62, 60, 98, 114, 62]
set_option maxRecDepth 100000 in
theorem wSerial : serialX wTree = (wDoc, 0) := by decide +kernel
set_option maxRecDepth 100000 in
theorem wEsc : escL false [97, 32, 60, 32, 98, 32, 38, 32, 99] = [97, 32, 38, 108, 116, 59, 32, 98, 32, 38, 97, 109, 112, 59, 32, 99] := by decide +kernel
def wNs (s : Nat) : List NxM := [(⟨0, [], [], [], -1, [1, 3]⟩, .slice none 0 0, .slice (some ⟨s, 0, none⟩) 2 2), (⟨1, [112], [([99, 108, 97, 115, 115], [120, 34, 121])], [], 0, [2]⟩, .slice (some ⟨s + 1, 0, none⟩) 1 1, .slice (some ⟨s + 1 + 1, 0, none⟩) 1 1), (⟨2, [], [], [49, 32, 62, 32, 48], 1, []⟩, .slice none 0 0, .slice none 0 0), (⟨1, [98, 114], [], [], 0, []⟩, .slice none 0 0, .slice none 0 0)]
def wCells (s : Nat) : Array Value := ((wNs s).flatMap nxF).toArray
theorem row_of {w : World} {g : Nat} {C : Array Value} {T : TypeId} {fr : Nat × Nat} {l : List Value} (h : w.heap[g]? = some (.cells C T fr)) (hl : C.toList = l) : HasRow w (some ⟨g, 0, none⟩) l := by
  refine .inr ⟨_, rfl, (Array.getElem?_eq_some_iff.1 h).1, fun j u hu => ?_⟩
  rw [show (⟨g, 0, none⟩ : Addr).add j = ⟨g, j, none⟩ by cases j <;> simp [Addr.add], cell_of_row w g j _ _ _ h, ← hu, ← hl, Array.getElem?_toList]
theorem wHas {w : World} {s : Nat} (h0 : w.heap[s]? = some (.cells #[.int .i64 1, .int .i64 3] 3 (0, 0))) (h1 : w.heap[s + 1]? = some (.cells #[.string ⟨#[99, 108, 97, 115, 115]⟩, .string ⟨#[120, 34, 121]⟩] 35 (0, 0))) (h2 : w.heap[s + 1 + 1]? = some (.cells #[.int .i64 2] 3 (0, 0))) (h3 : w.heap[s + 1 + 1 + 1]? = some (.cells (wCells s) 33 (0, 0))) : HasTree w (some ⟨s + 1 + 1 + 1, 0, none⟩) (wNs s) := by
  refine ⟨row_of h3 rfl, ?_, ?_⟩
  · intro p hp
    simp only [wNs, List.mem_cons, List.not_mem_nil, or_false] at hp
    rcases hp with rfl | rfl | rfl | rfl
    · exact ⟨none, 0, rfl, Nat.le_refl _, .inl rfl⟩
    · exact ⟨_, 1, rfl, Nat.le_refl _, row_of h1 rfl⟩
    · exact ⟨none, 0, rfl, Nat.le_refl _, .inl rfl⟩
    · exact ⟨none, 0, rfl, Nat.le_refl _, .inl rfl⟩
  · intro p hp
    simp only [wNs, List.mem_cons, List.not_mem_nil, or_false] at hp
    rcases hp with rfl | rfl | rfl | rfl
    · exact ⟨_, 2, rfl, row_of h0 rfl⟩
    · exact ⟨_, 1, rfl, row_of h2 rfl⟩
    · exact ⟨none, 0, rfl, .inl rfl⟩
    · exact ⟨none, 0, rfl, .inl rfl⟩
theorem wOk (s : Nat) : ∀ p ∈ wNs s, NxOk p.1 ∧ p.1.kids.length ≤ 1000000000 ∧ p.1.attrs.length ≤ 1000000 := by
  intro p hp
  simp only [wNs, List.mem_cons, List.not_mem_nil, or_false] at hp
  unfold NxOk
  rcases hp with rfl | rfl | rfl | rfl <;> simp
set_option maxHeartbeats 4000000 in
set_option maxRecDepth 100000 in
theorem works_any (w : World) (hT : TabV w) :
    Calls Tryd.prog 10 #[] w fun e w' => e = .returned (.bool true) ∧ Below w.heap.size w w' := by
  have HT := hid_mk hT
  clear hT
  go_enter Tryd.func10, Tryd.ntmps10
  go_wp2_with fail
  obtain ⟨o0, h0⟩ : ∃ o, o = Obj.cells #[.int .i64 1, .int .i64 3] 3 (0, 0) := ⟨_, rfl⟩
  obtain ⟨o1, h1⟩ : ∃ o, o = Obj.cells #[.string ⟨#[99, 108, 97, 115, 115]⟩, .string ⟨#[120, 34, 121]⟩] 35 (0, 0) := ⟨_, rfl⟩
  obtain ⟨o2, h2⟩ : ∃ o, o = Obj.cells #[.int .i64 2] 3 (0, 0) := ⟨_, rfl⟩
  obtain ⟨o3, h3⟩ : ∃ o, o = Obj.cells (wCells w.heap.size) 33 (0, 0) := ⟨_, rfl⟩
  have h3' : o3 = Obj.cells #[.int .u8 0, .string ⟨#[]⟩, .slice none 0 0, .string ⟨#[]⟩, .int .i64 (-1), .slice (some ⟨w.heap.size, 0, none⟩) 2 2, .int .u8 1, .string ⟨#[112]⟩, .slice (some ⟨w.heap.size + 1, 0, none⟩) 1 1, .string ⟨#[]⟩, .int .i64 0, .slice (some ⟨w.heap.size + 1 + 1, 0, none⟩) 1 1, .int .u8 2, .string ⟨#[]⟩, .slice none 0 0, .string ⟨#[49, 32, 62, 32, 48]⟩, .int .i64 1, .slice none 0 0, .int .u8 1, .string ⟨#[98, 114]⟩, .slice none 0 0, .string ⟨#[]⟩, .int .i64 0, .slice none 0 0] 33 (0, 0) := h3
  have hwl : ∃ W, W = (((w.alloc o0).alloc o1).alloc o2).alloc o3 := ⟨_, rfl⟩
  obtain ⟨W, hW⟩ := hwl
  have z1 : (w.alloc o0).heap.size = w.heap.size + 1 := Array.size_push _
  have z2 : ((w.alloc o0).alloc o1).heap.size = w.heap.size + 1 + 1 := (Array.size_push _).trans (congrArg (· + 1) z1)
  have z3 : (((w.alloc o0).alloc o1).alloc o2).heap.size = w.heap.size + 1 + 1 + 1 := (Array.size_push _).trans (congrArg (· + 1) z2)
  have hb : Below w.heap.size w W := by rw [hW]; exact ((((Below.refl _ _).alloc (Nat.le_refl _) o0).alloc (by omega) o1).alloc (by omega) o2).alloc (by omega) o3
  have n0 : (w.alloc o0).heap[w.heap.size]? = some o0 := heap_alloc_new _ _
  have n1 : ((w.alloc o0).alloc o1).heap[w.heap.size + 1]? = some o1 := by rw [← z1]; exact heap_alloc_new _ _
  have n2 : (((w.alloc o0).alloc o1).alloc o2).heap[w.heap.size + 1 + 1]? = some o2 := by rw [← z2]; exact heap_alloc_new _ _
  have n3 : ((((w.alloc o0).alloc o1).alloc o2).alloc o3).heap[w.heap.size + 1 + 1 + 1]? = some o3 := by rw [← z3]; exact heap_alloc_new _ _
  have hh : HasTree W (some ⟨w.heap.size + 1 + 1 + 1, 0, none⟩) (wNs w.heap.size) := by
    rw [hW]
    exact wHas (by rw [Below.heap_alloc _ _ _ (by omega), Below.heap_alloc _ _ _ (by omega), Below.heap_alloc _ _ _ (by omega), n0, h0]) (by rw [Below.heap_alloc _ _ _ (by omega), Below.heap_alloc _ _ _ (by omega), n1, h1]) (by rw [Below.heap_alloc _ _ _ (by omega), n2, h2]) (by rw [n3, h3])
  have hs := serialize_any (some ⟨w.heap.size + 1 + 1 + 1, 0, none⟩) 4 (wNs w.heap.size) W (HT.out.below hb) hh (by simp [wNs]) (wOk _)
  rw [show (wNs w.heap.size).map (·.1) = wTree from rfl, wSerial, show (wNs w.heap.size).length = 4 from rfl] at hs
  have HS := hid_mk hs
  have HB := hid_mk hb
  rw [← h0, ← h1, ← h2, ← h3', ← hW]
  clear h0 h1 h2 h3 h3' z1 z2 z3 hb n0 n1 n2 n3 hh hs hW
  with_reducible refine HS.out.mono ?_
  rintro e1 w1 ⟨rfl, hb1⟩
  have HB1 := hid_mk (HB.out.trans (hb1.mono HB.out.size))
  clear hb1
  have he := escapeText_any ⟨#[97, 32, 60, 32, 98, 32, 38, 32, 99]⟩ (by decide) w1
  rw [show sl ⟨#[97, 32, 60, 32, 98, 32, 38, 32, 99]⟩ = [97, 32, 60, 32, 98, 32, 38, 32, 99] from rfl, wEsc] at he
  have HE := hid_mk he
  clear he
  rw [show strOf (wDoc, 0).1 = (⟨#[60, 112, 32, 99, 108, 97, 115, 115, 61, 34, 120, 38, 113, 117, 111, 116, 59, 121, 34, 62, 49, 32, 38, 103, 116, 59, 32, 48, 60, 47, 112, 62, 60, 98, 114, 62]⟩ : ByteArray) from rfl, show (((wDoc, 0) : List UInt8 × Nat).2 : Int) = 0 from rfl]
  go_wp2_with fail
  with_reducible refine HE.out.mono ?_
  rintro e2 w2 ⟨rfl, hb2⟩
  have HB2 := hid_mk (HB1.out.trans (hb2.mono HB1.out.size))
  clear hb2
  rw [show strOf [97, 32, 38, 108, 116, 59, 32, 98, 32, 38, 97, 109, 112, 59, 32, 99] = (⟨#[97, 32, 38, 108, 116, 59, 32, 98, 32, 38, 97, 109, 112, 59, 32, 99]⟩ : ByteArray) from rfl]
  go_wp2_with fail
  go_ret
  exact ⟨rfl, HB2.out⟩
end Go.Proofs.YtnooofnlbfhopaaDoor.Pg
