/-
  The law of layer 6 about what was parsed and is serialized, as the row has its bytes. Condition: the world holds what TabV and Tab say.
-/
import Derived.Test.YtcbfbbobcmdbaaaGreatDoorSLawA
import Derived.ChangeArms
import Derived.Lib.AtoiErrMem
import Derived.OpenShut
import Derived.ProofKit
namespace Go.Proofs.YtcbfbbobcmdbaaaGreatDoor
open Go.RowKit
def IsRow (k : IntKind) (w : World) (a : Option Addr) (len cap : Nat) (zs : List Int) : Prop :=
  (a = none ∧ len = 0 ∧ cap = 0 ∧ zs = []) ∨
  ∃ x, a = some x ∧ len ≤ cap ∧ cap ≤ maxLen ∧ zs.length = cap ∧ (∀ i, i < zs.length → w.cell? (x.add i) = some (.int k (zs.getD i 0))) ∧ ∀ n ∈ zs, (Lit.int k n).wf = true
theorem cell_block {w : World} {x : Addr} {v : Value} (h : w.cell? x = some v) : x.block < w.heap.size := by
  rcases Nat.lt_or_ge x.block w.heap.size with h' | h'
  · exact h'
  · simp [World.cell?, Array.getElem?_eq_none h'] at h
theorem row_bytes {w : World} {a : Option Addr} {len cap : Nat} {zs : List Int} (h : IsRow .u8 w a len cap zs) : ∃ bs : List UInt8, bs.length = len ∧ HasBytes w a bs := by
  rcases h with ⟨rfl, rfl, _, rfl⟩ | ⟨x, rfl, h1, _, h2, h3, h4⟩
  · exact ⟨[], rfl, .inl ⟨rfl, rfl⟩⟩
  · refine ⟨(zs.take len).map (fun z => z.toNat.toUInt8), by rw [List.length_map, List.length_take]; omega, .inr ⟨x, rfl, fun h0 => ?_, fun j u hu => ?_⟩⟩
    · rw [List.length_map, List.length_take] at h0
      have := cell_block (h3 0 (by omega))
      rw [addr_block] at this
      exact this
    · have hj := (List.getElem?_eq_some_iff.1 hu).1
      rw [Lib.byteCells_length, List.length_map, List.length_take] at hj
      have hjz : j < zs.length := by omega
      rw [h3 j hjz, ← hu]
      have hb := bounds_u8 (h4 _ (List.getElem_mem hjz))
      have hz : ((zs[j].toNat.toUInt8.toNat : Nat) : Int) = zs[j] := by
        rw [show zs[j].toNat.toUInt8.toNat = zs[j].toNat % 256 from by simp]
        omega
      unfold Lib.byteCells
      rw [List.getElem?_map, List.getElem?_map, List.getElem?_take, if_pos (by omega), List.getElem?_eq_getElem hjz]
      simp only [Option.map_some]
      rw [hz]
      simp [List.getD, hjz]
theorem serialAgain_c (a : Option Addr) (len cap : Nat) (z : List Int) (w : World) (h : IsRow .u8 w a len cap z) (hT : R.TabV w ∧ Tab w) :
    Calls Tryz.prog 9 #[.slice a len cap] w fun e w' => e = .returned (.bool true) ∧ Below w.heap.size w w' ∧ True := by
  obtain ⟨bs, rfl, hh⟩ := row_bytes h
  exact (serialAgain_w a cap bs w hT hh).mono fun _ _ h => ⟨h.1, h.2, trivial⟩
end Go.Proofs.YtcbfbbobcmdbaaaGreatDoor
