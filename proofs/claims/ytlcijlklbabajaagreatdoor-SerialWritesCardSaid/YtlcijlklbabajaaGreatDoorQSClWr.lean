/-
  SerialWrites: for every input the law returns true, and each argument reads as before. Condition: the listed variable holds what the program's text lays (tied on the card).
-/
import Derived.Test.YtlcijlklbabajaaGreatDoorQLaBaA
import Derived.Test.YtlcijlklbabajaaGreatDoorQSLW2
import Derived.Test.YtlcijlklbabajaaGreatDoorRows
import Derived.ProofKit
import Derived.OpenShut
import Derived.ShutString
import Derived.ChangeOld
import Derived.Below
import Derived.Test.YtlcijlklbabajaaGreatDoorCards
import Derived.Test.YtlcijlklbabajaaGreatDoorTie
import Derived.SevenTiedAt
import Derived.LaidMore
import Derived.Stop.Joined
namespace Go.Proofs.YtlcijlklbabajaaGreatDoor
open Go.ChangeShapes Go.WideShapes Go.ChangeAt Go.RowKit
set_option linter.unusedVariables false
theorem serialWrites_laidOut : laidOutB Tryz.prog = true := by kernel_rfl
set_option maxRecDepth 100000 in
set_option maxHeartbeats 1000000 in
theorem serialWrites_lifted (os : Os) (started : os.Started) (H : Type) (enc : TypeId × Value → H) :
 ReturnsInHanded {} Tryz.checked os 8 .any (fun w args => (Rows.serialWritesSpec.pre enc Tryz.prog Tryz.f8 [] false w args ∧ laidMetH Tryz.prog laidAll w) ∧ sizedMet enc Tryz.prog Tryz.f8 (OpenSpec.ofChange Rows.serialWritesSpec) false w args) (Rows.serialWritesSpec.post enc Tryz.prog Tryz.f8 false true false false) := by
 refine returnsInHanded_of_row (C := Tryz.checked) (s := OpenSpec.ofChange Rows.serialWritesSpec) (F := fun _ _ _ => 0) (conds := []) (apart := false) (laid := laidAll) own started (by kernel_rfl) Tryz.func8
  (ChangeSpec.witness_shaped (enc := enc) (C := Tryz.checked) (os := os) (X := fun w _ => laidMetH Tryz.prog laidAll w) false (World.laidAll Tryz.prog os laidAll) #[.slice none 0 0] 8 (World.laidAll_os _ _ _) (World.shaped_of_ZipB (by kernel_rfl) (by kernel_rfl)) (by kernel_rfl) (by kernel_rfl) (by kernel_rfl) (door_met os _)) ?_
 intro W base args ds gs before hval0 hW _ _ hWt hL hS _
 have hval : ∀ (j : Nat) t v, Tryz.f8.params[j]? = some t → args[j]? = some v → Value.okWide Tryz.prog W .any base t v := hval0
 have hW' := hW
 obtain ⟨p, q, hA0, hV, rfl, hfz, hnd⟩ := hW
 have hA : DataW.TrodAll enc Tryz.prog W 0 (fun _ => true) true Tryz.f8.params.toList args.toList ds p := hA0
 rw [Tryz.params8] at hA hval
 obtain ⟨v0, vs0, d0, ds0, p0, q0, hargs, rfl, rfl, h0, r0⟩ := trodAll_cons hA
 obtain ⟨rfl, rfl, rfl⟩ := trodAll_nil r0
 obtain rfl : args = #[v0] := by cases args; simp_all
 obtain ⟨rfl, rfl⟩ := trodVars_none hV
 obtain ⟨a0, len0, cap0, rfl⟩ := okWide_slice Tryz.underlying28 (hval 0 28 v0 rfl rfl)
 have k0 := h0
 have lt0 : ∀ x ∈ p0, x.block < W.heap.size := by obtain ⟨m, hm⟩ := k0; exact DataW.trod_lt m _ _ _ hm
 have hws : ∀ n ∈ d0.weights Tryz.prog 28, n ≤ reachBytes := fun n hn => by
  have h1 := hWt
  rw [Tryz.params8] at h1
  have h2 : n ∈ d0.weights Tryz.prog 28 ++ DataW.weightsEach Tryz.prog ((OpenSpec.ofChange Rows.serialWritesSpec).bare.plain.varTypes Tryz.prog) ([] : List (DataW H)) := List.mem_append_left _ hn
  simpa using List.all_eq_true.1 h1 n h2
 obtain ⟨a1, c1, ns, hcs, htr, _, hsz⟩ : ∃ (a : Option Addr) (c : Nat) (ns : List R.NxM), (Value.slice a0 len0 cap0).cells.toList = [.slice a ns.length c] ∧ R.HasTree W a ns ∧ ns.length ≤ reachBytes ∧ ∀ p ∈ ns, SmallN reachBytes p.1 := by
  obtain ⟨fuel, hf⟩ := h0
  exact open_nodes hf hws
 simp [Value.cells] at hcs
 obtain ⟨rfl, rfl, rfl⟩ := hcs
 clear hA0 hval0
 refine (serialWrites_w a0 cap0 ns W (tabB_of_laid hL hS) htr hsz).mono fun e W' ⟨he, hn⟩ => ?_
 have bel : Below W.heap.size W W' := hn
 subst he
 exact ⟨_, rfl, _, _, _, [], _, [], hW', trodAll_mk1 (shut_bool Tryz.underlying4 _), (trodAll_cons_mk (Below.trod serialWrites_laidOut (by kernel_rfl) (of_decide_eq_true (by kernel_rfl)) k0 bel lt0) trodAll_mk0), rfl, bel.frame _, fun h => by cases h⟩
theorem serialWrites_over : Rows.SerialWritesSaid :=
 OpenClaim.holds_of_wide 8 Tryz.f8 rfl rfl rfl rfl rfl rfl rfl ⟨rfl, rfl, rfl, rfl, rfl⟩ rfl rfl rfl rfl rfl (by kernel_rfl) Tryz.func8 (by kernel_rfl)
  (of_decide_eq_true (by kernel_rfl)) (by unfold Func.isWrapper; first | (rw [if_pos (by decide +kernel)]; kernel_rfl) | (rw [if_neg (by decide +kernel)]; exact ⟨rfl, rfl⟩))
  (fun os started H enc _ => serialWrites_lifted os started H enc)
theorem serialWrites_card : Rows.SerialWritesCardSaid :=
 Claim7.holds_tied_plain_at .later [] [.data, .data, .pinned] true (true, "a98ae5b7f7c58dcacbc20cd8f1a2db309f274c13608c123569bde0d8786f89e7") false
  serialWrites_over (fun _ h => by cases h) (by kernel_rfl) (fun _ h => by cases h) serialWrites_row_tie rfl ⟨rfl, rfl⟩ (by kernel_rfl) rfl
  (fun f fn hf hfn => by
   obtain rfl : f = 8 := Option.some.inj ((show Tryz.prog.funcNamed "selvedge/selvedgelaw06.SerialWrites" = some 8 by kernel_rfl).symm.trans hf) |>.symm
   obtain rfl : fn = Tryz.f8 := (Option.some.inj (Tryz.func8.symm.trans hfn)).symm
   exact ⟨by kernel_rfl, fun j t ht => by
    rw [Tryz.params8] at ht
    have hm : t ∈ ([28] : List Nat) := by simpa using Array.mem_of_getElem? ht
    have hall : (([28] : List Nat).all fun u => !Tryz.prog.wantsStandIn u) = true := by kernel_rfl
    exact (show Tryz.prog.wantsStandIn t = false by simpa using List.all_eq_true.1 hall t hm)⟩)
  (by kernel_rfl)
end Go.Proofs.YtlcijlklbabajaaGreatDoor
