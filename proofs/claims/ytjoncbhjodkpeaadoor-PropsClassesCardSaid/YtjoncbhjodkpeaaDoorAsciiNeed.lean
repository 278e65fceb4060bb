/-
  The law of layer 1 about ASCII: what is left of it at one byte, once its tests are reckoned: four contracts. The table of pairs lies in the first package-level variable: a condition.
-/
import Derived.Test.YtjoncbhjodkpeaaDoorWorks
import Derived.Test.YtjoncbhjodkpeaaDoorNeed
namespace Go.Proofs.YtjoncbhjodkpeaaDoor
open Go.RowKit
theorem Next.here {w : World} (h : Tab w) : Next w w := ⟨Below.refl _ _, h⟩
noncomputable def asciiBody : Code := (Tryd.f7.body).getD .skip
def asciiVs (cl m : Int) (ok s : Bool) : List Value := [.int .u8 cl, .tuple #[.int .i32 m, .bool ok], .bool s, .bool true]
def AsciiLeft (r cl m : Int) (ok s : Bool) (w : World) : Prop :=
  Calls Tryd.prog 10 #[.int .i32 r] w (fun e w2 => e = .returned (.int .u8 cl) ∧ Next w w2) ∧ ∀ w1, Next w w1 →
  (Calls Tryd.prog 15 #[.int .i32 r] w1 (fun e w2 => e = .returned (.tuple #[.int .i32 m, .bool ok]) ∧ Next w1 w2) ∧ ∀ w2, Next w1 w2 →
  (Calls Tryd.prog 17 #[.int .i32 r] w2 (fun e w3 => e = .returned (.bool s) ∧ Next w2 w3) ∧ ∀ w3, Next w2 w3 →
  (Calls Tryd.prog 12 #[] w3 (fun e w4 => e = .returned (.bool true) ∧ Next w3 w4) ∧ ∀ w4, Next w3 w4 →
  Fin true true (.ok (.bool true) w4) (.bool true) w4 (Next w))))
def AsciiLaw (c : Int) (w : World) : Prop := Calls Tryd.prog 7 #[.int .u8 c] w fun e w' => e = .returned (.bool true) ∧ Next w w'
theorem ascii_of (c r cl m : Int) (ok s : Bool) (w : World) (hg : Tab w) (h1 : cls r = cl) (h2 : mirL r pairsT = (m, ok)) (h3 : spaceB r = s)
    (h : needCode Tryd.prog Next asciiBody { tmps := #[.int .u8 c] ++ Array.replicate (Tryd.f7.ntmps - 1) undef, defers := [] } w (asciiVs cl m ok s)
      (fun e a w' _ => Fin (isEnd e) a.defers.isEmpty ((results Tryd.f7 a.tmps).run Tryd.prog w') (.bool true) w' (Next w)) = AsciiLeft r cl m ok s w) : AsciiLaw c w := by
  refine calls_need (N := Next) (c := asciiBody) (asciiVs cl m ok s) Tryd.func7 (by kernel_rfl) ?_
  have hl : AsciiLeft r cl m ok s w :=
    ⟨class_eq h1 w hg, fun w1 n1 => ⟨mirror_eq h2 w1 n1.2, fun w2 n2 => ⟨(space_eq h3 w2).mono fun e w3 ⟨he, hw⟩ => ⟨he, hw ▸ Next.here n2.2⟩, fun w3 n3 => ⟨works_any w3 n3.2, fun w4 n4 => ⟨rfl, rfl, rfl, ((n1.trans n2).trans n3).trans n4⟩⟩⟩⟩⟩
  exact h ▸ hl
end Go.Proofs.YtjoncbhjodkpeaaDoor
