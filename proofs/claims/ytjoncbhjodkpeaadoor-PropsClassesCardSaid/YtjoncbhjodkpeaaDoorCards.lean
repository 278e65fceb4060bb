/-
  DERIVED. GIVEN WITH THE SEED: THE CARDS: each row of YtjoncbhjodkpeaaDoorRows.lean that lists a variable, with what it lists TIED to the program's text (the seventh form; the later family's looks); each row that meets fmt, with fmt's text TOLD by the authors' own Lean function (tested against real Go, not proved from fmt's source: count such statements apart). THE CARD IS WHAT COUNTS. Prove the row's statement (the work); the ties are given (YtjoncbhjodkpeaaDoorTie.lean); close each card by the builder's one call (the guide's Derived/Test/ToyasCard.lean, 'card_holds'). Laid BY PROGRAM, IN A SANDBOX (cutbox-door.mjs). By AI agents, Wed Nov 11 2026. No macro, syntax, notation, axiom, sorry.
-/
import Derived.Test.YtjoncbhjodkpeaaDoorRows
import GoSem.ClaimSeven
namespace Go.Proofs.YtjoncbhjodkpeaaDoor
namespace Rows

/-- THE TIED CARD OF 'selvedgelaw01.PropsClasses'. -/
def propsClassesCard : Claim7 := { stood := { row := propsClassesRow, standIns := [], harness := (true, "c5395f96110b52ffbd4c94971e32dd40a4e04d87425a2451d13227db0733f0f3"), looks := false }, kinds := [], alts := [], laidByText := true, laidKinds := [.data], laidTests := true, laidLooks := .later }
def PropsClassesCardSaid : Prop := Claim7.holds Tryd.pinned (.plain (OpenSpec.ofChange propsClassesSpec)) propsClassesCard

/-- THE TIED CARD OF 'selvedgelaw01.PropsBrackets'. -/
def propsBracketsCard : Claim7 := { stood := { row := propsBracketsRow, standIns := [], harness := (true, "c5395f96110b52ffbd4c94971e32dd40a4e04d87425a2451d13227db0733f0f3"), looks := false }, kinds := [], alts := [], laidByText := true, laidKinds := [.data], laidTests := true, laidLooks := .later }
def PropsBracketsCardSaid : Prop := Claim7.holds Tryd.pinned (.plain (OpenSpec.ofChange propsBracketsSpec)) propsBracketsCard

/-- THE TIED CARD OF 'selvedgelaw01.PropsMirrors'. -/
def propsMirrorsCard : Claim7 := { stood := { row := propsMirrorsRow, standIns := [], harness := (true, "c5395f96110b52ffbd4c94971e32dd40a4e04d87425a2451d13227db0733f0f3"), looks := false }, kinds := [], alts := [], laidByText := true, laidKinds := [.data], laidTests := true, laidLooks := .later }
def PropsMirrorsCardSaid : Prop := Claim7.holds Tryd.pinned (.plain (OpenSpec.ofChange propsMirrorsSpec)) propsMirrorsCard

/-- THE TIED CARD OF 'selvedgelaw01.PropsPairs'. -/
def propsPairsCard : Claim7 := { stood := { row := propsPairsRow, standIns := [], harness := (true, "c5395f96110b52ffbd4c94971e32dd40a4e04d87425a2451d13227db0733f0f3"), looks := false }, kinds := [], alts := [], laidByText := true, laidKinds := [.data], laidTests := true, laidLooks := .later }
def PropsPairsCardSaid : Prop := Claim7.holds Tryd.pinned (.plain (OpenSpec.ofChange propsPairsSpec)) propsPairsCard

/-- THE TIED CARD OF 'selvedgelaw01.PropsAscii'. -/
def propsAsciiCard : Claim7 := { stood := { row := propsAsciiRow, standIns := [], harness := (true, "c5395f96110b52ffbd4c94971e32dd40a4e04d87425a2451d13227db0733f0f3"), looks := false }, kinds := [], alts := [], laidByText := true, laidKinds := [.data], laidTests := true, laidLooks := .later }
def PropsAsciiCardSaid : Prop := Claim7.holds Tryd.pinned (.plain (OpenSpec.ofChange propsAsciiSpec)) propsAsciiCard

/-- THE TIED CARD OF 'selvedgelaw01.PropsKnown'. -/
def propsKnownCard : Claim7 := { stood := { row := propsKnownRow, standIns := [], harness := (true, "c5395f96110b52ffbd4c94971e32dd40a4e04d87425a2451d13227db0733f0f3"), looks := false }, kinds := [], alts := [], laidByText := true, laidKinds := [.data], laidTests := true, laidLooks := .later }
def PropsKnownCardSaid : Prop := Claim7.holds Tryd.pinned (.plain (OpenSpec.ofChange propsKnownSpec)) propsKnownCard

/-- THE SECOND FORM's CARD OF 'selvedgelaw01.PropsClasses'. -/
def propsClassesUptoCard : Claim7 := { stood := { row := propsClassesUptoRow, standIns := [], harness := (true, "c5395f96110b52ffbd4c94971e32dd40a4e04d87425a2451d13227db0733f0f3"), looks := false }, kinds := [], alts := [], laidByText := true, laidKinds := [.data], laidTests := true, laidLooks := .later }
def PropsClassesUptoCardSaid : Prop := Claim7.holds Tryd.pinned (.plain (OpenSpec.upto propsClassesSpec)) propsClassesUptoCard

/-- THE SECOND FORM's CARD OF 'selvedgelaw01.PropsBrackets'. -/
def propsBracketsUptoCard : Claim7 := { stood := { row := propsBracketsUptoRow, standIns := [], harness := (true, "c5395f96110b52ffbd4c94971e32dd40a4e04d87425a2451d13227db0733f0f3"), looks := false }, kinds := [], alts := [], laidByText := true, laidKinds := [.data], laidTests := true, laidLooks := .later }
def PropsBracketsUptoCardSaid : Prop := Claim7.holds Tryd.pinned (.plain (OpenSpec.upto propsBracketsSpec)) propsBracketsUptoCard

/-- THE SECOND FORM's CARD OF 'selvedgelaw01.PropsMirrors'. -/
def propsMirrorsUptoCard : Claim7 := { stood := { row := propsMirrorsUptoRow, standIns := [], harness := (true, "c5395f96110b52ffbd4c94971e32dd40a4e04d87425a2451d13227db0733f0f3"), looks := false }, kinds := [], alts := [], laidByText := true, laidKinds := [.data], laidTests := true, laidLooks := .later }
def PropsMirrorsUptoCardSaid : Prop := Claim7.holds Tryd.pinned (.plain (OpenSpec.upto propsMirrorsSpec)) propsMirrorsUptoCard

/-- THE SECOND FORM's CARD OF 'selvedgelaw01.PropsPairs'. -/
def propsPairsUptoCard : Claim7 := { stood := { row := propsPairsUptoRow, standIns := [], harness := (true, "c5395f96110b52ffbd4c94971e32dd40a4e04d87425a2451d13227db0733f0f3"), looks := false }, kinds := [], alts := [], laidByText := true, laidKinds := [.data], laidTests := true, laidLooks := .later }
def PropsPairsUptoCardSaid : Prop := Claim7.holds Tryd.pinned (.plain (OpenSpec.upto propsPairsSpec)) propsPairsUptoCard

/-- THE SECOND FORM's CARD OF 'selvedgelaw01.PropsAscii'. -/
def propsAsciiUptoCard : Claim7 := { stood := { row := propsAsciiUptoRow, standIns := [], harness := (true, "c5395f96110b52ffbd4c94971e32dd40a4e04d87425a2451d13227db0733f0f3"), looks := false }, kinds := [], alts := [], laidByText := true, laidKinds := [.data], laidTests := true, laidLooks := .later }
def PropsAsciiUptoCardSaid : Prop := Claim7.holds Tryd.pinned (.plain (OpenSpec.upto propsAsciiSpec)) propsAsciiUptoCard

/-- THE SECOND FORM's CARD OF 'selvedgelaw01.PropsKnown'. -/
def propsKnownUptoCard : Claim7 := { stood := { row := propsKnownUptoRow, standIns := [], harness := (true, "c5395f96110b52ffbd4c94971e32dd40a4e04d87425a2451d13227db0733f0f3"), looks := false }, kinds := [], alts := [], laidByText := true, laidKinds := [.data], laidTests := true, laidLooks := .later }
def PropsKnownUptoCardSaid : Prop := Claim7.holds Tryd.pinned (.plain (OpenSpec.upto propsKnownSpec)) propsKnownUptoCard
end Rows
end Go.Proofs.YtjoncbhjodkpeaaDoor
