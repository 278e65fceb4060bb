/-
  DERIVED. GIVEN WITH THE SEED: THE CARDS: each row of YtlcijlklbabajaaGreatDoorRows.lean that lists a variable, with what it lists TIED to the program's text (the seventh form; the later family's looks); each row that meets fmt, with fmt's text TOLD by the authors' own Lean function (tested against real Go, not proved from fmt's source: count such statements apart). THE CARD IS WHAT COUNTS. Prove the row's statement (the work); the ties are given (YtlcijlklbabajaaGreatDoorTie.lean); close each card by the builder's one call (the guide's Derived/Test/ToyasCard.lean, 'card_holds'). Laid BY PROGRAM, IN A SANDBOX (cutbox-door.mjs). By AI agents, Wed Nov 11 2026. No macro, syntax, notation, axiom, sorry.
-/
import Derived.Test.YtlcijlklbabajaaGreatDoorRows
import GoSem.ClaimSeven
namespace Go.Proofs.YtlcijlklbabajaaGreatDoor
namespace Rows

/-- THE TIED CARD OF 'selvedgelaw05.TreeBuilds'. -/
def treeBuildsCard : Claim7 := { stood := { row := treeBuildsRow, standIns := [], harness := (true, "a98ae5b7f7c58dcacbc20cd8f1a2db309f274c13608c123569bde0d8786f89e7"), looks := false }, kinds := [], alts := [], laidByText := true, laidKinds := [.data, .data, .pinned], laidTests := true, laidLooks := .later }
def TreeBuildsCardSaid : Prop := Claim7.holds Tryz.pinned (.plain (OpenSpec.ofChange treeBuildsSpec)) treeBuildsCard

/-- THE TIED CARD OF 'selvedgelaw05.TreeParses'. -/
def treeParsesCard : Claim7 := { stood := { row := treeParsesRow, standIns := [], harness := (true, "a98ae5b7f7c58dcacbc20cd8f1a2db309f274c13608c123569bde0d8786f89e7"), looks := false }, kinds := [], alts := [], laidByText := true, laidKinds := [.data, .data, .pinned], laidTests := true, laidLooks := .later }
def TreeParsesCardSaid : Prop := Claim7.holds Tryz.pinned (.plain (OpenSpec.ofChange treeParsesSpec)) treeParsesCard

/-- THE TIED CARD OF 'selvedgelaw05.TreeRight'. -/
def treeRightCard : Claim7 := { stood := { row := treeRightRow, standIns := [], harness := (true, "a98ae5b7f7c58dcacbc20cd8f1a2db309f274c13608c123569bde0d8786f89e7"), looks := false }, kinds := [], alts := [], laidByText := true, laidKinds := [.data, .data, .pinned], laidTests := true, laidLooks := .later }
def TreeRightCardSaid : Prop := Claim7.holds Tryz.pinned (.plain (OpenSpec.ofChange treeRightSpec)) treeRightCard

/-- THE TIED CARD OF 'selvedgelaw05.TreeKnown'. -/
def treeKnownCard : Claim7 := { stood := { row := treeKnownRow, standIns := [], harness := (true, "a98ae5b7f7c58dcacbc20cd8f1a2db309f274c13608c123569bde0d8786f89e7"), looks := false }, kinds := [], alts := [], laidByText := true, laidKinds := [.data, .data, .pinned], laidTests := true, laidLooks := .later }
def TreeKnownCardSaid : Prop := Claim7.holds Tryz.pinned (.plain (OpenSpec.ofChange treeKnownSpec)) treeKnownCard

/-- THE TIED CARD OF 'selvedgelaw05.TreeWraps'. -/
def treeWrapsCard : Claim7 := { stood := { row := treeWrapsRow, standIns := [], harness := (true, "a98ae5b7f7c58dcacbc20cd8f1a2db309f274c13608c123569bde0d8786f89e7"), looks := false }, kinds := [], alts := [], laidByText := true, laidKinds := [.data, .data, .pinned], laidTests := true, laidLooks := .later }
def TreeWrapsCardSaid : Prop := Claim7.holds Tryz.pinned (.plain (OpenSpec.ofChange treeWrapsSpec)) treeWrapsCard

/-- THE TIED CARD OF 'selvedgelaw06.SerialWrites'. -/
def serialWritesCard : Claim7 := { stood := { row := serialWritesRow, standIns := [], harness := (true, "a98ae5b7f7c58dcacbc20cd8f1a2db309f274c13608c123569bde0d8786f89e7"), looks := false }, kinds := [], alts := [], laidByText := true, laidKinds := [.data, .data, .pinned], laidTests := true, laidLooks := .later }
def SerialWritesCardSaid : Prop := Claim7.holds Tryz.pinned (.plain (OpenSpec.ofChange serialWritesSpec)) serialWritesCard

/-- THE TIED CARD OF 'selvedgelaw06.SerialAgain'. -/
def serialAgainCard : Claim7 := { stood := { row := serialAgainRow, standIns := [], harness := (true, "a98ae5b7f7c58dcacbc20cd8f1a2db309f274c13608c123569bde0d8786f89e7"), looks := false }, kinds := [], alts := [], laidByText := true, laidKinds := [.data, .data, .pinned], laidTests := true, laidLooks := .later }
def SerialAgainCardSaid : Prop := Claim7.holds Tryz.pinned (.plain (OpenSpec.ofChange serialAgainSpec)) serialAgainCard

/-- THE TIED CARD OF 'selvedgelaw06.SerialText'. -/
def serialTextCard : Claim7 := { stood := { row := serialTextRow, standIns := [], harness := (true, "a98ae5b7f7c58dcacbc20cd8f1a2db309f274c13608c123569bde0d8786f89e7"), looks := false }, kinds := [], alts := [], laidByText := true, laidKinds := [.data, .data, .pinned], laidTests := true, laidLooks := .later }
def SerialTextCardSaid : Prop := Claim7.holds Tryz.pinned (.plain (OpenSpec.ofChange serialTextSpec)) serialTextCard

/-- THE TIED CARD OF 'selvedgelaw06.SerialKnown'. -/
def serialKnownCard : Claim7 := { stood := { row := serialKnownRow, standIns := [], harness := (true, "a98ae5b7f7c58dcacbc20cd8f1a2db309f274c13608c123569bde0d8786f89e7"), looks := false }, kinds := [], alts := [], laidByText := true, laidKinds := [.data, .data, .pinned], laidTests := true, laidLooks := .later }
def SerialKnownCardSaid : Prop := Claim7.holds Tryz.pinned (.plain (OpenSpec.ofChange serialKnownSpec)) serialKnownCard

/-- THE SECOND FORM's CARD OF 'selvedgelaw05.TreeBuilds'. -/
def treeBuildsUptoCard : Claim7 := { stood := { row := treeBuildsUptoRow, standIns := [], harness := (true, "a98ae5b7f7c58dcacbc20cd8f1a2db309f274c13608c123569bde0d8786f89e7"), looks := false }, kinds := [], alts := [], laidByText := true, laidKinds := [.data, .data, .pinned], laidTests := true, laidLooks := .later }
def TreeBuildsUptoCardSaid : Prop := Claim7.holds Tryz.pinned (.plain (OpenSpec.upto treeBuildsSpec)) treeBuildsUptoCard

/-- THE SECOND FORM's CARD OF 'selvedgelaw05.TreeParses'. -/
def treeParsesUptoCard : Claim7 := { stood := { row := treeParsesUptoRow, standIns := [], harness := (true, "a98ae5b7f7c58dcacbc20cd8f1a2db309f274c13608c123569bde0d8786f89e7"), looks := false }, kinds := [], alts := [], laidByText := true, laidKinds := [.data, .data, .pinned], laidTests := true, laidLooks := .later }
def TreeParsesUptoCardSaid : Prop := Claim7.holds Tryz.pinned (.plain (OpenSpec.upto treeParsesSpec)) treeParsesUptoCard

/-- THE SECOND FORM's CARD OF 'selvedgelaw05.TreeRight'. -/
def treeRightUptoCard : Claim7 := { stood := { row := treeRightUptoRow, standIns := [], harness := (true, "a98ae5b7f7c58dcacbc20cd8f1a2db309f274c13608c123569bde0d8786f89e7"), looks := false }, kinds := [], alts := [], laidByText := true, laidKinds := [.data, .data, .pinned], laidTests := true, laidLooks := .later }
def TreeRightUptoCardSaid : Prop := Claim7.holds Tryz.pinned (.plain (OpenSpec.upto treeRightSpec)) treeRightUptoCard

/-- THE SECOND FORM's CARD OF 'selvedgelaw05.TreeKnown'. -/
def treeKnownUptoCard : Claim7 := { stood := { row := treeKnownUptoRow, standIns := [], harness := (true, "a98ae5b7f7c58dcacbc20cd8f1a2db309f274c13608c123569bde0d8786f89e7"), looks := false }, kinds := [], alts := [], laidByText := true, laidKinds := [.data, .data, .pinned], laidTests := true, laidLooks := .later }
def TreeKnownUptoCardSaid : Prop := Claim7.holds Tryz.pinned (.plain (OpenSpec.upto treeKnownSpec)) treeKnownUptoCard

/-- THE SECOND FORM's CARD OF 'selvedgelaw05.TreeWraps'. -/
def treeWrapsUptoCard : Claim7 := { stood := { row := treeWrapsUptoRow, standIns := [], harness := (true, "a98ae5b7f7c58dcacbc20cd8f1a2db309f274c13608c123569bde0d8786f89e7"), looks := false }, kinds := [], alts := [], laidByText := true, laidKinds := [.data, .data, .pinned], laidTests := true, laidLooks := .later }
def TreeWrapsUptoCardSaid : Prop := Claim7.holds Tryz.pinned (.plain (OpenSpec.upto treeWrapsSpec)) treeWrapsUptoCard

/-- THE SECOND FORM's CARD OF 'selvedgelaw06.SerialWrites'. -/
def serialWritesUptoCard : Claim7 := { stood := { row := serialWritesUptoRow, standIns := [], harness := (true, "a98ae5b7f7c58dcacbc20cd8f1a2db309f274c13608c123569bde0d8786f89e7"), looks := false }, kinds := [], alts := [], laidByText := true, laidKinds := [.data, .data, .pinned], laidTests := true, laidLooks := .later }
def SerialWritesUptoCardSaid : Prop := Claim7.holds Tryz.pinned (.plain (OpenSpec.upto serialWritesSpec)) serialWritesUptoCard

/-- THE SECOND FORM's CARD OF 'selvedgelaw06.SerialAgain'. -/
def serialAgainUptoCard : Claim7 := { stood := { row := serialAgainUptoRow, standIns := [], harness := (true, "a98ae5b7f7c58dcacbc20cd8f1a2db309f274c13608c123569bde0d8786f89e7"), looks := false }, kinds := [], alts := [], laidByText := true, laidKinds := [.data, .data, .pinned], laidTests := true, laidLooks := .later }
def SerialAgainUptoCardSaid : Prop := Claim7.holds Tryz.pinned (.plain (OpenSpec.upto serialAgainSpec)) serialAgainUptoCard

/-- THE SECOND FORM's CARD OF 'selvedgelaw06.SerialText'. -/
def serialTextUptoCard : Claim7 := { stood := { row := serialTextUptoRow, standIns := [], harness := (true, "a98ae5b7f7c58dcacbc20cd8f1a2db309f274c13608c123569bde0d8786f89e7"), looks := false }, kinds := [], alts := [], laidByText := true, laidKinds := [.data, .data, .pinned], laidTests := true, laidLooks := .later }
def SerialTextUptoCardSaid : Prop := Claim7.holds Tryz.pinned (.plain (OpenSpec.upto serialTextSpec)) serialTextUptoCard

/-- THE SECOND FORM's CARD OF 'selvedgelaw06.SerialKnown'. -/
def serialKnownUptoCard : Claim7 := { stood := { row := serialKnownUptoRow, standIns := [], harness := (true, "a98ae5b7f7c58dcacbc20cd8f1a2db309f274c13608c123569bde0d8786f89e7"), looks := false }, kinds := [], alts := [], laidByText := true, laidKinds := [.data, .data, .pinned], laidTests := true, laidLooks := .later }
def SerialKnownUptoCardSaid : Prop := Claim7.holds Tryz.pinned (.plain (OpenSpec.upto serialKnownSpec)) serialKnownUptoCard
end Rows
end Go.Proofs.YtlcijlklbabajaaGreatDoor
