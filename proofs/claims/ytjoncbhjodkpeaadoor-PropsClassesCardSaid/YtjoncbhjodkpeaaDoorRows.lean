/-
  NARROWER THAN 'FOR EVERY INPUT', by the rows' own cells (each row's printed sentence says how): PropsClasses: laid · PropsBrackets: laid · PropsMirrors: laid · PropsPairs: laid · PropsAscii: laid · PropsKnown: laid.
  DERIVED. THE GIVEN ROWS OF THIS SEAT. 6 by the template 'for every input the law returns true; each argument reads behind the call as it read before'; 0 by the template 'total and deterministic' (their statements: YtjoncbhjodkpeaaDoorTotals.lean).
  GIVEN WITH THE SEED: the statements are not yours to turn. If you find one false, say at which input.
  Laid BY PROGRAM, IN A SANDBOX (cutbox-rows.mjs): the forced cells as the released guide's own fill.sh prints them over the translation a24e7a1517cdfee9… (all of the seat's roots in one cut). By AI agents, Wed Nov 11 2026. No macro, syntax, notation, axiom, sorry.
-/
import Derived.Test.YtjoncbhjodkpeaaDoorChecked
import GoSem.Claim
import GoSem.ClaimJoined
import GoSem.ClaimMapViews
import Derived.JoinedTies
import Derived.KernelRfl
namespace Go.Proofs.YtjoncbhjodkpeaaDoor
/- THE CELL 'sum', in the pinned program and in every row, IS THE sha256 OF THE DUMP (.gsa) THAT YtjoncbhjodkpeaaDoorProg.lean LOADS. Nothing in Lean hashes anything: it is a label: what it is worth is what the hold of that sum in a sandbox is worth. -/
noncomputable def Tryd.pinned : Pinned := { name := "ytjoncbhjodkpeaadoor", sum := "a24e7a1517cdfee9fb98b524ec8d1a747f41252cbf2520fdb51bcab3911c0679", checked := Tryd.checked }
namespace Rows
def none {H : Type} : Left H := { results := [], args := [] }

/- WHAT THE LISTED PACKAGE-LEVEL VARIABLES READ AS WHEN THE CALL BEGINS. Each datum BY PROGRAM (the guide's laid-datum.mjs) off the statement by which the dump's own 'gosem.cut.vars' lays the variable. In a bare row this is a premise. The card (YtjoncbhjodkpeaaDoorCards.lean) ties it to the program's text. -/
def laid_selvedge_props_pairs {H : Type} : DataW H := .agg [.agg [.lit (.int .i32 40), .lit (.int .i32 41), .lit (.bool true)], .agg [.lit (.int .i32 91), .lit (.int .i32 93), .lit (.bool true)], .agg [.lit (.int .i32 123), .lit (.int .i32 125), .lit (.bool true)], .agg [.lit (.int .i32 8261), .lit (.int .i32 8262), .lit (.bool true)], .agg [.lit (.int .i32 8317), .lit (.int .i32 8318), .lit (.bool true)], .agg [.lit (.int .i32 8333), .lit (.int .i32 8334), .lit (.bool true)], .agg [.lit (.int .i32 8968), .lit (.int .i32 8969), .lit (.bool true)], .agg [.lit (.int .i32 8970), .lit (.int .i32 8971), .lit (.bool true)], .agg [.lit (.int .i32 9001), .lit (.int .i32 9002), .lit (.bool true)], .agg [.lit (.int .i32 10214), .lit (.int .i32 10215), .lit (.bool true)], .agg [.lit (.int .i32 10216), .lit (.int .i32 10217), .lit (.bool true)], .agg [.lit (.int .i32 10218), .lit (.int .i32 10219), .lit (.bool true)], .agg [.lit (.int .i32 10220), .lit (.int .i32 10221), .lit (.bool true)], .agg [.lit (.int .i32 10222), .lit (.int .i32 10223), .lit (.bool true)], .agg [.lit (.int .i32 12296), .lit (.int .i32 12297), .lit (.bool true)], .agg [.lit (.int .i32 12298), .lit (.int .i32 12299), .lit (.bool true)], .agg [.lit (.int .i32 12300), .lit (.int .i32 12301), .lit (.bool true)], .agg [.lit (.int .i32 12302), .lit (.int .i32 12303), .lit (.bool true)], .agg [.lit (.int .i32 12304), .lit (.int .i32 12305), .lit (.bool true)], .agg [.lit (.int .i32 12308), .lit (.int .i32 12309), .lit (.bool true)], .agg [.lit (.int .i32 12310), .lit (.int .i32 12311), .lit (.bool true)], .agg [.lit (.int .i32 12312), .lit (.int .i32 12313), .lit (.bool true)], .agg [.lit (.int .i32 12314), .lit (.int .i32 12315), .lit (.bool true)], .agg [.lit (.int .i32 60), .lit (.int .i32 62), .lit (.bool false)], .agg [.lit (.int .i32 171), .lit (.int .i32 187), .lit (.bool false)], .agg [.lit (.int .i32 8249), .lit (.int .i32 8250), .lit (.bool false)], .agg [.lit (.int .i32 8712), .lit (.int .i32 8715), .lit (.bool false)], .agg [.lit (.int .i32 8804), .lit (.int .i32 8805), .lit (.bool false)], .agg [.lit (.int .i32 8810), .lit (.int .i32 8811), .lit (.bool false)], .agg [.lit (.int .i32 8834), .lit (.int .i32 8835), .lit (.bool false)]]

/-- 'selvedgelaw01.PropsClasses': WHATEVER THE INPUT: true; the input reads as it did. -/
def propsClassesSpec : ChangeSpec := { name := "propsClasses", fn := fun _ => fun
  | [d1, d2] => { results := [.lit (.bool true)], args := [d1, d2] }
  | _ => none }
def propsClassesRow : OpenClaim := { program := "ytjoncbhjodkpeaadoor", sum := "a24e7a1517cdfee9fb98b524ec8d1a747f41252cbf2520fdb51bcab3911c0679", func := "selvedge/selvedgelaw01.PropsClasses", spec := "propsClasses", unfollowed := true, recurses := true, named := ["selvedge/props.pairs"], apart := false, laid := [("selvedge/props.pairs", laid_selvedge_props_pairs)] }
def PropsClassesSaid : Prop := propsClassesRow.holds Tryd.pinned (OpenSpec.ofChange propsClassesSpec)

/-- ITS FALSE NEIGHBOUR: 'it returns false'. Refute it at one input. -/
def propsClassesWrong : ChangeSpec := { name := "propsClasses", fn := fun _ => fun
  | [d1, d2] => { results := [.lit (.bool false)], args := [d1, d2] }
  | _ => none }
def PropsClassesWrongFalsely : Prop := propsClassesRow.holds Tryd.pinned (OpenSpec.ofChange propsClassesWrong)

/-- 'selvedgelaw01.PropsBrackets': WHATEVER THE INPUT: true; the input reads as it did. -/
def propsBracketsSpec : ChangeSpec := { name := "propsBrackets", fn := fun _ => fun
  | [d] => { results := [.lit (.bool true)], args := [d] }
  | _ => none }
def propsBracketsRow : OpenClaim := { program := "ytjoncbhjodkpeaadoor", sum := "a24e7a1517cdfee9fb98b524ec8d1a747f41252cbf2520fdb51bcab3911c0679", func := "selvedge/selvedgelaw01.PropsBrackets", spec := "propsBrackets", unfollowed := true, recurses := true, named := ["selvedge/props.pairs"], apart := false, laid := [("selvedge/props.pairs", laid_selvedge_props_pairs)] }
def PropsBracketsSaid : Prop := propsBracketsRow.holds Tryd.pinned (OpenSpec.ofChange propsBracketsSpec)

/-- ITS FALSE NEIGHBOUR: 'it returns false'. Refute it at one input. -/
def propsBracketsWrong : ChangeSpec := { name := "propsBrackets", fn := fun _ => fun
  | [d] => { results := [.lit (.bool false)], args := [d] }
  | _ => none }
def PropsBracketsWrongFalsely : Prop := propsBracketsRow.holds Tryd.pinned (OpenSpec.ofChange propsBracketsWrong)

/-- 'selvedgelaw01.PropsMirrors': WHATEVER THE INPUT: true; the input reads as it did. -/
def propsMirrorsSpec : ChangeSpec := { name := "propsMirrors", fn := fun _ => fun
  | [d] => { results := [.lit (.bool true)], args := [d] }
  | _ => none }
def propsMirrorsRow : OpenClaim := { program := "ytjoncbhjodkpeaadoor", sum := "a24e7a1517cdfee9fb98b524ec8d1a747f41252cbf2520fdb51bcab3911c0679", func := "selvedge/selvedgelaw01.PropsMirrors", spec := "propsMirrors", unfollowed := true, recurses := true, named := ["selvedge/props.pairs"], apart := false, laid := [("selvedge/props.pairs", laid_selvedge_props_pairs)] }
def PropsMirrorsSaid : Prop := propsMirrorsRow.holds Tryd.pinned (OpenSpec.ofChange propsMirrorsSpec)

/-- ITS FALSE NEIGHBOUR: 'it returns false'. Refute it at one input. -/
def propsMirrorsWrong : ChangeSpec := { name := "propsMirrors", fn := fun _ => fun
  | [d] => { results := [.lit (.bool false)], args := [d] }
  | _ => none }
def PropsMirrorsWrongFalsely : Prop := propsMirrorsRow.holds Tryd.pinned (OpenSpec.ofChange propsMirrorsWrong)

/-- 'selvedgelaw01.PropsPairs': WHATEVER THE INPUT: true; the input reads as it did. -/
def propsPairsSpec : ChangeSpec := { name := "propsPairs", fn := fun _ => fun
  | [d] => { results := [.lit (.bool true)], args := [d] }
  | _ => none }
def propsPairsRow : OpenClaim := { program := "ytjoncbhjodkpeaadoor", sum := "a24e7a1517cdfee9fb98b524ec8d1a747f41252cbf2520fdb51bcab3911c0679", func := "selvedge/selvedgelaw01.PropsPairs", spec := "propsPairs", unfollowed := true, recurses := true, named := ["selvedge/props.pairs"], apart := false, laid := [("selvedge/props.pairs", laid_selvedge_props_pairs)] }
def PropsPairsSaid : Prop := propsPairsRow.holds Tryd.pinned (OpenSpec.ofChange propsPairsSpec)

/-- ITS FALSE NEIGHBOUR: 'it returns false'. Refute it at one input. -/
def propsPairsWrong : ChangeSpec := { name := "propsPairs", fn := fun _ => fun
  | [d] => { results := [.lit (.bool false)], args := [d] }
  | _ => none }
def PropsPairsWrongFalsely : Prop := propsPairsRow.holds Tryd.pinned (OpenSpec.ofChange propsPairsWrong)

/-- 'selvedgelaw01.PropsAscii': WHATEVER THE INPUT: true; the input reads as it did. -/
def propsAsciiSpec : ChangeSpec := { name := "propsAscii", fn := fun _ => fun
  | [d] => { results := [.lit (.bool true)], args := [d] }
  | _ => none }
def propsAsciiRow : OpenClaim := { program := "ytjoncbhjodkpeaadoor", sum := "a24e7a1517cdfee9fb98b524ec8d1a747f41252cbf2520fdb51bcab3911c0679", func := "selvedge/selvedgelaw01.PropsAscii", spec := "propsAscii", unfollowed := true, recurses := true, named := ["selvedge/props.pairs"], apart := false, laid := [("selvedge/props.pairs", laid_selvedge_props_pairs)] }
def PropsAsciiSaid : Prop := propsAsciiRow.holds Tryd.pinned (OpenSpec.ofChange propsAsciiSpec)

/-- ITS FALSE NEIGHBOUR: 'it returns false'. Refute it at one input. -/
def propsAsciiWrong : ChangeSpec := { name := "propsAscii", fn := fun _ => fun
  | [d] => { results := [.lit (.bool false)], args := [d] }
  | _ => none }
def PropsAsciiWrongFalsely : Prop := propsAsciiRow.holds Tryd.pinned (OpenSpec.ofChange propsAsciiWrong)

/-- 'selvedgelaw01.PropsKnown': WHATEVER THE INPUT: true; the input reads as it did. -/
def propsKnownSpec : ChangeSpec := { name := "propsKnown", fn := fun _ => fun
  | [] => { results := [.lit (.bool true)], args := [] }
  | _ => none }
def propsKnownRow : OpenClaim := { program := "ytjoncbhjodkpeaadoor", sum := "a24e7a1517cdfee9fb98b524ec8d1a747f41252cbf2520fdb51bcab3911c0679", func := "selvedge/selvedgelaw01.PropsKnown", spec := "propsKnown", unfollowed := true, recurses := true, named := ["selvedge/props.pairs"], apart := false, laid := [("selvedge/props.pairs", laid_selvedge_props_pairs)] }
def PropsKnownSaid : Prop := propsKnownRow.holds Tryd.pinned (OpenSpec.ofChange propsKnownSpec)

/-- ITS FALSE NEIGHBOUR: 'it returns false'. Refute it at one input. -/
def propsKnownWrong : ChangeSpec := { name := "propsKnown", fn := fun _ => fun
  | [] => { results := [.lit (.bool false)], args := [] }
  | _ => none }
def PropsKnownWrongFalsely : Prop := propsKnownRow.holds Tryd.pinned (OpenSpec.ofChange propsKnownWrong)

/- THE SECOND FORM. 'bulk': how many values and letters a reading holds, each counted each time it is reached (what is shared counts as often as it is met; a slice's spare places count too). A statement '..UptoSaid' is the law's where the arguments, and the package variables that the reading takes, are together of bulk at most 1048576: NARROWER than '..Said'. Prove '..Said' where nothing that the law and all that it calls make is longer than what came in: it says more and counts as full. Else prove '..UptoSaid'. A law counts once. -/
mutual
def uptoBulk {H : Type} : DataW H → Nat
  | .lit (.string bytes) => bytes.length + 1
  | .lit _ => 1
  | .nil => 1
  | .ptr d => uptoBulk d + 1
  | .slice elems spare => uptoBulkAll elems + uptoBulkAll spare + 1
  | .agg parts => uptoBulkAll parts + 1
  | .iface _ d => uptoBulk d + 1
  | .map entries => uptoBulkEntries entries + 1
  | .held _ => 1
def uptoBulkAll {H : Type} : List (DataW H) → Nat
  | [] => 0
  | d :: r => uptoBulk d + uptoBulkAll r
def uptoBulkEntries {H : Type} : List (Lit × DataW H) → Nat
  | [] => 0
  | x :: r => uptoBulkEntry x + uptoBulkEntries r
def uptoBulkEntry {H : Type} : Lit × DataW H → Nat
  | (.string bytes, d) => bytes.length + uptoBulk d + 1
  | (_, d) => uptoBulk d + 1
 end
def uptoSmall : (H : Type) → List (DataW H) → Bool := fun _ ds => decide (uptoBulkAll ds ≤ 1048576)
def OpenSpec.upto (s : _root_.Go.ChangeSpec) : _root_.Go.OpenSpec := { _root_.Go.OpenSpec.ofChange s with cond := some uptoSmall }

/-- 'selvedgelaw01.PropsClasses', WHERE WHAT IT READS IS OF BULK AT MOST 1048576: true; the input reads as it did. -/
def propsClassesUptoRow : OpenClaim := { program := "ytjoncbhjodkpeaadoor", sum := "a24e7a1517cdfee9fb98b524ec8d1a747f41252cbf2520fdb51bcab3911c0679", func := "selvedge/selvedgelaw01.PropsClasses", spec := "propsClasses", unfollowed := true, recurses := true, named := ["selvedge/props.pairs"], apart := false, laid := [("selvedge/props.pairs", laid_selvedge_props_pairs)], narrowed := true }
def PropsClassesUptoSaid : Prop := propsClassesUptoRow.holds Tryd.pinned (OpenSpec.upto propsClassesSpec)

/-- 'selvedgelaw01.PropsBrackets', WHERE WHAT IT READS IS OF BULK AT MOST 1048576: true; the input reads as it did. -/
def propsBracketsUptoRow : OpenClaim := { program := "ytjoncbhjodkpeaadoor", sum := "a24e7a1517cdfee9fb98b524ec8d1a747f41252cbf2520fdb51bcab3911c0679", func := "selvedge/selvedgelaw01.PropsBrackets", spec := "propsBrackets", unfollowed := true, recurses := true, named := ["selvedge/props.pairs"], apart := false, laid := [("selvedge/props.pairs", laid_selvedge_props_pairs)], narrowed := true }
def PropsBracketsUptoSaid : Prop := propsBracketsUptoRow.holds Tryd.pinned (OpenSpec.upto propsBracketsSpec)

/-- 'selvedgelaw01.PropsMirrors', WHERE WHAT IT READS IS OF BULK AT MOST 1048576: true; the input reads as it did. -/
def propsMirrorsUptoRow : OpenClaim := { program := "ytjoncbhjodkpeaadoor", sum := "a24e7a1517cdfee9fb98b524ec8d1a747f41252cbf2520fdb51bcab3911c0679", func := "selvedge/selvedgelaw01.PropsMirrors", spec := "propsMirrors", unfollowed := true, recurses := true, named := ["selvedge/props.pairs"], apart := false, laid := [("selvedge/props.pairs", laid_selvedge_props_pairs)], narrowed := true }
def PropsMirrorsUptoSaid : Prop := propsMirrorsUptoRow.holds Tryd.pinned (OpenSpec.upto propsMirrorsSpec)

/-- 'selvedgelaw01.PropsPairs', WHERE WHAT IT READS IS OF BULK AT MOST 1048576: true; the input reads as it did. -/
def propsPairsUptoRow : OpenClaim := { program := "ytjoncbhjodkpeaadoor", sum := "a24e7a1517cdfee9fb98b524ec8d1a747f41252cbf2520fdb51bcab3911c0679", func := "selvedge/selvedgelaw01.PropsPairs", spec := "propsPairs", unfollowed := true, recurses := true, named := ["selvedge/props.pairs"], apart := false, laid := [("selvedge/props.pairs", laid_selvedge_props_pairs)], narrowed := true }
def PropsPairsUptoSaid : Prop := propsPairsUptoRow.holds Tryd.pinned (OpenSpec.upto propsPairsSpec)

/-- 'selvedgelaw01.PropsAscii', WHERE WHAT IT READS IS OF BULK AT MOST 1048576: true; the input reads as it did. -/
def propsAsciiUptoRow : OpenClaim := { program := "ytjoncbhjodkpeaadoor", sum := "a24e7a1517cdfee9fb98b524ec8d1a747f41252cbf2520fdb51bcab3911c0679", func := "selvedge/selvedgelaw01.PropsAscii", spec := "propsAscii", unfollowed := true, recurses := true, named := ["selvedge/props.pairs"], apart := false, laid := [("selvedge/props.pairs", laid_selvedge_props_pairs)], narrowed := true }
def PropsAsciiUptoSaid : Prop := propsAsciiUptoRow.holds Tryd.pinned (OpenSpec.upto propsAsciiSpec)

/-- 'selvedgelaw01.PropsKnown', WHERE WHAT IT READS IS OF BULK AT MOST 1048576: true; the input reads as it did. -/
def propsKnownUptoRow : OpenClaim := { program := "ytjoncbhjodkpeaadoor", sum := "a24e7a1517cdfee9fb98b524ec8d1a747f41252cbf2520fdb51bcab3911c0679", func := "selvedge/selvedgelaw01.PropsKnown", spec := "propsKnown", unfollowed := true, recurses := true, named := ["selvedge/props.pairs"], apart := false, laid := [("selvedge/props.pairs", laid_selvedge_props_pairs)], narrowed := true }
def PropsKnownUptoSaid : Prop := propsKnownUptoRow.holds Tryd.pinned (OpenSpec.upto propsKnownSpec)

end Rows
end Go.Proofs.YtjoncbhjodkpeaaDoor
