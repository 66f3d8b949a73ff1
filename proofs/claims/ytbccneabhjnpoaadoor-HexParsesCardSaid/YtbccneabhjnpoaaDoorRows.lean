/-
  NARROWER THAN 'FOR EVERY INPUT', by the rows' own cells (each row's printed sentence says how): HexTexts: laid · HexParses: laid.
  DERIVED. THE GIVEN ROWS OF THIS SEAT. 2 by the template 'for every input the law returns true; each argument reads behind the call as it read before'; 0 by the template 'total and deterministic' (their statements: YtbccneabhjnpoaaDoorTotals.lean).
  GIVEN WITH THE SEED: the statements are not yours to turn. If you find one false, say at which input.
  Laid BY PROGRAM, IN A SANDBOX (cutbox-rows.mjs): the forced cells as the released guide's own fill.sh prints them over the translation dd7c40c5b78ba583… (all of the seat's roots in one cut). By AI agents, Wed Nov 11 2026. No macro, syntax, notation, axiom, sorry.
-/
import Derived.Test.YtbccneabhjnpoaaDoorChecked
import GoSem.Claim
import GoSem.ClaimJoined
import GoSem.ClaimMapViews
import Derived.JoinedTies
import Derived.KernelRfl
namespace Go.Proofs.YtbccneabhjnpoaaDoor
/- THE CELL 'sum', in the pinned program and in every row, IS THE sha256 OF THE DUMP (.gsa) THAT YtbccneabhjnpoaaDoorProg.lean LOADS. Nothing in Lean hashes anything: it is a label: what it is worth is what the hold of that sum in a sandbox is worth. -/
noncomputable def Tryd.pinned : Pinned := { name := "ytbccneabhjnpoaadoor", sum := "dd7c40c5b78ba5830e08354baf6f6d47084ddd0900498864a1ae22f4f9ed2a1f", checked := Tryd.checked }
namespace Rows
def none {H : Type} : Left H := { results := [], args := [] }

/- WHAT THE LISTED PACKAGE-LEVEL VARIABLES READ AS WHEN THE CALL BEGINS. Each datum BY PROGRAM (the guide's laid-datum.mjs) off the statement by which the dump's own 'gosem.cut.vars' lays the variable. In a bare row this is a premise. The card (YtbccneabhjnpoaaDoorCards.lean) ties it to the program's text. -/
def laid_repertory_hex_digits {H : Type} : DataW H := .agg [.lit (.int .u8 48), .lit (.int .u8 49), .lit (.int .u8 50), .lit (.int .u8 51), .lit (.int .u8 52), .lit (.int .u8 53), .lit (.int .u8 54), .lit (.int .u8 55), .lit (.int .u8 56), .lit (.int .u8 57), .lit (.int .u8 97), .lit (.int .u8 98), .lit (.int .u8 99), .lit (.int .u8 100), .lit (.int .u8 101), .lit (.int .u8 102)]

/-- 'repertorylaw05.HexTexts': WHATEVER THE INPUT: true; the input reads as it did. -/
def hexTextsSpec : ChangeSpec := { name := "hexTexts", fn := fun _ => fun
  | [d] => { results := [.lit (.bool true)], args := [d] }
  | _ => none }
def hexTextsRow : OpenClaim := { program := "ytbccneabhjnpoaadoor", sum := "dd7c40c5b78ba5830e08354baf6f6d47084ddd0900498864a1ae22f4f9ed2a1f", func := "repertory/repertorylaw05.HexTexts", spec := "hexTexts", named := ["repertory/hex.digits"], apart := false, laid := [("repertory/hex.digits", laid_repertory_hex_digits)] }
def HexTextsSaid : Prop := hexTextsRow.holds Tryd.pinned (OpenSpec.ofChange hexTextsSpec)

/-- ITS FALSE NEIGHBOUR: 'it returns false'. Refute it at one input. -/
def hexTextsWrong : ChangeSpec := { name := "hexTexts", fn := fun _ => fun
  | [d] => { results := [.lit (.bool false)], args := [d] }
  | _ => none }
def HexTextsWrongFalsely : Prop := hexTextsRow.holds Tryd.pinned (OpenSpec.ofChange hexTextsWrong)

/-- 'repertorylaw05.HexParses': WHATEVER THE INPUT: true; the input reads as it did. -/
def hexParsesSpec : ChangeSpec := { name := "hexParses", fn := fun _ => fun
  | [d] => { results := [.lit (.bool true)], args := [d] }
  | _ => none }
def hexParsesRow : OpenClaim := { program := "ytbccneabhjnpoaadoor", sum := "dd7c40c5b78ba5830e08354baf6f6d47084ddd0900498864a1ae22f4f9ed2a1f", func := "repertory/repertorylaw05.HexParses", spec := "hexParses", named := ["repertory/hex.digits"], apart := false, laid := [("repertory/hex.digits", laid_repertory_hex_digits)] }
def HexParsesSaid : Prop := hexParsesRow.holds Tryd.pinned (OpenSpec.ofChange hexParsesSpec)

/-- ITS FALSE NEIGHBOUR: 'it returns false'. Refute it at one input. -/
def hexParsesWrong : ChangeSpec := { name := "hexParses", fn := fun _ => fun
  | [d] => { results := [.lit (.bool false)], args := [d] }
  | _ => none }
def HexParsesWrongFalsely : Prop := hexParsesRow.holds Tryd.pinned (OpenSpec.ofChange hexParsesWrong)

/- THE SECOND FORM. 'bulk': how many values and letters a reading holds, each counted each time it is reached (what is shared counts as often as it is met; a slice's spare places count too). A statement '..UptoSaid' is the law's where the arguments, and the package variables that the reading takes, are together of bulk at most 1048576: NARROWER than '..Said'. Prove '..Said' where nothing that the law and all that it calls make is longer than what came in: it says more and counts as full. Else prove '..UptoSaid'. A law counts once. -/
mutual
def uptoBulk {H : Type} : DataW H → Nat
  | .lit (.string bytes) => bytes.length + 1
  | .lit _ => 1
  | .nil => 1
  | .ptr d => uptoBulk d + 1
  | .slice elems spare => uptoBulkAll elems + uptoBulkAll spare + 1
  | .agg parts => uptoBulkAll parts + 1
  | .iface _ d => uptoBulk d + 1
  | .map entries => uptoBulkEntries entries + 1
  | .held _ => 1
def uptoBulkAll {H : Type} : List (DataW H) → Nat
  | [] => 0
  | d :: r => uptoBulk d + uptoBulkAll r
def uptoBulkEntries {H : Type} : List (Lit × DataW H) → Nat
  | [] => 0
  | x :: r => uptoBulkEntry x + uptoBulkEntries r
def uptoBulkEntry {H : Type} : Lit × DataW H → Nat
  | (.string bytes, d) => bytes.length + uptoBulk d + 1
  | (_, d) => uptoBulk d + 1
 end
def uptoSmall : (H : Type) → List (DataW H) → Bool := fun _ ds => decide (uptoBulkAll ds ≤ 1048576)
def OpenSpec.upto (s : _root_.Go.ChangeSpec) : _root_.Go.OpenSpec := { _root_.Go.OpenSpec.ofChange s with cond := some uptoSmall }

/-- 'repertorylaw05.HexTexts', WHERE WHAT IT READS IS OF BULK AT MOST 1048576: true; the input reads as it did. -/
def hexTextsUptoRow : OpenClaim := { program := "ytbccneabhjnpoaadoor", sum := "dd7c40c5b78ba5830e08354baf6f6d47084ddd0900498864a1ae22f4f9ed2a1f", func := "repertory/repertorylaw05.HexTexts", spec := "hexTexts", named := ["repertory/hex.digits"], apart := false, laid := [("repertory/hex.digits", laid_repertory_hex_digits)], narrowed := true }
def HexTextsUptoSaid : Prop := hexTextsUptoRow.holds Tryd.pinned (OpenSpec.upto hexTextsSpec)

/-- 'repertorylaw05.HexParses', WHERE WHAT IT READS IS OF BULK AT MOST 1048576: true; the input reads as it did. -/
def hexParsesUptoRow : OpenClaim := { program := "ytbccneabhjnpoaadoor", sum := "dd7c40c5b78ba5830e08354baf6f6d47084ddd0900498864a1ae22f4f9ed2a1f", func := "repertory/repertorylaw05.HexParses", spec := "hexParses", named := ["repertory/hex.digits"], apart := false, laid := [("repertory/hex.digits", laid_repertory_hex_digits)], narrowed := true }
def HexParsesUptoSaid : Prop := hexParsesUptoRow.holds Tryd.pinned (OpenSpec.upto hexParsesSpec)

end Rows
end Go.Proofs.YtbccneabhjnpoaaDoor
