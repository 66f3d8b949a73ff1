/-
  No cell of these rows narrows 'for every input' (looked for: loops, veiled, ifaces, maps, wideKeys, modest, calm, conditions, laid).
  DERIVED. THE GIVEN ROWS OF THIS SEAT. 2 by the template 'for every input the law returns true; each argument reads behind the call as it read before'; 0 by the template 'total and deterministic' (their statements: YtamoalnbcmnciaaTotals.lean).
  GIVEN WITH THE SEED: the statements are not yours to turn. If you find one false, say at which input.
  Laid BY PROGRAM, IN A SANDBOX (cutbox-rows.mjs): the forced cells as the released guide's own fill.sh prints them over the translation a9063fb368b893b9… (all of the seat's roots in one cut). By AI agents, Wed Nov 11 2026. No macro, syntax, notation, axiom, sorry.
-/
import Derived.Test.YtamoalnbcmnciaaChecked
import GoSem.Claim
import GoSem.ClaimJoined
import GoSem.ClaimMapViews
import Derived.JoinedTies
import Derived.KernelRfl
namespace Go.Proofs.Ytamoalnbcmnciaa
/- THE CELL 'sum', in the pinned program and in every row, IS THE sha256 OF THE DUMP (.gsa) THAT YtamoalnbcmnciaaProg.lean LOADS. Nothing in Lean hashes anything: it is a label: what it is worth is what the hold of that sum in a sandbox is worth. -/
noncomputable def Try.pinned : Pinned := { name := "ytamoalnbcmnciaa", sum := "a9063fb368b893b98fef3efb5487ca25932a3e946284ca829e18dbddeaf1954a", checked := Try.checked }
namespace Rows
def none {H : Type} : Left H := { results := [], args := [] }

/-- 'repertorylaw15.WellChecks': WHATEVER THE INPUT: true; the input reads as it did. -/
def wellChecksSpec : ChangeSpec := { name := "wellChecks", fn := fun _ => fun
  | [d] => { results := [.lit (.bool true)], args := [d] }
  | _ => none }
def wellChecksRow : OpenClaim := { program := "ytamoalnbcmnciaa", sum := "a9063fb368b893b98fef3efb5487ca25932a3e946284ca829e18dbddeaf1954a", func := "repertory/repertorylaw15.WellChecks", spec := "wellChecks", unfollowed := true, recurses := true, apart := false }
def WellChecksSaid : Prop := wellChecksRow.holds Try.pinned (OpenSpec.ofChange wellChecksSpec)

/-- ITS FALSE NEIGHBOUR: 'it returns false'. Refute it at one input. -/
def wellChecksWrong : ChangeSpec := { name := "wellChecks", fn := fun _ => fun
  | [d] => { results := [.lit (.bool false)], args := [d] }
  | _ => none }
def WellChecksWrongFalsely : Prop := wellChecksRow.holds Try.pinned (OpenSpec.ofChange wellChecksWrong)

/-- 'repertorylaw15.WellShortest': WHATEVER THE INPUT: true; the input reads as it did. -/
def wellShortestSpec : ChangeSpec := { name := "wellShortest", fn := fun _ => fun
  | [d] => { results := [.lit (.bool true)], args := [d] }
  | _ => none }
def wellShortestRow : OpenClaim := { program := "ytamoalnbcmnciaa", sum := "a9063fb368b893b98fef3efb5487ca25932a3e946284ca829e18dbddeaf1954a", func := "repertory/repertorylaw15.WellShortest", spec := "wellShortest", unfollowed := true, recurses := true, apart := false }
def WellShortestSaid : Prop := wellShortestRow.holds Try.pinned (OpenSpec.ofChange wellShortestSpec)

/-- ITS FALSE NEIGHBOUR: 'it returns false'. Refute it at one input. -/
def wellShortestWrong : ChangeSpec := { name := "wellShortest", fn := fun _ => fun
  | [d] => { results := [.lit (.bool false)], args := [d] }
  | _ => none }
def WellShortestWrongFalsely : Prop := wellShortestRow.holds Try.pinned (OpenSpec.ofChange wellShortestWrong)

/- THE SECOND FORM. 'bulk': how many values and letters a reading holds, each counted each time it is reached (what is shared counts as often as it is met; a slice's spare places count too). A statement '..UptoSaid' is the law's where the arguments, and the package variables that the reading takes, are together of bulk at most 1048576: NARROWER than '..Said'. Prove '..Said' where nothing that the law and all that it calls make is longer than what came in: it says more and counts as full. Else prove '..UptoSaid'. A law counts once. -/
mutual
def uptoBulk {H : Type} : DataW H → Nat
  | .lit (.string bytes) => bytes.length + 1
  | .lit _ => 1
  | .nil => 1
  | .ptr d => uptoBulk d + 1
  | .slice elems spare => uptoBulkAll elems + uptoBulkAll spare + 1
  | .agg parts => uptoBulkAll parts + 1
  | .iface _ d => uptoBulk d + 1
  | .map entries => uptoBulkEntries entries + 1
  | .held _ => 1
def uptoBulkAll {H : Type} : List (DataW H) → Nat
  | [] => 0
  | d :: r => uptoBulk d + uptoBulkAll r
def uptoBulkEntries {H : Type} : List (Lit × DataW H) → Nat
  | [] => 0
  | x :: r => uptoBulkEntry x + uptoBulkEntries r
def uptoBulkEntry {H : Type} : Lit × DataW H → Nat
  | (.string bytes, d) => bytes.length + uptoBulk d + 1
  | (_, d) => uptoBulk d + 1
 end
def uptoSmall : (H : Type) → List (DataW H) → Bool := fun _ ds => decide (uptoBulkAll ds ≤ 1048576)
def OpenSpec.upto (s : _root_.Go.ChangeSpec) : _root_.Go.OpenSpec := { _root_.Go.OpenSpec.ofChange s with cond := some uptoSmall }

/-- 'repertorylaw15.WellChecks', WHERE WHAT IT READS IS OF BULK AT MOST 1048576: true; the input reads as it did. -/
def wellChecksUptoRow : OpenClaim := { program := "ytamoalnbcmnciaa", sum := "a9063fb368b893b98fef3efb5487ca25932a3e946284ca829e18dbddeaf1954a", func := "repertory/repertorylaw15.WellChecks", spec := "wellChecks", unfollowed := true, recurses := true, apart := false, narrowed := true }
def WellChecksUptoSaid : Prop := wellChecksUptoRow.holds Try.pinned (OpenSpec.upto wellChecksSpec)

/-- 'repertorylaw15.WellShortest', WHERE WHAT IT READS IS OF BULK AT MOST 1048576: true; the input reads as it did. -/
def wellShortestUptoRow : OpenClaim := { program := "ytamoalnbcmnciaa", sum := "a9063fb368b893b98fef3efb5487ca25932a3e946284ca829e18dbddeaf1954a", func := "repertory/repertorylaw15.WellShortest", spec := "wellShortest", unfollowed := true, recurses := true, apart := false, narrowed := true }
def WellShortestUptoSaid : Prop := wellShortestUptoRow.holds Try.pinned (OpenSpec.upto wellShortestSpec)

end Rows
end Go.Proofs.Ytamoalnbcmnciaa
