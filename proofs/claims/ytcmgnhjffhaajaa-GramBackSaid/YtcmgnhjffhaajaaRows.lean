/-
  No cell of these rows narrows 'for every input' (looked for: loops, veiled, ifaces, maps, wideKeys, modest, calm, conditions, laid).
  DERIVED. THE GIVEN ROWS OF THIS SEAT. 4 by the template 'for every input the law returns true; each argument reads behind the call as it read before'; 0 by the template 'total and deterministic' (their statements: YtcmgnhjffhaajaaTotals.lean).
  GIVEN WITH THE SEED: the statements are not yours to turn. If you find one false, say at which input.
  Laid BY PROGRAM, IN A SANDBOX (cutbox-rows.mjs): the forced cells as the released guide's own fill.sh prints them over the translation 2873257b42631c73… (all of the seat's roots in one cut). By AI agents, Wed Nov 11 2026. No macro, syntax, notation, axiom, sorry.
-/
import Derived.Test.YtcmgnhjffhaajaaChecked
import GoSem.Claim
import GoSem.ClaimJoined
import GoSem.ClaimMapViews
import Derived.JoinedTies
import Derived.KernelRfl
namespace Go.Proofs.Ytcmgnhjffhaajaa
/- THE CELL 'sum', in the pinned program and in every row, IS THE sha256 OF THE DUMP (.gsa) THAT YtcmgnhjffhaajaaProg.lean LOADS. Nothing in Lean hashes anything: it is a label: what it is worth is what the hold of that sum in a sandbox is worth. -/
noncomputable def Try.pinned : Pinned := { name := "ytcmgnhjffhaajaa", sum := "2873257b42631c73fbc4b4634af3cbf5e2f5eeead3c851f54ad46ab794fc1051", checked := Try.checked }
namespace Rows
def none {H : Type} : Left H := { results := [], args := [] }

/-- 'repertorylaw14.GramValid': WHATEVER THE INPUT: true; the input reads as it did. -/
def gramValidSpec : ChangeSpec := { name := "gramValid", fn := fun _ => fun
  | [d1, d2, d3] => { results := [.lit (.bool true)], args := [d1, d2, d3] }
  | _ => none }
def gramValidRow : OpenClaim := { program := "ytcmgnhjffhaajaa", sum := "2873257b42631c73fbc4b4634af3cbf5e2f5eeead3c851f54ad46ab794fc1051", func := "repertory/repertorylaw14.GramValid", spec := "gramValid", inPlace := ["internal/bytealg.IndexByteString"], unfollowed := true, recurses := true, apart := false }
def GramValidSaid : Prop := gramValidRow.holds Try.pinned (OpenSpec.ofChange gramValidSpec)

/-- ITS FALSE NEIGHBOUR: 'it returns false'. Refute it at one input. -/
def gramValidWrong : ChangeSpec := { name := "gramValid", fn := fun _ => fun
  | [d1, d2, d3] => { results := [.lit (.bool false)], args := [d1, d2, d3] }
  | _ => none }
def GramValidWrongFalsely : Prop := gramValidRow.holds Try.pinned (OpenSpec.ofChange gramValidWrong)

/-- 'repertorylaw14.GramBounds': WHATEVER THE INPUT: true; the input reads as it did. -/
def gramBoundsSpec : ChangeSpec := { name := "gramBounds", fn := fun _ => fun
  | [d1, d2, d3] => { results := [.lit (.bool true)], args := [d1, d2, d3] }
  | _ => none }
def gramBoundsRow : OpenClaim := { program := "ytcmgnhjffhaajaa", sum := "2873257b42631c73fbc4b4634af3cbf5e2f5eeead3c851f54ad46ab794fc1051", func := "repertory/repertorylaw14.GramBounds", spec := "gramBounds", inPlace := ["internal/bytealg.IndexByteString"], unfollowed := true, recurses := true, apart := false }
def GramBoundsSaid : Prop := gramBoundsRow.holds Try.pinned (OpenSpec.ofChange gramBoundsSpec)

/-- ITS FALSE NEIGHBOUR: 'it returns false'. Refute it at one input. -/
def gramBoundsWrong : ChangeSpec := { name := "gramBounds", fn := fun _ => fun
  | [d1, d2, d3] => { results := [.lit (.bool false)], args := [d1, d2, d3] }
  | _ => none }
def GramBoundsWrongFalsely : Prop := gramBoundsRow.holds Try.pinned (OpenSpec.ofChange gramBoundsWrong)

/-- 'repertorylaw14.GramBack': WHATEVER THE INPUT: true; the input reads as it did. -/
def gramBackSpec : ChangeSpec := { name := "gramBack", fn := fun _ => fun
  | [d] => { results := [.lit (.bool true)], args := [d] }
  | _ => none }
def gramBackRow : OpenClaim := { program := "ytcmgnhjffhaajaa", sum := "2873257b42631c73fbc4b4634af3cbf5e2f5eeead3c851f54ad46ab794fc1051", func := "repertory/repertorylaw14.GramBack", spec := "gramBack", inPlace := ["internal/bytealg.IndexByteString"], unfollowed := true, recurses := true, apart := false }
def GramBackSaid : Prop := gramBackRow.holds Try.pinned (OpenSpec.ofChange gramBackSpec)

/-- ITS FALSE NEIGHBOUR: 'it returns false'. Refute it at one input. -/
def gramBackWrong : ChangeSpec := { name := "gramBack", fn := fun _ => fun
  | [d] => { results := [.lit (.bool false)], args := [d] }
  | _ => none }
def GramBackWrongFalsely : Prop := gramBackRow.holds Try.pinned (OpenSpec.ofChange gramBackWrong)

/-- 'repertorylaw14.GramReads': WHATEVER THE INPUT: true; the input reads as it did. -/
def gramReadsSpec : ChangeSpec := { name := "gramReads", fn := fun _ => fun
  | [d] => { results := [.lit (.bool true)], args := [d] }
  | _ => none }
def gramReadsRow : OpenClaim := { program := "ytcmgnhjffhaajaa", sum := "2873257b42631c73fbc4b4634af3cbf5e2f5eeead3c851f54ad46ab794fc1051", func := "repertory/repertorylaw14.GramReads", spec := "gramReads", inPlace := ["internal/bytealg.IndexByteString"], unfollowed := true, recurses := true, apart := false }
def GramReadsSaid : Prop := gramReadsRow.holds Try.pinned (OpenSpec.ofChange gramReadsSpec)

/-- ITS FALSE NEIGHBOUR: 'it returns false'. Refute it at one input. -/
def gramReadsWrong : ChangeSpec := { name := "gramReads", fn := fun _ => fun
  | [d] => { results := [.lit (.bool false)], args := [d] }
  | _ => none }
def GramReadsWrongFalsely : Prop := gramReadsRow.holds Try.pinned (OpenSpec.ofChange gramReadsWrong)

/- THE SECOND FORM. 'bulk': how many values and letters a reading holds, each counted each time it is reached (what is shared counts as often as it is met; a slice's spare places count too). A statement '..UptoSaid' is the law's where the arguments, and the package variables that the reading takes, are together of bulk at most 1048576: NARROWER than '..Said'. Prove '..Said' where nothing that the law and all that it calls make is longer than what came in: it says more and counts as full. Else prove '..UptoSaid'. A law counts once. -/
mutual
def uptoBulk {H : Type} : DataW H → Nat
  | .lit (.string bytes) => bytes.length + 1
  | .lit _ => 1
  | .nil => 1
  | .ptr d => uptoBulk d + 1
  | .slice elems spare => uptoBulkAll elems + uptoBulkAll spare + 1
  | .agg parts => uptoBulkAll parts + 1
  | .iface _ d => uptoBulk d + 1
  | .map entries => uptoBulkEntries entries + 1
  | .held _ => 1
def uptoBulkAll {H : Type} : List (DataW H) → Nat
  | [] => 0
  | d :: r => uptoBulk d + uptoBulkAll r
def uptoBulkEntries {H : Type} : List (Lit × DataW H) → Nat
  | [] => 0
  | x :: r => uptoBulkEntry x + uptoBulkEntries r
def uptoBulkEntry {H : Type} : Lit × DataW H → Nat
  | (.string bytes, d) => bytes.length + uptoBulk d + 1
  | (_, d) => uptoBulk d + 1
 end
def uptoSmall : (H : Type) → List (DataW H) → Bool := fun _ ds => decide (uptoBulkAll ds ≤ 1048576)
def OpenSpec.upto (s : _root_.Go.ChangeSpec) : _root_.Go.OpenSpec := { _root_.Go.OpenSpec.ofChange s with cond := some uptoSmall }

/-- 'repertorylaw14.GramValid', WHERE WHAT IT READS IS OF BULK AT MOST 1048576: true; the input reads as it did. -/
def gramValidUptoRow : OpenClaim := { program := "ytcmgnhjffhaajaa", sum := "2873257b42631c73fbc4b4634af3cbf5e2f5eeead3c851f54ad46ab794fc1051", func := "repertory/repertorylaw14.GramValid", spec := "gramValid", inPlace := ["internal/bytealg.IndexByteString"], unfollowed := true, recurses := true, apart := false, narrowed := true }
def GramValidUptoSaid : Prop := gramValidUptoRow.holds Try.pinned (OpenSpec.upto gramValidSpec)

/-- 'repertorylaw14.GramBounds', WHERE WHAT IT READS IS OF BULK AT MOST 1048576: true; the input reads as it did. -/
def gramBoundsUptoRow : OpenClaim := { program := "ytcmgnhjffhaajaa", sum := "2873257b42631c73fbc4b4634af3cbf5e2f5eeead3c851f54ad46ab794fc1051", func := "repertory/repertorylaw14.GramBounds", spec := "gramBounds", inPlace := ["internal/bytealg.IndexByteString"], unfollowed := true, recurses := true, apart := false, narrowed := true }
def GramBoundsUptoSaid : Prop := gramBoundsUptoRow.holds Try.pinned (OpenSpec.upto gramBoundsSpec)

/-- 'repertorylaw14.GramBack', WHERE WHAT IT READS IS OF BULK AT MOST 1048576: true; the input reads as it did. -/
def gramBackUptoRow : OpenClaim := { program := "ytcmgnhjffhaajaa", sum := "2873257b42631c73fbc4b4634af3cbf5e2f5eeead3c851f54ad46ab794fc1051", func := "repertory/repertorylaw14.GramBack", spec := "gramBack", inPlace := ["internal/bytealg.IndexByteString"], unfollowed := true, recurses := true, apart := false, narrowed := true }
def GramBackUptoSaid : Prop := gramBackUptoRow.holds Try.pinned (OpenSpec.upto gramBackSpec)

/-- 'repertorylaw14.GramReads', WHERE WHAT IT READS IS OF BULK AT MOST 1048576: true; the input reads as it did. -/
def gramReadsUptoRow : OpenClaim := { program := "ytcmgnhjffhaajaa", sum := "2873257b42631c73fbc4b4634af3cbf5e2f5eeead3c851f54ad46ab794fc1051", func := "repertory/repertorylaw14.GramReads", spec := "gramReads", inPlace := ["internal/bytealg.IndexByteString"], unfollowed := true, recurses := true, apart := false, narrowed := true }
def GramReadsUptoSaid : Prop := gramReadsUptoRow.holds Try.pinned (OpenSpec.upto gramReadsSpec)

end Rows
end Go.Proofs.Ytcmgnhjffhaajaa
