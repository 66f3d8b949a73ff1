/-
  No cell of these rows narrows 'for every input' (looked for: loops, veiled, ifaces, maps, wideKeys, modest, calm, conditions, laid).
  DERIVED. THE GIVEN ROWS OF THIS SEAT. 3 by the template 'for every input the law returns true; each argument reads behind the call as it read before'; 0 by the template 'total and deterministic' (their statements: YtjddagkjgkdbkaaTotals.lean).
  GIVEN WITH THE SEED: the statements are not yours to turn. If you find one false, say at which input.
  Laid BY PROGRAM, IN A SANDBOX (cutbox-rows.mjs): the forced cells as the released guide's own fill.sh prints them over the translation d0a6cc50c15befde… (all of the seat's roots in one cut). By AI agents, Wed Nov 11 2026. No macro, syntax, notation, axiom, sorry.
-/
import Derived.Test.YtjddagkjgkdbkaaChecked
import GoSem.Claim
import GoSem.ClaimJoined
import GoSem.ClaimMapViews
import Derived.JoinedTies
import Derived.KernelRfl
namespace Go.Proofs.Ytjddagkjgkdbkaa
/- THE CELL 'sum', in the pinned program and in every row, IS THE sha256 OF THE DUMP (.gsa) THAT YtjddagkjgkdbkaaProg.lean LOADS. Nothing in Lean hashes anything: it is a label: what it is worth is what the hold of that sum in a sandbox is worth. -/
noncomputable def Try.pinned : Pinned := { name := "ytjddagkjgkdbkaa", sum := "d0a6cc50c15befde333b4c7d520adf5fca55c8363e32a45019bce4beca985108", checked := Try.checked }
namespace Rows
def none {H : Type} : Left H := { results := [], args := [] }

/-- 'repertorylaw06.SevenPacks': WHATEVER THE INPUT: true; the input reads as it did. -/
def sevenPacksSpec : ChangeSpec := { name := "sevenPacks", fn := fun _ => fun
  | [d1, d2, d3] => { results := [.lit (.bool true)], args := [d1, d2, d3] }
  | _ => none }
def sevenPacksRow : OpenClaim := { program := "ytjddagkjgkdbkaa", sum := "d0a6cc50c15befde333b4c7d520adf5fca55c8363e32a45019bce4beca985108", func := "repertory/repertorylaw06.SevenPacks", spec := "sevenPacks", apart := false }
def SevenPacksSaid : Prop := sevenPacksRow.holds Try.pinned (OpenSpec.ofChange sevenPacksSpec)

/-- ITS FALSE NEIGHBOUR: 'it returns false'. Refute it at one input. -/
def sevenPacksWrong : ChangeSpec := { name := "sevenPacks", fn := fun _ => fun
  | [d1, d2, d3] => { results := [.lit (.bool false)], args := [d1, d2, d3] }
  | _ => none }
def SevenPacksWrongFalsely : Prop := sevenPacksRow.holds Try.pinned (OpenSpec.ofChange sevenPacksWrong)

/-- 'repertorylaw06.SevenUnpacks': WHATEVER THE INPUT: true; the input reads as it did. -/
def sevenUnpacksSpec : ChangeSpec := { name := "sevenUnpacks", fn := fun _ => fun
  | [d] => { results := [.lit (.bool true)], args := [d] }
  | _ => none }
def sevenUnpacksRow : OpenClaim := { program := "ytjddagkjgkdbkaa", sum := "d0a6cc50c15befde333b4c7d520adf5fca55c8363e32a45019bce4beca985108", func := "repertory/repertorylaw06.SevenUnpacks", spec := "sevenUnpacks", apart := false }
def SevenUnpacksSaid : Prop := sevenUnpacksRow.holds Try.pinned (OpenSpec.ofChange sevenUnpacksSpec)

/-- ITS FALSE NEIGHBOUR: 'it returns false'. Refute it at one input. -/
def sevenUnpacksWrong : ChangeSpec := { name := "sevenUnpacks", fn := fun _ => fun
  | [d] => { results := [.lit (.bool false)], args := [d] }
  | _ => none }
def SevenUnpacksWrongFalsely : Prop := sevenUnpacksRow.holds Try.pinned (OpenSpec.ofChange sevenUnpacksWrong)

/-- 'repertorylaw06.SevenBurst': WHATEVER THE INPUT: true; the input reads as it did. -/
def sevenBurstSpec : ChangeSpec := { name := "sevenBurst", fn := fun _ => fun
  | [d1, d2, d3] => { results := [.lit (.bool true)], args := [d1, d2, d3] }
  | _ => none }
def sevenBurstRow : OpenClaim := { program := "ytjddagkjgkdbkaa", sum := "d0a6cc50c15befde333b4c7d520adf5fca55c8363e32a45019bce4beca985108", func := "repertory/repertorylaw06.SevenBurst", spec := "sevenBurst", apart := false }
def SevenBurstSaid : Prop := sevenBurstRow.holds Try.pinned (OpenSpec.ofChange sevenBurstSpec)

/-- ITS FALSE NEIGHBOUR: 'it returns false'. Refute it at one input. -/
def sevenBurstWrong : ChangeSpec := { name := "sevenBurst", fn := fun _ => fun
  | [d1, d2, d3] => { results := [.lit (.bool false)], args := [d1, d2, d3] }
  | _ => none }
def SevenBurstWrongFalsely : Prop := sevenBurstRow.holds Try.pinned (OpenSpec.ofChange sevenBurstWrong)

/- THE SECOND FORM. 'bulk': how many values and letters a reading holds, each counted each time it is reached (what is shared counts as often as it is met; a slice's spare places count too). A statement '..UptoSaid' is the law's where the arguments, and the package variables that the reading takes, are together of bulk at most 1048576: NARROWER than '..Said'. Prove '..Said' where nothing that the law and all that it calls make is longer than what came in: it says more and counts as full. Else prove '..UptoSaid'. A law counts once. -/
mutual
def uptoBulk {H : Type} : DataW H → Nat
  | .lit (.string bytes) => bytes.length + 1
  | .lit _ => 1
  | .nil => 1
  | .ptr d => uptoBulk d + 1
  | .slice elems spare => uptoBulkAll elems + uptoBulkAll spare + 1
  | .agg parts => uptoBulkAll parts + 1
  | .iface _ d => uptoBulk d + 1
  | .map entries => uptoBulkEntries entries + 1
  | .held _ => 1
def uptoBulkAll {H : Type} : List (DataW H) → Nat
  | [] => 0
  | d :: r => uptoBulk d + uptoBulkAll r
def uptoBulkEntries {H : Type} : List (Lit × DataW H) → Nat
  | [] => 0
  | x :: r => uptoBulkEntry x + uptoBulkEntries r
def uptoBulkEntry {H : Type} : Lit × DataW H → Nat
  | (.string bytes, d) => bytes.length + uptoBulk d + 1
  | (_, d) => uptoBulk d + 1
 end
def uptoSmall : (H : Type) → List (DataW H) → Bool := fun _ ds => decide (uptoBulkAll ds ≤ 1048576)
def OpenSpec.upto (s : _root_.Go.ChangeSpec) : _root_.Go.OpenSpec := { _root_.Go.OpenSpec.ofChange s with cond := some uptoSmall }

/-- 'repertorylaw06.SevenPacks', WHERE WHAT IT READS IS OF BULK AT MOST 1048576: true; the input reads as it did. -/
def sevenPacksUptoRow : OpenClaim := { program := "ytjddagkjgkdbkaa", sum := "d0a6cc50c15befde333b4c7d520adf5fca55c8363e32a45019bce4beca985108", func := "repertory/repertorylaw06.SevenPacks", spec := "sevenPacks", apart := false, narrowed := true }
def SevenPacksUptoSaid : Prop := sevenPacksUptoRow.holds Try.pinned (OpenSpec.upto sevenPacksSpec)

/-- 'repertorylaw06.SevenUnpacks', WHERE WHAT IT READS IS OF BULK AT MOST 1048576: true; the input reads as it did. -/
def sevenUnpacksUptoRow : OpenClaim := { program := "ytjddagkjgkdbkaa", sum := "d0a6cc50c15befde333b4c7d520adf5fca55c8363e32a45019bce4beca985108", func := "repertory/repertorylaw06.SevenUnpacks", spec := "sevenUnpacks", apart := false, narrowed := true }
def SevenUnpacksUptoSaid : Prop := sevenUnpacksUptoRow.holds Try.pinned (OpenSpec.upto sevenUnpacksSpec)

/-- 'repertorylaw06.SevenBurst', WHERE WHAT IT READS IS OF BULK AT MOST 1048576: true; the input reads as it did. -/
def sevenBurstUptoRow : OpenClaim := { program := "ytjddagkjgkdbkaa", sum := "d0a6cc50c15befde333b4c7d520adf5fca55c8363e32a45019bce4beca985108", func := "repertory/repertorylaw06.SevenBurst", spec := "sevenBurst", apart := false, narrowed := true }
def SevenBurstUptoSaid : Prop := sevenBurstUptoRow.holds Try.pinned (OpenSpec.upto sevenBurstSpec)

end Rows
end Go.Proofs.Ytjddagkjgkdbkaa
