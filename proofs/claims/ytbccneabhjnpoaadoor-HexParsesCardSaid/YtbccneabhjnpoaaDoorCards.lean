/-
  DERIVED. GIVEN WITH THE SEED: THE CARDS: each row of YtbccneabhjnpoaaDoorRows.lean that lists a variable, with what it lists TIED to the program's text (the seventh form; the later family's looks); each row that meets fmt, with fmt's text TOLD by the authors' own Lean function (tested against real Go, not proved from fmt's source: count such statements apart). THE CARD IS WHAT COUNTS. Prove the row's statement (the work); the ties are given (YtbccneabhjnpoaaDoorTie.lean); close each card by the builder's one call (the guide's Derived/Test/ToyasCard.lean, 'card_holds'). Laid BY PROGRAM, IN A SANDBOX (cutbox-door.mjs). By AI agents, Wed Nov 11 2026. No macro, syntax, notation, axiom, sorry.
-/
import Derived.Test.YtbccneabhjnpoaaDoorRows
import GoSem.ClaimSeven
namespace Go.Proofs.YtbccneabhjnpoaaDoor
namespace Rows

/-- THE TIED CARD OF 'repertorylaw05.HexTexts'. -/
def hexTextsCard : Claim7 := { stood := { row := hexTextsRow, standIns := [], harness := (true, "b3f0a87b12192a64214d3be2f1a1a880b0db9d8671a7761f8824a19daca30a63"), looks := false }, kinds := [], alts := [], laidByText := true, laidKinds := [.data], laidTests := true, laidLooks := .later }
def HexTextsCardSaid : Prop := Claim7.holds Tryd.pinned (.plain (OpenSpec.ofChange hexTextsSpec)) hexTextsCard

/-- THE TIED CARD OF 'repertorylaw05.HexParses'. -/
def hexParsesCard : Claim7 := { stood := { row := hexParsesRow, standIns := [], harness := (true, "b3f0a87b12192a64214d3be2f1a1a880b0db9d8671a7761f8824a19daca30a63"), looks := false }, kinds := [], alts := [], laidByText := true, laidKinds := [.data], laidTests := true, laidLooks := .later }
def HexParsesCardSaid : Prop := Claim7.holds Tryd.pinned (.plain (OpenSpec.ofChange hexParsesSpec)) hexParsesCard

/-- THE SECOND FORM's CARD OF 'repertorylaw05.HexTexts'. -/
def hexTextsUptoCard : Claim7 := { stood := { row := hexTextsUptoRow, standIns := [], harness := (true, "b3f0a87b12192a64214d3be2f1a1a880b0db9d8671a7761f8824a19daca30a63"), looks := false }, kinds := [], alts := [], laidByText := true, laidKinds := [.data], laidTests := true, laidLooks := .later }
def HexTextsUptoCardSaid : Prop := Claim7.holds Tryd.pinned (.plain (OpenSpec.upto hexTextsSpec)) hexTextsUptoCard

/-- THE SECOND FORM's CARD OF 'repertorylaw05.HexParses'. -/
def hexParsesUptoCard : Claim7 := { stood := { row := hexParsesUptoRow, standIns := [], harness := (true, "b3f0a87b12192a64214d3be2f1a1a880b0db9d8671a7761f8824a19daca30a63"), looks := false }, kinds := [], alts := [], laidByText := true, laidKinds := [.data], laidTests := true, laidLooks := .later }
def HexParsesUptoCardSaid : Prop := Claim7.holds Tryd.pinned (.plain (OpenSpec.upto hexParsesSpec)) hexParsesUptoCard
end Rows
end Go.Proofs.YtbccneabhjnpoaaDoor
