/-
  DERIVED. GIVEN WITH THE SEED: THE CARDS: each row of YtjiighgabfkmpaaDoorRows.lean that lists a variable, with what it lists TIED to the program's text (the seventh form; the later family's looks); each row that meets fmt, with fmt's text TOLD by the authors' own Lean function (tested against real Go, not proved from fmt's source: count such statements apart). THE CARD IS WHAT COUNTS. Prove the row's statement (the work); the ties are given (YtjiighgabfkmpaaDoorTie.lean); close each card by the builder's one call (the guide's Derived/Test/ToyasCard.lean, 'card_holds'). Laid BY PROGRAM, IN A SANDBOX (cutbox-door.mjs). By AI agents, Wed Nov 11 2026. No macro, syntax, notation, axiom, sorry.
-/
import Derived.Test.YtjiighgabfkmpaaDoorRows
import GoSem.ClaimSeven
namespace Go.Proofs.YtjiighgabfkmpaaDoor
namespace Rows

/-- THE TIED CARD OF 'repertorylaw04.ShaHashes'. -/
def shaHashesCard : Claim7 := { stood := { row := shaHashesRow, standIns := [], harness := (true, "d192a18dfbc9d744354513df71271ef75ced1c6c060b44e597807db1c7cfb3aa"), looks := false }, kinds := [], alts := [], laidByText := true, laidKinds := [.data], laidTests := true, laidLooks := .later }
def ShaHashesCardSaid : Prop := Claim7.holds Tryd.pinned (.plain (OpenSpec.ofChange shaHashesSpec)) shaHashesCard

/-- THE TIED CARD OF 'repertorylaw04.ShaParts'. -/
def shaPartsCard : Claim7 := { stood := { row := shaPartsRow, standIns := [], harness := (true, "d192a18dfbc9d744354513df71271ef75ced1c6c060b44e597807db1c7cfb3aa"), looks := false }, kinds := [], alts := [], laidByText := true, laidKinds := [.data], laidTests := true, laidLooks := .later }
def ShaPartsCardSaid : Prop := Claim7.holds Tryd.pinned (.plain (OpenSpec.ofChange shaPartsSpec)) shaPartsCard

/-- THE TIED CARD OF 'repertorylaw04.ShaGrows'. -/
def shaGrowsCard : Claim7 := { stood := { row := shaGrowsRow, standIns := [], harness := (true, "d192a18dfbc9d744354513df71271ef75ced1c6c060b44e597807db1c7cfb3aa"), looks := false }, kinds := [], alts := [], laidByText := true, laidKinds := [.data], laidTests := true, laidLooks := .later }
def ShaGrowsCardSaid : Prop := Claim7.holds Tryd.pinned (.plain (OpenSpec.ofChange shaGrowsSpec)) shaGrowsCard

/-- THE SECOND FORM's CARD OF 'repertorylaw04.ShaHashes'. -/
def shaHashesUptoCard : Claim7 := { stood := { row := shaHashesUptoRow, standIns := [], harness := (true, "d192a18dfbc9d744354513df71271ef75ced1c6c060b44e597807db1c7cfb3aa"), looks := false }, kinds := [], alts := [], laidByText := true, laidKinds := [.data], laidTests := true, laidLooks := .later }
def ShaHashesUptoCardSaid : Prop := Claim7.holds Tryd.pinned (.plain (OpenSpec.upto shaHashesSpec)) shaHashesUptoCard

/-- THE SECOND FORM's CARD OF 'repertorylaw04.ShaParts'. -/
def shaPartsUptoCard : Claim7 := { stood := { row := shaPartsUptoRow, standIns := [], harness := (true, "d192a18dfbc9d744354513df71271ef75ced1c6c060b44e597807db1c7cfb3aa"), looks := false }, kinds := [], alts := [], laidByText := true, laidKinds := [.data], laidTests := true, laidLooks := .later }
def ShaPartsUptoCardSaid : Prop := Claim7.holds Tryd.pinned (.plain (OpenSpec.upto shaPartsSpec)) shaPartsUptoCard

/-- THE SECOND FORM's CARD OF 'repertorylaw04.ShaGrows'. -/
def shaGrowsUptoCard : Claim7 := { stood := { row := shaGrowsUptoRow, standIns := [], harness := (true, "d192a18dfbc9d744354513df71271ef75ced1c6c060b44e597807db1c7cfb3aa"), looks := false }, kinds := [], alts := [], laidByText := true, laidKinds := [.data], laidTests := true, laidLooks := .later }
def ShaGrowsUptoCardSaid : Prop := Claim7.holds Tryd.pinned (.plain (OpenSpec.upto shaGrowsSpec)) shaGrowsUptoCard
end Rows
end Go.Proofs.YtjiighgabfkmpaaDoor
