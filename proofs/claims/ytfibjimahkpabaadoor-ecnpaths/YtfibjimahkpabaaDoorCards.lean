/-
  DERIVED. GIVEN WITH THE SEED: THE CARDS: each row of YtfibjimahkpabaaDoorRows.lean that lists a variable, with what it lists TIED to the program's text (the seventh form; the later family's looks); each row that meets fmt, with fmt's text TOLD by the authors' own Lean function (tested against real Go, not proved from fmt's source: count such statements apart). THE CARD IS WHAT COUNTS. Prove the row's statement (the work); the ties are given (YtfibjimahkpabaaDoorTie.lean); close each card by the builder's one call (the guide's Derived/Test/ToyasCard.lean, 'card_holds'). Laid BY PROGRAM, IN A SANDBOX (cutbox-door.mjs). By AI agents, Wed Nov 11 2026. No macro, syntax, notation, axiom, sorry.
-/
import Derived.Test.YtfibjimahkpabaaDoorRows
import GoSem.ClaimSeven
namespace Go.Proofs.YtfibjimahkpabaaDoor
namespace Rows

/-- THE TIED CARD OF 'leatlaw09.EcnNames'. -/
def ecnNamesCard : Claim7 := { stood := { row := ecnNamesRow, standIns := [], harness := (true, "04c61951299e295195bb54aaaf1754e343ae31181a18016d1e8a4d697fa3af4c"), looks := false }, kinds := [], alts := [], laidByText := true, laidKinds := [.data], laidTests := true, laidLooks := .later }
def EcnNamesCardSaid : Prop := Claim7.holds Tryd.pinned (.plain (OpenSpec.ofChange ecnNamesSpec)) ecnNamesCard

/-- THE TIED CARD OF 'leatlaw09.EcnPaths'. -/
def ecnPathsCard : Claim7 := { stood := { row := ecnPathsRow, standIns := [], harness := (true, "04c61951299e295195bb54aaaf1754e343ae31181a18016d1e8a4d697fa3af4c"), looks := false }, kinds := [], alts := [], laidByText := true, laidKinds := [.data], laidTests := true, laidLooks := .later }
def EcnPathsCardSaid : Prop := Claim7.holds Tryd.pinned (.plain (OpenSpec.ofChange ecnPathsSpec)) ecnPathsCard

/-- THE SECOND FORM's CARD OF 'leatlaw09.EcnNames'. -/
def ecnNamesUptoCard : Claim7 := { stood := { row := ecnNamesUptoRow, standIns := [], harness := (true, "04c61951299e295195bb54aaaf1754e343ae31181a18016d1e8a4d697fa3af4c"), looks := false }, kinds := [], alts := [], laidByText := true, laidKinds := [.data], laidTests := true, laidLooks := .later }
def EcnNamesUptoCardSaid : Prop := Claim7.holds Tryd.pinned (.plain (OpenSpec.upto ecnNamesSpec)) ecnNamesUptoCard

/-- THE SECOND FORM's CARD OF 'leatlaw09.EcnPaths'. -/
def ecnPathsUptoCard : Claim7 := { stood := { row := ecnPathsUptoRow, standIns := [], harness := (true, "04c61951299e295195bb54aaaf1754e343ae31181a18016d1e8a4d697fa3af4c"), looks := false }, kinds := [], alts := [], laidByText := true, laidKinds := [.data], laidTests := true, laidLooks := .later }
def EcnPathsUptoCardSaid : Prop := Claim7.holds Tryd.pinned (.plain (OpenSpec.upto ecnPathsSpec)) ecnPathsUptoCard
end Rows
end Go.Proofs.YtfibjimahkpabaaDoor
