/-
  DERIVED. GIVEN WITH THE SEED: THE CARDS: each row of YtelodojaicdebaaDoorRows.lean that lists a variable, with what it lists TIED to the program's text (the seventh form; the later family's looks); each row that meets fmt, with fmt's text TOLD by the authors' own Lean function (tested against real Go, not proved from fmt's source: count such statements apart). THE CARD IS WHAT COUNTS. Prove the row's statement (the work); the ties are given (YtelodojaicdebaaDoorTie.lean); close each card by the builder's one call (the guide's Derived/Test/ToyasCard.lean, 'card_holds'). Laid BY PROGRAM, IN A SANDBOX (cutbox-door.mjs). By AI agents, Wed Nov 11 2026. No macro, syntax, notation, axiom, sorry.
-/
import Derived.Test.YtelodojaicdebaaDoorRows
import GoSem.ClaimSeven
namespace Go.Proofs.YtelodojaicdebaaDoor
namespace Rows

/-- THE TIED CARD OF 'leatlaw14.NegoShakes'. -/
def negoShakesCard : Claim7 := { stood := { row := negoShakesRow, standIns := [], harness := (true, "1cce9880357fee01d27f55aaeb0188981935c230aae2bff51ab242e2568d4adb"), looks := false }, kinds := [], alts := [], laidByText := true, laidKinds := [.data], laidTests := true, laidLooks := .later }
def NegoShakesCardSaid : Prop := Claim7.holds Tryd.pinned (.plain (OpenSpec.ofChange negoShakesSpec)) negoShakesCard

/-- THE TIED CARD OF 'leatlaw14.NegoAnswers'. -/
def negoAnswersCard : Claim7 := { stood := { row := negoAnswersRow, standIns := [], harness := (true, "1cce9880357fee01d27f55aaeb0188981935c230aae2bff51ab242e2568d4adb"), looks := false }, kinds := [], alts := [], laidByText := true, laidKinds := [.data], laidTests := true, laidLooks := .later }
def NegoAnswersCardSaid : Prop := Claim7.holds Tryd.pinned (.plain (OpenSpec.ofChange negoAnswersSpec)) negoAnswersCard

/-- THE TIED CARD OF 'leatlaw14.NegoAgrees'. -/
def negoAgreesCard : Claim7 := { stood := { row := negoAgreesRow, standIns := [], harness := (true, "1cce9880357fee01d27f55aaeb0188981935c230aae2bff51ab242e2568d4adb"), looks := false }, kinds := [], alts := [], laidByText := true, laidKinds := [.data], laidTests := true, laidLooks := .later }
def NegoAgreesCardSaid : Prop := Claim7.holds Tryd.pinned (.plain (OpenSpec.ofChange negoAgreesSpec)) negoAgreesCard

/-- THE SECOND FORM's CARD OF 'leatlaw14.NegoShakes'. -/
def negoShakesUptoCard : Claim7 := { stood := { row := negoShakesUptoRow, standIns := [], harness := (true, "1cce9880357fee01d27f55aaeb0188981935c230aae2bff51ab242e2568d4adb"), looks := false }, kinds := [], alts := [], laidByText := true, laidKinds := [.data], laidTests := true, laidLooks := .later }
def NegoShakesUptoCardSaid : Prop := Claim7.holds Tryd.pinned (.plain (OpenSpec.upto negoShakesSpec)) negoShakesUptoCard

/-- THE SECOND FORM's CARD OF 'leatlaw14.NegoAnswers'. -/
def negoAnswersUptoCard : Claim7 := { stood := { row := negoAnswersUptoRow, standIns := [], harness := (true, "1cce9880357fee01d27f55aaeb0188981935c230aae2bff51ab242e2568d4adb"), looks := false }, kinds := [], alts := [], laidByText := true, laidKinds := [.data], laidTests := true, laidLooks := .later }
def NegoAnswersUptoCardSaid : Prop := Claim7.holds Tryd.pinned (.plain (OpenSpec.upto negoAnswersSpec)) negoAnswersUptoCard

/-- THE SECOND FORM's CARD OF 'leatlaw14.NegoAgrees'. -/
def negoAgreesUptoCard : Claim7 := { stood := { row := negoAgreesUptoRow, standIns := [], harness := (true, "1cce9880357fee01d27f55aaeb0188981935c230aae2bff51ab242e2568d4adb"), looks := false }, kinds := [], alts := [], laidByText := true, laidKinds := [.data], laidTests := true, laidLooks := .later }
def NegoAgreesUptoCardSaid : Prop := Claim7.holds Tryd.pinned (.plain (OpenSpec.upto negoAgreesSpec)) negoAgreesUptoCard
end Rows
end Go.Proofs.YtelodojaicdebaaDoor
