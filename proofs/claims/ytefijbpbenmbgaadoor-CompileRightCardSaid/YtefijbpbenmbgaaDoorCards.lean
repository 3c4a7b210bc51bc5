/-
  DERIVED. GIVEN WITH THE SEED: THE CARDS: each row of YtefijbpbenmbgaaDoorRows.lean that lists a variable, with what it lists TIED to the program's text (the seventh form; the later family's looks); each row that meets fmt, with fmt's text TOLD by the authors' own Lean function (tested against real Go, not proved from fmt's source: count such statements apart). THE CARD IS WHAT COUNTS. Prove the row's statement (the work); the ties are given (YtefijbpbenmbgaaDoorTie.lean); close each card by the builder's one call (the guide's Derived/Test/ToyasCard.lean, 'card_holds'). Laid BY PROGRAM, IN A SANDBOX (cutbox-door.mjs). By AI agents, Wed Nov 11 2026. No macro, syntax, notation, axiom, sorry.
-/
import Derived.Test.YtefijbpbenmbgaaDoorRows
import GoSem.ClaimSeven
namespace Go.Proofs.YtefijbpbenmbgaaDoor
namespace Rows

/-- THE TIED CARD OF 'prompterlaw15.CompileRight'. -/
def compileRightCard : Claim7 := { stood := { row := compileRightRow, standIns := [], harness := (true, "6ca2138dbfb8e9040561ba285f2247bd758b55bd659860464236f85d9905da90"), looks := false }, kinds := [], alts := [], laidByText := true, laidKinds := [.data, .data], laidTests := true, laidLooks := .later }
def CompileRightCardSaid : Prop := Claim7.holds Tryd.pinned (.plain (OpenSpec.ofChange compileRightSpec)) compileRightCard

/-- THE TIED CARD OF 'prompterlaw15.CompileSteps'. -/
def compileStepsCard : Claim7 := { stood := { row := compileStepsRow, standIns := [], harness := (true, "6ca2138dbfb8e9040561ba285f2247bd758b55bd659860464236f85d9905da90"), looks := false }, kinds := [], alts := [], laidByText := true, laidKinds := [.data], laidTests := true, laidLooks := .later }
def CompileStepsCardSaid : Prop := Claim7.holds Tryd.pinned (.plain (OpenSpec.ofChange compileStepsSpec)) compileStepsCard

/-- THE SECOND FORM's CARD OF 'prompterlaw15.CompileRight'. -/
def compileRightUptoCard : Claim7 := { stood := { row := compileRightUptoRow, standIns := [], harness := (true, "6ca2138dbfb8e9040561ba285f2247bd758b55bd659860464236f85d9905da90"), looks := false }, kinds := [], alts := [], laidByText := true, laidKinds := [.data, .data], laidTests := true, laidLooks := .later }
def CompileRightUptoCardSaid : Prop := Claim7.holds Tryd.pinned (.plain (OpenSpec.upto compileRightSpec)) compileRightUptoCard

/-- THE SECOND FORM's CARD OF 'prompterlaw15.CompileSteps'. -/
def compileStepsUptoCard : Claim7 := { stood := { row := compileStepsUptoRow, standIns := [], harness := (true, "6ca2138dbfb8e9040561ba285f2247bd758b55bd659860464236f85d9905da90"), looks := false }, kinds := [], alts := [], laidByText := true, laidKinds := [.data], laidTests := true, laidLooks := .later }
def CompileStepsUptoCardSaid : Prop := Claim7.holds Tryd.pinned (.plain (OpenSpec.upto compileStepsSpec)) compileStepsUptoCard
end Rows
end Go.Proofs.YtefijbpbenmbgaaDoor
