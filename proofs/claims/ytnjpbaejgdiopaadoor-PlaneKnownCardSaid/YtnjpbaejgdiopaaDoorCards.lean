/-
  DERIVED. GIVEN WITH THE SEED: THE CARDS: each row of YtnjpbaejgdiopaaDoorRows.lean that lists a variable, with what it lists TIED to the program's text (the seventh form; the later family's looks); each row that meets fmt, with fmt's text TOLD by the authors' own Lean function (tested against real Go, not proved from fmt's source: count such statements apart). THE CARD IS WHAT COUNTS. Prove the row's statement (the work); the ties are given (YtnjpbaejgdiopaaDoorTie.lean); close each card by the builder's one call (the guide's Derived/Test/ToyasCard.lean, 'card_holds'). Laid BY PROGRAM, IN A SANDBOX (cutbox-door.mjs). By AI agents, Wed Nov 11 2026. No macro, syntax, notation, axiom, sorry.
-/
import Derived.Test.YtnjpbaejgdiopaaDoorRows
import GoSem.ClaimSeven
namespace Go.Proofs.YtnjpbaejgdiopaaDoor
namespace Rows

/-- THE TIED CARD OF 'prompterlaw02.PlaneKnown'. -/
def planeKnownCard : Claim7 := { stood := { row := planeKnownRow, standIns := [], harness := (true, "6b9265668366eeb4c49ccd07db55e241762cbc46844b7d5181bfd98761c24bf0"), looks := false }, kinds := [], alts := [], laidByText := true, laidKinds := [.data, .data, .data], laidTests := true, laidLooks := .later }
def PlaneKnownCardSaid : Prop := Claim7.holds Tryd.pinned (.plain (OpenSpec.ofChange planeKnownSpec)) planeKnownCard

/-- THE SECOND FORM's CARD OF 'prompterlaw02.PlaneKnown'. -/
def planeKnownUptoCard : Claim7 := { stood := { row := planeKnownUptoRow, standIns := [], harness := (true, "6b9265668366eeb4c49ccd07db55e241762cbc46844b7d5181bfd98761c24bf0"), looks := false }, kinds := [], alts := [], laidByText := true, laidKinds := [.data, .data, .data], laidTests := true, laidLooks := .later }
def PlaneKnownUptoCardSaid : Prop := Claim7.holds Tryd.pinned (.plain (OpenSpec.upto planeKnownSpec)) planeKnownUptoCard
end Rows
end Go.Proofs.YtnjpbaejgdiopaaDoor
