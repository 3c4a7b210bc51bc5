/-
  DERIVED. GIVEN WITH THE SEED: THE CARDS: each row of YtjiemkidmlgbeaaDoorRows.lean that lists a variable, with what it lists TIED to the program's text (the seventh form; the later family's looks); each row that meets fmt, with fmt's text TOLD by the authors' own Lean function (tested against real Go, not proved from fmt's source: count such statements apart). THE CARD IS WHAT COUNTS. Prove the row's statement (the work); the ties are given (YtjiemkidmlgbeaaDoorTie.lean); close each card by the builder's one call (the guide's Derived/Test/ToyasCard.lean, 'card_holds'). Laid BY PROGRAM, IN A SANDBOX (cutbox-door.mjs). By AI agents, Wed Nov 11 2026. No macro, syntax, notation, axiom, sorry.
-/
import Derived.Test.YtjiemkidmlgbeaaDoorRows
import GoSem.ClaimSeven
namespace Go.Proofs.YtjiemkidmlgbeaaDoor
namespace Rows

/-- THE TIED CARD OF 'prompterlaw10.ShowTree'. -/
def showTreeCard : Claim7 := { stood := { row := showTreeRow, standIns := [], harness := (true, "818d19803e2bc05320d2500d8a8090c2201c2b9735778234d6b5d49f84be8271"), looks := false }, kinds := [], alts := [], laidByText := true, laidKinds := [.data, .data, .data, .data, .data], laidTests := true, laidLooks := .later }
def ShowTreeCardSaid : Prop := Claim7.holds Tryd.pinned (.plain (OpenSpec.ofChange showTreeSpec)) showTreeCard

/-- THE TIED CARD OF 'prompterlaw10.ShowTokens'. -/
def showTokensCard : Claim7 := { stood := { row := showTokensRow, standIns := [], harness := (true, "818d19803e2bc05320d2500d8a8090c2201c2b9735778234d6b5d49f84be8271"), looks := false }, kinds := [], alts := [], laidByText := true, laidKinds := [.data, .data, .data, .data, .data], laidTests := true, laidLooks := .later }
def ShowTokensCardSaid : Prop := Claim7.holds Tryd.pinned (.plain (OpenSpec.ofChange showTokensSpec)) showTokensCard

/-- THE SECOND FORM's CARD OF 'prompterlaw10.ShowTree'. -/
def showTreeUptoCard : Claim7 := { stood := { row := showTreeUptoRow, standIns := [], harness := (true, "818d19803e2bc05320d2500d8a8090c2201c2b9735778234d6b5d49f84be8271"), looks := false }, kinds := [], alts := [], laidByText := true, laidKinds := [.data, .data, .data, .data, .data], laidTests := true, laidLooks := .later }
def ShowTreeUptoCardSaid : Prop := Claim7.holds Tryd.pinned (.plain (OpenSpec.upto showTreeSpec)) showTreeUptoCard

/-- THE SECOND FORM's CARD OF 'prompterlaw10.ShowTokens'. -/
def showTokensUptoCard : Claim7 := { stood := { row := showTokensUptoRow, standIns := [], harness := (true, "818d19803e2bc05320d2500d8a8090c2201c2b9735778234d6b5d49f84be8271"), looks := false }, kinds := [], alts := [], laidByText := true, laidKinds := [.data, .data, .data, .data, .data], laidTests := true, laidLooks := .later }
def ShowTokensUptoCardSaid : Prop := Claim7.holds Tryd.pinned (.plain (OpenSpec.upto showTokensSpec)) showTokensUptoCard
end Rows
end Go.Proofs.YtjiemkidmlgbeaaDoor
