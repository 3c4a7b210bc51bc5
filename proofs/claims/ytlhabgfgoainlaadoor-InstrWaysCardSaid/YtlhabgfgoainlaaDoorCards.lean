/-
  DERIVED. GIVEN WITH THE SEED: THE CARDS: each row of YtlhabgfgoainlaaDoorRows.lean that lists a variable, with what it lists TIED to the program's text (the seventh form; the later family's looks); each row that meets fmt, with fmt's text TOLD by the authors' own Lean function (tested against real Go, not proved from fmt's source: count such statements apart). THE CARD IS WHAT COUNTS. Prove the row's statement (the work); the ties are given (YtlhabgfgoainlaaDoorTie.lean); close each card by the builder's one call (the guide's Derived/Test/ToyasCard.lean, 'card_holds'). Laid BY PROGRAM, IN A SANDBOX (cutbox-door.mjs). By AI agents, Wed Nov 11 2026. No macro, syntax, notation, axiom, sorry.
-/
import Derived.Test.YtlhabgfgoainlaaDoorRows
import GoSem.ClaimSeven
namespace Go.Proofs.YtlhabgfgoainlaaDoor
namespace Rows

/-- THE TIED CARD OF 'prompterlaw14.InstrChecks'. -/
def instrChecksCard : Claim7 := { stood := { row := instrChecksRow, standIns := [], harness := (true, "a32dd7982636e8688ca99f89880d2d326e944a964a16c780ec3fc5003d13d90c"), looks := true }, kinds := [], alts := [], laidByText := true, laidKinds := [.data], laidTests := true, laidLooks := .later }
def InstrChecksCardSaid : Prop := Claim7.holds Tryd.pinned (.plain (OpenSpec.ofChange instrChecksSpec)) instrChecksCard

/-- THE TIED CARD OF 'prompterlaw14.InstrReads'. -/
def instrReadsCard : Claim7 := { stood := { row := instrReadsRow, standIns := [], harness := (true, "a32dd7982636e8688ca99f89880d2d326e944a964a16c780ec3fc5003d13d90c"), looks := true }, kinds := [], alts := [], laidByText := true, laidKinds := [.data], laidTests := true, laidLooks := .later }
def InstrReadsCardSaid : Prop := Claim7.holds Tryd.pinned (.plain (OpenSpec.ofChange instrReadsSpec)) instrReadsCard

/-- THE TIED CARD OF 'prompterlaw14.InstrWays'. -/
def instrWaysCard : Claim7 := { stood := { row := instrWaysRow, standIns := [], harness := (true, "a32dd7982636e8688ca99f89880d2d326e944a964a16c780ec3fc5003d13d90c"), looks := true }, kinds := [], alts := [], laidByText := true, laidKinds := [.data], laidTests := true, laidLooks := .later }
def InstrWaysCardSaid : Prop := Claim7.holds Tryd.pinned (.plain (OpenSpec.ofChange instrWaysSpec)) instrWaysCard

/-- THE SECOND FORM's CARD OF 'prompterlaw14.InstrChecks'. -/
def instrChecksUptoCard : Claim7 := { stood := { row := instrChecksUptoRow, standIns := [], harness := (true, "a32dd7982636e8688ca99f89880d2d326e944a964a16c780ec3fc5003d13d90c"), looks := true }, kinds := [], alts := [], laidByText := true, laidKinds := [.data], laidTests := true, laidLooks := .later }
def InstrChecksUptoCardSaid : Prop := Claim7.holds Tryd.pinned (.plain (OpenSpec.upto instrChecksSpec)) instrChecksUptoCard

/-- THE SECOND FORM's CARD OF 'prompterlaw14.InstrReads'. -/
def instrReadsUptoCard : Claim7 := { stood := { row := instrReadsUptoRow, standIns := [], harness := (true, "a32dd7982636e8688ca99f89880d2d326e944a964a16c780ec3fc5003d13d90c"), looks := true }, kinds := [], alts := [], laidByText := true, laidKinds := [.data], laidTests := true, laidLooks := .later }
def InstrReadsUptoCardSaid : Prop := Claim7.holds Tryd.pinned (.plain (OpenSpec.upto instrReadsSpec)) instrReadsUptoCard

/-- THE SECOND FORM's CARD OF 'prompterlaw14.InstrWays'. -/
def instrWaysUptoCard : Claim7 := { stood := { row := instrWaysUptoRow, standIns := [], harness := (true, "a32dd7982636e8688ca99f89880d2d326e944a964a16c780ec3fc5003d13d90c"), looks := true }, kinds := [], alts := [], laidByText := true, laidKinds := [.data], laidTests := true, laidLooks := .later }
def InstrWaysUptoCardSaid : Prop := Claim7.holds Tryd.pinned (.plain (OpenSpec.upto instrWaysSpec)) instrWaysUptoCard
end Rows
end Go.Proofs.YtlhabgfgoainlaaDoor
