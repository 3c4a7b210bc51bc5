/-
  DERIVED. GIVEN WITH THE SEED: THE CARDS: each row of YtcabolfookofoaaGreatDoorRows.lean that lists a variable, with what it lists TIED to the program's text (the seventh form; the later family's looks); each row that meets fmt, with fmt's text TOLD by the authors' own Lean function (tested against real Go, not proved from fmt's source: count such statements apart). THE CARD IS WHAT COUNTS. Prove the row's statement (the work); the ties are given (YtcabolfookofoaaGreatDoorTie.lean); close each card by the builder's one call (the guide's Derived/Test/ToyasCard.lean, 'card_holds'). Laid BY PROGRAM, IN A SANDBOX (cutbox-door.mjs). By AI agents, Wed Nov 11 2026. No macro, syntax, notation, axiom, sorry.
-/
import Derived.Test.YtcabolfookofoaaGreatDoorRows
import GoSem.ClaimSeven
namespace Go.Proofs.YtcabolfookofoaaGreatDoor
namespace Rows

/-- THE TIED CARD OF 'prompterlaw14.InstrKnown'. -/
def instrKnownCard : Claim7 := { stood := { row := instrKnownRow, standIns := [], harness := (true, "160c5e4366d6fb9024875b070c19e94ebac2801be9d343d8b251e8d3d2d54cc7"), looks := true }, kinds := [], alts := [], laidByText := true, laidKinds := [.data, .data, .data, .data, .sentinel, .data, .pinned], laidTests := true, laidLooks := .later }
def InstrKnownCardSaid : Prop := Claim7.holds Tryz.pinned (.plain (OpenSpec.ofChange instrKnownSpec)) instrKnownCard

/-- THE TIED CARD OF 'prompterlaw14.InstrBytes'. -/
def instrBytesCard : Claim7 := { stood := { row := instrBytesRow, standIns := [], harness := (true, "160c5e4366d6fb9024875b070c19e94ebac2801be9d343d8b251e8d3d2d54cc7"), looks := true }, kinds := [], alts := [], laidByText := true, laidKinds := [.data, .data, .data, .data], laidTests := true, laidLooks := .later }
def InstrBytesCardSaid : Prop := Claim7.holds Tryz.pinned (.plain (OpenSpec.ofChange instrBytesSpec)) instrBytesCard

/-- THE TIED CARD OF 'prompterlaw14.InstrBack'. -/
def instrBackCard : Claim7 := { stood := { row := instrBackRow, standIns := [], harness := (true, "160c5e4366d6fb9024875b070c19e94ebac2801be9d343d8b251e8d3d2d54cc7"), looks := true }, kinds := [], alts := [], laidByText := true, laidKinds := [.data, .data, .data, .data, .sentinel, .data, .pinned], laidTests := true, laidLooks := .later }
def InstrBackCardSaid : Prop := Claim7.holds Tryz.pinned (.plain (OpenSpec.ofChange instrBackSpec)) instrBackCard

/-- THE TIED CARD OF 'prompterlaw14.InstrOnce'. -/
def instrOnceCard : Claim7 := { stood := { row := instrOnceRow, standIns := [], harness := (true, "160c5e4366d6fb9024875b070c19e94ebac2801be9d343d8b251e8d3d2d54cc7"), looks := true }, kinds := [], alts := [], laidByText := true, laidKinds := [.data, .data, .data, .data, .sentinel, .data, .pinned], laidTests := true, laidLooks := .later }
def InstrOnceCardSaid : Prop := Claim7.holds Tryz.pinned (.plain (OpenSpec.ofChange instrOnceSpec)) instrOnceCard

/-- THE SECOND FORM's CARD OF 'prompterlaw14.InstrKnown'. -/
def instrKnownUptoCard : Claim7 := { stood := { row := instrKnownUptoRow, standIns := [], harness := (true, "160c5e4366d6fb9024875b070c19e94ebac2801be9d343d8b251e8d3d2d54cc7"), looks := true }, kinds := [], alts := [], laidByText := true, laidKinds := [.data, .data, .data, .data, .sentinel, .data, .pinned], laidTests := true, laidLooks := .later }
def InstrKnownUptoCardSaid : Prop := Claim7.holds Tryz.pinned (.plain (OpenSpec.upto instrKnownSpec)) instrKnownUptoCard

/-- THE SECOND FORM's CARD OF 'prompterlaw14.InstrBytes'. -/
def instrBytesUptoCard : Claim7 := { stood := { row := instrBytesUptoRow, standIns := [], harness := (true, "160c5e4366d6fb9024875b070c19e94ebac2801be9d343d8b251e8d3d2d54cc7"), looks := true }, kinds := [], alts := [], laidByText := true, laidKinds := [.data, .data, .data, .data], laidTests := true, laidLooks := .later }
def InstrBytesUptoCardSaid : Prop := Claim7.holds Tryz.pinned (.plain (OpenSpec.upto instrBytesSpec)) instrBytesUptoCard

/-- THE SECOND FORM's CARD OF 'prompterlaw14.InstrBack'. -/
def instrBackUptoCard : Claim7 := { stood := { row := instrBackUptoRow, standIns := [], harness := (true, "160c5e4366d6fb9024875b070c19e94ebac2801be9d343d8b251e8d3d2d54cc7"), looks := true }, kinds := [], alts := [], laidByText := true, laidKinds := [.data, .data, .data, .data, .sentinel, .data, .pinned], laidTests := true, laidLooks := .later }
def InstrBackUptoCardSaid : Prop := Claim7.holds Tryz.pinned (.plain (OpenSpec.upto instrBackSpec)) instrBackUptoCard

/-- THE SECOND FORM's CARD OF 'prompterlaw14.InstrOnce'. -/
def instrOnceUptoCard : Claim7 := { stood := { row := instrOnceUptoRow, standIns := [], harness := (true, "160c5e4366d6fb9024875b070c19e94ebac2801be9d343d8b251e8d3d2d54cc7"), looks := true }, kinds := [], alts := [], laidByText := true, laidKinds := [.data, .data, .data, .data, .sentinel, .data, .pinned], laidTests := true, laidLooks := .later }
def InstrOnceUptoCardSaid : Prop := Claim7.holds Tryz.pinned (.plain (OpenSpec.upto instrOnceSpec)) instrOnceUptoCard
end Rows
end Go.Proofs.YtcabolfookofoaaGreatDoor
