/-
  NARROWER THAN 'FOR EVERY INPUT', by the rows' own cells (each row's printed sentence says how): InstrChecks: laid.
  DERIVED. THE GIVEN ROWS OF THIS SEAT. 1 by the template 'for every input the law returns true; each argument reads behind the call as it read before'; 0 by the template 'total and deterministic' (their statements: YtcabolfookofoaaDoorTotals.lean).
  GIVEN WITH THE SEED: the statements are not yours to turn. If you find one false, say at which input.
  Laid BY PROGRAM, IN A SANDBOX (cutbox-rows.mjs): the forced cells as the released guide's own fill.sh prints them over the translation 9fe9507438e3985a… (all of the seat's roots in one cut). By AI agents, Wed Nov 11 2026. No macro, syntax, notation, axiom, sorry.
-/
import Derived.Test.YtcabolfookofoaaDoorChecked
import GoSem.Claim
import GoSem.ClaimJoined
import GoSem.ClaimMapViews
import Derived.JoinedTies
import Derived.KernelRfl
namespace Go.Proofs.YtcabolfookofoaaDoor
/- THE CELL 'sum', in the pinned program and in every row, IS THE sha256 OF THE DUMP (.gsa) THAT YtcabolfookofoaaDoorProg.lean LOADS. Nothing in Lean hashes anything: it is a label: what it is worth is what the hold of that sum in a sandbox is worth. -/
noncomputable def Tryd.pinned : Pinned := { name := "ytcabolfookofoaadoor", sum := "9fe9507438e3985a6aaebcb2272834494fd59a4a4f8d0dc64b42a14a8c5d8fdd", checked := Tryd.checked }
namespace Rows
def none {H : Type} : Left H := { results := [], args := [] }

/- WHAT THE LISTED PACKAGE-LEVEL VARIABLES READ AS WHEN THE CALL BEGINS. Each datum BY PROGRAM (the guide's laid-datum.mjs) off the statement by which the dump's own 'gosem.cut.vars' lays the variable. In a bare row this is a premise. The card (YtcabolfookofoaaDoorCards.lean) ties it to the program's text. -/
def laid_prompter_instr_words {H : Type} : DataW H := .agg [.lit (.string []), .lit (.string [106, 117, 109, 112]), .lit (.string [98, 114, 97, 110, 99, 104]), .lit (.string [111, 114]), .lit (.string [97, 110, 100]), .lit (.string [98, 111, 111, 108]), .lit (.string [100, 114, 111, 112]), .lit (.string []), .lit (.string [114, 101, 116, 117, 114, 110]), .lit (.string [102, 97, 105, 108]), .lit (.string [115, 108, 101, 101, 112]), .lit (.string []), .lit (.string []), .lit (.string []), .lit (.string []), .lit (.string []), .lit (.string []), .lit (.string []), .lit (.string []), .lit (.string []), .lit (.string [110, 111, 110, 101]), .lit (.string [116, 114, 117, 101]), .lit (.string [102, 97, 108, 115, 101]), .lit (.string [105, 110, 116]), .lit (.string [116, 101, 120, 116]), .lit (.string [108, 105, 115, 116]), .lit (.string [108, 111, 97, 100]), .lit (.string [115, 116, 111, 114, 101]), .lit (.string [101, 110, 100]), .lit (.string []), .lit (.string []), .lit (.string []), .lit (.string [101, 113]), .lit (.string [110, 101]), .lit (.string [108, 116]), .lit (.string [108, 101]), .lit (.string [97, 100, 100]), .lit (.string [115, 117, 98]), .lit (.string [109, 117, 108]), .lit (.string [100, 105, 118]), .lit (.string [109, 111, 100]), .lit (.string [110, 117, 109]), .lit (.string [97, 116]), .lit (.string [110, 111, 116]), .lit (.string [110, 101, 103]), .lit (.string [108, 101, 110]), .lit (.string [114, 101]), .lit (.string [105, 109]), .lit (.string [99, 111, 110, 106]), .lit (.string []), .lit (.string [99, 97, 108, 108]), .lit (.string [99, 104, 105, 108, 100]), .lit (.string [116, 105, 109, 101, 114]), .lit (.string [102, 111, 114, 107]), .lit (.string [97, 119, 97, 105, 116]), .lit (.string [115, 101, 116, 116, 108, 101]), .lit (.string [116, 97, 107, 101]), .lit (.string [118, 101, 114, 115, 105, 111, 110])]

/-- 'prompterlaw14.InstrChecks': WHATEVER THE INPUT: true; the input reads as it did. -/
def instrChecksSpec : ChangeSpec := { name := "instrChecks", fn := fun _ => fun
  | [d1, d2] => { results := [.lit (.bool true)], args := [d1, d2] }
  | _ => none }
def instrChecksRow : OpenClaim := { program := "ytcabolfookofoaadoor", sum := "9fe9507438e3985a6aaebcb2272834494fd59a4a4f8d0dc64b42a14a8c5d8fdd", func := "prompter/prompterlaw14.InstrChecks", spec := "instrChecks", unfollowed := true, recurses := true, named := ["prompter/instr.words"], apart := false, laid := [("prompter/instr.words", laid_prompter_instr_words)] }
def InstrChecksSaid : Prop := instrChecksRow.holds Tryd.pinned (OpenSpec.ofChange instrChecksSpec)

/-- ITS FALSE NEIGHBOUR: 'it returns false'. Refute it at one input. -/
def instrChecksWrong : ChangeSpec := { name := "instrChecks", fn := fun _ => fun
  | [d1, d2] => { results := [.lit (.bool false)], args := [d1, d2] }
  | _ => none }
def InstrChecksWrongFalsely : Prop := instrChecksRow.holds Tryd.pinned (OpenSpec.ofChange instrChecksWrong)

/- THE SECOND FORM. 'bulk': how many values and letters a reading holds, each counted each time it is reached (what is shared counts as often as it is met; a slice's spare places count too). A statement '..UptoSaid' is the law's where the arguments, and the package variables that the reading takes, are together of bulk at most 1048576: NARROWER than '..Said'. Prove '..Said' where nothing that the law and all that it calls make is longer than what came in: it says more and counts as full. Else prove '..UptoSaid'. A law counts once. -/
mutual
def uptoBulk {H : Type} : DataW H → Nat
  | .lit (.string bytes) => bytes.length + 1
  | .lit _ => 1
  | .nil => 1
  | .ptr d => uptoBulk d + 1
  | .slice elems spare => uptoBulkAll elems + uptoBulkAll spare + 1
  | .agg parts => uptoBulkAll parts + 1
  | .iface _ d => uptoBulk d + 1
  | .map entries => uptoBulkEntries entries + 1
  | .held _ => 1
def uptoBulkAll {H : Type} : List (DataW H) → Nat
  | [] => 0
  | d :: r => uptoBulk d + uptoBulkAll r
def uptoBulkEntries {H : Type} : List (Lit × DataW H) → Nat
  | [] => 0
  | x :: r => uptoBulkEntry x + uptoBulkEntries r
def uptoBulkEntry {H : Type} : Lit × DataW H → Nat
  | (.string bytes, d) => bytes.length + uptoBulk d + 1
  | (_, d) => uptoBulk d + 1
 end
def uptoSmall : (H : Type) → List (DataW H) → Bool := fun _ ds => decide (uptoBulkAll ds ≤ 1048576)
def OpenSpec.upto (s : _root_.Go.ChangeSpec) : _root_.Go.OpenSpec := { _root_.Go.OpenSpec.ofChange s with cond := some uptoSmall }

/-- 'prompterlaw14.InstrChecks', WHERE WHAT IT READS IS OF BULK AT MOST 1048576: true; the input reads as it did. -/
def instrChecksUptoRow : OpenClaim := { program := "ytcabolfookofoaadoor", sum := "9fe9507438e3985a6aaebcb2272834494fd59a4a4f8d0dc64b42a14a8c5d8fdd", func := "prompter/prompterlaw14.InstrChecks", spec := "instrChecks", unfollowed := true, recurses := true, named := ["prompter/instr.words"], apart := false, laid := [("prompter/instr.words", laid_prompter_instr_words)], narrowed := true }
def InstrChecksUptoSaid : Prop := instrChecksUptoRow.holds Tryd.pinned (OpenSpec.upto instrChecksSpec)

end Rows
end Go.Proofs.YtcabolfookofoaaDoor
