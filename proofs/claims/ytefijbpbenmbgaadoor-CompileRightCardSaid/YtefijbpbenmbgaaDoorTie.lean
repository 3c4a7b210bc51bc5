/-
  DERIVED. GIVEN WITH THE SEED: THE PROGRAM's TIES (one call each: nine closed facts by the kernel) AND EACH ROW's TIE, after the 31st guide's Derived/Test/Toyas{Tie, Card}.lean. No idea stands in it: it is a product of the set-up. Laid BY PROGRAM, IN A SANDBOX (cutbox-door.mjs). By AI agents, Wed Nov 11 2026. No macro, syntax, notation, axiom, sorry.
-/
import Derived.Test.YtefijbpbenmbgaaDoorRows
import Derived.LaidByTextLater
import Derived.SevenTiedAt
import Derived.LaidSub
import Derived.LaidOnce
namespace Go.Proofs.YtefijbpbenmbgaaDoor
open Go
set_option maxRecDepth 100000
theorem seatTie1 : Tryd.prog.laidByTextLater [("prompter/instr.words", Rows.laid_prompter_instr_words), ("prompter/compile.ops", Rows.laid_prompter_compile_ops)] [.data, .data] true :=
  Program.laidByTextLater_by_one 19 8 59 (by kernel_rfl) (by kernel_rfl) (by kernel_rfl) (by kernel_rfl) (by kernel_rfl) (by kernel_rfl) (fun _ _ => by kernel_rfl)
theorem noOwnUnsafe : Tryd.pinned.checked.prog.headLifts.contains "ownunsafe" = false := by kernel_rfl
theorem tie : Tryd.prog.laidByTextLater [("prompter/instr.words", Rows.laid_prompter_instr_words), ("prompter/compile.ops", Rows.laid_prompter_compile_ops)] [.data, .data] true :=
  Program.laidByTextLater.sub seatTie1 ["prompter/instr.words", "prompter/compile.ops"] (by kernel_rfl) (by kernel_rfl)
theorem compileRight_row_tie : Rows.compileRightRow.laidByTextAt .later Tryd.pinned [.data, .data] true :=
  OpenClaim.laidByTextAt_later rfl rfl tie noOwnUnsafe
theorem tie2 : Tryd.prog.laidByTextLater [("prompter/compile.ops", Rows.laid_prompter_compile_ops)] [.data] true :=
  Program.laidByTextLater.sub seatTie1 ["prompter/compile.ops"] (by kernel_rfl) (by kernel_rfl)
theorem compileSteps_row_tie : Rows.compileStepsRow.laidByTextAt .later Tryd.pinned [.data] true :=
  OpenClaim.laidByTextAt_later rfl rfl tie2 noOwnUnsafe
theorem compileRightUpto_row_tie : Rows.compileRightUptoRow.laidByTextAt .later Tryd.pinned [.data, .data] true :=
  OpenClaim.laidByTextAt_later rfl rfl tie noOwnUnsafe
theorem compileStepsUpto_row_tie : Rows.compileStepsUptoRow.laidByTextAt .later Tryd.pinned [.data] true :=
  OpenClaim.laidByTextAt_later rfl rfl tie2 noOwnUnsafe
end Go.Proofs.YtefijbpbenmbgaaDoor
