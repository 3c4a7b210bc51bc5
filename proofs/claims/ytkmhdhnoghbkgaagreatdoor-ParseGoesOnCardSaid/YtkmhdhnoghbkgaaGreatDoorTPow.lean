/- The library's table of powers of ten, as a listed variable. -/
import Derived.Test.YtkmhdhnoghbkgaaGreatDoorQ32
set_option linter.unusedVariables false
namespace Go.Proofs.YtkmhdhnoghbkgaaGreatDoor
open Go.RowKit
/-- The library's table of powers of ten holds its numbers. -/
abbrev PowIs (w : World) : Prop := Lib.TabIs Tryz.prog w "internal/strconv.uint64pow10" .u64 Lib.pow10Tab
theorem tab_num : Tryz.prog.globalNamed "internal/strconv.uint64pow10" = some 5 := by kernel_rfl
end Go.Proofs.YtkmhdhnoghbkgaaGreatDoor
