/- A part of the proof: Shelf. No condition. -/
import Derived.Shelf.Small.Wraps
import Derived.Shelf.Bits.Mul64
import Derived.Shelf.Slices.Turned
import Derived.Ground.Names2Prog
import Derived.Shelf.Slices.SearchI
import Derived.Ground.SlgnProg
import Derived.Shelf.SlicesG.SearchI
import Derived.Test.YtfajfflbplnagaaDoorProg
set_option linter.unusedVariables false
set_option linter.unusedSimpArgs false
namespace Go.Proofs
open Go.Shelf
def Tryd.lays212_ren : Go.Shelf.Ren := ⟨fun | 212 => 60 | 263 => 72 | 264 => 73 | n => n, fun | 46 => 52 | 51 => 123 | 146 => 124 | 53 => 36 | 148 => 126 | n => n, fun | n => n⟩
theorem Tryd.lays212 : Go.Proofs.Lays.n212 Tryd.prog Tryd.lays212_ren := {
 mixed := by kernel_rfl
 f212 := Tryd.func60.trans (congrArg some (by kernel_rfl))
 f263 := Tryd.func72.trans (congrArg some (by kernel_rfl))
 f264 := Tryd.func73.trans (congrArg some (by kernel_rfl))
 t46 := Tryd.underlying52
 a46 := Tryd.isAgg52
 z46 := Tryd.sizeOf52
 v46 := Tryd.zeroValue52
 t51 := Tryd.underlying123
 a51 := Tryd.isAgg123
 z51 := Tryd.sizeOf123
 v51 := Tryd.zeroValue123
 t53 := Tryd.underlying36
 a53 := Tryd.isAgg36
 z53 := Tryd.sizeOf36
 v53 := Tryd.zeroValue36
 t146 := Tryd.underlying124
 a146 := Tryd.isAgg124
 z146 := Tryd.sizeOf124
 v146 := Tryd.zeroValue124
 t148 := Tryd.underlying126
 a148 := Tryd.isAgg126
 z148 := Tryd.sizeOf126
 v148 := Tryd.zeroValue126 }
open Go.RowKit Go.Lib in
theorem Tryd.bits_Mul (x y : Nat) (hx : x < 18446744073709551616) (hy : y < 18446744073709551616) (w : World) :
   Calls Tryd.prog 60 #[.int .u64 x, .int .u64 y] w fun e w' => e = .returned (.tuple #[.int .u64 ((x * y / 18446744073709551616 : Nat) : Int), .int .u64 ((x * y % 18446744073709551616 : Nat) : Int)]) ∧ w' = w := Any.bits_Mul Tryd.lays212 x y hx hy w
end Go.Proofs
