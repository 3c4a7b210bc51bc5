/- The law OperThree: of two whole numbers, and of two texts, just one is true: less, the same, more. (mkothree2.py) No condition. -/
import Derived.Test.YtnghfjlmmmjekaaOThreeA
import Derived.Test.YtnghfjlmmmjekaaOThreeB
import Derived.Test.YtnghfjlmmmjekaaOThreeC
namespace Go.Proofs.Ytnghfjlmmmjekaa
open Go.RowKit

theorem operThree_walk (x y : Int) (s t : ByteArray) (w : World) (ix : I64 x) (iy : I64 y) (_hs : s.size ≤ 140737488351232) (_ht : t.size ≤ 140737488351232) :
    Calls Try.prog 6 #[.int .i64 x, .int .i64 y, .string s, .string t] w fun e w' => e = .returned (.bool true) ∧ Below w.heap.size w w' := by
  by_cases hs4 : s.size ≤ 4095
  · by_cases ht4 : t.size ≤ 4095
    · exact threeA_walk x y s t w ix iy hs4 ht4
    · exact threeB_walk x y s t w ix iy hs4 ht4
  · exact threeC_walk x y s t w ix iy hs4
end Go.Proofs.Ytnghfjlmmmjekaa
