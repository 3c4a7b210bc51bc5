/- The language's words (layer 7): token.Keyword (cut out of TWords, which holds the law TokenWords too). No condition. -/
import Derived.Test.YtefijbpbenmbgaaDoorNum
import Derived.Test.YtefijbpbenmbgaaDoorRows
import Derived.WalkKit
import Derived.WalkSpells
import Derived.WalkLawsBesides
import Derived.Handy
import Derived.Lib.Hide
import Derived.LoopTactic
import Derived.Lib.IndexBytes
namespace Go.Proofs.YtefijbpbenmbgaaDoor
open Go.RowKit

/-- The words, as bytes. -/
def kwL : List (List UInt8) := [
  [102, 108, 111, 119],
  [108, 101, 116],
  [105, 102],
  [101, 108, 115, 101],
  [119, 104, 105, 108, 101],
  [114, 101, 116, 117, 114, 110],
  [102, 97, 105, 108],
  [115, 108, 101, 101, 112],
  [100, 111],
  [110, 111, 110, 101],
  [116, 114, 117, 101],
  [102, 97, 108, 115, 101],
  [111, 114],
  [97, 110, 100],
  [110, 111, 116],
  [108, 101, 110],
  [110, 117, 109],
  [114, 101],
  [105, 109],
  [99, 111, 110, 106],
  [99, 97, 108, 108],
  [99, 104, 105, 108, 100],
  [116, 105, 109, 101, 114],
  [102, 111, 114, 107],
  [97, 119, 97, 105, 116],
  [115, 101, 116, 116, 108, 101],
  [116, 97, 107, 101],
  [118, 101, 114, 115, 105, 111, 110]]
def kwAt (i : Nat) : ByteArray := ⟨(kwL.getD i []).toArray⟩
def kwB (l : List UInt8) : Bool := kwL.any fun k => l == k

set_option maxRecDepth 20000 in
set_option maxHeartbeats 2000000 in
theorem keyword_any (s : ByteArray) (w : World) :
    Calls Tryd.prog 70 #[.string s] w fun e w' => e = .returned (.bool (kwB s.toList)) ∧ w = w' := by
  go_enter Tryd.func70, Tryd.ntmps70
  go_wp2
  all_goals first
    | (exfalso; simp_all; done)
    | (go_ret; exact ⟨ret_bool (by simp [kwB, kwL, *]), rfl⟩)

end Go.Proofs.YtefijbpbenmbgaaDoor
