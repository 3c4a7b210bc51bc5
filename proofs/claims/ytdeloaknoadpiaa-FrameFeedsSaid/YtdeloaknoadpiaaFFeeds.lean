/- FrameFeeds (layer 6): how it begins; too many pieces. -/
import Derived.Test.YtdeloaknoadpiaaFSameQ
import Derived.Test.YtdeloaknoadpiaaFAwake
namespace Go.Proofs.Ytdeloaknoadpiaa
open Go.RowKit Crc
section
variable {w W : World} {ls : List (List Nat)}
/-- Behind New and the new reader of the document. -/
theorem pair_new {B : Nat} (hB : B ≤ W.heap.size) {w' : World} (hR : RdAt w' W.heap.size (.slice none 0 0) [] 0 0 0) (hb : Below W.heap.size W w') :
    Pair (w'.alloc (.cells #[.slice none 0 0, .int .i64 0, .int .i64 0] 46)) B W.heap.size w'.heap.size [] 0 0 := by
  have hlt := hR.lt
  refine ⟨hB, hlt, by simp, .slice none 0 0, .slice none 0 0, [], hR.below ((Below.refl _ w').alloc (Nat.le_refl _) _), ⟨heap_alloc_new w' _, Bs.nil _⟩, fun _ => rfl, fun k hk => ?_, fun k hk => ?_, fun k hk => ?_⟩ <;> simp [RowOf, Value.ownBlock] at hk

theorem ffeeds_many {a : Option Addr} {L cap : Nat} (hL : 60 < L) :
    Calls Try.prog 6 #[.slice a L cap] w fun e w' => e = .returned (.bool true) ∧ Below w.heap.size w w' := by
  have hA := awake_any w
  have hn : (60 : Int) < (L : Int) := by omega
  go_enter Try.func6, Try.ntmps6
  go_wp2_with fail
  refine hA.mono ?_
  rintro e w1 ⟨rfl, hb⟩
  go_wp2
  go_ret
  exact ⟨rfl, hb⟩
end
end Go.Proofs.Ytdeloaknoadpiaa
