/- HeapScript, its steps as an argument. -/
import Derived.Test.YtabcifaknckomaaHScript
namespace Go.Proofs.Ytabcifaknckomaa
open Go.RowKit HI RF

theorem heapScript_walk (v0 : Value) (w : World) (h0 : StepsV w v0) :
    Calls Try.prog 3 #[v0] w fun e w' => e = .returned (.bool true) ∧ Below w.heap.size w w' := by
  obtain ⟨a0, l0, c0, D, K, N, rfl, _, _, hwf, hz⟩ := h0
  by_cases h : 120 < l0
  · exact script_long _ _ _ w h
  · exact script_main a0 l0 c0 D K N w (by omega) hwf hz
end Go.Proofs.Ytabcifaknckomaa
