/- instr's moves and behind (layer 14), walked. No condition. -/
import Derived.Test.YtlhabgfgoainlaaDoorIFld
import Derived.Test.YtlhabgfgoainlaaDoorIQ
namespace Go.Proofs.YtlhabgfgoainlaaDoor
open Go.RowKit

theorem tup2 {a b c d : Int} (h : a = c ∧ b = d) : Ending.returned (.tuple #[.int .i64 a, .int .i64 b]) = .returned (.tuple #[.int .i64 c, .int .i64 d]) := by rw [h.1, h.2]
set_option maxRecDepth 20000 in
set_option maxHeartbeats 8000000 in
theorem moves_any (x : Ins) (w : World) :
    Calls Tryd.prog 67 #[insV x] w fun e w' => e = .returned (.tuple #[.int .i64 (takesI x), .int .i64 (leaveR x.op)]) ∧ Below w.heap.size w w' := by
  obtain ⟨op, a, num, tx⟩ := x
  obtain ⟨tk, hT⟩ := exHid (takesI ⟨op, a, num, tx⟩)
  obtain ⟨lv, hL⟩ := exHid (leaveR op : Int)
  dsimp only
  rw [hT.out, hL.out]
  unfold insV
  dsimp only
  go_enter Tryd.func67, Tryd.ntmps67
  go_wp2
  all_goals refine bodyPost_ret (results_tmp2 rfl _ _ _) rfl ?_
  all_goals refine ⟨tup2 ?_, by go_grown⟩
  all_goals (rw [← hT.out, ← hL.out]; clear hT hL; simp only [beq_iff_eq, beq_eq_false_iff_ne, ne_eq] at *; unfold takesI akI takesR leaveR; dsimp only; refine ⟨?_, ?_⟩ <;> (repeat' split) <;> omega)
end Go.Proofs.YtlhabgfgoainlaaDoor
