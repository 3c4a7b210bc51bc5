/- The statements' wakes of layer 12 (oper), walked. No condition. -/
import Derived.Test.YtlljmagmphfnmaaOBinS
namespace Go.Proofs.Ytlljmagmphfnmaa
open Go.RowKit

theorem row_new (w : World) (n : Int) : RowN (w.alloc (.cells #[.int .u8 2, .int .i64 0, .int .i64 n, .string ⟨#[]⟩, .complex .f64 0 0] 37)) w.heap.size (.slice (some ⟨w.heap.size, 0, none⟩) 1 1) [intN n] :=
  ⟨rfl, .inr ⟨w.heap.size, 1, _, rfl, Nat.le_refl _, heap_alloc_new w _, Nat.le_refl _, by unfold maxLen; omega, rfl, rfl⟩⟩
set_option maxRecDepth 20000 in
set_option maxHeartbeats 1000000 in
theorem wakes12_any (w : World) : Calls Try.prog 8 #[] w fun e w' => e = .returned (.bool true) ∧ Below w.heap.size w w' := by
  have hsc := sc_any
  have hal := (Below.refl w.heap.size w).alloc (Nat.le_refl _) (.cells #[.int .u8 2, .int .i64 0, .int .i64 2, .string ⟨#[]⟩, .complex .f64 0 0] 37)
  have hr1 := row_new w 2
  have hr2 := row_new (w.alloc (.cells #[.int .u8 2, .int .i64 0, .int .i64 2, .string ⟨#[]⟩, .complex .f64 0 0] 37)) 3
  have hal2 := (Below.refl (w.alloc (.cells #[.int .u8 2, .int .i64 0, .int .i64 2, .string ⟨#[]⟩, .complex .f64 0 0] 37)).heap.size (w.alloc (.cells #[.int .u8 2, .int .i64 0, .int .i64 2, .string ⟨#[]⟩, .complex .f64 0 0] 37))).alloc (Nat.le_refl _) (.cells #[.int .u8 2, .int .i64 0, .int .i64 3, .string ⟨#[]⟩, .complex .f64 0 0] 37)
  have hS := Bin_sum (hr1.below hal2) hr2
  rw [show (w.alloc (.cells #[.int .u8 2, .int .i64 0, .int .i64 2, .string ⟨#[]⟩, .complex .f64 0 0] 37)).heap.size = w.heap.size + 1 by simp] at hS
  have hb := Lib.hid (below_next hal hal2)
  replace hS := Lib.hid hS
  clear hr1 hr2 hal hal2
  go_enter Try.func8, Try.ntmps8
  go_wp2_with fail
  refine hS.out.mono ?_
  rintro e w1 ⟨v, rfl, hr, hb1⟩
  obtain ⟨g, cap, rfl, -, hg, -⟩ := ownsRow_head hr (Nat.le_refl 1)
  obtain ⟨x0, x1, x2, x3, x4⟩ := rowN_cells (d := [intN 5]) hr (i := 0) (Nat.zero_lt_one)
  simp only [List.getElem_cons_zero, Nat.zero_mul, Nat.zero_add, intN] at x0 x2
  have hb2 := Lib.hid (below_next hb.out hb1)
  clear hr hb1 x1 x3 x4
  go_wp2_with fail
  go_ret
  exact ⟨rfl, hb2.out⟩
end Go.Proofs.Ytlljmagmphfnmaa
