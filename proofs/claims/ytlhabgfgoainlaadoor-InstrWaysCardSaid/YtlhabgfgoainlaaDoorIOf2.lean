/- The document's Of, Takes, Ends, Behind (layer 14), walked. No condition. -/
import Derived.Test.YtlhabgfgoainlaaDoorIOf3
import Derived.BigQuiet
import Derived.Laws.Rows
namespace Go.Proofs.YtlhabgfgoainlaaDoor
open Go.RowKit

set_option maxRecDepth 20000 in
set_option maxHeartbeats 4000000 in
theorem Of_any (op : Nat) (w : World) : Calls Tryd.prog 17 #[.int .u8 op] w fun e w' => e = .returned (rowV op) ∧ Below w.heap.size w w' := by
  obtain ⟨R, hR⟩ := exHid (rowV op)
  rw [hR.out]
  by_cases h1 : 32 ≤ op ∧ op ≤ 42
  · have Wd := fun W => words_any op h1.1 (by omega) W
    have a1 : (32 : Int) ≤ op := by omega
    have a2 : (op : Int) ≤ 42 := by omega
    have hR' := hR.out
    unfold rowV at hR'
    rw [show akI op = 0 by unfold akI; (repeat' split) <;> omega, show (op == 23) = false from beq_eq_false_iff_ne.2 (by omega), show (op == 24) = false from beq_eq_false_iff_ne.2 (by omega), show nameI op = false by unfold nameI; simp only [Bool.or_eq_false_iff, beq_eq_false_iff_ne]; omega, show takesR op = 2 by unfold takesR; (repeat' split) <;> omega, show leaveR op = 1 by unfold leaveR; (repeat' split) <;> omega] at hR'
    generalize wordI op = wd at *
    replace hR' := Lib.hid hR'
    clear hR h1
    go_enter Tryd.func17, Tryd.ntmps17
    go_wp2_with (go_at_call 28; refine (Wd _).mono ?_; rintro e w1 ⟨rfl, rfl⟩)
    refine bodyPost_ret (results_cell_row rfl _ _ w.heap.size _ _ (0, 0) _ rfl (heap_alloc_new w _) Tryd.underlying47 rfl (by kernel_rfl)) rfl ⟨?_, by go_grown⟩
    rw [← hR'.out]; rfl
  · by_cases h2 : 43 ≤ op ∧ op ≤ 48
    · have Wd := fun W => words_any op (by omega) h2.2 W
      have a0 : (32 : Int) ≤ op := by omega
      have a1 : (43 : Int) ≤ op := by omega
      have a2 : (op : Int) ≤ 48 := by omega
      have a3 : ¬ (op : Int) ≤ 42 := by omega
      have hR' := hR.out
      unfold rowV at hR'
      rw [show akI op = 0 by unfold akI; (repeat' split) <;> omega, show (op == 23) = false from beq_eq_false_iff_ne.2 (by omega), show (op == 24) = false from beq_eq_false_iff_ne.2 (by omega), show nameI op = false by unfold nameI; simp only [Bool.or_eq_false_iff, beq_eq_false_iff_ne]; omega, show takesR op = 1 by unfold takesR; (repeat' split) <;> omega, show leaveR op = 1 by unfold leaveR; (repeat' split) <;> omega] at hR'
      generalize wordI op = wd at *
      replace hR' := Lib.hid hR'
      clear hR h1 h2
      go_enter Tryd.func17, Tryd.ntmps17
      go_wp2_with (go_at_call 28; refine (Wd _).mono ?_; rintro e w1 ⟨rfl, rfl⟩)
      refine bodyPost_ret (results_cell_row rfl _ _ w.heap.size _ _ (0, 0) _ rfl (heap_alloc_new w _) Tryd.underlying47 rfl (by kernel_rfl)) rfl ⟨?_, by go_grown⟩
      rw [← hR'.out]; rfl
    · by_cases hl : op ∉ [1, 2, 3, 4, 5, 6, 8, 9, 10, 20, 21, 22, 23, 24, 25, 26, 27, 28, 32, 33, 34, 35, 36, 37, 38, 39, 40, 41, 42, 43, 44, 45, 46, 47, 48]
      · have := Of_late op hl w
        rw [hR.out] at this
        exact this
      · have h3 : op < 32 := by
          simp only [List.mem_cons, List.not_mem_nil, or_false] at hl
          omega
        have a0 : ¬ (32 : Int) ≤ op := by omega
        have a1 : ¬ (43 : Int) ≤ op := by omega
        have hl2 := Lib.hid (Decidable.not_not.1 hl)
        clear h1 h2 hl
        go_enter Tryd.func17, Tryd.ntmps17
        go_wp2_with (go_at_call 29; exfalso; have hl := hl2.out; clear hl2 hR; simp only [beq_eq_false_iff_ne, ne_eq] at *; simp only [List.mem_cons, List.not_mem_nil, or_false] at hl; omega)
        all_goals refine bodyPost_ret (results_cell_row rfl _ _ w.heap.size _ _ (0, 0) _ rfl (heap_alloc_new w _) Tryd.underlying47 rfl (by kernel_rfl)) rfl ⟨?_, by go_grown⟩
        all_goals (rename_i hh; rw [← hR.out]; obtain rfl := op_of hh; rfl)
end Go.Proofs.YtlhabgfgoainlaaDoor
