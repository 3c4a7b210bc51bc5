/- The document's table (prompterref14.Of, late, Takes, Ends, Behind, layer 14), walked. No condition. -/
import Derived.Test.YtlhabgfgoainlaaDoorIOfW
import Derived.Test.YtlhabgfgoainlaaDoorIQ
namespace Go.Proofs.YtlhabgfgoainlaaDoor
open Go.RowKit

def rowV (op : Nat) : Value := .agg #[.string ⟨(wordI op).toArray⟩, .int .i64 (akI op), .bool (op == 23), .bool (op == 24), .bool (nameI op), .int .i64 (takesR op), .int .i64 (leaveR op)]
theorem op_of {op : Nat} {k : Int} (h : ((op : Int) == k) = true) : op = k.toNat := by rw [beq_iff_eq] at h; omega
theorem op_not {op : Nat} {k : Int} (h : ((op : Int) == k) = false) : (op : Int) ≠ k := beq_eq_false_iff_ne.1 h
theorem word_none : ∀ op, op < 58 → op ∉ [1, 2, 3, 4, 5, 6, 8, 9, 10, 20, 21, 22, 23, 24, 25, 26, 27, 28, 32, 33, 34, 35, 36, 37, 38, 39, 40, 41, 42, 43, 44, 45, 46, 47, 48, 50, 51, 52, 53, 54, 55, 56, 57] → wordI op = [] := by decide
theorem row_zero {op : Nat} (h : op ∉ [1, 2, 3, 4, 5, 6, 8, 9, 10, 20, 21, 22, 23, 24, 25, 26, 27, 28, 32, 33, 34, 35, 36, 37, 38, 39, 40, 41, 42, 43, 44, 45, 46, 47, 48, 50, 51, 52, 53, 54, 55, 56, 57]) : rowV op = .agg #[.string ⟨#[]⟩, .int .i64 0, .bool false, .bool false, .bool false, .int .i64 0, .int .i64 0] := by
  have hw : wordI op = [] := by
    rcases Nat.lt_or_ge op 58 with h2 | h2
    · exact word_none op h2 h
    · unfold wordI
      rw [List.getD_eq_getElem?_getD, List.getElem?_eq_none (by exact h2)]; rfl
  simp only [List.mem_cons, List.not_mem_nil, or_false, not_or] at h
  have e1 : akI op = 0 := by unfold akI; (repeat' split) <;> omega
  have e2 : (op == 23) = false := beq_eq_false_iff_ne.2 (by omega)
  have e3 : (op == 24) = false := beq_eq_false_iff_ne.2 (by omega)
  have e4 : nameI op = false := by unfold nameI; simp only [Bool.or_eq_false_iff, beq_eq_false_iff_ne]; omega
  have e5 : takesR op = 0 := by unfold takesR; (repeat' split) <;> omega
  have e6 : leaveR op = 0 := by unfold leaveR; (repeat' split) <;> omega
  unfold rowV
  rw [hw, e1, e2, e3, e4, e5, e6]
  rfl
set_option maxRecDepth 20000 in
set_option maxHeartbeats 4000000 in
theorem late_any (op : Nat) (h : op ∉ [1, 2, 3, 4, 5, 6, 8, 9, 10, 20, 21, 22, 23, 24, 25, 26, 27, 28, 32, 33, 34, 35, 36, 37, 38, 39, 40, 41, 42, 43, 44, 45, 46, 47, 48]) (w : World) : Calls Tryd.prog 29 #[.int .u8 op] w fun e w' => e = .returned (rowV op) ∧ Below w.heap.size w w' := by
  replace h := Lib.hid h
  go_enter Tryd.func29, Tryd.ntmps29
  go_wp2
  all_goals refine bodyPost_ret (results_cell_row rfl _ _ w.heap.size _ _ (0, 0) _ rfl (heap_alloc_new w _) Tryd.underlying47 rfl (by kernel_rfl)) rfl ⟨?_, by go_grown⟩
  all_goals first
    | (rename_i hh; obtain rfl := op_of hh; rfl)
    | (refine congrArg _ (row_zero ?_).symm; have h := h.out; simp only [beq_eq_false_iff_ne, ne_eq] at *; simp only [List.mem_cons, List.not_mem_nil, or_false, not_or] at h ⊢; omega)
end Go.Proofs.YtlhabgfgoainlaaDoor
