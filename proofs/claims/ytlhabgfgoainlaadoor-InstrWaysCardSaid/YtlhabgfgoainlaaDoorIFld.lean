/- instr's fieldsOf, allows, allowsText, isFree (layer 14), walked. No condition. -/
import Derived.Test.YtlhabgfgoainlaaDoorIIn
import Derived.Test.YtlhabgfgoainlaaDoorNm
import Derived.LoopTactic
import Derived.IntWalk
import Derived.StillTailTactics
import Derived.BigQuiet
import Derived.Deep.RegionWith
import Derived.Deep.RegionHeld
import Derived.Laws.Rows
namespace Go.Proofs.YtlhabgfgoainlaaDoor
open Go.RowKit

/-- What a field Text is, as the program tells it. -/
def tkI (op : Nat) : Nat := if op = 24 then 5 else if op = 50 ∨ op = 51 ∨ op = 56 then 6 else 0
def nkI (op : Nat) : Nat := if op = 23 then 4 else 0
def fldV (op : Nat) : Value := .agg #[.int .i64 (akI op), .int .i64 (nkI op), .int .i64 (tkI op)]
theorem fld_ret {op : Nat} {a b c : Int} (h : (akI op : Int) = a ∧ (nkI op : Int) = b ∧ (tkI op : Int) = c) : Ending.returned (.agg #[.int .i64 a, .int .i64 b, .int .i64 c]) = .returned (fldV op) := by
  obtain ⟨rfl, rfl, rfl⟩ := h
  rfl
set_option maxRecDepth 20000 in
set_option maxHeartbeats 4000000 in
theorem fieldsOf_any (op : Nat) (w : World) :
    Calls Tryd.prog 33 #[.int .u8 op] w fun e w' => e = .returned (fldV op) ∧ Below w.heap.size w w' := by
  go_enter Tryd.func33, Tryd.ntmps33
  go_wp2
  all_goals refine bodyPost_ret (results_cell_row rfl _ _ w.heap.size _ _ (0, 0) _ rfl (heap_alloc_new w _) Tryd.underlying74 rfl (by kernel_rfl)) rfl ⟨fld_ret ?_, by go_grown⟩
  all_goals (simp only [beq_iff_eq, beq_eq_false_iff_ne, ne_eq] at *; unfold akI nkI tkI; refine ⟨?_, ?_, ?_⟩ <;> (repeat' split) <;> omega)
theorem run_field_fld (op : Nat) (w : World) : (Instr.field 74 (fldV op) 0).run Tryd.prog w = .ok (.int .i64 (akI op)) w := by kernel_rfl
set_option maxRecDepth 20000 in
theorem isFree_any (op : Nat) (w : World) :
    Calls Tryd.prog 49 #[.int .u8 op] w fun e w' => e = .returned (.bool (freeI op)) ∧ w = w' := by
  rcases h1 : ((op : Int) == 1) with _ | _ <;> rcases h5 : ((op : Int) == 5) with _ | _
  all_goals
    have e1 : freeI op = (((op : Int) == 1) || ((op : Int) == 5)) := by
      unfold freeI
      rw [Bool.eq_iff_iff]
      simp only [Bool.or_eq_true, beq_iff_eq]
      omega
    rw [h1, h5] at e1
    rw [e1]
    clear e1
    go_enter Tryd.func49, Tryd.ntmps49
    go_wp2
    go_ret
    exact ⟨rfl, rfl⟩
set_option maxRecDepth 20000 in
/-- A target apart, what may stand in A. -/
theorem allows_any (op : Nat) (a : Int) (w : World) :
    Calls Tryd.prog 76 #[.int .i64 (akI op), .int .i64 a] w fun e w' => e = .returned (.bool (akI op == 1 || aOK (akI op) 0 a)) ∧ w = w' := by
  obtain ⟨k, hk⟩ := exHid (akI op)
  rw [hk.out]
  clear hk
  obtain ⟨B, hB⟩ := exHid (k == 1 || aOK k 0 a)
  rw [hB.out]
  go_enter Tryd.func76, Tryd.ntmps76
  by_cases h0 : 0 ≤ a
  all_goals by_cases h1 : a < 100
  all_goals by_cases h2 : a ≤ 2048
  all_goals go_wp2
  all_goals go_ret
  all_goals refine ⟨ret_bool ?_, rfl⟩
  all_goals rw [← hB.out, Bool.eq_iff_iff]
  all_goals clear hB
  all_goals (simp only [beq_iff_eq, beq_eq_false_iff_ne, ne_eq, Bool.or_eq_true, Bool.false_eq_true, false_iff, true_iff] at *; unfold aOK; (repeat' split) <;> simp only [decide_eq_true_eq] <;> omega)
end Go.Proofs.YtlhabgfgoainlaaDoor
