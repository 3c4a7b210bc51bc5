/- tree's ofFlow, ofCondition, ofExpressions, ofStatements, ofFork, allows (layer 8), walked. No condition. -/
import Derived.Test.YtefijbpbenmbgaaDoorRLeaf
namespace Go.Proofs.YtefijbpbenmbgaaDoor
open Go.RowKit

theorem expr_at {op : Nat} {b : Bool} (h : exprB op = b) (w : World) : Calls Tryd.prog 71 #[.int .u8 (op : Int)] w fun e w' => e = .returned (.bool b) ∧ w' = w := by
  have := Expression_any op w
  rwa [h] at this
theorem stmt_at {op : Nat} {b : Bool} (h : stmtB op = b) (w : World) : Calls Tryd.prog 72 #[.int .u8 (op : Int)] w fun e w' => e = .returned (.bool b) ∧ w' = w := by
  have := Statement_any op w
  rwa [h] at this
set_option maxHeartbeats 400000 in
theorem ofExpressions_any (op : Nat) (p n : Int) (w : World) : Calls Tryd.prog 53 #[.int .u8 (op : Int), .int .i64 p, .int .i64 n] w fun e w' => e = .returned (.bool (partOK 1 op p n)) ∧ w' = w := by
  have k := Lib.hid (fun W => expr_at (op := op) rfl W)
  have e1 : partOK 1 (op : Int) p n = exprB op := rfl
  rw [e1]
  go_enter Tryd.func53, Tryd.ntmps53
  go_wp2_with fail
  refine (k.out _).mono ?_
  rintro e w2 ⟨rfl, rfl⟩
  go_wp2
  go_ret
  exact ⟨rfl, rfl⟩
set_option maxHeartbeats 400000 in
theorem ofStatements_any (op : Nat) (p n : Int) (w : World) : Calls Tryd.prog 55 #[.int .u8 (op : Int), .int .i64 p, .int .i64 n] w fun e w' => e = .returned (.bool (partOK 3 op p n)) ∧ w' = w := by
  have k := Lib.hid (fun W => stmt_at (op := op) rfl W)
  have e1 : partOK 3 (op : Int) p n = stmtB op := rfl
  rw [e1]
  go_enter Tryd.func55, Tryd.ntmps55
  go_wp2_with fail
  refine (k.out _).mono ?_
  rintro e w2 ⟨rfl, rfl⟩
  go_wp2
  go_ret
  exact ⟨rfl, rfl⟩
set_option maxHeartbeats 400000 in
theorem ofFork_any (op : Nat) (p n : Int) (w : World) : Calls Tryd.prog 58 #[.int .u8 (op : Int), .int .i64 p, .int .i64 n] w fun e w' => e = .returned (.bool (partOK 5 op p n)) ∧ w' = w := by
  have e1 : partOK 5 (op : Int) p n = ((op : Int) == 3) := rfl
  rw [e1]
  go_enter Tryd.func58, Tryd.ntmps58
  go_wp2
  go_ret
  exact ⟨rfl, rfl⟩
set_option maxHeartbeats 400000 in
theorem ofFlow_any (op : Nat) (p n : Int) (w : World) (hn : -1000000 ≤ n) (hn2 : n ≤ 1000000) : Calls Tryd.prog 54 #[.int .u8 (op : Int), .int .i64 p, .int .i64 n] w fun e w' => e = .returned (.bool (partOK 2 op p n)) ∧ w' = w := by
  by_cases h : p < n - 1
  · have e1 : partOK 2 (op : Int) p n = ((op : Int) == 2) := if_pos h
    rw [e1]
    go_enter Tryd.func54, Tryd.ntmps54
    go_wp2
    go_ret
    exact ⟨rfl, rfl⟩
  · have e1 : partOK 2 (op : Int) p n = ((op : Int) == 3) := if_neg h
    rw [e1]
    go_enter Tryd.func54, Tryd.ntmps54
    go_wp2
    go_ret
    exact ⟨rfl, rfl⟩
set_option maxHeartbeats 400000 in
theorem ofCondition_any (op : Nat) (p n : Int) (w : World) : Calls Tryd.prog 56 #[.int .u8 (op : Int), .int .i64 p, .int .i64 n] w fun e w' => e = .returned (.bool (partOK 4 op p n)) ∧ w' = w := by
  by_cases h : p = 0
  · have e1 : partOK 4 (op : Int) p n = exprB op := if_pos h
    rw [e1]
    have k := Lib.hid (fun W => expr_at (op := op) rfl W)
    subst h
    go_enter Tryd.func56, Tryd.ntmps56
    go_wp2_with fail
    refine (k.out _).mono ?_
    rintro e w2 ⟨rfl, rfl⟩
    go_wp2
    go_ret
    exact ⟨rfl, rfl⟩
  · have e1 : partOK 4 (op : Int) p n = ((op : Int) == 3) := if_neg h
    rw [e1]
    have q : (p == 0) = false := beq_eq_false_iff_ne.2 h
    replace h := Lib.hid h
    go_enter Tryd.func56, Tryd.ntmps56
    go_wp2
    go_ret
    exact ⟨rfl, rfl⟩
end Go.Proofs.YtefijbpbenmbgaaDoor
