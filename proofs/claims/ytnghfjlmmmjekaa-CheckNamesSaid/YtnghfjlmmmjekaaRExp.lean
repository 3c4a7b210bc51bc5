/- Which Ops are what, to the document: prompterref08's Expression, Statement (layer 8), walked. No condition. -/
import Derived.Test.YtnghfjlmmmjekaaRChk
namespace Go.Proofs.Ytnghfjlmmmjekaa
open Go.RowKit Go.Shelf

set_option maxHeartbeats 1000000 in
theorem refExpression_any (op : Nat) (w : World) : Calls Try.prog 60 #[.int .u8 (op : Int)] w fun e w' => e = .returned (.bool (exprB op)) ∧ w' = w := by
  obtain ⟨B, hB⟩ := exHid (exprB op)
  rw [hB.out]
  have hw := expr_w op
  rw [hB.out] at hw
  rcases hw with ⟨h0, h⟩ | ⟨h0, h⟩ | ⟨h0, h⟩ | ⟨h0, h⟩ | ⟨h0, h⟩ | ⟨h0, h⟩ | ⟨h0, h⟩
  all_goals
    replace h0 := Lib.hid h0
    obtain ⟨h1, h2⟩ := h
    go_enter Try.func60, Try.ntmps60
    go_wp2
    go_ret
    exact ⟨ret_bool (by rw [h0.out]), rfl⟩
set_option maxHeartbeats 400000 in
theorem refStatement_any (op : Nat) (w : World) : Calls Try.prog 61 #[.int .u8 (op : Int)] w fun e w' => e = .returned (.bool (stmtB op)) ∧ w' = w := by
  obtain ⟨B, hB⟩ := exHid (stmtB op)
  rw [hB.out]
  have hw := stmt_w op
  rw [hB.out] at hw
  rcases hw with ⟨h0, h⟩ | ⟨h0, h, h1⟩ | ⟨h0, h, h1⟩
  all_goals
    replace h0 := Lib.hid h0
    go_enter Try.func61, Try.ntmps61
    go_wp2
    go_ret
    exact ⟨ret_bool (by rw [h0.out]), rfl⟩

end Go.Proofs.Ytnghfjlmmmjekaa
