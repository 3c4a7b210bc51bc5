/- Which Ops are what, to the document; law TreeOps (layer 8). No condition. -/
import Derived.Test.YthgkkdhalcpgbaaRChk
namespace Go.Proofs.Ythgkkdhalcpgbaa
open Go.RowKit Go.Shelf

set_option maxHeartbeats 1000000 in
theorem refExpression_any (op : Nat) (w : World) : Calls Try.prog 17 #[.int .u8 (op : Int)] w fun e w' => e = .returned (.bool (exprB op)) ∧ w' = w := by
  obtain ⟨B, hB⟩ := exHid (exprB op)
  rw [hB.out]
  have hw := expr_w op
  rw [hB.out] at hw
  rcases hw with ⟨h0, h⟩ | ⟨h0, h⟩ | ⟨h0, h⟩ | ⟨h0, h⟩ | ⟨h0, h⟩ | ⟨h0, h⟩ | ⟨h0, h⟩
  all_goals
    replace h0 := Lib.hid h0
    obtain ⟨h1, h2⟩ := h
    go_enter Try.func17, Try.ntmps17
    go_wp2
    go_ret
    exact ⟨ret_bool (by rw [h0.out]), rfl⟩
set_option maxHeartbeats 400000 in
theorem refStatement_any (op : Nat) (w : World) : Calls Try.prog 19 #[.int .u8 (op : Int)] w fun e w' => e = .returned (.bool (stmtB op)) ∧ w' = w := by
  obtain ⟨B, hB⟩ := exHid (stmtB op)
  rw [hB.out]
  have hw := stmt_w op
  rw [hB.out] at hw
  rcases hw with ⟨h0, h⟩ | ⟨h0, h, h1⟩ | ⟨h0, h, h1⟩
  all_goals
    replace h0 := Lib.hid h0
    go_enter Try.func19, Try.ntmps19
    go_wp2
    go_ret
    exact ⟨ret_bool (by rw [h0.out]), rfl⟩

def wakeL : List Tw := [⟨36, 2, 0, []⟩, ⟨23, 0, 1, []⟩, ⟨23, 0, 2, []⟩]
theorem wake_look : lookF wakeL = (0, 2, 0) := by decide +kernel
theorem wake_in (w : World) : TwIn (w.alloc (.cells #[.int .u8 36, .int .i64 2, .int .i64 0, .string ⟨#[]⟩, .int .u8 23, .int .i64 0, .int .i64 1, .string ⟨#[]⟩, .int .u8 23, .int .i64 0, .int .i64 2, .string ⟨#[]⟩] 32)) (.slice (some ⟨w.heap.size, 0, none⟩) 3 3) wakeL := by
  refine ⟨_, 3, rfl, by decide, by decide, fun _ => ⟨w.heap.size, 0, rfl, by simp, fun i hi c hc => ?_⟩⟩
  rw [one_cell]
  have hi3 : i < 3 := hi
  obtain rfl | rfl | rfl : i = 0 ∨ i = 1 ∨ i = 2 := by omega
  all_goals
    obtain rfl | rfl | rfl | rfl : c = 0 ∨ c = 1 ∨ c = 2 ∨ c = 3 := by omega
    all_goals rfl
theorem wake_fit : ∀ x ∈ wakeL, FitT x := by
  intro x hx
  simp only [wakeL, List.mem_cons, List.not_mem_nil, or_false] at hx
  rcases hx with rfl | rfl | rfl
  all_goals exact ⟨by decide, by unfold I64; decide, by unfold I64; decide, by decide⟩
set_option maxRecDepth 20000 in
theorem wakes_any (w : World) : Calls Try.prog 8 #[] w fun e w' => e = .returned (.bool true) ∧ Below w.heap.size w w' := by
  go_enter Try.func8, Try.ntmps8
  go_wp2_with fail
  refine (Depth_any _ (wake_in w) wake_fit).mono ?_
  rw [wake_look]
  rintro e w1 ⟨rfl, hb⟩
  have hb1 : Below w.heap.size w w1 := ((Below.refl _ w).alloc (Nat.le_refl _) _).trans (hb.mono (by simp))
  clear hb
  go_wp2_with fail
  go_ret
  exact ⟨rfl, hb1⟩

theorem treeOps_walk (w : World) : Calls Try.prog 5 #[] w fun e w' => e = .returned (.bool true) ∧ Below w.heap.size w w' := by
  go_enter Try.func5, Try.ntmps5
  go_wp2_with fail
  go_loopw [1] (fun t1 wr => ∃ i : Nat, i ≤ 256 ∧ t1 = .int .i64 i ∧ wr = w) (fun t1 _ => 256 - (intOf t1).toNat)
  case atStart => exact ⟨0, by omega, rfl, rfl⟩
  case round =>
    obtain ⟨i, hi, rfl, rfl⟩ := hrel
    rcases Nat.lt_or_ge i 256 with hlt | hge
    · have hlti : (i : Int) < 256 := by omega
      have hwr : IntKind.u8.wrap (i : Int) = i := by simp [IntKind.wrap, IntKind.signed, IntKind.bits]; omega
      have c1 := Lib.hid (Expression_any i)
      have c2 := Lib.hid (refExpression_any i)
      have c3 := Lib.hid (Statement_any i)
      have c4 := Lib.hid (refStatement_any i)
      go_wp2_with fail
      refine (c1.out _).mono ?_
      rintro e w2 ⟨rfl, rfl⟩
      go_wp2_with fail
      refine (c2.out _).mono ?_
      rintro e w2 ⟨rfl, rfl⟩
      go_wp2_with fail
      refine (c3.out _).mono ?_
      rintro e w2 ⟨rfl, rfl⟩
      go_wp2_with fail
      refine (c4.out _).mono ?_
      rintro e w2 ⟨rfl, rfl⟩
      go_wp2_with fail
      go_roundw
      case rel => exact ⟨i + 1, by omega, by go_num, trivial⟩
      case measure => simp [intOf]; omega
    · obtain rfl : i = 256 := by omega
      have hlti : ¬ (((256 : Nat) : Int) < 256) := by omega
      go_wp2_with fail
      refine (wakes_any _).mono ?_
      rintro e w2 ⟨rfl, hb⟩
      go_wp2_with fail
      go_ret
      exact ⟨rfl, hb⟩
end Go.Proofs.Ythgkkdhalcpgbaa
