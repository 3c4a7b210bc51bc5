/- (mkvb.py, out of Right) Contracts of value.isRight, value.size, at right nodes. -/
import Derived.Test.YtlljmagmphfnmaaVB
namespace Go.Proofs.Ytlljmagmphfnmaa
open Go.RowKit

theorem fine_00 : fineB 0 0 = true := by decide
theorem and1_0 : bits .and .i64 0 1 = 0 := by decide
theorem and1_1 : bits .and .i64 1 1 = 1 := by decide

set_option maxRecDepth 100000 in
set_option maxHeartbeats 1000000 in
theorem right_go {k kids : Nat} {n : Int} {s : ByteArray} {x y : Nat} (hx : x < 18446744073709551616) (hy : y < 18446744073709551616) (hf : fineB x y = true)
    (hk : (k = 0 ∧ kids = 0 ∧ n = 0 ∧ s = ⟨#[]⟩ ∧ x = 0 ∧ y = 0) ∨ (k = 1 ∧ kids = 0 ∧ n = 0 ∧ s = ⟨#[]⟩ ∧ x = 0 ∧ y = 0) ∨ (k = 1 ∧ kids = 0 ∧ n = 1 ∧ s = ⟨#[]⟩ ∧ x = 0 ∧ y = 0) ∨ (k = 2 ∧ kids = 0 ∧ s = ⟨#[]⟩ ∧ x = 0 ∧ y = 0) ∨ (k = 3 ∧ kids = 0 ∧ n = 0 ∧ x = 0 ∧ y = 0) ∨ (k = 4 ∧ kids = 0 ∧ n = 0 ∧ s = ⟨#[]⟩) ∨ (k = 5 ∧ n = 0 ∧ s = ⟨#[]⟩ ∧ x = 0 ∧ y = 0)) (w : World) :
    Calls Try.prog 48 #[.agg #[.int .u8 k, .int .i64 kids, .int .i64 n, .string s, .complex .f64 x y]] w fun e w' => e = .returned (.bool true) ∧ Below w.heap.size w w' := by
  have hsc := sc_any
  have a0 := and1_0
  have a1 := and1_1
  have hself : SelfN ⟨k, kids, n, s, x, y⟩ := by
    unfold fineB at hf
    simp only [Bool.and_eq_true] at hf
    exact ⟨ord_self_fin hf.1.1.1, ord_self_fin hf.1.1.2⟩
  have heq := eq_num hself.1 hself.2
  simp only at heq
  have hF := Fine_full hx hy
  rw [hf] at hF
  clear hself hf
  replace hx := Lib.hid hx
  replace hy := Lib.hid hy
  rcases hk with ⟨rfl, rfl, rfl, rfl, rfl, rfl⟩ | ⟨rfl, rfl, rfl, rfl, rfl, rfl⟩ | ⟨rfl, rfl, rfl, rfl, rfl, rfl⟩ | ⟨rfl, rfl, rfl, rfl, rfl⟩ | ⟨rfl, rfl, rfl, rfl, rfl⟩ | ⟨rfl, rfl, rfl, rfl⟩ | ⟨rfl, rfl, rfl, rfl, rfl⟩
  all_goals
    go_enter Try.func48, Try.ntmps48
    go_wp2_with ((with_reducible refine (hF _).mono ?_); rintro e w' ⟨rfl, rfl⟩)
    go_ret
    exact ⟨by first | rfl | (congr 2; simp), ((Below.refl _ w).alloc (Nat.le_refl _) _).alloc (by simp) _⟩
end Go.Proofs.Ytlljmagmphfnmaa
