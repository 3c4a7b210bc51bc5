/- The statement's comparison of two lists of one node each: the same nodes are alike. -/
import Derived.Test.YtmlpgfepepiakaaVMake
namespace Go.Proofs.Ytmlpgfepepiakaa
open Go.RowKit

set_option maxHeartbeats 400000 in
theorem part_same {x : Nat} (ho : FloatKind.f64.format.order x x = some .eq) (w : World) :
    Calls Try.prog 26 #[.float .f64 x, .float .f64 x] w fun e w' => e = .returned (.bool true) ∧ w = w' := by
  go_enter Try.func26, Try.ntmps26
  go_wp2
  go_ret
  exact ⟨rfl, rfl⟩

theorem floatEq_self {x : Nat} (ho : FloatKind.f64.format.order x x = some .eq) : Op.floatEq .f64 x x = true := by
  unfold Op.floatEq
  rw [ho]
  rfl
theorem eqc (d : Nat) (t : TypeId) (x y : Nat) (w : World) (h : Try.prog.underlying t = some (.complex .f64)) :
    (Op.equalIn (d + 1) t (.complex .f64 x y) (.complex .f64 x y)).run Try.prog w = .ok (Op.floatEq .f64 x x && Op.floatEq .f64 y y) w := by
  simp [Op.equalIn, run_underlying h]

theorem ord_00 : FloatKind.f64.format.order 0 0 = some .eq := by decide

/-- Nought is nought, inside a struct. -/
theorem eq_00 (w : World) : (Op.equalIn 9999 23 (.complex .f64 0 0) (.complex .f64 0 0)).run Try.prog w = .ok true w := by
  rw [eqc 9998 _ _ _ _ Try.underlying23, floatEq_self ord_00]
  rfl

theorem one_at {k : Nat} (hk : k ≤ 1) (hlt : ¬ k < 1) : k = 1 := by omega

set_option maxHeartbeats 4000000 in
theorem alike_one {a b : Nat} {k n : Int} {s : ByteArray} {x y : Nat} (ox : FloatKind.f64.format.order x x = some .eq) (oy : FloatKind.f64.format.order y y = some .eq) (w : World)
    (ha : IsNode w a k n s x y) (hb : IsNode w b k n s x y) :
    Calls Try.prog 7 #[.slice (some ⟨a, 0, none⟩) 1 1, .slice (some ⟨b, 0, none⟩) 1 1] w fun e w' => e = .returned (.bool true) ∧ Below w.heap.size w w' := by
  have hsc := sc_any
  have heq := eq_00
  go_enter Try.func7, Try.ntmps7
  go_wp2
  go_loopw [5] (fun i wr => ∃ j : Nat, j ≤ 1 ∧ i = .int .i64 j ∧ Below w.heap.size w wr) (fun i _ => 1 - (intOf i).toNat)
  case atStart => exact ⟨0, Nat.zero_le _, rfl, Below.refl _ _⟩
  case round =>
    obtain ⟨j, hj, rfl, hB⟩ := hrel
    by_cases hlt : j < 1
    · obtain rfl : j = 0 := by omega
      have ka := ha.below hB
      have kb := hb.below hB
      have a0 := ka.c0
      have a1 := ka.c1
      have a2 := ka.c2
      have a3 := ka.c3
      have a4 := ka.c4
      have b0 := kb.c0
      have b1 := kb.c1
      have b2 := kb.c2
      have b3 := kb.c3
      have b4 := kb.c4
      have la := ka.lt
      have lb := kb.lt
      go_wp2
      go_roundw
      case rel => exact ⟨1, by omega, by go_num, (hB.alloc hB.size _).alloc (by have := hB.size; simp; omega) _⟩
      case measure => simp [intOf]
    · obtain rfl := one_at hj hlt
      go_wp2
      go_ret
      exact ⟨rfl, hB⟩
end Go.Proofs.Ytmlpgfepepiakaa
