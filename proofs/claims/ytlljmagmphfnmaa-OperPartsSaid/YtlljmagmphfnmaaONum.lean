/- Complex numbers of whole parts (layer 12): plane.Of, plane.Conj, value.Num, and the node that one is. No condition. -/
import Derived.Test.YtlljmagmphfnmaaOPlC
import Derived.Test.YtlljmagmphfnmaaOOne
import Derived.Test.YtlljmagmphfnmaaOCmp
namespace Go.Proofs.Ytlljmagmphfnmaa
open Go.RowKit

theorem xor_top {n : Nat} (h : n < 9223372036854775808) : n ^^^ 9223372036854775808 = n + 9223372036854775808 := by
  have e : (9223372036854775808 : Nat) = 2 ^ 63 := by decide
  rw [e] at h ⊢
  have e2 : n + 2 ^ 63 = 2 ^ 63 ||| n := by
    have h2 := Nat.two_pow_add_eq_or_of_lt h 1
    rw [Nat.mul_one] at h2
    rw [Nat.add_comm, h2]
  rw [e2]
  refine Nat.eq_of_testBit_eq fun i => ?_
  rw [Nat.testBit_xor, Nat.testBit_or, Nat.testBit_two_pow]
  by_cases hi : 63 = i
  · subst hi
    rw [Nat.testBit_lt_two_pow h]
    simp
  · simp [hi]
theorem xor_top' {n : Nat} (h : n < 9223372036854775808) : (9223372036854775808 + n) ^^^ 9223372036854775808 = n := by
  rw [Nat.add_comm, ← xor_top h, Nat.xor_assoc, Nat.xor_self, Nat.xor_zero]
theorem neg_IsI {x : Nat} {a : Int} (h : IsI x a) (ha : a.natAbs < 2 ^ 53) : IsI (x ^^^ 9223372036854775808) (-a) := by
  rcases h with rfl | ⟨rfl, rfl⟩
  · by_cases h0 : a = 0
    · subst h0; exact .inr ⟨by decide, rfl⟩
    · have hn : (-a).natAbs < 2 ^ 53 := by rw [Int.natAbs_neg]; exact ha
      by_cases h1 : a < 0
      · obtain ⟨-, f⟩ := foi_lt ha
        obtain ⟨-, f2⟩ := f h1
        have g := (foi_lt hn).1 (by omega)
        left
        rw [f2]
        exact xor_top' (by omega)
      · obtain ⟨f, -⟩ := foi_lt ha
        have f1 := f (by omega)
        obtain ⟨-, g⟩ := (foi_lt hn).2 (by omega)
        left
        rw [g, xor_top (by omega), Int.neg_neg, Nat.add_comm]
  · exact .inl (by decide)
theorem neg_is (x : Nat) : Op.negFloat .f64 x = x ^^^ 9223372036854775808 := rfl

theorem foi_64 {a : Int} (ha : W53 a) : floatOfInt .f64 a < 18446744073709551616 := (IsI.of a).lt ha
theorem fine_foi {a b : Int} (ha : W53 a) (hb : W53 b) : fineB (floatOfInt .f64 a) (floatOfInt .f64 b) = true := by
  have one : ∀ a : Int, W53 a → finB (floatOfInt .f64 a) = true ∧ minB (floatOfInt .f64 a) = false := by
    intro a ha
    have h := abs_bits (IsI.of a) ha
    have hn := (foi_lt (nat_W53 ha)).1 (by omega)
    refine ⟨decide_eq_true (by rw [← h]; exact hn), decide_eq_false fun e => ?_⟩
    by_cases h0 : 0 ≤ a
    · have := (foi_lt ha).1 h0; omega
    · obtain ⟨-, f2⟩ := (foi_lt ha).2 (by omega)
      have hm : W53 (-a) := by rw [W53, Int.natAbs_neg]; exact ha
      have hz : floatOfInt .f64 (-a) = 0 := by omega
      have e0 := foi_ne (a := -a) (by omega) hm
      obtain ⟨b1, b2, b3⟩ := rung_bounds (-a).natAbs (by omega) hm
      rw [e0] at hz
      unfold Ieee.Format.word at hz
      rw [if_neg (by simp; omega)] at hz
      omega
  obtain ⟨a1, a2⟩ := one a ha
  obtain ⟨b1, b2⟩ := one b hb
  simp [fineB, a1, a2, b1, b2]

set_option maxHeartbeats 400000 in
theorem Of_any (a b : Int) (w : World) :
    Calls Try.prog 31 #[.int .i64 a, .int .i64 b] w fun e w' => e = .returned (.complex .f64 (floatOfInt .f64 a) (floatOfInt .f64 b)) ∧ w = w' := by
  go_enter Try.func31, Try.ntmps31
  go_wp2
  go_ret
  exact ⟨rfl, rfl⟩

set_option maxHeartbeats 400000 in
theorem Conj_any {x y : Nat} {a b : Int} (h : IsI x a) (ha : W53 a) (g : IsI y b) (hb : W53 b) (w : World) :
    Calls Try.prog 46 #[.complex .f64 x y] w fun e w' => e = .returned (.complex .f64 (floatOfInt .f64 a) (floatOfInt .f64 (-b))) ∧ w = w' := by
  have hn := neg_IsI g hb
  rw [← neg_is] at hn
  have hu : ∀ w, (Op.unary .neg (.float .f64 y)).run Try.prog w = .ok (.float .f64 (Op.negFloat .f64 y)) w := fun _ => rfl
  have hb' : W53 (-b) := by rw [W53, Int.natAbs_neg]; exact hb
  go_enter Try.func46, Try.ntmps46
  go_wp2_with (first
    | ((with_reducible refine (Plain_any h ha hn hb' _).mono ?_); rintro e w' ⟨rfl, rfl⟩))
  go_ret
  exact ⟨rfl, rfl⟩

/-- The node of a complex number of whole parts. -/
def numN (a b : Int) : Nd := ⟨4, 0, 0, ⟨#[]⟩, floatOfInt .f64 a, floatOfInt .f64 b⟩

set_option maxHeartbeats 400000 in
theorem Num_row {a b : Int} (ha : W53 a) (hb : W53 b) (w : World) : Calls Try.prog 30 #[.complex .f64 (floatOfInt .f64 a) (floatOfInt .f64 b)] w (Told2 w [numN a b]) := by
  have kP := Lib.hid (fun (W : World) => Plain_any (IsI.of a) ha (IsI.of b) hb W)
  have kF := Lib.hid (fun (W : World) => Fine_full (foi_64 ha) (foi_64 hb) W)
  have kN := Lib.hid (fun (W : World) => nodeNum_any 4 (floatOfInt .f64 a) (floatOfInt .f64 b) W)
  have hf := fine_foi ha hb
  have hsc := sc_any
  go_enter Try.func30, Try.ntmps30
  go_wp2_with fail
  refine (kP.out _).mono ?_
  rintro e w1 ⟨rfl, rfl⟩
  go_wp2_with fail
  refine (kF.out _).mono ?_
  rintro e w1 ⟨rfl, rfl⟩
  rw [hf]
  go_wp2_with fail
  refine (kN.out _).mono ?_
  rintro e w1 hm
  obtain ⟨v, rfl, hr, hb⟩ := made_told (k := 4) hm
  go_wp2_with fail
  go_ret2
  exact ⟨_, rfl, hr, hb⟩
end Go.Proofs.Ytlljmagmphfnmaa
