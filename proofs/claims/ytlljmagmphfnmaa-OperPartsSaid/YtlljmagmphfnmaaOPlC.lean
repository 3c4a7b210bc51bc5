/- Contracts of package plane where all parts are whole numbers of less than 54 bits (out of Plane by mkoplc.py), beside FineC. No condition. -/
import Derived.Test.YtlljmagmphfnmaaFlt
import Derived.Test.YtlljmagmphfnmaaFineC
import Derived.WalkKit
import Derived.WalkSpells
import Derived.WalkLawsBesides
import Derived.Handy
import Derived.Lib.Hide
import Derived.Laws.Externs
import Derived.Laws.BitsAllLaws
import Derived.Deep.QuietTactic
import Derived.BigQuiet
namespace Go.Proofs.Ytlljmagmphfnmaa
open Go.RowKit

abbrev W53 (a : Int) : Prop := a.natAbs < 2 ^ 53

/-- The floats that the code names. -/
theorem rd_zero : Ieee.double.read 0 = .number false 0 (-1074) := by decide
theorem rd_most : Ieee.double.read 9218868437227405311 = .number false 9007199254740991 (971 : Nat) := by decide
theorem rd_beyond : Ieee.double.read 4890909195324358656 = .number false 4503599627370496 (11 : Nat) := by decide
theorem rd_below : Ieee.double.read 14114281232179134464 = .number true 4503599627370496 (11 : Nat) := by decide

theorem ord_zero {x : Nat} {a : Int} (h : IsI x a) (ha : W53 a) : FloatKind.f64.format.order x 0 = some (compare a 0) := by
  obtain ⟨s, k, e, hs⟩ := h.read ha
  show (Ieee.double.read x).order (Ieee.double.read 0) = _
  rw [e, rd_zero]
  have hp : (0 : Int) < (2 ^ (max k 1074) : Nat) := by exact_mod_cast Nat.two_pow_pos _
  have e0 : min (-(k : Int)) (-1074) = -((max k 1074 : Nat) : Int) := by omega
  show some (compare (Ieee.signed s (a.natAbs * 2 ^ k) _) (Ieee.signed false 0 _)) = _
  rw [e0, show (-(k : Int) - -((max k 1074 : Nat) : Int)).toNat = max k 1074 - k by omega, signed_DI hs k (max k 1074) (by omega)]
  have e1 : ∀ n, Ieee.signed false 0 n = 0 := fun n => by simp [Ieee.signed]
  rw [e1]
  congr 1
  generalize ((2 ^ max k 1074 : Nat) : Int) = z at hp
  rcases Int.lt_trichotomy a 0 with h1 | h1 | h1
  · rw [cmp_lt h1, cmp_lt (Int.mul_neg_of_neg_of_pos h1 hp)]
  · subst h1; rw [Int.zero_mul]
  · rw [cmp_gt h1, cmp_gt (Int.mul_pos h1 hp)]

theorem signed_big (m : Nat) (p : Nat) : (m * 2 : Nat) ≤ Ieee.signed false m (p + 1) := by
  unfold Ieee.signed
  rw [if_neg (by simp), Nat.shiftLeft_eq]
  have h1 := Nat.mul_le_mul_left m (Nat.mul_le_mul_right 2 (Nat.two_pow_pos p))
  rw [← Nat.pow_succ, Nat.succ_eq_add_one, Nat.zero_add, Nat.one_mul] at h1
  exact_mod_cast h1

theorem ord_most {x : Nat} {a : Int} (h : IsI x a) (ha : W53 a) : FloatKind.f64.format.order x 9218868437227405311 = some .lt := by
  rw [order_IsI _ _ _ h ha rd_most, cmp_lt]
  have := ha
  rw [W53, p53] at this
  have h1 := signed_big 9007199254740991 970
  rw [show 970 + 1 = 971 from rfl] at h1
  omega
theorem ord_beyond {x : Nat} {a : Int} (h : IsI x a) (ha : W53 a) : FloatKind.f64.format.order x 4890909195324358656 = some .lt := by
  rw [order_IsI _ _ _ h ha rd_beyond, cmp_lt]
  have := ha
  rw [W53, p53] at this
  have e : Ieee.signed false 4503599627370496 11 = 9223372036854775808 := by decide
  rw [e]; omega
theorem ord_below {x : Nat} {a : Int} (h : IsI x a) (ha : W53 a) : FloatKind.f64.format.order x 14114281232179134464 = some .gt := by
  rw [order_IsI _ _ _ h ha rd_below, cmp_gt]
  have := ha
  rw [W53, p53] at this
  have e : Ieee.signed true 4503599627370496 11 = -9223372036854775808 := by decide
  rw [e]; omega

set_option maxHeartbeats 400000 in
theorem plain_any {x : Nat} {a : Int} (h : IsI x a) (ha : W53 a) (w : World) :
    Calls Try.prog 70 #[.float .f64 x] w fun e w' => e = .returned (.float .f64 (floatOfInt .f64 a)) ∧ w = w' := by
  have ho := ord_zero h ha
  by_cases h0 : a = 0
  · subst h0
    rw [cmp_eq] at ho
    go_enter Try.func70, Try.ntmps70
    go_wp2
    go_ret
    exact ⟨by rw [foi_zero]; rfl, rfl⟩
  · have hc : compare a 0 = .lt ∨ compare a 0 = .gt := by
      by_cases h1 : a < 0
      · exact .inl (cmp_lt h1)
      · exact .inr (cmp_gt (by omega))
    have hx : Hid (x = floatOfInt .f64 a) := by
      show x = floatOfInt .f64 a
      rcases h with h | ⟨_, h⟩
      · exact h
      · exact absurd h h0
    rcases hc with hc | hc
    all_goals
      rw [hc] at ho
      clear hc
      go_enter Try.func70, Try.ntmps70
      go_wp2
      go_ret
      exact ⟨by rw [← hx.out]; rfl, rfl⟩

set_option maxHeartbeats 400000 in
theorem Plain_any {x y : Nat} {a b : Int} (h : IsI x a) (ha : W53 a) (g : IsI y b) (hb : W53 b) (w : World) :
    Calls Try.prog 49 #[.complex .f64 x y] w fun e w' => e = .returned (.complex .f64 (floatOfInt .f64 a) (floatOfInt .f64 b)) ∧ w = w' := by
  go_enter Try.func49, Try.ntmps49
  go_wp2_with (first
    | ((with_reducible refine (plain_any h ha _).mono ?_); rintro e w' ⟨rfl, rfl⟩)
    | ((with_reducible refine (plain_any g hb _).mono ?_); rintro e w' ⟨rfl, rfl⟩))
  go_ret
  exact ⟨rfl, rfl⟩

/-- The size of a whole number: its bits without the sign. -/
theorem abs_bits {x : Nat} {a : Int} (h : IsI x a) (ha : W53 a) : floatOfInt .f64 (a.natAbs : Int) = x % 9223372036854775808 := by
  rcases h with rfl | ⟨rfl, rfl⟩
  · obtain ⟨l1, l2⟩ := foi_lt ha
    by_cases h0 : 0 ≤ a
    · rw [show (a.natAbs : Int) = a by omega, Nat.mod_eq_of_lt (by have := l1 h0; omega)]
    · have l3 := (l2 (by omega)).2
      have l4 := (foi_lt (a := -a) (by rw [Int.natAbs_neg]; exact ha)).1 (by omega)
      rw [show (a.natAbs : Int) = -a by omega]
      omega
  · rw [show (((0 : Int).natAbs : Nat) : Int) = 0 by rfl, foi_zero]

theorem IsI.lt {x : Nat} {a : Int} (h : IsI x a) (ha : W53 a) : x < 18446744073709551616 := by
  rcases h with rfl | ⟨rfl, rfl⟩
  · have := Ieee.Format.write_lt Ieee.double (.number (decide (a < 0)) a.natAbs 0)
    rw [show 2 ^ Ieee.double.width = 18446744073709551616 by decide] at this
    exact this
  · omega

set_option maxHeartbeats 400000 in
theorem abs_any {x : Nat} {a : Int} (h : IsI x a) (ha : W53 a) (w : World) :
    Calls Try.prog 62 #[.float .f64 x] w fun e w' => e = .returned (.float .f64 (floatOfInt .f64 (a.natAbs : Int))) ∧ w = w' := by
  have hf := f2b_any x
  have hg := b2f_any
  go_enter Try.func62, Try.ntmps62
  go_wp2
  go_ret
  refine ⟨?_, rfl⟩
  rw [abs_bits h ha]
  simp only [no_sign (h.lt ha), Int.toNat_natCast]
  rfl

theorem nat_W53 {a : Int} (h : W53 a) : W53 (a.natAbs : Int) := by rw [W53, Int.natAbs_natCast]; exact h

set_option maxHeartbeats 400000 in
theorem finite_any {x y : Nat} {a b : Int} (h : IsI x a) (ha : W53 a) (g : IsI y b) (hb : W53 b) (w : World) :
    Calls Try.prog 71 #[.complex .f64 x y] w fun e w' => e = .returned (.bool true) ∧ w = w' := by
  have o1 := ord_most (IsI.of (a.natAbs : Int)) (nat_W53 ha)
  have o2 := ord_most (IsI.of (b.natAbs : Int)) (nat_W53 hb)
  go_enter Try.func71, Try.ntmps71
  go_wp2_with (first
    | ((with_reducible refine (abs_any h ha _).mono ?_); rintro e w' ⟨rfl, rfl⟩)
    | ((with_reducible refine (abs_any g hb _).mono ?_); rintro e w' ⟨rfl, rfl⟩))
  go_ret
  exact ⟨rfl, rfl⟩

set_option maxHeartbeats 400000 in
theorem told_any {x y p q r s : Nat} {a b c d m n : Int} (h : IsI x a) (ha : W53 a) (g : IsI y b) (hb : W53 b) (h2 : IsI p c) (hc : W53 c) (g2 : IsI q d) (hd : W53 d) (h3 : IsI r m) (hm : W53 m) (g3 : IsI s n) (hn : W53 n) (w : World) :
    Calls Try.prog 60 #[.complex .f64 x y, .complex .f64 p q, .complex .f64 r s] w fun e w' => e = .returned (.tuple #[.complex .f64 (floatOfInt .f64 m) (floatOfInt .f64 n), .int .i64 0]) ∧ w = w' := by
  go_enter Try.func60, Try.ntmps60
  go_wp2_with (first
    | ((with_reducible refine (finite_any h ha g hb _).mono ?_); rintro e w' ⟨rfl, rfl⟩)
    | ((with_reducible refine (finite_any h2 hc g2 hd _).mono ?_); rintro e w' ⟨rfl, rfl⟩)
    | ((with_reducible refine (finite_any h3 hm g3 hn _).mono ?_); rintro e w' ⟨rfl, rfl⟩)
    | ((with_reducible refine (Plain_any h3 hm g3 hn _).mono ?_); rintro e w' ⟨rfl, rfl⟩))
  go_ret2
  exact ⟨rfl, rfl⟩

set_option maxHeartbeats 400000 in
theorem Add_any {x y p q : Nat} {a b c d : Int} (h : IsI x a) (ha : W53 a) (g : IsI y b) (hb : W53 b) (h2 : IsI p c) (hc : W53 c) (g2 : IsI q d) (hd : W53 d) (hm : W53 (a + c)) (hn : W53 (b + d)) (w : World) :
    Calls Try.prog 34 #[.complex .f64 x y, .complex .f64 p q] w fun e w' => e = .returned (.tuple #[.complex .f64 (floatOfInt .f64 (a + c)) (floatOfInt .f64 (b + d)), .int .i64 0]) ∧ w = w' := by
  obtain ⟨r, r1, r2⟩ := add_IsI h h2 ha hc hm
  obtain ⟨s, s1, s2⟩ := add_IsI g g2 hb hd hn
  have hop : ∀ t w, (binOp .add t (.float .f64 x) (.float .f64 p)).run Try.prog w = .ok (.float .f64 r) w := fun t w => run_float_arith w .add t .f64 x p r r1
  have hoq : ∀ t w, (binOp .add t (.float .f64 y) (.float .f64 q)).run Try.prog w = .ok (.float .f64 s) w := fun t w => run_float_arith w .add t .f64 y q s s1
  clear r1 s1
  go_enter Try.func34, Try.ntmps34
  go_wp2_with (first
    | ((with_reducible refine (told_any h ha g hb h2 hc g2 hd r2 hm s2 hn _).mono ?_); rintro e w' ⟨rfl, rfl⟩))
  go_ret2
  exact ⟨rfl, rfl⟩

set_option maxHeartbeats 400000 in
theorem isnan_any {x : Nat} {a : Int} (h : IsI x a) (ha : W53 a) (w : World) :
    Calls Try.prog 81 #[.float .f64 x] w fun e w' => e = .returned (.bool false) ∧ w = w' := by
  have ho := order_self h ha
  go_enter Try.func81, Try.ntmps81
  go_wp2
  go_ret
  exact ⟨rfl, rfl⟩

set_option maxHeartbeats 400000 in
theorem cutf_any {x : Nat} {a : Int} (h : IsI x a) (ha : W53 a) (w : World) :
    Calls Try.prog 68 #[.float .f64 x] w fun e w' => e = .returned (.int .i64 a) ∧ w = w' := by
  have o1 := ord_beyond h ha
  have o2 := ord_below h ha
  have hc : ∀ w, (convert 87 2 (.float .f64 x)).run Try.prog w = .ok (.int .i64 a) w := fun w => run_convert_float_int w 87 2 .f64 .i64 x a (by rw [Try.underlying87]; rfl) Try.underlying2 (toInt_IsI h ha)
  go_enter Try.func68, Try.ntmps68
  go_wp2_with (first
    | ((with_reducible refine (isnan_any h ha _).mono ?_); rintro e w' ⟨rfl, rfl⟩))
  go_ret
  exact ⟨rfl, rfl⟩

set_option maxHeartbeats 400000 in
theorem Parts_any {x y : Nat} {a b : Int} (h : IsI x a) (ha : W53 a) (g : IsI y b) (hb : W53 b) (w : World) :
    Calls Try.prog 44 #[.complex .f64 x y] w fun e w' => e = .returned (.tuple #[.int .i64 a, .int .i64 b]) ∧ w = w' := by
  go_enter Try.func44, Try.ntmps44
  go_wp2_with (first
    | ((with_reducible refine (cutf_any h ha _).mono ?_); rintro e w' ⟨rfl, rfl⟩)
    | ((with_reducible refine (cutf_any g hb _).mono ?_); rintro e w' ⟨rfl, rfl⟩))
  go_ret2
  exact ⟨rfl, rfl⟩

theorem c1 : 4607182418800017408 = floatOfInt .f64 1 := by decide
theorem c2 : 4611686018427387904 = floatOfInt .f64 2 := by decide
theorem c3 : 4613937818241073152 = floatOfInt .f64 3 := by decide
theorem c4 : floatOfInt .f64 4 = 4616189618054758400 := by decide
theorem c0 : 0 = floatOfInt .f64 0 := by decide
theorem o44 : FloatKind.f64.format.order 4616189618054758400 4616189618054758400 = some .eq := by decide
theorem o22 : FloatKind.f64.format.order 4611686018427387904 4611686018427387904 = some .eq := by decide
end Go.Proofs.Ytlljmagmphfnmaa
