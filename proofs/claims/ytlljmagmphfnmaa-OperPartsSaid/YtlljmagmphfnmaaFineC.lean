/- (mkvb.py, out of Fine) The contract of plane.Fine, of ANY parts, finite or not, noughts with a minus too. -/
import Derived.Test.YtlljmagmphfnmaaNum
import Derived.Test.YtlljmagmphfnmaaFltAny
import Derived.Test.YtlljmagmphfnmaaRows
import Derived.WalkKit
import Derived.WalkSpells
import Derived.WalkLawsBesides
import Derived.Handy
import Derived.Lib.Hide
import Derived.Laws.Externs
import Derived.Laws.BitsAllLaws
namespace Go.Proofs.Ytlljmagmphfnmaa
open Go.RowKit

theorem f2b_any (x : Nat) (w : World) : (callFunc 80 #[.float .f64 x]).run Try.prog w = .ok (.value (.int .u64 x)) w := by
  rw [run_callFunc_extern Try.func80 (by kernel_rfl) (by kernel_rfl) (by kernel_rfl) (e := Extern.MathFloatBits.float64bits) (by kernel_rfl)]
  rfl
theorem b2f_any (n : Int) (w : World) : (callFunc 79 #[.int .u64 n]).run Try.prog w = .ok (.value (.float .f64 n.toNat)) w := by
  rw [run_callFunc_extern Try.func79 (by kernel_rfl) (by kernel_rfl) (by kernel_rfl) (e := Extern.MathFloatBits.float64frombits) (by kernel_rfl)]
  rfl

theorem no_sign {x : Nat} (h : x < 18446744073709551616) : bits .andNot .u64 (x : Int) 9223372036854775808 = ((x % 9223372036854775808 : Nat) : Int) := by
  have e := u64_andNot_nat x 9223372036854775808 h (by omega)
  rw [show (((9223372036854775808 : Nat)) : Int) = 9223372036854775808 by rfl] at e
  rw [e, show 18446744073709551615 - 9223372036854775808 = 2 ^ 63 - 1 by decide, Nat.and_two_pow_sub_one_eq_mod]

set_option maxHeartbeats 400000 in
theorem abs_all {x : Nat} (h : x < 18446744073709551616) (w : World) :
    Calls Try.prog 62 #[.float .f64 x] w fun e w' => e = .returned (.float .f64 (x % 9223372036854775808)) ∧ w = w' := by
  have hf := f2b_any x
  have hg := b2f_any
  have hn := Lib.hid (no_sign h)
  clear h
  go_enter Try.func62, Try.ntmps62
  go_wp2
  go_ret
  refine ⟨?_, rfl⟩
  simp only [hn.out, Int.toNat_natCast]
  rfl

theorem abs_lt (x : Nat) : x % 9223372036854775808 < 9223372036854775808 := Nat.mod_lt _ (by omega)

set_option maxHeartbeats 1000000 in
theorem finite_all {x y : Nat} (hx : x < 18446744073709551616) (hy : y < 18446744073709551616) (w : World) :
    Calls Try.prog 71 #[.complex .f64 x y] w fun e w' => e = .returned (.bool (finB x && finB y)) ∧ w = w' := by
  cases h : finB x with
  | false =>
    have H : Hid ((false && finB y) = false) := rfl
    rcases ord_most_not (abs_lt x) ((finB_mod x).trans h) with ho | ho
    all_goals
      clear h
      go_enter Try.func71, Try.ntmps71
      go_wp2_with (first
        | ((with_reducible refine (abs_all hx _).mono ?_); rintro e w' ⟨rfl, rfl⟩))
      go_ret
      exact ⟨ret_bool rfl, rfl⟩
  | true =>
    cases g : finB y with
    | false =>
      rcases ord_most_fin ((finB_mod x).trans h) with ho | ho <;> rcases ord_most_not (abs_lt y) ((finB_mod y).trans g) with hp | hp
      all_goals
        clear h g
        go_enter Try.func71, Try.ntmps71
        go_wp2_with (first
          | ((with_reducible refine (abs_all hx _).mono ?_); rintro e w' ⟨rfl, rfl⟩)
          | ((with_reducible refine (abs_all hy _).mono ?_); rintro e w' ⟨rfl, rfl⟩))
        go_ret
        exact ⟨ret_bool rfl, rfl⟩
    | true =>
      rcases ord_most_fin ((finB_mod x).trans h) with ho | ho <;> rcases ord_most_fin ((finB_mod y).trans g) with hp | hp
      all_goals
        clear h g
        go_enter Try.func71, Try.ntmps71
        go_wp2_with (first
          | ((with_reducible refine (abs_all hx _).mono ?_); rintro e w' ⟨rfl, rfl⟩)
          | ((with_reducible refine (abs_all hy _).mono ?_); rintro e w' ⟨rfl, rfl⟩))
        go_ret
        exact ⟨ret_bool rfl, rfl⟩

theorem sign_bit {x : Nat} (h : x < 18446744073709551616) : decide (wrap64 (x : Int) < 0) = decide (9223372036854775808 ≤ x) := by
  rw [Bool.eq_iff_iff, decide_eq_true_eq, decide_eq_true_eq]
  simp only [wrap64]
  omega

set_option maxHeartbeats 400000 in
theorem signbit_all {x : Nat} (h : x < 18446744073709551616) (w : World) : Calls Try.prog 82 #[.float .f64 x] w fun e w' => e = .returned (.bool (decide (9223372036854775808 ≤ x))) ∧ w = w' := by
  have hf := f2b_any x
  have hs := Lib.hid (sign_bit h)
  clear h
  go_enter Try.func82, Try.ntmps82
  go_wp2
  go_ret
  exact ⟨ret_bool hs.out, rfl⟩

/-- A nought with a minus. -/
def minB (x : Nat) : Bool := decide (x = 9223372036854775808)

set_option maxHeartbeats 400000 in
theorem minusNought_full {x : Nat} (hx : x < 18446744073709551616) (w : World) :
    Calls Try.prog 72 #[.float .f64 x] w fun e w' => e = .returned (.bool (minB x)) ∧ w = w' := by
  cases h : nilB x with
  | true =>
    have hS := signbit_all hx
    have hd : decide (9223372036854775808 ≤ x) = minB x := by
      have h1 : x % 9223372036854775808 = 0 := of_decide_eq_true h
      unfold minB
      rw [Bool.eq_iff_iff, decide_eq_true_eq, decide_eq_true_eq]
      omega
    rw [hd] at hS
    have ho := ord_nil h
    clear h hd
    generalize minB x = m at hS ⊢
    go_enter Try.func72, Try.ntmps72
    go_wp2_with ((with_reducible refine (hS _).mono ?_); rintro e w' ⟨rfl, rfl⟩)
    go_ret
    exact ⟨rfl, rfl⟩
  | false =>
    have hd : minB x = false := by
      have h1 : ¬ x % 9223372036854775808 = 0 := of_decide_eq_false h
      unfold minB
      rw [decide_eq_false_iff_not]
      intro e; subst e; exact h1 (by decide)
    rw [hd]
    rcases ord_some h with ho | ho | ho
    all_goals
      clear h
      go_enter Try.func72, Try.ntmps72
      go_wp2
      go_ret
      exact ⟨rfl, rfl⟩

/-- Is a number fine? -/
def fineB (x y : Nat) : Bool := finB x && finB y && !minB x && !minB y

set_option maxHeartbeats 1000000 in
theorem Fine_full {x y : Nat} (hx : x < 18446744073709551616) (hy : y < 18446744073709551616) (w : World) :
    Calls Try.prog 50 #[.complex .f64 x y] w fun e w' => e = .returned (.bool (fineB x y)) ∧ w = w' := by
  have HC := finite_all hx hy
  have h1 := minusNought_full hx
  have h2 := minusNought_full hy
  unfold fineB
  generalize (finB x && finB y) = b at HC ⊢
  generalize minB x = c at h1 ⊢
  generalize minB y = d at h2 ⊢
  cases b <;> cases c <;> cases d
  all_goals
    go_enter Try.func50, Try.ntmps50
    go_wp2_with (first
      | ((with_reducible refine (HC _).mono ?_); rintro e w' ⟨rfl, rfl⟩)
      | ((with_reducible refine (h1 _).mono ?_); rintro e w' ⟨rfl, rfl⟩)
      | ((with_reducible refine (h2 _).mono ?_); rintro e w' ⟨rfl, rfl⟩))
    go_ret
    exact ⟨rfl, rfl⟩

theorem ord_self (x : Nat) : FloatKind.f64.format.order x x = some .eq ∨ FloatKind.f64.format.order x x = none := by
  cases h : finB x with
  | true => exact .inl (ord_self_fin h)
  | false =>
    rcases ord_not_fin h with hs | ⟨hs, _⟩
    · exact .inr hs
    · exact .inl hs

end Go.Proofs.Ytlljmagmphfnmaa
