/- Contracts of plane.Plain, plane.Fine and of the document's, of any parts, finite or not. -/
import Derived.Test.YtmlpgfepepiakaaNum
import Derived.Test.YtmlpgfepepiakaaFltAny
import Derived.Test.YtmlpgfepepiakaaRows
import Derived.WalkKit
import Derived.WalkSpells
import Derived.WalkLawsBesides
import Derived.Handy
import Derived.Lib.Hide
import Derived.Laws.Externs
import Derived.Laws.BitsAllLaws
namespace Go.Proofs.Ytmlpgfepepiakaa
open Go.RowKit

theorem f2b_any (x : Nat) (w : World) : (callFunc 35 #[.float .f64 x]).run Try.prog w = .ok (.value (.int .u64 x)) w := by
  rw [run_callFunc_extern Try.func35 (by kernel_rfl) (by kernel_rfl) (by kernel_rfl) (e := Extern.MathFloatBits.float64bits) (by kernel_rfl)]
  rfl
theorem b2f_any (n : Int) (w : World) : (callFunc 39 #[.int .u64 n]).run Try.prog w = .ok (.value (.float .f64 n.toNat)) w := by
  rw [run_callFunc_extern Try.func39 (by kernel_rfl) (by kernel_rfl) (by kernel_rfl) (e := Extern.MathFloatBits.float64frombits) (by kernel_rfl)]
  rfl

set_option maxHeartbeats 400000 in
theorem plain_all (x : Nat) (w : World) :
    Calls Try.prog 32 #[.float .f64 x] w fun e w' => e = .returned (.float .f64 (plainN x)) ∧ w = w' := by
  cases h : nilB x with
  | true =>
    have ho := ord_nil h
    have HP := Lib.hid (plainN_yes h)
    clear h
    go_enter Try.func32, Try.ntmps32
    go_wp2
    go_ret
    exact ⟨by rw [HP.out]; rfl, rfl⟩
  | false =>
    have HP := Lib.hid (plainN_no h)
    rcases ord_some h with ho | ho | ho
    all_goals
      clear h
      go_enter Try.func32, Try.ntmps32
      go_wp2
      go_ret
      exact ⟨by rw [HP.out]; rfl, rfl⟩

set_option maxHeartbeats 400000 in
theorem Plain_all (x y : Nat) (w : World) :
    Calls Try.prog 22 #[.complex .f64 x y] w fun e w' => e = .returned (.complex .f64 (plainN x) (plainN y)) ∧ w = w' := by
  go_enter Try.func22, Try.ntmps22
  go_wp2_with (first
    | ((with_reducible refine (plain_all _ _).mono ?_); rintro e w' ⟨rfl, rfl⟩))
  go_ret
  exact ⟨rfl, rfl⟩

theorem no_sign {x : Nat} (h : x < 18446744073709551616) : bits .andNot .u64 (x : Int) 9223372036854775808 = ((x % 9223372036854775808 : Nat) : Int) := by
  have e := u64_andNot_nat x 9223372036854775808 h (by omega)
  rw [show (((9223372036854775808 : Nat)) : Int) = 9223372036854775808 by rfl] at e
  rw [e, show 18446744073709551615 - 9223372036854775808 = 2 ^ 63 - 1 by decide, Nat.and_two_pow_sub_one_eq_mod]

set_option maxHeartbeats 400000 in
theorem abs_all {x : Nat} (h : x < 18446744073709551616) (w : World) :
    Calls Try.prog 37 #[.float .f64 x] w fun e w' => e = .returned (.float .f64 (x % 9223372036854775808)) ∧ w = w' := by
  have hf := f2b_any x
  have hg := b2f_any
  have hn := Lib.hid (no_sign h)
  clear h
  go_enter Try.func37, Try.ntmps37
  go_wp2
  go_ret
  refine ⟨?_, rfl⟩
  simp only [hn.out, Int.toNat_natCast]
  rfl

theorem abs_lt (x : Nat) : x % 9223372036854775808 < 9223372036854775808 := Nat.mod_lt _ (by omega)

set_option maxHeartbeats 1000000 in
theorem finite_all {x y : Nat} (hx : x < 18446744073709551616) (hy : y < 18446744073709551616) (w : World) :
    Calls Try.prog 33 #[.complex .f64 x y] w fun e w' => e = .returned (.bool (finB x && finB y)) ∧ w = w' := by
  cases h : finB x with
  | false =>
    have H : Hid ((false && finB y) = false) := rfl
    rcases ord_most_not (abs_lt x) ((finB_mod x).trans h) with ho | ho
    all_goals
      clear h
      go_enter Try.func33, Try.ntmps33
      go_wp2_with (first
        | ((with_reducible refine (abs_all hx _).mono ?_); rintro e w' ⟨rfl, rfl⟩))
      go_ret
      exact ⟨ret_bool rfl, rfl⟩
  | true =>
    cases g : finB y with
    | false =>
      rcases ord_most_fin ((finB_mod x).trans h) with ho | ho <;> rcases ord_most_not (abs_lt y) ((finB_mod y).trans g) with hp | hp
      all_goals
        clear h g
        go_enter Try.func33, Try.ntmps33
        go_wp2_with (first
          | ((with_reducible refine (abs_all hx _).mono ?_); rintro e w' ⟨rfl, rfl⟩)
          | ((with_reducible refine (abs_all hy _).mono ?_); rintro e w' ⟨rfl, rfl⟩))
        go_ret
        exact ⟨ret_bool rfl, rfl⟩
    | true =>
      rcases ord_most_fin ((finB_mod x).trans h) with ho | ho <;> rcases ord_most_fin ((finB_mod y).trans g) with hp | hp
      all_goals
        clear h g
        go_enter Try.func33, Try.ntmps33
        go_wp2_with (first
          | ((with_reducible refine (abs_all hx _).mono ?_); rintro e w' ⟨rfl, rfl⟩)
          | ((with_reducible refine (abs_all hy _).mono ?_); rintro e w' ⟨rfl, rfl⟩))
        go_ret
        exact ⟨ret_bool rfl, rfl⟩

set_option maxHeartbeats 400000 in
theorem signbit_nought (w : World) : Calls Try.prog 38 #[.float .f64 0] w fun e w' => e = .returned (.bool false) ∧ w = w' := by
  have hf := f2b_any 0
  go_enter Try.func38, Try.ntmps38
  go_wp2
  go_ret
  exact ⟨rfl, rfl⟩

/-- A part that is plain is no nought with a minus. -/
def IsPlain (x : Nat) : Prop := nilB x = true → x = 0
theorem IsPlain.of (x : Nat) : IsPlain (plainN x) := plainN_nil

set_option maxHeartbeats 400000 in
theorem minusNought_all {x : Nat} (hp : IsPlain x) (w : World) :
    Calls Try.prog 34 #[.float .f64 x] w fun e w' => e = .returned (.bool false) ∧ w = w' := by
  cases h : nilB x with
  | true =>
    obtain rfl := hp h
    have ho := ord_nil h
    clear h hp
    go_enter Try.func34, Try.ntmps34
    go_wp2_with ((with_reducible refine (signbit_nought _).mono ?_); rintro e w' ⟨rfl, rfl⟩)
    go_ret
    exact ⟨rfl, rfl⟩
  | false =>
    rcases ord_some h with ho | ho | ho
    all_goals
      clear h hp
      go_enter Try.func34, Try.ntmps34
      go_wp2
      go_ret
      exact ⟨rfl, rfl⟩

set_option maxHeartbeats 400000 in
theorem Fine_all {x y : Nat} (hx : x < 18446744073709551616) (hy : y < 18446744073709551616) (px : IsPlain x) (py : IsPlain y) (w : World) :
    Calls Try.prog 23 #[.complex .f64 x y] w fun e w' => e = .returned (.bool (finB x && finB y)) ∧ w = w' := by
  have HC := finite_all hx hy
  generalize (finB x && finB y) = b at HC
  cases b
  all_goals
    go_enter Try.func23, Try.ntmps23
    go_wp2_with (first
      | ((with_reducible refine (HC _).mono ?_); rintro e w' ⟨rfl, rfl⟩)
      | ((with_reducible refine (minusNought_all px _).mono ?_); rintro e w' ⟨rfl, rfl⟩)
      | ((with_reducible refine (minusNought_all py _).mono ?_); rintro e w' ⟨rfl, rfl⟩))
    go_ret
    exact ⟨rfl, rfl⟩

set_option maxHeartbeats 400000 in
theorem refMinus_all {x : Nat} (w : World) :
    Calls Try.prog 27 #[.float .f64 x] w fun e w' => e = .returned (.bool (decide (x = 9223372036854775808))) ∧ w = w' := by
  have hf := f2b_any x
  have H : Hid (((x : Int) == 9223372036854775808) = decide (x = 9223372036854775808)) := by
    show ((x : Int) == 9223372036854775808) = _
    rw [Bool.eq_iff_iff]; simp only [beq_iff_eq, decide_eq_true_eq]; omega
  go_enter Try.func27, Try.ntmps27
  go_wp2
  go_ret
  exact ⟨ret_bool H.out, rfl⟩
theorem refMinus_no {x : Nat} (h : x ≠ 9223372036854775808) (w : World) :
    Calls Try.prog 27 #[.float .f64 x] w fun e w' => e = .returned (.bool false) ∧ w = w' := by
  have := refMinus_all (x := x) w
  rw [decide_eq_false h] at this
  exact this
theorem refMinus_yes (w : World) :
    Calls Try.prog 27 #[.float .f64 9223372036854775808] w fun e w' => e = .returned (.bool true) ∧ w = w' := by
  have := refMinus_all (x := 9223372036854775808) w
  rw [decide_eq_true rfl] at this
  exact this

set_option maxHeartbeats 1000000 in
theorem refPlain_all {x y : Nat} (hx : x < 18446744073709551616) (hy : y < 18446744073709551616) (w : World) :
    Calls Try.prog 9 #[.complex .f64 x y] w fun e w' => e = .returned (.complex .f64 (plainN x) (plainN y)) ∧ w = w' := by
  by_cases h : x = 9223372036854775808 <;> by_cases g : y = 9223372036854775808
  · subst h; subst g
    go_enter Try.func9, Try.ntmps9
    go_wp2_with (first
      | ((with_reducible refine (refMinus_yes _).mono ?_); rintro e w' ⟨rfl, rfl⟩))
    go_ret
    exact ⟨by rw [plainN_minus0]; rfl, rfl⟩
  · subst h
    have HG := Lib.hid (plainN_minus hy g)
    replace g := Lib.hid g
    go_enter Try.func9, Try.ntmps9
    go_wp2_with (first
      | ((with_reducible refine (refMinus_yes _).mono ?_); rintro e w' ⟨rfl, rfl⟩)
      | ((with_reducible refine (refMinus_no g.out _).mono ?_); rintro e w' ⟨rfl, rfl⟩))
    go_ret
    exact ⟨by rw [plainN_minus0, HG.out]; rfl, rfl⟩
  · subst g
    have HG := Lib.hid (plainN_minus hx h)
    replace h := Lib.hid h
    go_enter Try.func9, Try.ntmps9
    go_wp2_with (first
      | ((with_reducible refine (refMinus_no h.out _).mono ?_); rintro e w' ⟨rfl, rfl⟩)
      | ((with_reducible refine (refMinus_yes _).mono ?_); rintro e w' ⟨rfl, rfl⟩))
    go_ret
    exact ⟨by rw [plainN_minus0, HG.out]; rfl, rfl⟩
  · have HG := Lib.hid (plainN_minus hx h)
    have HH := Lib.hid (plainN_minus hy g)
    replace h := Lib.hid h
    replace g := Lib.hid g
    go_enter Try.func9, Try.ntmps9
    go_wp2_with (first
      | ((with_reducible refine (refMinus_no h.out _).mono ?_); rintro e w' ⟨rfl, rfl⟩)
      | ((with_reducible refine (refMinus_no g.out _).mono ?_); rintro e w' ⟨rfl, rfl⟩))
    go_ret
    exact ⟨by rw [HG.out, HH.out]; rfl, rfl⟩

set_option maxHeartbeats 400000 in
theorem refNan_no {x : Nat} (ho : FloatKind.f64.format.order x x = some .eq) (w : World) :
    Calls Try.prog 36 #[.float .f64 x] w fun e w' => e = .returned (.bool false) ∧ w = w' := by
  go_enter Try.func36, Try.ntmps36
  go_wp2
  go_ret
  exact ⟨rfl, rfl⟩
set_option maxHeartbeats 400000 in
theorem refNan_yes {x : Nat} (ho : FloatKind.f64.format.order x x = none) (w : World) :
    Calls Try.prog 36 #[.float .f64 x] w fun e w' => e = .returned (.bool true) ∧ w = w' := by
  go_enter Try.func36, Try.ntmps36
  go_wp2
  go_ret
  exact ⟨rfl, rfl⟩

set_option maxHeartbeats 1000000 in
theorem refEnded_all (x : Nat) (w : World) :
    Calls Try.prog 28 #[.float .f64 x] w fun e w' => e = .returned (.bool (finB x)) ∧ w = w' := by
  cases h : finB x with
  | true =>
    have hs := Lib.hid (ord_self_fin h)
    rcases ord_most_fin h with ho | ho <;> rcases ord_least_fin h with hp | hp
    all_goals
      clear h
      go_enter Try.func28, Try.ntmps28
      go_wp2_with (first
        | ((with_reducible refine (refNan_no hs.out _).mono ?_); rintro e w' ⟨rfl, rfl⟩))
      go_ret
      exact ⟨rfl, rfl⟩
  | false =>
    rcases ord_not_fin h with hs | ⟨hs, ho | ⟨ho, hp⟩⟩
    · replace hs := Lib.hid hs
      clear h
      go_enter Try.func28, Try.ntmps28
      go_wp2_with (first
        | ((with_reducible refine (refNan_yes hs.out _).mono ?_); rintro e w' ⟨rfl, rfl⟩))
      go_ret
      exact ⟨rfl, rfl⟩
    all_goals
      replace hs := Lib.hid hs
      clear h
      go_enter Try.func28, Try.ntmps28
      go_wp2_with (first
        | ((with_reducible refine (refNan_no hs.out _).mono ?_); rintro e w' ⟨rfl, rfl⟩))
      go_ret
      exact ⟨rfl, rfl⟩

set_option maxHeartbeats 1000000 in
theorem refFine_all {x y : Nat} (px : x ≠ 9223372036854775808) (py : y ≠ 9223372036854775808) (w : World) :
    Calls Try.prog 10 #[.complex .f64 x y] w fun e w' => e = .returned (.bool (finB x && finB y)) ∧ w = w' := by
  have c1 := refEnded_all x
  have c2 := refEnded_all y
  replace px := Lib.hid px
  replace py := Lib.hid py
  generalize finB x = a at c1 ⊢
  generalize finB y = b at c2 ⊢
  cases a <;> cases b
  all_goals
    go_enter Try.func10, Try.ntmps10
    go_wp2_with (first
      | ((with_reducible refine (c1 _).mono ?_); rintro e w' ⟨rfl, rfl⟩)
      | ((with_reducible refine (c2 _).mono ?_); rintro e w' ⟨rfl, rfl⟩)
      | ((with_reducible refine (refMinus_no px.out _).mono ?_); rintro e w' ⟨rfl, rfl⟩)
      | ((with_reducible refine (refMinus_no py.out _).mono ?_); rintro e w' ⟨rfl, rfl⟩))
    go_ret
    exact ⟨rfl, rfl⟩
end Go.Proofs.Ytmlpgfepepiakaa
