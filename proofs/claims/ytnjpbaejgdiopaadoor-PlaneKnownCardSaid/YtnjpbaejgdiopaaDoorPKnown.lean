/- The walk of PlaneKnown: the chapter's examples. -/
import Derived.Test.YtnjpbaejgdiopaaDoorPText
namespace Go.Proofs.YtnjpbaejgdiopaaDoor
open Go.RowKit

set_option maxHeartbeats 400000 in
theorem copysign_known (w : World) : Calls Tryd.prog 4 #[.float .f64 0, .float .f64 13830554455654793216] w fun e w' => e = .returned (.float .f64 9223372036854775808) ∧ w = w' := by
  have hf := f2b_any
  have hg := b2f_any
  go_enter Tryd.func4, Tryd.ntmps4
  go_wp2
  go_ret
  exact ⟨by kernel_rfl, rfl⟩

set_option maxHeartbeats 400000 in
theorem nan_known (w : World) : Calls Tryd.prog 8 #[] w fun e w' => e = .returned (.float .f64 9221120237041090561) ∧ w = w' := by
  have hg := b2f_any
  go_enter Tryd.func8, Tryd.ntmps8
  go_wp2
  go_ret
  exact ⟨by kernel_rfl, rfl⟩

set_option maxHeartbeats 400000 in
theorem inf_known (w : World) : Calls Tryd.prog 9 #[.int .i64 1] w fun e w' => e = .returned (.float .f64 9218868437227405312) ∧ w = w' := by
  have hg := b2f_any
  go_enter Tryd.func9, Tryd.ntmps9
  go_wp2
  go_ret
  exact ⟨by kernel_rfl, rfl⟩

theorem mul_known (w : World) : Calls Tryd.prog 5 #[.complex .f64 4607182418800017408 4611686018427387904, .complex .f64 4613937818241073152 13830554455654793216] w
    fun e w' => e = .returned (.tuple #[.complex .f64 4617315517961601024 4617315517961601024, .int .i64 0]) ∧ w = w' := by
  have h := Mul_any (x := 4607182418800017408) (y := 4611686018427387904) (p := 4613937818241073152) (q := 13830554455654793216) (a := 1) (b := 2) (c := 3) (d := -1)
    (.inl (by decide)) (by decide) (.inl (by decide)) (by decide) (.inl (by decide)) (by decide) (.inl (by decide)) (by decide) (by decide) (by decide) (by decide) (by decide) (by decide) (by decide) w
  rw [show floatOfInt .f64 (1 * 3 - 2 * -1) = 4617315517961601024 by decide, show floatOfInt .f64 (1 * -1 + 2 * 3) = 4617315517961601024 by decide] at h
  exact h

theorem mulzero_known (w : World) : Calls Tryd.prog 5 #[.complex .f64 0 0, .complex .f64 13840687554816376832 0] w
    fun e w' => e = .returned (.tuple #[.complex .f64 0 0, .int .i64 0]) ∧ w = w' := by
  have h := Mul_any (x := 0) (y := 0) (p := 13840687554816376832) (q := 0) (a := 0) (b := 0) (c := -5) (d := 0)
    (.inl (by decide)) (by decide) (.inl (by decide)) (by decide) (.inl (by decide)) (by decide) (.inl (by decide)) (by decide) (by decide) (by decide) (by decide) (by decide) (by decide) (by decide) w
  rw [show floatOfInt .f64 (0 * -5 - 0 * 0) = 0 by decide, show floatOfInt .f64 (0 * 0 + 0 * -5) = 0 by decide] at h
  exact h

set_option maxHeartbeats 1000000 in
/-- -4+8i by 2+2i. -/
theorem div_known (w : World) : Calls Tryd.prog 6 #[.complex .f64 13839561654909534208 4620693217682128896, .complex .f64 4611686018427387904 4611686018427387904] w
    fun e w' => e = .returned (.tuple #[.complex .f64 4607182418800017408 4613937818241073152, .int .i64 0]) ∧ w = w' := by
  have q0 : FloatKind.f64.format.order 4611686018427387904 0 = some .gt := by decide
  have q1 : FloatKind.f64.format.order 4611686018427387904 4611686018427387904 = some .eq := by decide
  have a2 := fun w => abs_any (x := 4611686018427387904) (a := 2) (.inl (by decide)) (by decide) w
  rw [show floatOfInt .f64 (((2 : Int).natAbs : Nat) : Int) = 4611686018427387904 by decide] at a2
  have d1 : ∀ t w, (binOp .quo t (.float .f64 4611686018427387904) (.float .f64 4611686018427387904)).run Tryd.prog w = .ok (.float .f64 4607182418800017408) w := fun t w => run_float_arith w .quo t .f64 _ _ _ (by decide)
  have d2 : ∀ t w, (binOp .quo t (.float .f64 4616189618054758400) (.float .f64 4616189618054758400)).run Tryd.prog w = .ok (.float .f64 4607182418800017408) w := fun t w => run_float_arith w .quo t .f64 _ _ _ (by decide)
  have d3 : ∀ t w, (binOp .quo t (.float .f64 4622945017495814144) (.float .f64 4616189618054758400)).run Tryd.prog w = .ok (.float .f64 4613937818241073152) w := fun t w => run_float_arith w .quo t .f64 _ _ _ (by decide)
  have m1 : ∀ t w, (binOp .mul t (.float .f64 4611686018427387904) (.float .f64 4607182418800017408)).run Tryd.prog w = .ok (.float .f64 4611686018427387904) w := fun t w => run_float_arith w .mul t .f64 _ _ _ (by decide)
  have m2 : ∀ t w, (binOp .mul t (.float .f64 4620693217682128896) (.float .f64 4607182418800017408)).run Tryd.prog w = .ok (.float .f64 4620693217682128896) w := fun t w => run_float_arith w .mul t .f64 _ _ _ (by decide)
  have m3 : ∀ t w, (binOp .mul t (.float .f64 13839561654909534208) (.float .f64 4607182418800017408)).run Tryd.prog w = .ok (.float .f64 13839561654909534208) w := fun t w => run_float_arith w .mul t .f64 _ _ _ (by decide)
  have s1 : ∀ t w, (binOp .add t (.float .f64 4611686018427387904) (.float .f64 4611686018427387904)).run Tryd.prog w = .ok (.float .f64 4616189618054758400) w := fun t w => run_float_arith w .add t .f64 _ _ _ (by decide)
  have s2 : ∀ t w, (binOp .add t (.float .f64 13839561654909534208) (.float .f64 4620693217682128896)).run Tryd.prog w = .ok (.float .f64 4616189618054758400) w := fun t w => run_float_arith w .add t .f64 _ _ _ (by decide)
  have s3 : ∀ t w, (binOp .sub t (.float .f64 4620693217682128896) (.float .f64 13839561654909534208)).run Tryd.prog w = .ok (.float .f64 4622945017495814144) w := fun t w => run_float_arith w .sub t .f64 _ _ _ (by decide)
  have td := fun w => told_any (x := 13839561654909534208) (y := 4620693217682128896) (p := 4611686018427387904) (q := 4611686018427387904) (r := 4607182418800017408) (s := 4613937818241073152) (a := -4) (b := 8) (c := 2) (d := 2) (m := 1) (n := 3)
    (.inl (by decide)) (by decide) (.inl (by decide)) (by decide) (.inl (by decide)) (by decide) (.inl (by decide)) (by decide) (.inl (by decide)) (by decide) (.inl (by decide)) (by decide) w
  rw [show floatOfInt .f64 1 = 4607182418800017408 by decide, show floatOfInt .f64 3 = 4613937818241073152 by decide] at td
  go_enter Tryd.func6, Tryd.ntmps6
  go_wp2_with (first
    | ((with_reducible refine (a2 _).mono ?_); rintro e w' ⟨rfl, rfl⟩)
    | ((with_reducible refine (td _).mono ?_); rintro e w' ⟨rfl, rfl⟩)
    | (go_at_call 18; go_in))
  go_ret2
  exact ⟨rfl, rfl⟩

set_option maxHeartbeats 400000 in
/-- By 0-0i. -/
theorem divminus_known (w : World) : Calls Tryd.prog 6 #[.complex .f64 4607182418800017408 0, .complex .f64 0 9223372036854775808] w
    fun e w' => e = .returned (.tuple #[.complex .f64 0 0, .int .i64 10]) ∧ w = w' := by
  have q0 : FloatKind.f64.format.order 0 0 = some .eq := by decide
  have q1 : FloatKind.f64.format.order 9223372036854775808 0 = some .eq := by decide
  go_enter Tryd.func6, Tryd.ntmps6
  go_wp2
  go_ret2
  exact ⟨rfl, rfl⟩

set_option maxHeartbeats 400000 in
/-- A NaN by 0. -/
theorem divnan_known (w : World) : Calls Tryd.prog 6 #[.complex .f64 9221120237041090561 0, .complex .f64 0 0] w
    fun e w' => e = .returned (.tuple #[.complex .f64 0 0, .int .i64 10]) ∧ w = w' := by
  have q0 : FloatKind.f64.format.order 0 0 = some .eq := by decide
  go_enter Tryd.func6, Tryd.ntmps6
  go_wp2
  go_ret2
  exact ⟨rfl, rfl⟩

set_option maxHeartbeats 400000 in
theorem abs_raw {x r : Nat} (hx : x < 18446744073709551616) (hr : x % 9223372036854775808 = r) (w : World) :
    Calls Tryd.prog 19 #[.float .f64 x] w fun e w' => e = .returned (.float .f64 r) ∧ w = w' := by
  have hf := f2b_any x
  have hg := b2f_any
  go_enter Tryd.func19, Tryd.ntmps19
  go_wp2
  go_ret
  refine ⟨?_, rfl⟩
  simp only [no_sign hx, Int.toNat_natCast, hr]
  rfl

theorem abs_most (w : World) : Calls Tryd.prog 19 #[.float .f64 9218868437227405311] w fun e w' => e = .returned (.float .f64 9218868437227405311) ∧ w = w' := abs_raw (by decide) (by decide) w
theorem abs_inf (w : World) : Calls Tryd.prog 19 #[.float .f64 9218868437227405312] w fun e w' => e = .returned (.float .f64 9218868437227405312) ∧ w = w' := abs_raw (by decide) (by decide) w
theorem abs_0 (w : World) : Calls Tryd.prog 19 #[.float .f64 0] w fun e w' => e = .returned (.float .f64 0) ∧ w = w' := abs_raw (by decide) (by decide) w
theorem abs_m0 (w : World) : Calls Tryd.prog 19 #[.float .f64 9223372036854775808] w fun e w' => e = .returned (.float .f64 0) ∧ w = w' := abs_raw (by decide) (by decide) w
theorem abs_1 (w : World) : Calls Tryd.prog 19 #[.float .f64 4607182418800017408] w fun e w' => e = .returned (.float .f64 4607182418800017408) ∧ w = w' := abs_raw (by decide) (by decide) w

set_option maxHeartbeats 400000 in
theorem finite_most (w : World) : Calls Tryd.prog 22 #[.complex .f64 9218868437227405311 0] w fun e w' => e = .returned (.bool true) ∧ w = w' := by
  have o1 : FloatKind.f64.format.order 9218868437227405311 9218868437227405311 = some .eq := by decide
  have o2 : FloatKind.f64.format.order 0 9218868437227405311 = some .lt := by decide
  go_enter Tryd.func22, Tryd.ntmps22
  go_wp2_with (first
    | ((with_reducible refine (abs_most _).mono ?_); rintro e w' ⟨rfl, rfl⟩)
    | ((with_reducible refine (abs_0 _).mono ?_); rintro e w' ⟨rfl, rfl⟩))
  go_ret
  exact ⟨rfl, rfl⟩

set_option maxHeartbeats 400000 in
theorem finite_inf (y : Nat) (w : World) : Calls Tryd.prog 22 #[.complex .f64 9218868437227405312 y] w fun e w' => e = .returned (.bool false) ∧ w = w' := by
  have o1 : FloatKind.f64.format.order 9218868437227405312 9218868437227405311 = some .gt := by decide
  go_enter Tryd.func22, Tryd.ntmps22
  go_wp2_with ((with_reducible refine (abs_inf _).mono ?_); rintro e w' ⟨rfl, rfl⟩)
  go_ret
  exact ⟨rfl, rfl⟩

set_option maxHeartbeats 400000 in
theorem told_most (w : World) : Calls Tryd.prog 17 #[.complex .f64 9218868437227405311 0, .complex .f64 9218868437227405311 0, .complex .f64 9218868437227405312 0] w
    fun e w' => e = .returned (.tuple #[.complex .f64 0 0, .int .i64 20]) ∧ w = w' := by
  go_enter Tryd.func17, Tryd.ntmps17
  go_wp2_with (first
    | ((with_reducible refine (finite_most _).mono ?_); rintro e w' ⟨rfl, rfl⟩)
    | ((with_reducible refine (finite_inf _ _).mono ?_); rintro e w' ⟨rfl, rfl⟩))
  go_ret2
  exact ⟨rfl, rfl⟩

set_option maxHeartbeats 400000 in
theorem told_inf (z : Value) (y p q : Nat) (w : World) : Calls Tryd.prog 17 #[.complex .f64 9218868437227405312 y, .complex .f64 p q, z] w
    fun e w' => e = .returned (.tuple #[.complex .f64 0 0, .int .i64 20]) ∧ w = w' := by
  go_enter Tryd.func17, Tryd.ntmps17
  go_wp2_with ((with_reducible refine (finite_inf _ _).mono ?_); rintro e w' ⟨rfl, rfl⟩)
  go_ret2
  exact ⟨rfl, rfl⟩

set_option maxHeartbeats 400000 in
theorem addmost_known (w : World) : Calls Tryd.prog 7 #[.complex .f64 9218868437227405311 0, .complex .f64 9218868437227405311 0] w
    fun e w' => e = .returned (.tuple #[.complex .f64 0 0, .int .i64 20]) ∧ w = w' := by
  have s1 : ∀ t w, (binOp .add t (.float .f64 9218868437227405311) (.float .f64 9218868437227405311)).run Tryd.prog w = .ok (.float .f64 9218868437227405312) w := fun t w => run_float_arith w .add t .f64 _ _ _ (by decide)
  have s2 : ∀ t w, (binOp .add t (.float .f64 0) (.float .f64 0)).run Tryd.prog w = .ok (.float .f64 0) w := fun t w => run_float_arith w .add t .f64 _ _ _ (by decide)
  go_enter Tryd.func7, Tryd.ntmps7
  go_wp2_with ((with_reducible refine (told_most _).mono ?_); rintro e w' ⟨rfl, rfl⟩)
  go_ret2
  exact ⟨rfl, rfl⟩

set_option maxHeartbeats 400000 in
theorem addinf_known (w : World) : Calls Tryd.prog 7 #[.complex .f64 9218868437227405312 0, .complex .f64 0 0] w
    fun e w' => e = .returned (.tuple #[.complex .f64 0 0, .int .i64 20]) ∧ w = w' := by
  have s1 : ∀ t w, (binOp .add t (.float .f64 9218868437227405312) (.float .f64 0)).run Tryd.prog w = .ok (.float .f64 9218868437227405312) w := fun t w => run_float_arith w .add t .f64 _ _ _ (by decide)
  have s2 : ∀ t w, (binOp .add t (.float .f64 0) (.float .f64 0)).run Tryd.prog w = .ok (.float .f64 0) w := fun t w => run_float_arith w .add t .f64 _ _ _ (by decide)
  go_enter Tryd.func7, Tryd.ntmps7
  go_wp2_with ((with_reducible refine (told_inf _ _ _ _ _).mono ?_); rintro e w' ⟨rfl, rfl⟩)
  go_ret2
  exact ⟨rfl, rfl⟩

set_option maxHeartbeats 400000 in
theorem nan29 (w : World) : Calls Tryd.prog 25 #[.float .f64 13837084675114480435] w fun e w' => e = .returned (.bool false) ∧ w = w' := by
  have o1 : FloatKind.f64.format.order 13837084675114480435 13837084675114480435 = some .eq := by decide
  go_enter Tryd.func25, Tryd.ntmps25
  go_wp2
  go_ret
  exact ⟨rfl, rfl⟩
set_option maxHeartbeats 400000 in
theorem nan30 (w : World) : Calls Tryd.prog 25 #[.float .f64 5055640609639927018] w fun e w' => e = .returned (.bool false) ∧ w = w' := by
  have o1 : FloatKind.f64.format.order 5055640609639927018 5055640609639927018 = some .eq := by decide
  go_enter Tryd.func25, Tryd.ntmps25
  go_wp2
  go_ret
  exact ⟨rfl, rfl⟩

set_option maxHeartbeats 400000 in
theorem cut29 (w : World) : Calls Tryd.prog 20 #[.float .f64 13837084675114480435] w fun e w' => e = .returned (.int .i64 (-2)) ∧ w = w' := by
  have o1 : FloatKind.f64.format.order 13837084675114480435 4890909195324358656 = some .lt := by decide
  have o2 : FloatKind.f64.format.order 13837084675114480435 14114281232179134464 = some .gt := by decide
  have hc : ∀ w, (convert 23 2 (.float .f64 13837084675114480435)).run Tryd.prog w = .ok (.int .i64 (-2)) w := fun w => run_convert_float_int w 23 2 .f64 .i64 _ (-2) (by rw [Tryd.underlying23]; rfl) Tryd.underlying2 (by decide)
  go_enter Tryd.func20, Tryd.ntmps20
  go_wp2_with ((with_reducible refine (nan29 _).mono ?_); rintro e w' ⟨rfl, rfl⟩)
  go_ret
  exact ⟨rfl, rfl⟩

set_option maxHeartbeats 400000 in
theorem cut30 (w : World) : Calls Tryd.prog 20 #[.float .f64 5055640609639927018] w fun e w' => e = .returned (.int .i64 9223372036854775807) ∧ w = w' := by
  have o1 : FloatKind.f64.format.order 5055640609639927018 4890909195324358656 = some .gt := by decide
  go_enter Tryd.func20, Tryd.ntmps20
  go_wp2_with ((with_reducible refine (nan30 _).mono ?_); rintro e w' ⟨rfl, rfl⟩)
  go_ret
  exact ⟨rfl, rfl⟩

set_option maxHeartbeats 400000 in
theorem parts_known (w : World) : Calls Tryd.prog 10 #[.complex .f64 13837084675114480435 5055640609639927018] w
    fun e w' => e = .returned (.tuple #[.int .i64 (-2), .int .i64 9223372036854775807]) ∧ w = w' := by
  go_enter Tryd.func10, Tryd.ntmps10
  go_wp2_with (first
    | ((with_reducible refine (cut29 _).mono ?_); rintro e w' ⟨rfl, rfl⟩)
    | ((with_reducible refine (cut30 _).mono ?_); rintro e w' ⟨rfl, rfl⟩))
  go_ret2
  exact ⟨rfl, rfl⟩

set_option maxHeartbeats 400000 in
theorem signbit_m0 (w : World) : Calls Tryd.prog 28 #[.float .f64 9223372036854775808] w fun e w' => e = .returned (.bool true) ∧ w = w' := by
  have hf := f2b_any 9223372036854775808
  go_enter Tryd.func28, Tryd.ntmps28
  go_wp2
  go_ret
  exact ⟨by kernel_rfl, rfl⟩

set_option maxHeartbeats 400000 in
theorem minus_m0 (w : World) : Calls Tryd.prog 23 #[.float .f64 9223372036854775808] w fun e w' => e = .returned (.bool true) ∧ w = w' := by
  have o1 : FloatKind.f64.format.order 9223372036854775808 0 = some .eq := by decide
  go_enter Tryd.func23, Tryd.ntmps23
  go_wp2_with ((with_reducible refine (signbit_m0 _).mono ?_); rintro e w' ⟨rfl, rfl⟩)
  go_ret
  exact ⟨rfl, rfl⟩

theorem finite_m0 (w : World) : Calls Tryd.prog 22 #[.complex .f64 9223372036854775808 4607182418800017408] w fun e w' => e = .returned (.bool true) ∧ w = w' :=
  finite_any (x := 9223372036854775808) (y := 4607182418800017408) (a := 0) (b := 1) (.inr ⟨rfl, rfl⟩) (by decide) (.inl (by decide)) (by decide) w

set_option maxHeartbeats 400000 in
theorem fine_m0 (w : World) : Calls Tryd.prog 13 #[.complex .f64 9223372036854775808 4607182418800017408] w fun e w' => e = .returned (.bool false) ∧ w = w' := by
  go_enter Tryd.func13, Tryd.ntmps13
  go_wp2_with (first
    | ((with_reducible refine (finite_m0 _).mono ?_); rintro e w' ⟨rfl, rfl⟩)
    | ((with_reducible refine (minus_m0 _).mono ?_); rintro e w' ⟨rfl, rfl⟩))
  go_ret
  exact ⟨rfl, rfl⟩

set_option maxHeartbeats 400000 in
theorem text_m0 (w : World) : Calls Tryd.prog 12 #[.complex .f64 9223372036854775808 4607182418800017408] w fun e w' => e = .returned (.string ⟨#[]⟩) ∧ w = w' := by
  go_enter Tryd.func12, Tryd.ntmps12
  go_wp2_with ((with_reducible refine (fine_m0 _).mono ?_); rintro e w' ⟨rfl, rfl⟩)
  go_ret
  exact ⟨rfl, rfl⟩

theorem plain_m0 (w : World) : Calls Tryd.prog 14 #[.complex .f64 9223372036854775808 4607182418800017408] w fun e w' => e = .returned (.complex .f64 0 4607182418800017408) ∧ w = w' := by
  have h := Plain_any (x := 9223372036854775808) (y := 4607182418800017408) (a := 0) (b := 1) (.inr ⟨rfl, rfl⟩) (by decide) (.inl (by decide)) (by decide) w
  rw [foi_zero, show floatOfInt .f64 1 = 4607182418800017408 by decide] at h
  exact h

def txt00 : ByteArray := ⟨#[48, 48, 48, 48, 48, 48, 48, 48, 48, 48, 48, 48, 48, 48, 48, 48, 48, 48, 48, 48, 48, 48, 48, 48, 48, 48, 48, 48, 48, 48, 48, 48]⟩
def txt01 : ByteArray := ⟨#[48, 48, 48, 48, 48, 48, 48, 48, 48, 48, 48, 48, 48, 48, 48, 48, 51, 102, 102, 48, 48, 48, 48, 48, 48, 48, 48, 48, 48, 48, 48, 48]⟩

theorem text_00 (w : World) (h : DebOK w) : Calls Tryd.prog 12 #[.complex .f64 0 0] w fun e w' => e = .returned (.string txt00) ∧ Below w.heap.size w w' := by
  have h := Text_any (a := 0) (b := 0) (by decide) (by decide) w h
  rw [foi_zero, show (⟨(hexS 0 15 ++ hexS 0 15).toArray⟩ : ByteArray) = txt00 by decide +kernel] at h
  exact h
theorem text_01 (w : World) (h : DebOK w) : Calls Tryd.prog 12 #[.complex .f64 0 4607182418800017408] w fun e w' => e = .returned (.string txt01) ∧ Below w.heap.size w w' := by
  have h := Text_any (a := 0) (b := 1) (by decide) (by decide) w h
  rw [foi_zero, show floatOfInt .f64 1 = 4607182418800017408 by decide, show (⟨(hexS 0 15 ++ hexS 4607182418800017408 15).toArray⟩ : ByteArray) = txt01 by decide +kernel] at h
  exact h
end Go.Proofs.YtnjpbaejgdiopaaDoor
