/- More contracts of package whole (products, quotients, shifts, what is clamped), for every input. -/
import Derived.Test.YtkhbgmdjfkkkcaaDoorWhole
import Derived.Test.YtkhbgmdjfkkkcaaDoorShelf
import Derived.Laws.Shifts
namespace Go.Proofs.YtkhbgmdjfkkkcaaDoor
open Go.RowKit


/-- A product's size is the sizes' product; its sign is told by the signs. -/
theorem mul_size (a b : Int) : (a * b).natAbs = a.natAbs * b.natAbs := Int.natAbs_mul a b

def high64 (x y : Nat) (e : Ending) (w w' : World) : Prop := ∃ h l : Nat, 1 ≤ h ∧ l < 18446744073709551616 ∧ e = .returned (.tuple #[.int .u64 h, .int .u64 l]) ∧ w = w' ∧ x * y = h * 18446744073709551616 + l

theorem mul64_small (x y p : Nat) (hp : x * y = p) (hx : x < 18446744073709551616) (hy : y < 18446744073709551616) (h : p < 18446744073709551616) (w : World) :
    Calls Tryd.prog 49 #[.int .u64 x, .int .u64 y] w fun e w' => e = .returned (.tuple #[.int .u64 0, .int .u64 p]) ∧ w = w' :=
  (Tryd.bits_Mul64 x y hx hy w).mono fun e w' ⟨he, hw⟩ => by
    rw [hp, Nat.div_eq_of_lt h, Nat.mod_eq_of_lt h] at he
    exact ⟨he, hw.symm⟩

theorem mul64_big (x y p : Nat) (hp : x * y = p) (hx : x < 18446744073709551616) (hy : y < 18446744073709551616) (h : 18446744073709551616 ≤ p) (w : World) :
    Calls Tryd.prog 49 #[.int .u64 x, .int .u64 y] w fun e w' => high64 x y e w w' :=
  (Tryd.bits_Mul64 x y hx hy w).mono fun e w' ⟨he, hw⟩ => by
    rw [hp] at he
    exact ⟨p / 18446744073709551616, p % 18446744073709551616, by omega, by omega, he, hw.symm, by rw [hp]; omega⟩

/-- The sign of a product, as the text tells it. -/
def minusOf (a b : Int) : Bool := !(decide (a < 0) == decide (b < 0))

theorem mul_minus {a b : Int} {p : Nat} (hp : a.natAbs * b.natAbs = p) : a * b = signedOf p (minusOf a b) := by
  have h := mul_size a b
  rw [hp] at h
  unfold signedOf minusOf
  by_cases ha : a < 0 <;> by_cases hb : b < 0 <;> simp [ha, hb]
  · have := Int.mul_pos_of_neg_of_neg ha hb
    omega
  · have := Int.mul_nonpos_of_nonpos_of_nonneg (Int.le_of_lt ha) (Int.not_lt.1 hb)
    omega
  · have := Int.mul_nonpos_of_nonneg_of_nonpos (Int.not_lt.1 ha) (Int.le_of_lt hb)
    omega
  · have := Int.mul_nonneg (Int.not_lt.1 ha) (Int.not_lt.1 hb)
    omega

theorem held_signed_in {p : Nat} {b : Bool} (h : p ≤ roomOf b) : held (signedOf p b) = signedOf p b := by
  unfold roomOf at h
  unfold signedOf
  cases b <;> simp at h ⊢ <;> rw [held_in] <;> omega
theorem held_signed_out {p : Nat} {b : Bool} (h : roomOf b < p) : held (signedOf p b) = endOf b := by
  unfold roomOf at h
  unfold signedOf endOf
  cases b <;> simp at h ⊢
  · rw [held_hi]; omega
  · rw [held_lo]; omega
theorem room_le (b : Bool) : roomOf b ≤ 9223372036854775808 ∧ 9223372036854775807 ≤ roomOf b := by unfold roomOf; cases b <;> decide

set_option maxHeartbeats 400000 in
theorem mul_any (a b : Int) (w : World) (ha : I64 a) (hb : I64 b) :
    Calls Tryd.prog 24 #[.int .i64 a, .int .i64 b] w fun e w' => e = .returned (.int .i64 (held (a * b))) ∧ w = w' := by
  have ha' := ha
  have hb' := hb
  obtain ⟨a1, a2⟩ := ha'
  obtain ⟨b1, b2⟩ := hb'
  have hx : a.natAbs < 18446744073709551616 := by omega
  have hy : b.natAbs < 18446744073709551616 := by omega
  obtain ⟨p, hp⟩ : ∃ p, a.natAbs * b.natAbs = p := ⟨_, rfl⟩
  have hm := mul_minus hp
  have HM := Lib.hid hm
  have HP := Lib.hid hp
  clear hm hp
  have hr := room_le (minusOf a b)
  obtain ⟨m, hmm⟩ : ∃ m, minusOf a b = m := ⟨_, rfl⟩
  have hmv : (!(decide (a < 0) == decide (b < 0))) = m := hmm
  rw [hmm] at hr
  have HMM := Lib.hid hmm
  clear hmm
  by_cases h1 : p < 18446744073709551616
  · by_cases h2 : p ≤ roomOf m
    · have h2' : decide ((roomOf m : Int) < (p : Int)) = false := by simp; omega
      go_enter Tryd.func24, Tryd.ntmps24
      go_wp2_with (first
        | (go_at_call 50; refine (size_any _ _ (by assumption)).mono ?_; rintro e w' ⟨rfl, rfl⟩)
        | (go_at_call 49; refine (mul64_small _ _ _ HP.out hx hy h1 _).mono ?_; rintro e w' ⟨rfl, rfl⟩)
        | (go_at_call 43; refine (room_any _ _).mono ?_; rintro e w' ⟨rfl, rfl⟩)
        | (go_at_call 44; refine (signed_any _ _ _ h2).mono ?_; rintro e w' ⟨rfl, rfl⟩))
      go_ret
      refine ⟨ret_int ?_, rfl⟩
      rw [HM.out, HMM.out, held_signed_in h2]
    · have h2' : decide ((roomOf m : Int) < (p : Int)) = true := by simp; omega
      go_enter Tryd.func24, Tryd.ntmps24
      go_wp2_with (first
        | (go_at_call 45; refine (end_any _ _).mono ?_; rintro e w' ⟨rfl, rfl⟩)
        | (go_at_call 50; refine (size_any _ _ (by assumption)).mono ?_; rintro e w' ⟨rfl, rfl⟩)
        | (go_at_call 49; refine (mul64_small _ _ _ HP.out hx hy h1 _).mono ?_; rintro e w' ⟨rfl, rfl⟩)
        | (go_at_call 43; refine (room_any _ _).mono ?_; rintro e w' ⟨rfl, rfl⟩))
      go_ret
      refine ⟨ret_int ?_, rfl⟩
      rw [HM.out, HMM.out, held_signed_out (by omega)]
  · go_enter Tryd.func24, Tryd.ntmps24
    go_wp2_with (first
        | (go_at_call 45; refine (end_any _ _).mono ?_; rintro e w' ⟨rfl, rfl⟩)
        | (go_at_call 50; refine (size_any _ _ (by assumption)).mono ?_; rintro e w' ⟨rfl, rfl⟩)
        | (go_at_call 49; refine (mul64_big _ _ _ HP.out hx hy (by omega) _).mono ?_; rintro e w' ⟨h, l, hh, hl, rfl, rfl, HH⟩; replace HH := Lib.hid HH; have hh2 : ((h : Int) == 0) = false := by simp; omega))
    go_ret
    refine ⟨ret_int ?_, rfl⟩
    rw [HM.out, HMM.out, held_signed_out (by omega)]

theorem ret_two {k1 k2 : IntKind} {a b c d : Int} (h1 : a = b) (h2 : c = d) : Ending.returned (.tuple #[.int k1 a, .int k2 c]) = .returned (.tuple #[.int k1 b, .int k2 d]) := by rw [h1, h2]

theorem tdiv_range {a b : Int} (ha : I64 a) (h0 : b ≠ 0) (h1 : b ≠ -1) : -9223372036854775808 ≤ a.tdiv b ∧ a.tdiv b ≤ 9223372036854775807 := by
  obtain ⟨a1, a2⟩ := ha
  have h := Int.natAbs_tdiv a b
  by_cases hb : b.natAbs = 1
  · have hb1 : b = 1 := by omega
    subst hb1
    rw [Int.tdiv_one]; omega
  · have h2 : a.natAbs / b.natAbs ≤ a.natAbs / 2 := Nat.div_le_div_left (by omega) (by omega)
    have h3 : (a.tdiv b).natAbs ≤ a.natAbs / 2 := by rw [h]; exact h2
    omega

set_option maxHeartbeats 400000 in
theorem div_any (a b : Int) (w : World) (ha : I64 a) (hb : I64 b) (h0 : b ≠ 0) :
    Calls Tryd.prog 11 #[.int .i64 a, .int .i64 b] w fun e w' => e = .returned (.tuple #[.int .i64 (held (a.tdiv b)), .int .i64 0]) ∧ w = w' := by
  have ha' := ha
  have hb' := hb
  obtain ⟨a1, a2⟩ := ha'
  obtain ⟨b1, b2⟩ := hb'
  go_enter Tryd.func11, Tryd.ntmps11
  go_wp2_with (first
    | (go_at_call 26; refine (neg_any _ _ (by assumption)).mono ?_; rintro e w' ⟨rfl, rfl⟩))
  all_goals
    go_ret2
    rename_i h
    refine ⟨ret_two ?_ rfl, rfl⟩
    by_cases hm : b = -1
    · subst hm; first | (simp at h; done) | simp [Int.tdiv_neg]
    · have := tdiv_range ha h0 hm
      first
        | rw [IntWalk.wrap64_in _ this, held_in this.1 this.2]
        | (exfalso; simp [hm] at h; done)

set_option maxHeartbeats 400000 in
theorem div_zero (a : Int) (w : World) :
    Calls Tryd.prog 11 #[.int .i64 a, .int .i64 0] w fun e w' => e = .returned (.tuple #[.int .i64 0, .int .i64 10]) ∧ w = w' := by
  go_enter Tryd.func11, Tryd.ntmps11
  go_wp2
  go_ret2
  exact ⟨rfl, rfl⟩

set_option maxHeartbeats 400000 in
theorem mod_any (a b : Int) (w : World) (ha : I64 a) (hb : I64 b) (h0 : b ≠ 0) :
    Calls Tryd.prog 12 #[.int .i64 a, .int .i64 b] w fun e w' => e = .returned (.tuple #[.int .i64 (a.tmod b), .int .i64 0]) ∧ w = w' := by
  have ha' := ha
  have hb' := hb
  obtain ⟨a1, a2⟩ := ha'
  obtain ⟨b1, b2⟩ := hb'
  go_enter Tryd.func12, Tryd.ntmps12
  go_wp2
  all_goals
    go_ret2
    refine ⟨ret_two ?_ rfl, rfl⟩
    try rfl

set_option maxHeartbeats 400000 in
theorem mod_zero (a : Int) (w : World) :
    Calls Tryd.prog 12 #[.int .i64 a, .int .i64 0] w fun e w' => e = .returned (.tuple #[.int .i64 0, .int .i64 10]) ∧ w = w' := by
  go_enter Tryd.func12, Tryd.ntmps12
  go_wp2
  go_ret2
  exact ⟨rfl, rfl⟩

set_option maxHeartbeats 400000 in
theorem shift_any (a n : Int) (w : World) (ha : I64 a) (hn : I64 n) :
    Calls Tryd.prog 17 #[.int .i64 a, .int .i64 n] w fun e w' => e = .returned (.int .i64 (held (a * 2 ^ n.toNat))) ∧ w = w' := by
  have ha' := ha
  have hn' := hn
  obtain ⟨a1, a2⟩ := ha'
  obtain ⟨n1, n2⟩ := hn'
  by_cases h : n ≤ 0
  · go_enter Tryd.func17, Tryd.ntmps17
    go_wp2
    go_ret
    refine ⟨ret_int ?_, rfl⟩
    rw [show n.toNat = 0 by omega, Int.pow_zero, Int.mul_one, held_in a1 a2]
  · have h0 : 0 ≤ n := by omega
    go_enter Tryd.func17, Tryd.ntmps17
    go_wp2_with (first
      | (go_at_call 45; refine (end_any _ _).mono ?_; rintro e w' ⟨rfl, rfl⟩))
    all_goals
      go_ret
      rename_i h5
      refine ⟨ret_int ?_, rfl⟩
      simp only [bne_iff_ne, ne_eq, bne_eq_false_iff_eq] at h5
      first
        | rw [shifted_yes h5]
        | (rw [shifted_no ha h5]; unfold endOf; by_cases h6 : a < 0 <;> simp [h6])
end Go.Proofs.YtkhbgmdjfkkkcaaDoor
