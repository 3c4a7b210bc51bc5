/- The walk of WholeRests: it answers true for every two numbers, where the table of powers of ten reads as it was laid. -/
import Derived.Test.YtkhbgmdjfkkkcaaDoorWhole3
namespace Go.Proofs.YtkhbgmdjfkkkcaaDoor
open Go.RowKit

/-- What is clamped. -/
def clampOf (x lo hi : Int) : Int := if x < lo then lo else if hi < x then hi else x

set_option maxHeartbeats 400000 in
theorem clamp64_any (x lo hi : Int) (w : World) :
    Calls Tryd.prog 38 #[.int .i64 x, .int .i64 lo, .int .i64 hi] w fun e w' => e = .returned (.int .i64 (clampOf x lo hi)) ∧ w = w' := by
  go_enter Tryd.func38, Tryd.ntmps38
  go_wp2
  all_goals
    go_ret
    refine ⟨ret_int ?_, rfl⟩
    unfold clampOf
    (repeat' split) <;> first | rfl | omega

theorem clamp64_is {x lo hi s : Int} (H : Hid (clampOf x lo hi = s)) (w : World) :
    Calls Tryd.prog 38 #[.int .i64 x, .int .i64 lo, .int .i64 hi] w fun e w' => e = .returned (.int .i64 s) ∧ w = w' :=
  (clamp64_any x lo hi w).mono fun e w' ⟨he, hw⟩ => ⟨by rw [he, H.out], hw⟩

theorem rests_zero (a0 : Int) (w : World) (hT : TabOK w) :
    Calls Tryd.prog 10 #[.int .i64 a0, .int .i64 0] w fun e w' => e = .returned (.bool true) ∧ Below w.heap.size w w' := by
  go_enter Tryd.func10, Tryd.ntmps10
  go_wp2_with (first
    | (go_at_call 16; refine (awake_any _ hT).mono ?_; rintro e w' ⟨rfl, hb⟩)
    | ((with_reducible refine (div_zero _ _).mono ?_); rintro e w' ⟨rfl, rfl⟩)
    | ((with_reducible refine (mod_zero _ _).mono ?_); rintro e w' ⟨rfl, rfl⟩))
  go_ret
  exact ⟨rfl, by assumption⟩

theorem rests_end (w : World) (hT : TabOK w) :
    Calls Tryd.prog 10 #[.int .i64 (-9223372036854775808), .int .i64 (-1)] w fun e w' => e = .returned (.bool true) ∧ Below w.heap.size w w' := by
  have hq : Hid (held (Int.tdiv (-9223372036854775808) (-1)) = 9223372036854775807) := by show held (Int.tdiv (-9223372036854775808) (-1)) = 9223372036854775807; decide
  have hr : Hid (Int.tmod (-9223372036854775808) (-1) = 0) := by show Int.tmod (-9223372036854775808) (-1) = 0; decide
  have i1 : I64 (-9223372036854775808) := by unfold I64; omega
  have i2 : I64 (-1) := by unfold I64; omega
  go_enter Tryd.func10, Tryd.ntmps10
  go_wp2_with (first
    | (go_at_call 16; refine (awake_any _ hT).mono ?_; rintro e w' ⟨rfl, hb⟩)
    | ((with_reducible refine (div_is hq (by assumption) (by assumption) (by decide) _).mono ?_); rintro e w' ⟨rfl, rfl⟩)
    | ((with_reducible refine (mod_is hr (by assumption) (by assumption) (by decide) _).mono ?_); rintro e w' ⟨rfl, rfl⟩))
  go_ret
  exact ⟨rfl, by assumption⟩

theorem rest_facts {a b : Int} (ha : I64 a) (hb : I64 b) (h0 : b ≠ 0) (he : ¬ (b = -1 ∧ a = -9223372036854775808)) :
    I64 (a.tdiv b) ∧ I64 (a.tmod b) ∧ (a.tdiv b) * b + a.tmod b = a ∧ (a.tmod b).natAbs < b.natAbs ∧ (a.tmod b = 0 ∨ (a.tmod b < 0 ∧ a < 0) ∨ (0 < a.tmod b ∧ 0 < a)) ∧ ((a.tmod b).natAbs ≤ a.natAbs) := by
  have h1 := Int.natAbs_tmod a b
  have h2 : (a.tmod b).natAbs < b.natAbs := by rw [h1]; exact Nat.mod_lt _ (by omega)
  have h3 : (a.tmod b).natAbs ≤ a.natAbs := by rw [h1]; exact Nat.mod_le _ _
  have h4 := Int.tmod_add_tdiv_mul a b
  have hq : I64 (a.tdiv b) := by
    by_cases hm : b = -1
    · subst hm
      obtain ⟨l, r⟩ := ha
      simp [Int.tdiv_neg]
      unfold I64; omega
    · exact tdiv_range ha h0 hm
  refine ⟨hq, ?_, by omega, h2, ?_, h3⟩
  · obtain ⟨l, r⟩ := ha
    obtain ⟨l', r'⟩ := hb
    unfold I64; omega
  · by_cases hn : 0 ≤ a
    · have := Int.tmod_nonneg b hn
      omega
    · have : a.tmod b ≤ 0 := by
        have := Int.tmod_nonneg b (a := -a) (by omega)
        rw [Int.neg_tmod] at this
        omega
      omega

set_option maxHeartbeats 1000000 in
theorem wholeRests_walk (a0 a1 : Int) (w : World) (h0 : I64 a0) (h1 : I64 a1) (hT : TabOK w) :
    Calls Tryd.prog 10 #[.int .i64 a0, .int .i64 a1] w fun e w' => e = .returned (.bool true) ∧ Below w.heap.size w w' := by
  by_cases hz : a1 = 0
  · subst hz; exact rests_zero a0 w hT
  by_cases he : a1 = -1 ∧ a0 = -9223372036854775808
  · obtain ⟨rfl, rfl⟩ := he; exact rests_end w hT
  obtain ⟨fq, fr, fe, fl, fs, fa⟩ := rest_facts h0 h1 hz he
  obtain ⟨q, hq⟩ := exHid (a0.tdiv a1)
  obtain ⟨r, hr⟩ := exHid (a0.tmod a1)
  rw [hq.out] at fq fe
  rw [hr.out] at fr fe fl fs fa
  have hq' : Hid (held (a0.tdiv a1) = q) := by
    rw [hq.out]; exact held_in fq.1 fq.2
  obtain ⟨l0, r0⟩ := id h0
  obtain ⟨l1, r1⟩ := id h1
  obtain ⟨p, hp⟩ := exHid (held (q * a1))
  have hpv : p = a0 - r := by
    rw [← hp.out, show q * a1 = a0 - r by omega]
    exact held_in (by omega) (by omega)
  have hpI : I64 p := by unfold I64; omega
  have hs : Hid (held (p + r) = a0) := by
    rw [show p + r = a0 by omega]
    exact held_in (by omega) (by omega)
  obtain ⟨nr, hn⟩ := exHid (held (-r))
  have hnv : nr = -r := by rw [← hn.out]; exact held_in (by omega) (by omega)
  obtain ⟨nb, hnb⟩ := exHid (held (-a1))
  have hnbI : I64 nb := by rw [← hnb.out]; exact held_range _
  obtain ⟨s, hsz⟩ := exHid (clampOf nb a1 9223372036854775807)
  have hss : s = 9223372036854775807 ∨ (¬ s = 9223372036854775807 ∧ r < s ∧ nr < s) := by
    rw [← hsz.out, ← hnb.out]
    unfold clampOf held
    (repeat' split) <;> omega
  have hee : a1 = -1 ∧ ¬ a0 = -9223372036854775808 ∨ ¬ a1 = -1 := by omega
  clear fl fa fe he
  have HZ : (a1 == 0) = false := by simpa using hz
  clear hq
  clear hpv hnv
  rcases hee with ⟨rfl, e2⟩ | e2 <;> rcases hss with rfl | ⟨e3, e4, e5⟩ <;> rcases fs with rfl | ⟨e6, e7⟩ | ⟨e6, e7⟩
  all_goals
    go_enter Tryd.func10, Tryd.ntmps10
    go_wp2_with (first
      | (go_at_call 16; refine (awake_any _ hT).mono ?_; rintro e w' ⟨rfl, hb⟩)
      | ((with_reducible refine (div_is hq' (by assumption) (by assumption) hz _).mono ?_); rintro e w' ⟨rfl, rfl⟩)
      | ((with_reducible refine (mod_is hr (by assumption) (by assumption) hz _).mono ?_); rintro e w' ⟨rfl, rfl⟩)
      | ((with_reducible refine (neg_is hnb (by assumption) _).mono ?_); rintro e w' ⟨rfl, rfl⟩)
      | ((with_reducible refine (neg_is hn (by assumption) _).mono ?_); rintro e w' ⟨rfl, rfl⟩)
      | ((with_reducible refine (clamp64_is hsz _).mono ?_); rintro e w' ⟨rfl, rfl⟩)
      | ((with_reducible refine (mul_is hp (by assumption) (by assumption) _).mono ?_); rintro e w' ⟨rfl, rfl⟩)
      | ((with_reducible refine (add_is hs (by assumption) (by assumption) _).mono ?_); rintro e w' ⟨rfl, rfl⟩))
    all_goals
      go_ret
      exact ⟨rfl, by assumption⟩
end Go.Proofs.YtkhbgmdjfkkkcaaDoor
