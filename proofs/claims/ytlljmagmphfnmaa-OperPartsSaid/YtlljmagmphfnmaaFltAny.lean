/- Plain facts on any floats of 64 bits, finite or not: how they stand to nought, to the greatest, to themselves. No program stands in them, no condition. -/
import Derived.WalkKit
import Derived.WalkLawsBesides
namespace Go.Proofs.Ytlljmagmphfnmaa
open Go.RowKit

theorem any_lp : Ieee.double.leastPlace = -1074 := by decide
theorem any_bin : Ieee.double.binade = 4503599627370496 := by decide
theorem any_inf : Ieee.double.infRung = 9218868437227405312 := by decide
theorem any_sw : Ieee.double.signWeight = 9223372036854775808 := by decide

/-- Neither infinite nor no number. -/
def finB (x : Nat) : Bool := decide (x % 9223372036854775808 < 9218868437227405312)
/-- Nought, with a minus or without. -/
def nilB (x : Nat) : Bool := decide (x % 9223372036854775808 = 0)
/-- With no minus at a nought. -/
def plainN (x : Nat) : Nat := if x % 9223372036854775808 = 0 then 0 else x

theorem read_fin {x : Nat} (h : finB x = true) : ∃ s m e, Ieee.double.read x = .number s m e ∧ m ≤ 9007199254740991 ∧ e ≤ 971 ∧ (m = 0 ↔ x % 9223372036854775808 = 0) := by
  have h : x % 9223372036854775808 < 9218868437227405312 := of_decide_eq_true h
  unfold Ieee.Format.read
  simp only [any_sw, any_bin, any_inf, any_lp]
  by_cases h1 : x % 9223372036854775808 < 4503599627370496
  · rw [if_pos h1]
    exact ⟨_, _, _, rfl, by omega, by omega, Iff.rfl⟩
  · rw [if_neg h1, if_pos h]
    exact ⟨_, _, _, rfl, by omega, by omega, by omega⟩
theorem read_inf {x : Nat} (h : x % 9223372036854775808 = 9218868437227405312) : ∃ s, Ieee.double.read x = .infinity s := by
  unfold Ieee.Format.read
  simp only [any_sw, any_bin, any_inf, any_lp]
  rw [if_neg (by omega), if_neg (by omega), if_pos h]
  exact ⟨_, rfl⟩
theorem read_inf_pos {x : Nat} (h : x % 9223372036854775808 = 9218868437227405312) (hx : x < 9223372036854775808) : Ieee.double.read x = .infinity false := by
  unfold Ieee.Format.read
  simp only [any_sw, any_bin, any_inf, any_lp]
  rw [if_neg (by omega), if_neg (by omega), if_pos h, show (x / 9223372036854775808 % 2 == 1) = false from beq_eq_false_iff_ne.2 (by omega)]
theorem read_nan {x : Nat} (h : 9218868437227405312 < x % 9223372036854775808) : ∃ s f, Ieee.double.read x = .nan s f := by
  unfold Ieee.Format.read
  simp only [any_sw, any_bin, any_inf, any_lp]
  rw [if_neg (by omega), if_neg (by omega), if_neg (by omega)]
  exact ⟨_, _, rfl⟩
theorem read_nought : Ieee.double.read 0 = .number false 0 (-1074) := by decide
theorem read_most : Ieee.double.read 9218868437227405311 = .number false 9007199254740991 971 := by decide
theorem read_least : Ieee.double.read 18442240474082181119 = .number true 9007199254740991 971 := by decide

theorem three (x : Nat) : finB x = true ∨ x % 9223372036854775808 = 9218868437227405312 ∨ 9218868437227405312 < x % 9223372036854775808 := by
  by_cases h : finB x = true
  · exact .inl h
  · have : ¬ x % 9223372036854775808 < 9218868437227405312 := by simpa [finB] using h
    omega

theorem cmpI_lt {a b : Int} (h : a < b) : compare a b = .lt := by simp [compare, compareOfLessAndEq, h]
theorem cmpI_eq (a : Int) : compare a a = .eq := by simp [compare, compareOfLessAndEq]
theorem cmpI_gt {a b : Int} (h : b < a) : compare a b = .gt := by
  simp only [compare, compareOfLessAndEq]
  rw [if_neg (by omega), if_neg (by omega)]
theorem cmpI_le {a b : Int} (h : a ≤ b) : compare a b = .lt ∨ compare a b = .eq := by
  by_cases h1 : a < b
  · exact .inl (cmpI_lt h1)
  · obtain rfl : a = b := by omega
    exact .inr (cmpI_eq a)
theorem cmpI_ge {a b : Int} (h : b ≤ a) : compare a b = .gt ∨ compare a b = .eq := by
  by_cases h1 : b < a
  · exact .inl (cmpI_gt h1)
  · obtain rfl : a = b := by omega
    exact .inr (cmpI_eq a)

theorem shl_ge (m n : Nat) : m ≤ m <<< n := by
  rw [Nat.shiftLeft_eq]
  exact Nat.le_mul_of_pos_right m (Nat.two_pow_pos n)
theorem shl_zero (m n : Nat) : m <<< n = 0 ↔ m = 0 := by
  rw [Nat.shiftLeft_eq]
  constructor
  · intro h
    have := Nat.two_pow_pos n
    rcases Nat.mul_eq_zero.1 h with h | h
    · exact h
    · omega
  · rintro rfl; exact Nat.zero_mul _
theorem signed_range (s : Bool) (m n : Nat) : -((m <<< n : Nat) : Int) ≤ Ieee.signed s m n ∧ Ieee.signed s m n ≤ ((m <<< n : Nat) : Int) := by
  unfold Ieee.signed
  have : (0 : Int) ≤ ((m <<< n : Nat) : Int) := Int.natCast_nonneg _
  generalize ((m <<< n : Nat) : Int) = z at this
  cases s <;> simp <;> omega

theorem ord_nil {x : Nat} (h : nilB x = true) : FloatKind.f64.format.order x 0 = some .eq := by
  have h : x % 9223372036854775808 = 0 := of_decide_eq_true h
  obtain ⟨s, m, e, hr, _, _, hm⟩ := read_fin (x := x) (decide_eq_true (by omega))
  show (Ieee.double.read x).order (Ieee.double.read 0) = _
  rw [hr, read_nought]
  obtain rfl := hm.2 h
  simp only [Ieee.Datum.order]
  congr 1
  have e1 : ∀ s n, Ieee.signed s 0 n = 0 := fun s n => by unfold Ieee.signed; rw [(shl_zero 0 n).2 rfl]; cases s <;> rfl
  rw [e1, e1]
  exact cmpI_eq 0
theorem ord_some {x : Nat} (h : nilB x = false) : FloatKind.f64.format.order x 0 = some .lt ∨ FloatKind.f64.format.order x 0 = some .gt ∨ FloatKind.f64.format.order x 0 = none := by
  have h : ¬ x % 9223372036854775808 = 0 := of_decide_eq_false h
  show (Ieee.double.read x).order (Ieee.double.read 0) = _ ∨ (Ieee.double.read x).order (Ieee.double.read 0) = _ ∨ (Ieee.double.read x).order (Ieee.double.read 0) = _
  rw [read_nought]
  rcases three x with h1 | h1 | h1
  · obtain ⟨s, m, e, hr, _, _, hm⟩ := read_fin h1
    rw [hr]
    have hm0 : ¬ m = 0 := fun hh => h (hm.1 hh)
    simp only [Ieee.Datum.order]
    have e1 : ∀ n, Ieee.signed false 0 n = 0 := fun n => by unfold Ieee.signed; rw [(shl_zero 0 n).2 rfl]; rfl
    rw [e1]
    generalize (e - min e (-1074)).toNat = n
    have hs : ¬ m <<< n = 0 := fun hh => hm0 ((shl_zero m n).1 hh)
    unfold Ieee.signed
    generalize m <<< n = z at hs
    cases s
    · exact .inr (.inl (by rw [cmpI_gt]; simp only [Bool.false_eq_true, if_false]; omega))
    · exact .inl (by rw [cmpI_lt]; simp only [if_true]; omega)
  · obtain ⟨s, hr⟩ := read_inf h1
    rw [hr]
    cases s
    · exact .inr (.inl rfl)
    · exact .inl rfl
  · obtain ⟨s, f, hr⟩ := read_nan h1
    rw [hr]
    exact .inr (.inr rfl)

theorem ord_most_fin {x : Nat} (h : finB x = true) : FloatKind.f64.format.order x 9218868437227405311 = some .lt ∨ FloatKind.f64.format.order x 9218868437227405311 = some .eq := by
  obtain ⟨s, m, e, hr, hm, he, _⟩ := read_fin h
  show (Ieee.double.read x).order (Ieee.double.read 9218868437227405311) = _ ∨ (Ieee.double.read x).order (Ieee.double.read 9218868437227405311) = _
  rw [hr, read_most]
  simp only [Ieee.Datum.order]
  rw [show (e - min e 971).toNat = 0 by omega]
  generalize (971 - min e 971).toNat = n
  have h1 := (signed_range s m 0).2
  have h2 := shl_ge 9007199254740991 n
  rw [Nat.shiftLeft_zero] at h1
  have h3 : Ieee.signed s m 0 ≤ Ieee.signed false 9007199254740991 n := by
    have : Ieee.signed false 9007199254740991 n = ((9007199254740991 <<< n : Nat) : Int) := rfl
    rw [this]; omega
  rcases cmpI_le h3 with h4 | h4 <;> rw [h4]
  · exact .inl rfl
  · exact .inr rfl
theorem ord_least_fin {x : Nat} (h : finB x = true) : FloatKind.f64.format.order x 18442240474082181119 = some .gt ∨ FloatKind.f64.format.order x 18442240474082181119 = some .eq := by
  obtain ⟨s, m, e, hr, hm, he, _⟩ := read_fin h
  show (Ieee.double.read x).order (Ieee.double.read 18442240474082181119) = _ ∨ (Ieee.double.read x).order (Ieee.double.read 18442240474082181119) = _
  rw [hr, read_least]
  simp only [Ieee.Datum.order]
  rw [show (e - min e 971).toNat = 0 by omega]
  generalize (971 - min e 971).toNat = n
  have h1 := (signed_range s m 0).1
  have h2 := shl_ge 9007199254740991 n
  rw [Nat.shiftLeft_zero] at h1
  have h3 : Ieee.signed true 9007199254740991 n ≤ Ieee.signed s m 0 := by
    have : Ieee.signed true 9007199254740991 n = -((9007199254740991 <<< n : Nat) : Int) := rfl
    rw [this]; omega
  rcases cmpI_ge h3 with h4 | h4 <;> rw [h4]
  · exact .inl rfl
  · exact .inr rfl
/-- What is not finite and has no minus is beyond the greatest, or is no number. -/
theorem ord_most_not {x : Nat} (hx : x < 9223372036854775808) (h : finB x = false) : FloatKind.f64.format.order x 9218868437227405311 = some .gt ∨ FloatKind.f64.format.order x 9218868437227405311 = none := by
  show (Ieee.double.read x).order (Ieee.double.read 9218868437227405311) = _ ∨ (Ieee.double.read x).order (Ieee.double.read 9218868437227405311) = _
  rw [read_most]
  rcases three x with h1 | h1 | h1
  · rw [h1] at h; cases h
  · rw [read_inf_pos h1 hx]
    exact .inl rfl
  · obtain ⟨s, f, hr⟩ := read_nan h1
    rw [hr]
    exact .inr rfl
theorem ord_self_fin {x : Nat} (h : finB x = true) : FloatKind.f64.format.order x x = some .eq := by
  obtain ⟨s, m, e, hr, _⟩ := read_fin h
  show (Ieee.double.read x).order (Ieee.double.read x) = _
  rw [hr]
  simp only [Ieee.Datum.order]
  rw [cmpI_eq]
/-- What is not finite is no number, or is beyond one of the ends. -/
theorem ord_not_fin {x : Nat} (h : finB x = false) : FloatKind.f64.format.order x x = none ∨
    (FloatKind.f64.format.order x x = some .eq ∧ ((FloatKind.f64.format.order x 9218868437227405311 = some .gt) ∨
      (FloatKind.f64.format.order x 9218868437227405311 = some .lt ∧ FloatKind.f64.format.order x 18442240474082181119 = some .lt))) := by
  show (Ieee.double.read x).order (Ieee.double.read x) = _ ∨ ((Ieee.double.read x).order (Ieee.double.read x) = _ ∧ (((Ieee.double.read x).order (Ieee.double.read 9218868437227405311) = _) ∨ ((Ieee.double.read x).order (Ieee.double.read 9218868437227405311) = _ ∧ (Ieee.double.read x).order (Ieee.double.read 18442240474082181119) = _)))
  rw [read_most, read_least]
  rcases three x with h1 | h1 | h1
  · rw [h1] at h; cases h
  · obtain ⟨s, hr⟩ := read_inf h1
    rw [hr]
    cases s
    · exact .inr ⟨rfl, .inl rfl⟩
    · exact .inr ⟨rfl, .inr ⟨rfl, rfl⟩⟩
  · obtain ⟨s, f, hr⟩ := read_nan h1
    rw [hr]
    exact .inl rfl

theorem finB_plain (x : Nat) : finB (plainN x) = finB x := by
  unfold plainN finB
  split
  · rename_i h; rw [h]
  · rfl
theorem finB_mod (x : Nat) : finB (x % 9223372036854775808) = finB x := by
  unfold finB
  rw [Nat.mod_mod]
theorem plainN_lt {x : Nat} (h : x < 18446744073709551616) : plainN x < 18446744073709551616 := by unfold plainN; split <;> omega
theorem plainN_ne {x : Nat} : plainN x ≠ 9223372036854775808 := by
  unfold plainN
  split
  · omega
  · rename_i h; intro h1; rw [h1] at h; exact h rfl
theorem plainN_nil {x : Nat} (h : nilB (plainN x) = true) : plainN x = 0 := by
  unfold plainN at h ⊢
  split
  · rfl
  · rename_i h1
    rw [if_neg h1] at h
    exact absurd (of_decide_eq_true h) h1
theorem plainN_yes {x : Nat} (h : nilB x = true) : plainN x = 0 := by unfold plainN; rw [if_pos (of_decide_eq_true h)]
theorem plainN_no {x : Nat} (h : nilB x = false) : plainN x = x := by unfold plainN; rw [if_neg (of_decide_eq_false h)]
theorem plainN_minus {x : Nat} (hx : x < 18446744073709551616) (h : x ≠ 9223372036854775808) : plainN x = x := by
  unfold plainN
  split
  · omega
  · rfl
theorem plainN_minus0 : plainN 9223372036854775808 = 0 := by decide
end Go.Proofs.Ytlljmagmphfnmaa
