/- Plain facts on floats of 64 bits that are whole numbers of less than 54 bits: no program stands in them, no condition. -/
import Derived.WalkKit
import Derived.WalkLawsBesides
namespace Go.Proofs.Ytlljmagmphfnmaa
open Go.RowKit

/-- The datum is the whole number a, whichever sign a nought has. -/
def DI (d : Ieee.Datum) (a : Int) : Prop := ∃ (s : Bool) (k : Nat), d = .number s (a.natAbs * 2 ^ k) (-(k : Int)) ∧ (a ≠ 0 → s = decide (a < 0))

/-- The bits are those of the whole number a, or of the nought with a minus, if a is nought. -/
def IsI (x : Nat) (a : Int) : Prop := x = floatOfInt .f64 a ∨ (x = 9223372036854775808 ∧ a = 0)

theorem IsI.of (a : Int) : IsI (floatOfInt .f64 a) a := .inl rfl

theorem dw : Ieee.double.fractionBits = 52 := rfl
theorem dlp : Ieee.double.leastPlace = -1074 := by decide
theorem dbin : Ieee.double.binade = 4503599627370496 := by decide
theorem dinf : Ieee.double.infRung = 9218868437227405312 := by decide
theorem dsw : Ieee.double.signWeight = 9223372036854775808 := by decide

theorem p52 : (2 : Nat) ^ 52 = 4503599627370496 := by decide
theorem p53 : (2 : Nat) ^ 53 = 9007199254740992 := by decide

theorem cut_exact (neg : Bool) (m d : Nat) (hm : m ≠ 0) : Ieee.Toward.even.cut neg (m * 2 ^ d) d = m := by
  have hl : d ≤ (m * 2 ^ d).log2 := by
    rw [Nat.le_log2 (by have := Nat.two_pow_pos d; exact Nat.mul_ne_zero hm (by omega))]
    exact Nat.le_mul_of_pos_left _ (by omega)
  have hp := Nat.two_pow_pos d
  unfold Ieee.Toward.cut
  simp only [Nat.shiftLeft_eq, Nat.one_mul]
  rw [show min d ((m * 2 ^ d).log2 + 2) = d by omega, Nat.mul_div_cancel _ hp, Nat.mul_mod_left]
  have h1 : decide (2 ^ d < 2 * 0) = false := by simp
  have h2 : (2 ^ d == 2 * 0) = false := by simp
  rw [h1, h2]
  simp

theorem log2_shift (n k : Nat) (hn : n ≠ 0) : (n * 2 ^ k).log2 = n.log2 + k := by
  have h1 := Nat.log2_self_le hn
  have h2 := @Nat.lt_log2_self n
  have hne : n * 2 ^ k ≠ 0 := Nat.mul_ne_zero hn (by have := Nat.two_pow_pos k; omega)
  have a : n.log2 + k ≤ (n * 2 ^ k).log2 := by
    rw [Nat.le_log2 hne, Nat.pow_add]
    exact Nat.mul_le_mul_right _ h1
  have b : (n * 2 ^ k).log2 < n.log2 + 1 + k := by
    rw [Nat.log2_lt hne, Nat.pow_add]
    exact Nat.mul_lt_mul_of_pos_right h2 (Nat.two_pow_pos k)
  omega

/-- The nearest word of a whole number of at most 53 digits, however its place is told: its rung. -/
theorem nearest_eq (s : Bool) (n k : Nat) (hn : n ≠ 0) (hb : n < 2 ^ 53) :
    Ieee.double.nearest s (n * 2 ^ k) (-(k : Int)) = Ieee.double.word s ((n.log2 + 1022) * 4503599627370496 + n * 2 ^ (52 - n.log2)) := by
  have hL : n.log2 ≤ 52 := by have := (Nat.log2_lt hn (k := 53)).2 hb; omega
  have h2 := @Nat.lt_log2_self n
  have hp := Nat.two_pow_pos k
  have hne : n * 2 ^ k ≠ 0 := Nat.mul_ne_zero hn (by omega)
  have hn2 : n * 2 ^ (52 - n.log2) ≠ 0 := Nat.mul_ne_zero hn (by have := Nat.two_pow_pos (52 - n.log2); omega)
  have hup : n * 2 ^ (52 - n.log2) < 9007199254740992 := by
    have : n * 2 ^ (52 - n.log2) < 2 ^ (n.log2 + 1) * 2 ^ (52 - n.log2) := Nat.mul_lt_mul_of_pos_right h2 (Nat.two_pow_pos _)
    rw [← Nat.pow_add, show n.log2 + 1 + (52 - n.log2) = 53 by omega] at this
    exact this
  unfold Ieee.Format.nearest
  rw [if_neg hne]
  simp only [dw, dlp, dbin, dinf, log2_shift n k hn]
  have elast : max (-(k : Int) + ((n.log2 + k : Nat) : Int) - (52 : Nat)) (-1074) = (n.log2 : Int) - 52 := by omega
  rw [elast]
  have ekept : Ieee.Toward.even.cut s ((n * 2 ^ k) <<< (-(k : Int) - ((n.log2 : Int) - 52)).toNat) ((n.log2 : Int) - 52 - -(k : Int)).toNat = n * 2 ^ (52 - n.log2) := by
    by_cases h : 52 ≤ n.log2 + k
    · rw [show (-(k : Int) - ((n.log2 : Int) - 52)).toNat = 0 by omega, show ((n.log2 : Int) - 52 - -(k : Int)).toNat = k - (52 - n.log2) by omega, Nat.shiftLeft_zero]
      have : n * 2 ^ k = n * 2 ^ (52 - n.log2) * 2 ^ (k - (52 - n.log2)) := by
        rw [Nat.mul_assoc, ← Nat.pow_add, show 52 - n.log2 + (k - (52 - n.log2)) = k by omega]
      rw [this]
      exact cut_exact s _ _ hn2
    · rw [show ((n.log2 : Int) - 52 - -(k : Int)).toNat = 0 by omega, show (-(k : Int) - ((n.log2 : Int) - 52)).toNat = 52 - n.log2 - k by omega, Nat.shiftLeft_eq]
      have : n * 2 ^ k * 2 ^ (52 - n.log2 - k) = n * 2 ^ (52 - n.log2) * 2 ^ 0 := by
        rw [Nat.mul_assoc, ← Nat.pow_add, show k + (52 - n.log2 - k) = 52 - n.log2 by omega]; simp
      rw [this]
      exact cut_exact s _ _ hn2
  rw [ekept]
  congr 1
  rw [show ((n.log2 : Int) - 52 - -1074).toNat = n.log2 + 1022 by omega]
  omega

theorem rung_bounds (n : Nat) (hn : n ≠ 0) (hb : n < 2 ^ 53) :
    n.log2 ≤ 52 ∧ 4503599627370496 ≤ n * 2 ^ (52 - n.log2) ∧ n * 2 ^ (52 - n.log2) < 9007199254740992 := by
  have hL : n.log2 ≤ 52 := by have := (Nat.log2_lt hn (k := 53)).2 hb; omega
  have h1 := Nat.log2_self_le hn
  have h2 := @Nat.lt_log2_self n
  refine ⟨hL, ?_, ?_⟩
  · have : 2 ^ n.log2 * 2 ^ (52 - n.log2) ≤ n * 2 ^ (52 - n.log2) := Nat.mul_le_mul_right _ h1
    rw [← Nat.pow_add, show n.log2 + (52 - n.log2) = 52 by omega] at this
    exact this
  · have : n * 2 ^ (52 - n.log2) < 2 ^ (n.log2 + 1) * 2 ^ (52 - n.log2) := Nat.mul_lt_mul_of_pos_right h2 (Nat.two_pow_pos _)
    rw [← Nat.pow_add, show n.log2 + 1 + (52 - n.log2) = 53 by omega] at this
    exact this

theorem read_word (s : Bool) (r : Nat) (h1 : 4503599627370496 ≤ r) (h2 : r < 9218868437227405312) :
    Ieee.double.read (Ieee.double.word s r) = .number s (4503599627370496 + r % 4503599627370496) (-1074 + ((r / 4503599627370496 - 1 : Nat) : Int)) := by
  unfold Ieee.Format.read Ieee.Format.word
  simp only [dsw, dbin, dinf, dlp]
  cases s
  · simp only [Bool.false_eq_true, if_false]
    rw [if_neg (by omega), if_pos (by omega)]
    have e1 : (r / 9223372036854775808 % 2 == 1) = false := by simp; omega
    rw [e1, show r % 9223372036854775808 = r by omega]
  · simp only [if_true]
    rw [if_neg (by omega), if_pos (by omega)]
    have e1 : ((9223372036854775808 + r) / 9223372036854775808 % 2 == 1) = true := by simp; omega
    rw [e1, show (9223372036854775808 + r) % 9223372036854775808 = r by omega]

theorem DI.opposite {d : Ieee.Datum} {a : Int} (h : DI d a) : DI d.opposite (-a) := by
  obtain ⟨s, k, rfl, hs⟩ := h
  refine ⟨!s, k, by simp [Ieee.Datum.opposite], fun h0 => ?_⟩
  rw [hs (by omega)]
  by_cases h1 : a < 0
  · simp [h1]; omega
  · simp [h1]; omega

theorem signed_DI {s : Bool} {a : Int} (hs : a ≠ 0 → s = decide (a < 0)) (k K : Nat) (hk : k ≤ K) : Ieee.signed s (a.natAbs * 2 ^ k) (K - k) = a * (2 ^ K : Nat) := by
  have e : (a.natAbs * 2 ^ k) <<< (K - k) = a.natAbs * 2 ^ K := by
    rw [Nat.shiftLeft_eq, Nat.mul_assoc, ← Nat.pow_add, show k + (K - k) = K by omega]
  unfold Ieee.signed
  rw [e]
  by_cases h0 : a = 0
  · subst h0; simp
  · rw [hs h0]
    by_cases h1 : a < 0
    · rw [decide_eq_true h1, if_pos rfl, Int.natCast_mul, ← Int.neg_mul]
      congr 1; omega
    · rw [decide_eq_false h1, if_neg (by simp), Int.natCast_mul]
      congr 1; omega

theorem DI.sum {d e : Ieee.Datum} {a b : Int} (h : DI d a) (g : DI e b) : ∃ r, d.sum e = some r ∧ DI r (a + b) := by
  obtain ⟨s, k, rfl, hs⟩ := h
  obtain ⟨t, l, rfl, ht⟩ := g
  refine ⟨_, rfl, ?_⟩
  have e0 : min (-(k : Int)) (-(l : Int)) = -((max k l : Nat) : Int) := by omega
  have hp : (0 : Int) < (2 ^ max k l : Nat) := by exact_mod_cast Nat.two_pow_pos _
  simp only [e0]
  rw [show (-(k : Int) - -((max k l : Nat) : Int)).toNat = max k l - k by omega, show (-(l : Int) - -((max k l : Nat) : Int)).toNat = max k l - l by omega,
    signed_DI hs k (max k l) (by omega), signed_DI ht l (max k l) (by omega), ← Int.add_mul]
  refine ⟨_, max k l, by rw [Int.natAbs_mul]; rfl, fun h0 => ?_⟩
  rw [if_neg (Int.mul_ne_zero h0 (by omega))]
  congr 1
  apply propext
  constructor
  · intro h1
    apply Int.not_le.1
    intro h2
    have := Int.mul_nonneg h2 (Int.le_of_lt hp)
    omega
  · intro h1
    exact Int.mul_neg_of_neg_of_pos h1 hp

theorem DI.product {d e : Ieee.Datum} {a b : Int} (h : DI d a) (g : DI e b) : ∃ r, d.product e = some r ∧ DI r (a * b) := by
  obtain ⟨s, k, rfl, hs⟩ := h
  obtain ⟨t, l, rfl, ht⟩ := g
  refine ⟨_, rfl, s ^^ t, k + l, ?_, fun h0 => ?_⟩
  · rw [Int.natAbs_mul, show a.natAbs * 2 ^ k * (b.natAbs * 2 ^ l) = a.natAbs * b.natAbs * 2 ^ (k + l) by rw [Nat.pow_add]; simp only [Nat.mul_assoc, Nat.mul_left_comm], show -(k : Int) + -(l : Int) = -((k + l : Nat) : Int) by omega]
  · have ha : a ≠ 0 := by rintro rfl; simp at h0
    have hb : b ≠ 0 := by rintro rfl; simp at h0
    rw [hs ha, ht hb]
    by_cases h1 : a < 0 <;> by_cases h2 : b < 0
    · have := Int.mul_pos_of_neg_of_neg h1 h2
      simp [h1, h2]; omega
    · have := Int.mul_neg_of_neg_of_pos h1 (show 0 < b by omega)
      simp [h1, h2]; omega
    · have := Int.mul_neg_of_pos_of_neg (show 0 < a by omega) h2
      simp [h1, h2]; omega
    · have := Int.mul_pos (show 0 < a by omega) (show 0 < b by omega)
      simp [h1, h2]; omega

theorem foi (a : Int) : floatOfInt .f64 a = Ieee.double.nearest (decide (a < 0)) a.natAbs 0 := rfl
theorem foi_zero : floatOfInt .f64 0 = 0 := by decide

theorem foi_ne {a : Int} (h0 : a ≠ 0) (hb : a.natAbs < 2 ^ 53) :
    floatOfInt .f64 a = Ieee.double.word (decide (a < 0)) ((a.natAbs.log2 + 1022) * 4503599627370496 + a.natAbs * 2 ^ (52 - a.natAbs.log2)) := by
  have := nearest_eq (decide (a < 0)) a.natAbs 0 (by omega) hb
  rw [foi, ← this]
  simp

theorem DI.write {d : Ieee.Datum} {a : Int} (h : DI d a) (hb : a.natAbs < 2 ^ 53) : IsI (Ieee.double.write d) a := by
  obtain ⟨s, k, rfl, hs⟩ := h
  by_cases h0 : a = 0
  · subst h0
    show IsI (Ieee.double.nearest s (0 * 2 ^ k) _) 0
    rw [Nat.zero_mul]
    unfold Ieee.Format.nearest
    rw [if_pos rfl]
    cases s
    · exact .inl (by decide)
    · exact .inr (by decide)
  · left
    show Ieee.double.nearest s _ _ = _
    rw [nearest_eq s a.natAbs k (by omega) hb, foi_ne h0 hb, hs h0]

theorem zero_pow (k : Nat) : (0 : Int).natAbs * 2 ^ k = 0 := by simp

theorem DI_zero (s : Bool) (k : Nat) (d : Ieee.Datum) (h : d = .number s 0 (-(k : Int))) : DI d 0 := ⟨s, k, by rw [h, zero_pow], fun h => absurd rfl h⟩

theorem IsI.read {x : Nat} {a : Int} (h : IsI x a) (hb : a.natAbs < 2 ^ 53) : DI (Ieee.double.read x) a := by
  rcases h with rfl | ⟨rfl, rfl⟩
  · by_cases h0 : a = 0
    · subst h0
      exact DI_zero false 1074 _ (by rw [foi_zero]; decide)
    · obtain ⟨b1, b2, b3⟩ := rung_bounds a.natAbs (by omega) hb
      rw [foi_ne h0 hb, read_word _ _ (by omega) (by omega)]
      refine ⟨_, 52 - a.natAbs.log2, ?_, fun _ => rfl⟩
      generalize a.natAbs * 2 ^ (52 - a.natAbs.log2) = m at b2 b3 ⊢
      have e1 : 4503599627370496 + ((a.natAbs.log2 + 1022) * 4503599627370496 + m) % 4503599627370496 = m := by omega
      have e2 : (-1074 + ((((a.natAbs.log2 + 1022) * 4503599627370496 + m) / 4503599627370496 - 1 : Nat) : Int)) = -((52 - a.natAbs.log2 : Nat) : Int) := by omega
      rw [e1, e2]
  · exact DI_zero true 1074 _ (by decide)

theorem add_IsI {x y : Nat} {a b : Int} (h : IsI x a) (g : IsI y b) (ha : a.natAbs < 2 ^ 53) (hb : b.natAbs < 2 ^ 53) (hr : (a + b).natAbs < 2 ^ 53) :
    ∃ r, floatBits .add .f64 x y = some r ∧ IsI r (a + b) := by
  obtain ⟨r, hr1, hr2⟩ := (h.read ha).sum (g.read hb)
  refine ⟨_, ?_, hr2.write hr⟩
  show ((Ieee.double.read x).sum (Ieee.double.read y)).map Ieee.double.write = _
  rw [hr1]; rfl

theorem sub_IsI {x y : Nat} {a b : Int} (h : IsI x a) (g : IsI y b) (ha : a.natAbs < 2 ^ 53) (hb : b.natAbs < 2 ^ 53) (hr : (a - b).natAbs < 2 ^ 53) :
    ∃ r, floatBits .sub .f64 x y = some r ∧ IsI r (a - b) := by
  obtain ⟨r, hr1, hr2⟩ := (h.read ha).sum (g.read hb).opposite
  rw [← Int.sub_eq_add_neg] at hr2
  refine ⟨_, ?_, hr2.write hr⟩
  show ((Ieee.double.read x).sum (Ieee.double.read y).opposite).map Ieee.double.write = _
  rw [hr1]; rfl

theorem mul_IsI {x y : Nat} {a b : Int} (h : IsI x a) (g : IsI y b) (ha : a.natAbs < 2 ^ 53) (hb : b.natAbs < 2 ^ 53) (hr : (a * b).natAbs < 2 ^ 53) :
    ∃ r, floatBits .mul .f64 x y = some r ∧ IsI r (a * b) := by
  obtain ⟨r, hr1, hr2⟩ := (h.read ha).product (g.read hb)
  refine ⟨_, ?_, hr2.write hr⟩
  show ((Ieee.double.read x).product (Ieee.double.read y)).map Ieee.double.write = _
  rw [hr1]; rfl

theorem DI.order {d : Ieee.Datum} {a : Int} (h : DI d a) (t : Bool) (m p : Nat) : d.order (.number t m (p : Int)) = some (compare a (Ieee.signed t m p)) := by
  obtain ⟨s, k, rfl, hs⟩ := h
  have e0 : min (-(k : Int)) (p : Int) = -(k : Int) := by omega
  have hp : (0 : Int) < (2 ^ k : Nat) := by exact_mod_cast Nat.two_pow_pos _
  show some (compare (Ieee.signed s (a.natAbs * 2 ^ k) _) (Ieee.signed t m _)) = _
  rw [e0, show (-(k : Int) - -(k : Int)).toNat = k - k by omega, signed_DI hs k k (by omega), show ((p : Int) - -(k : Int)).toNat = p + k by omega]
  have e1 : Ieee.signed t m (p + k) = Ieee.signed t m p * (2 ^ k : Nat) := by
    unfold Ieee.signed
    simp only [Nat.shiftLeft_eq, Nat.pow_add, ← Nat.mul_assoc]
    split
    · rw [Int.natCast_mul (m * 2 ^ p), Int.neg_mul]
    · rw [Int.natCast_mul (m * 2 ^ p)]
  rw [e1]
  congr 1
  generalize Ieee.signed t m p = z
  simp only [compare, compareOfLessAndEq]
  have l1 : (a * ((2 ^ k : Nat) : Int) < z * ((2 ^ k : Nat) : Int)) ↔ a < z := Int.mul_lt_mul_right hp
  have l2 : (a * ((2 ^ k : Nat) : Int) = z * ((2 ^ k : Nat) : Int)) ↔ a = z := Int.mul_eq_mul_right_iff (by omega)
  simp only [l1, l2]

/-- How a whole number stands to a float whose last place is not behind the point. -/
theorem order_IsI {x c : Nat} {a : Int} (t : Bool) (m p : Nat) (h : IsI x a) (ha : a.natAbs < 2 ^ 53) (hc : Ieee.double.read c = .number t m (p : Int)) :
    FloatKind.f64.format.order x c = some (compare a (Ieee.signed t m p)) := by
  show (Ieee.double.read x).order (Ieee.double.read c) = _
  rw [hc]
  exact (h.read ha).order t m p

theorem order_self {x : Nat} {a : Int} (h : IsI x a) (ha : a.natAbs < 2 ^ 53) : FloatKind.f64.format.order x x = some .eq := by
  obtain ⟨s, k, e, _⟩ := h.read ha
  show (Ieee.double.read x).order (Ieee.double.read x) = _
  rw [e]
  simp only [Ieee.Datum.order]
  congr 1
  simp [compare, compareOfLessAndEq]

theorem cmp_lt {a b : Int} (h : a < b) : compare a b = .lt := by simp [compare, compareOfLessAndEq, h]
theorem cmp_eq (a : Int) : compare a a = .eq := by simp [compare, compareOfLessAndEq]
theorem cmp_gt {a b : Int} (h : b < a) : compare a b = .gt := by
  simp only [compare, compareOfLessAndEq]
  rw [if_neg (by omega), if_neg (by omega)]

theorem toInt_IsI {x : Nat} {a : Int} (h : IsI x a) (ha : a.natAbs < 2 ^ 53) : floatToIntVal .f64 x .i64 = some a := by
  obtain ⟨s, k, e, hs⟩ := h.read ha
  have e1 : (FloatKind.f64.decode x).toInt .zero = some a := by
    show (Ieee.double.read x).toInt .zero = some a
    rw [e]
    have e2 : Ieee.Toward.zero.cut s ((a.natAbs * 2 ^ k) <<< (-(k : Int)).toNat) (- -(k : Int)).toNat = a.natAbs := by
      rw [show (-(k : Int)).toNat = 0 by omega, show (- -(k : Int)).toNat = k by omega, Nat.shiftLeft_zero]
      unfold Ieee.Toward.cut
      simp only [Nat.shiftLeft_eq, Nat.one_mul]
      by_cases h0 : a = 0
      · subst h0; simp
      · have hl : k ≤ (a.natAbs * 2 ^ k).log2 := by rw [log2_shift _ _ (by omega)]; omega
        rw [show min k ((a.natAbs * 2 ^ k).log2 + 2) = k by omega, Nat.mul_div_cancel _ (Nat.two_pow_pos k)]
        simp
    simp only [Ieee.Datum.toInt, Ieee.Datum.integral, e2]
    unfold Ieee.signed
    simp only [Nat.shiftLeft_zero]
    by_cases h0 : a = 0
    · subst h0; simp
    · rw [hs h0]
      by_cases h1 : a < 0
      · simp [h1]; omega
      · simp [h1]; omega
  unfold floatToIntVal
  rw [e1]
  simp only []
  rw [if_pos]
  have := ha
  rw [p53] at this
  simp only [IntKind.min, IntKind.max, IntKind.signed, IntKind.bits]
  constructor
  · simp; omega
  · simp; omega

theorem foi_lt {a : Int} (ha : a.natAbs < 2 ^ 53) : (0 ≤ a → floatOfInt .f64 a < 9218868437227405312) ∧ (a < 0 → 9223372036854775808 ≤ floatOfInt .f64 a ∧ floatOfInt .f64 a = 9223372036854775808 + floatOfInt .f64 (-a)) := by
  by_cases h0 : a = 0
  · subst h0
    rw [foi_zero]
    exact ⟨fun _ => by omega, fun h => absurd h (by omega)⟩
  · obtain ⟨b1, b2, b3⟩ := rung_bounds a.natAbs (by omega) ha
    refine ⟨fun h => ?_, fun h => ?_⟩
    · rw [foi_ne h0 ha]
      unfold Ieee.Format.word
      rw [if_neg (by simp; omega)]
      omega
    · rw [foi_ne h0 ha, foi_ne (a := -a) (by omega) (by omega), Int.natAbs_neg]
      unfold Ieee.Format.word
      rw [if_pos (by simpa using h), if_neg (by simp; omega), dsw]
      exact ⟨by omega, rfl⟩

end Go.Proofs.Ytlljmagmphfnmaa
