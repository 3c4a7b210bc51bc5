/- Plain facts on numbers that are held within 64 bits: no program stands in them, no condition. -/
import Derived.WalkKit
namespace Go.Proofs.YtefijbpbenmbgaaDoor
open Go.RowKit

/-- A whole number of any size, held. -/
def held (x : Int) : Int := if x < -9223372036854775808 then -9223372036854775808 else if 9223372036854775807 < x then 9223372036854775807 else x

theorem held_lo {x : Int} (h : x < -9223372036854775808) : held x = -9223372036854775808 := by unfold held; rw [if_pos h]
theorem held_hi {x : Int} (h : 9223372036854775807 < x) : held x = 9223372036854775807 := by unfold held; rw [if_neg (by omega), if_pos h]
theorem held_in {x : Int} (h1 : -9223372036854775808 ≤ x) (h2 : x ≤ 9223372036854775807) : held x = x := by unfold held; rw [if_neg (by omega), if_neg (by omega)]
theorem held_range (x : Int) : -9223372036854775808 ≤ held x ∧ held x ≤ 9223372036854775807 := by unfold held; split <;> (try split) <;> omega

/-- A number is of 64 bits, with a sign. -/
def I64 (x : Int) : Prop := -9223372036854775808 ≤ x ∧ x ≤ 9223372036854775807
/-- A number is of 64 bits, without a sign. -/
def U64 (x : Int) : Prop := 0 ≤ x ∧ x ≤ 18446744073709551615

theorem i64_of_wf {a : Int} (h : (Lit.int .i64 a).wf = true) : I64 a := by
  simp [Lit.wf, IntKind.min, IntKind.max, IntKind.signed, IntKind.bits] at h
  exact h
theorem ret_int {k : IntKind} {a b : Int} (h : a = b) : Ending.returned (.int k a) = .returned (.int k b) := by rw [h]
theorem ret_bool {a b : Bool} (h : a = b) : Ending.returned (.bool a) = .returned (.bool b) := by rw [h]

theorem exHid {α : Sort _} (x : α) : ∃ s, Hid (x = s) := ⟨x, rfl⟩
theorem below_next {w W w' : World} (h : Below w.heap.size w W) (hb : Below W.heap.size W w') : Below w.heap.size w w' := h.trans (hb.mono h.size)

/-- What lay below reads as it did: two rules for the walk. -/
theorem below_cells {W W' : World} (hb : Below W.heap.size W W') :
    (∀ b o, b < W.heap.size → W'.cell? ⟨b, o, none⟩ = W.cell? ⟨b, o, none⟩) ∧ (∀ b o, b < W.heap.size → W'.frozen? ⟨b, o, none⟩ = W.frozen? ⟨b, o, none⟩) :=
  ⟨fun b o h => hb.cell (p := ⟨b, o, none⟩) h, fun b o h => hb.frozen (p := ⟨b, o, none⟩) h⟩

/-- A block that was laid reads on as it was laid, behind a call that keeps it and behind one new block more. -/
theorem cell_kept {w1 w2 : World} {c : Array Value} {t : TypeId} (hb : Below (w1.alloc (.cells c t)).heap.size (w1.alloc (.cells c t)) w2) (o2 : Obj) (j : Nat) :
    (w2.alloc o2).cell? ⟨w1.heap.size, j, none⟩ = c[j]? := by
  have h0 : w1.heap.size < (w1.alloc (.cells c t)).heap.size := by simp
  have h1 : (w2.alloc o2).heap[w1.heap.size]? = w2.heap[w1.heap.size]? := Below.heap_alloc w2 o2 _ (Nat.lt_of_lt_of_le h0 hb.size)
  have h2 : (w2.alloc o2).heap[w1.heap.size]? = (w1.alloc (.cells c t)).heap[w1.heap.size]? := h1.trans (hb.block _ h0)
  rw [World.cell?_of_block (w := w1.alloc (.cells c t)) (a := ⟨w1.heap.size, j, none⟩) h2, World.cell?_alloc_new]

theorem wrap64_eq (x : Int) : ∃ t : Int, wrap64 x = x - t * 18446744073709551616 := by
  refine ⟨(x + 9223372036854775808) / 18446744073709551616, ?_⟩
  simp only [wrap64]
  omega
theorem wrap64_range (x : Int) : -9223372036854775808 ≤ wrap64 x ∧ wrap64 x ≤ 9223372036854775807 := by
  simp only [wrap64]
  omega

/-- What is moved up and, moved down again, is what it was, has not wrapped: at most 63 places. -/
theorem moved_back {a : Int} {m : Nat} (hm : m ≤ 63) (h : wrap64 (a * 2 ^ m) / 2 ^ m = a) : wrap64 (a * 2 ^ m) = a * 2 ^ m := by
  obtain ⟨t, ht⟩ := wrap64_eq (a * 2 ^ m)
  have hq : (0 : Int) < 2 ^ m := Int.pow_pos (by decide)
  have h64 : (18446744073709551616 : Int) = 2 ^ m * 2 ^ (64 - m) := by
    rw [← Int.pow_add, show m + (64 - m) = 64 by omega]; decide
  have e : wrap64 (a * 2 ^ m) = 2 ^ m * (a - t * 2 ^ (64 - m)) := by
    rw [ht, h64, Int.mul_sub, Int.mul_comm a, ← Int.mul_assoc, ← Int.mul_assoc, Int.mul_comm t]
  rw [e, Int.mul_ediv_cancel_left _ (by omega)] at h
  rw [e, h, Int.mul_comm]

theorem pow_big {m : Nat} (h : 64 ≤ m) : (18446744073709551616 : Int) ≤ 2 ^ m := by
  have h1 : (2 : Nat) ^ 64 ≤ 2 ^ m := Nat.pow_le_pow_right (by decide) h
  have h2 : ((2 ^ m : Nat) : Int) = 2 ^ m := by simp
  rw [← h2]
  have h3 : (2 : Nat) ^ 64 = 18446744073709551616 := by decide
  omega

theorem held_big {a : Int} {q : Int} (hq : 18446744073709551616 ≤ q) : held (a * q) = if a < 0 then -9223372036854775808 else if a = 0 then 0 else 9223372036854775807 := by
  by_cases h1 : a < 0
  · rw [if_pos h1]
    have : a * q ≤ -1 * q := Int.mul_le_mul_of_nonneg_right (by omega) (by omega)
    rw [held_lo (by omega)]
  · rw [if_neg h1]
    by_cases h2 : a = 0
    · rw [if_pos h2, h2, Int.zero_mul]; rfl
    · rw [if_neg h2]
      have : 1 * q ≤ a * q := Int.mul_le_mul_of_nonneg_right (by omega) (by omega)
      rw [held_hi (by omega)]

theorem shifted_yes {a : Int} {m : Nat} (h : wrap64 (a * 2 ^ min m 64) / 2 ^ min m 64 = a) : held (a * 2 ^ m) = wrap64 (a * 2 ^ min m 64) := by
  by_cases hm : m ≤ 63
  · rw [show min m 64 = m by omega] at h ⊢
    have e := moved_back hm h
    have r := wrap64_range (a * 2 ^ m)
    rw [e] at r ⊢
    exact held_in r.1 r.2
  · rw [show min m 64 = 64 by omega] at h ⊢
    have z : wrap64 (a * 2 ^ 64) = 0 := by
      have : (2 : Int) ^ 64 = 18446744073709551616 := by decide
      simp only [wrap64, this]
      omega
    rw [z] at h ⊢
    have : a = 0 := by rw [← h]; decide
    rw [held_big (pow_big (by omega)), if_neg (by omega), if_pos this]

theorem shifted_no {a : Int} {m : Nat} (ha : I64 a) (h : wrap64 (a * 2 ^ min m 64) / 2 ^ min m 64 ≠ a) : held (a * 2 ^ m) = if a < 0 then -9223372036854775808 else 9223372036854775807 := by
  have hne : a ≠ 0 := by
    rintro rfl
    apply h
    rw [Int.zero_mul]
    have : wrap64 0 = 0 := by simp only [wrap64]; omega
    rw [this, Int.zero_ediv]
  by_cases hm : m ≤ 63
  · rw [show min m 64 = m by omega] at h
    have hq : (0 : Int) < 2 ^ m := Int.pow_pos (by decide)
    by_cases h1 : a * 2 ^ m < -9223372036854775808
    · rw [held_lo h1]
      have : a < 0 := by
        apply Int.not_le.1
        intro h2
        have := Int.mul_nonneg h2 (Int.le_of_lt hq)
        omega
      rw [if_pos this]
    · by_cases h2 : 9223372036854775807 < a * 2 ^ m
      · rw [held_hi h2]
        have : ¬ a < 0 := by
          intro h3
          have := Int.mul_nonpos_of_nonpos_of_nonneg (Int.le_of_lt h3) (Int.le_of_lt hq)
          omega
        rw [if_neg this]
      · exfalso
        apply h
        have e : wrap64 (a * 2 ^ m) = a * 2 ^ m := IntWalk.wrap64_in _ ⟨by omega, by omega⟩
        rw [e, Int.mul_ediv_cancel _ (by omega)]
  · rw [held_big (pow_big (by omega)), if_neg hne]

end Go.Proofs.YtefijbpbenmbgaaDoor
