/- Contracts of the document's own answers for whole numbers (package prompterref01): sums, what is left, numbers turned: the numbers held within 64 bits, for every input. -/
import Derived.Test.YtkhbgmdjfkkkcaaDoorNum
import Derived.Test.YtkhbgmdjfkkkcaaDoorRows
import Derived.WalkKit
import Derived.WalkSpells
import Derived.WalkLawsBesides
import Derived.Handy
import Derived.Lib.Hide
import Derived.Laws.Shifts
import Derived.Deep.RegionWith
namespace Go.Proofs.YtkhbgmdjfkkkcaaDoor
open Go.RowKit

/-- The number that a sign and a size of two halves say. -/
def wv (b : Bool) (hi lo : Int) : Int := if b = true then -(hi * 18446744073709551616 + lo) else hi * 18446744073709551616 + lo

theorem ret_agg3 {b b' : Bool} {x x' y y' : Int} (h1 : b = b') (h2 : x = x') (h3 : y = y') : Ending.returned (.agg #[.bool b, .int .u64 x, .int .u64 y]) = .returned (.agg #[.bool b', .int .u64 x', .int .u64 y']) := by rw [h1, h2, h3]

set_option maxHeartbeats 400000 in
theorem of_any (a : Int) (w : World) (ha : I64 a) :
    Calls Tryd.prog 48 #[.int .i64 a] w fun e w' => e = .returned (.agg #[.bool (decide (a < 0)), .int .u64 0, .int .u64 (a.natAbs : Int)]) ∧ Below w.heap.size w w' := by
  obtain ⟨a1, a2⟩ := ha
  by_cases h : a < 0
  all_goals
    go_enter Tryd.func48, Tryd.ntmps48
    go_wp2
    go_returns
    refine ⟨ret_agg3 (by simp [h]) rfl ?_, by go_grown⟩
    try simp only [IntKind.wrap_u64] at *
    try omega

set_option maxHeartbeats 400000 in
theorem held_any (b : Bool) (hi lo : Int) (w : World) (h1 : U64 hi) (h2 : U64 lo) :
    Calls Tryd.prog 46 #[.agg #[.bool b, .int .u64 hi, .int .u64 lo]] w fun e w' => e = .returned (.int .i64 (held (wv b hi lo))) ∧ Below w.heap.size w w' := by
  obtain ⟨h11, h12⟩ := h1
  obtain ⟨h21, h22⟩ := h2
  cases b
  all_goals
    go_enter Tryd.func46, Tryd.ntmps46
    go_wp2
    all_goals
      go_ret
      refine ⟨ret_int ?_, by go_grown⟩
      simp [wv]
      unfold held
      try simp only [wrap64, IntKind.wrap_u64] at *
      (repeat' split) <;> omega

/-- The sum of two that are wide: some wide number that says it. -/
def SumPost (n : Int) (w : World) (e : Ending) (w' : World) : Prop := ∃ b hi lo, e = .returned (.agg #[.bool b, .int .u64 hi, .int .u64 lo]) ∧ U64 hi ∧ U64 lo ∧ wv b hi lo = n ∧ Below w.heap.size w w'

set_option maxHeartbeats 1000000 in
theorem sum_any (b1 b2 : Bool) (x y : Int) (w : World) (h1 : U64 x) (h2 : U64 y) :
    Calls Tryd.prog 47 #[.agg #[.bool b1, .int .u64 0, .int .u64 x], .agg #[.bool b2, .int .u64 0, .int .u64 y]] w (SumPost (wv b1 0 x + wv b2 0 y) w) := by
  obtain ⟨h11, h12⟩ := h1
  obtain ⟨h21, h22⟩ := h2
  cases b1 <;> cases b2
  all_goals
    go_enter Tryd.func47, Tryd.ntmps47
    go_wp2
    all_goals
      go_returns
      refine ⟨_, _, _, rfl, ?_, ?_, ?_, by go_grown⟩
      all_goals
        try simp only [U64, wv, IntKind.wrap_u64] at *
        try simp
        try omega

set_option maxHeartbeats 1000000 in
theorem refAdd_any (a b : Int) (w : World) (ha : I64 a) (hb : I64 b) :
    Calls Tryd.prog 21 #[.int .i64 a, .int .i64 b] w fun e w' => e = .returned (.int .i64 (held (a + b))) ∧ Below w.heap.size w w' := by
  have ua : U64 (a.natAbs : Int) := by obtain ⟨a1, a2⟩ := ha; unfold U64; omega
  have ub : U64 (b.natAbs : Int) := by obtain ⟨a1, a2⟩ := hb; unfold U64; omega
  have e1 : Hid (wv (decide (a < 0)) 0 (a.natAbs : Int) + wv (decide (b < 0)) 0 (b.natAbs : Int) = a + b) := by
    show wv (decide (a < 0)) 0 (a.natAbs : Int) + wv (decide (b < 0)) 0 (b.natAbs : Int) = a + b
    unfold wv
    by_cases h1 : a < 0 <;> by_cases h2 : b < 0 <;> simp [h1, h2] <;> omega
  have hk := Below.refl w.heap.size w
  go_enter Tryd.func21, Tryd.ntmps21
  go_wp2_with (first
    | (go_at_call 48; refine (of_any _ _ (by assumption)).mono ?_; rintro e w' ⟨rfl, hb⟩; have hk : Below w.heap.size w _ := below_next (by go_grown) hb; have hz := hk.size)
    | (go_at_call 47; refine (sum_any _ _ _ _ _ ua ub).mono ?_; rintro e w' ⟨b3, hi, lo, rfl, uh, ul, hv, hb⟩; replace hv := Lib.hid hv; have hk : Below w.heap.size w _ := below_next (by go_grown) hb; have hz := hk.size)
    | (go_at_call 46; refine (held_any _ _ _ _ (by assumption) (by assumption)).mono ?_; rintro e w' ⟨rfl, hb⟩; have hk : Below w.heap.size w _ := below_next (by go_grown) hb; have hz := hk.size))
  go_ret
  exact ⟨ret_int (by rw [hv.out, e1.out]), by assumption⟩

set_option maxHeartbeats 1000000 in
theorem refSub_any (a b : Int) (w : World) (ha : I64 a) (hb : I64 b) :
    Calls Tryd.prog 23 #[.int .i64 a, .int .i64 b] w fun e w' => e = .returned (.int .i64 (held (a - b))) ∧ Below w.heap.size w w' := by
  have ua : U64 (a.natAbs : Int) := by obtain ⟨a1, a2⟩ := ha; unfold U64; omega
  have ub : U64 (b.natAbs : Int) := by obtain ⟨a1, a2⟩ := hb; unfold U64; omega
  have e1 : Hid (wv (decide (a < 0)) 0 (a.natAbs : Int) + wv (!decide (b < 0)) 0 (b.natAbs : Int) = a - b) := by
    show wv (decide (a < 0)) 0 (a.natAbs : Int) + wv (!decide (b < 0)) 0 (b.natAbs : Int) = a - b
    unfold wv
    by_cases h1 : a < 0 <;> by_cases h2 : b < 0 <;> simp [h1, h2] <;> omega
  have hk := Below.refl w.heap.size w
  go_enter Tryd.func23, Tryd.ntmps23
  go_wp2_with (first
    | (go_at_call 48; refine (of_any _ _ (by assumption)).mono ?_; rintro e w' ⟨rfl, hb⟩; have hk : Below w.heap.size w _ := below_next (by go_grown) hb; have hz := hk.size))
  go_region_with (first
    | (go_at_call 48; refine (of_any _ _ (by assumption)).mono ?_; rintro e w' ⟨rfl, hb⟩; have hk : Below w.heap.size w _ := below_next (by go_grown) hb; have hz := hk.size; obtain ⟨hc, hf⟩ := below_cells hb)
    | (go_at_call 47; refine (sum_any _ _ _ _ _ ua ub).mono ?_; rintro e w' ⟨b3, hi, lo, rfl, uh, ul, hv, hb⟩; replace hv := Lib.hid hv; have hk : Below w.heap.size w _ := below_next (by go_grown) hb; have hz := hk.size)
    | (go_at_call 46; refine (held_any _ _ _ _ (by assumption) (by assumption)).mono ?_; rintro e w' ⟨rfl, hb⟩; have hk : Below w.heap.size w _ := below_next (by go_grown) hb; have hz := hk.size))
  all_goals
    go_wp2
    go_ret
    exact ⟨ret_int (by rw [hv.out, e1.out]), by assumption⟩

set_option maxHeartbeats 400000 in
theorem refNeg_any (a : Int) (w : World) (ha : I64 a) :
    Calls Tryd.prog 27 #[.int .i64 a] w fun e w' => e = .returned (.int .i64 (held (-a))) ∧ Below w.heap.size w w' := by
  have i0 : I64 0 := by unfold I64; omega
  have h0 : Hid (held (0 - a) = held (-a)) := by show held (0 - a) = held (-a); rw [Int.zero_sub]
  go_enter Tryd.func27, Tryd.ntmps27
  go_wp2_with (go_at_call 23; refine (refSub_any _ _ _ i0 (by assumption)).mono ?_; rintro e w' ⟨rfl, hb⟩)
  go_ret
  exact ⟨ret_int (by simp), by assumption⟩
end Go.Proofs.YtkhbgmdjfkkkcaaDoor
