/- The walk of PlaneExact: it answers true for every four whole numbers. -/
import Derived.Test.YtnjpbaejgdiopaaNum
import Derived.Test.YtnjpbaejgdiopaaPlane
namespace Go.Proofs.Ytnjpbaejgdiopaa
open Go.RowKit

set_option maxHeartbeats 400000 in
theorem Of_any (a b : Int) (w : World) :
    Calls Try.prog 6 #[.int .i64 a, .int .i64 b] w fun e w' => e = .returned (.complex .f64 (floatOfInt .f64 a) (floatOfInt .f64 b)) ∧ w = w' := by
  go_enter Try.func6, Try.ntmps6
  go_wp2
  go_ret
  exact ⟨rfl, rfl⟩

def SmallPost (w : World) (e : Ending) (w' : World) : Prop := ∃ r : Int, e = .returned (.int .i64 r) ∧ -1048576 ≤ r ∧ r ≤ 1048576 ∧ w = w'

set_option maxHeartbeats 400000 in
theorem small_any (a : Int) (w : World) (h : I64 a) : Calls Try.prog 5 #[.int .i64 a] w (SmallPost w) := by
  obtain ⟨h1, h2⟩ := h
  go_enter Try.func5, Try.ntmps5
  go_wp2
  go_ret
  have l1 := Int.tmod_lt_of_pos a (b := 1048577) (by omega)
  have l2 := Int.lt_tmod_of_pos a (b := 1048577) (by omega)
  refine ⟨_, rfl, ?_, ?_, rfl⟩
  · omega
  · omega

def Sm (a : Int) : Prop := -1048576 ≤ a ∧ a ≤ 1048576

theorem sm_of {a : Int} (h1 : -1048576 ≤ a) (h2 : a ≤ 1048576) : Sm a := ⟨h1, h2⟩
theorem Sm.w {a : Int} (h : Sm a) : W53 a := by obtain ⟨h1, h2⟩ := h; rw [W53, p53]; omega
theorem Sm.sum {a b : Int} (h : Sm a) (g : Sm b) : W53 (a + b) := by obtain ⟨h1, h2⟩ := h; obtain ⟨g1, g2⟩ := g; rw [W53, p53]; omega
theorem Sm.prod {a b : Int} (h : Sm a) (g : Sm b) : -1099511627776 ≤ a * b ∧ a * b ≤ 1099511627776 := by
  obtain ⟨h1, h2⟩ := h
  obtain ⟨g1, g2⟩ := g
  have e : (a * b).natAbs ≤ 1048576 * 1048576 := by rw [Int.natAbs_mul]; exact Nat.mul_le_mul (by omega) (by omega)
  omega
theorem w_of {a : Int} (h : -2199023255552 ≤ a ∧ a ≤ 2199023255552) : W53 a := by rw [W53, p53]; omega
theorem Sm.wp {a b : Int} (h : Sm a) (g : Sm b) : W53 (a * b) := w_of (by have := h.prod g; omega)

set_option maxHeartbeats 1000000 in
theorem tail_any (a b c d : Int) (w : World) (ha : Sm a) (hb : Sm b) (hc : Sm c) (hd : Sm d) :
    Calls Try.prog 8 #[.complex .f64 (floatOfInt .f64 a) (floatOfInt .f64 b), .complex .f64 (floatOfInt .f64 c) (floatOfInt .f64 d)] w
      fun e w' => e = .returned (.tuple #[.complex .f64 (floatOfInt .f64 (a * c - b * d)) (floatOfInt .f64 (a * d + b * c)), .int .i64 0]) ∧ w = w' :=
  Mul_any (IsI.of a) ha.w (IsI.of b) hb.w (IsI.of c) hc.w (IsI.of d) hd.w (ha.wp hc) (hb.wp hd) (ha.wp hd) (hb.wp hc)
    (w_of (by have := ha.prod hc; have := hb.prod hd; omega)) (w_of (by have := ha.prod hd; have := hb.prod hc; omega)) w

theorem head_any (a b c d : Int) (w : World) (ha : Sm a) (hb : Sm b) (hc : Sm c) (hd : Sm d) :
    Calls Try.prog 7 #[.complex .f64 (floatOfInt .f64 a) (floatOfInt .f64 b), .complex .f64 (floatOfInt .f64 c) (floatOfInt .f64 d)] w
      fun e w' => e = .returned (.tuple #[.complex .f64 (floatOfInt .f64 (a + c)) (floatOfInt .f64 (b + d)), .int .i64 0]) ∧ w = w' :=
  Add_any (IsI.of a) ha.w (IsI.of b) hb.w (IsI.of c) hc.w (IsI.of d) hd.w (ha.sum hc) (hb.sum hd) w
theorem parts_any (a b : Int) (w : World) (ha : W53 a) (hb : W53 b) :
    Calls Try.prog 9 #[.complex .f64 (floatOfInt .f64 a) (floatOfInt .f64 b)] w fun e w' => e = .returned (.tuple #[.int .i64 a, .int .i64 b]) ∧ w = w' :=
  Parts_any (IsI.of a) ha (IsI.of b) hb w

set_option maxRecDepth 100000 in
set_option maxHeartbeats 4000000 in
theorem planeExact_walk (a0 a1 a2 a3 : Int) (w : World) (h0 : I64 a0) (h1 : I64 a1) (h2 : I64 a2) (h3 : I64 a3) :
    Calls Try.prog 3 #[.int .i64 a0, .int .i64 a1, .int .i64 a2, .int .i64 a3] w fun e w' => e = .returned (.bool true) ∧ Below w.heap.size w w' := by
  go_enter Try.func3, Try.ntmps3
  go_wp2_with (first
    | ((with_reducible refine (awake_any _).mono ?_); rintro e w' ⟨rfl, rfl⟩)
    | ((with_reducible refine (small_any a0 _ h0).mono ?_); rintro e w' ⟨p, rfl, p1, p2, rfl⟩)
    | ((with_reducible refine (small_any a1 _ h1).mono ?_); rintro e w' ⟨q, rfl, q1, q2, rfl⟩)
    | ((with_reducible refine (small_any a2 _ h2).mono ?_); rintro e w' ⟨r, rfl, r1, r2, rfl⟩)
    | ((with_reducible refine (small_any a3 _ h3).mono ?_); rintro e w' ⟨s, rfl, s1, s2, rfl⟩; have b1 := Sm.prod (a := p) (b := r) ⟨p1, p2⟩ ⟨r1, r2⟩; have b2 := Sm.prod (a := q) (b := s) ⟨q1, q2⟩ ⟨s1, s2⟩; have b3 := Sm.prod (a := p) (b := s) ⟨p1, p2⟩ ⟨s1, s2⟩; have b4 := Sm.prod (a := q) (b := r) ⟨q1, q2⟩ ⟨r1, r2⟩; obtain ⟨b11, b12⟩ := b1; obtain ⟨b21, b22⟩ := b2; obtain ⟨b31, b32⟩ := b3; obtain ⟨b41, b42⟩ := b4)
    | ((with_reducible refine (Of_any _ _ _).mono ?_); rintro e w' ⟨rfl, rfl⟩)
    | ((with_reducible refine (head_any p q r s _ (sm_of p1 p2) (sm_of q1 q2) (sm_of r1 r2) (sm_of s1 s2)).mono ?_); rintro e w' ⟨rfl, rfl⟩)
    | ((with_reducible refine (tail_any p q r s _ (sm_of p1 p2) (sm_of q1 q2) (sm_of r1 r2) (sm_of s1 s2)).mono ?_); rintro e w' ⟨rfl, rfl⟩)
    | ((with_reducible refine (parts_any _ _ _ (w_of ⟨by omega, by omega⟩) (w_of ⟨by omega, by omega⟩)).mono ?_); rintro e w' ⟨rfl, rfl⟩)
    | ((with_reducible refine (fine_any (w_of ⟨by omega, by omega⟩) (w_of ⟨by omega, by omega⟩) _).mono ?_); rintro e w' ⟨rfl, rfl⟩))
  all_goals
    go_ret
    exact ⟨rfl, Below.refl _ _⟩
end Go.Proofs.Ytnjpbaejgdiopaa
