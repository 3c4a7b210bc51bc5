/- The walk of WholeQuotients: it answers true for every three numbers, where the table of powers of ten reads as it was laid. -/
import Derived.Test.YtkhbgmdjfkkkcaaDoorWhole3
import Derived.Test.YtkhbgmdjfkkkcaaDoorRef3
namespace Go.Proofs.YtkhbgmdjfkkkcaaDoor
open Go.RowKit

theorem refDiv_is {a b s : Int} (H : Hid (held (a.tdiv b) = s)) (ha : I64 a) (hb : I64 b) (h0 : b ≠ 0) (w : World) :
    Calls Tryd.prog 28 #[.int .i64 a, .int .i64 b] w fun e w' => e = .returned (.tuple #[.int .i64 s, .int .i64 0]) ∧ Below w.heap.size w w' :=
  (refDiv_any a b w ha hb h0).mono fun e w' ⟨he, hw⟩ => ⟨by rw [he, H.out], hw⟩
theorem refMod_is {a b s : Int} (H : Hid (a.tmod b = s)) (ha : I64 a) (hb : I64 b) (h0 : b ≠ 0) (w : World) :
    Calls Tryd.prog 29 #[.int .i64 a, .int .i64 b] w fun e w' => e = .returned (.tuple #[.int .i64 s, .int .i64 0]) ∧ Below w.heap.size w w' :=
  (refMod_any a b w ha hb h0).mono fun e w' ⟨he, hw⟩ => ⟨by rw [he, H.out], hw⟩
theorem refShift_is {a n s : Int} (H : Hid (held (a * 2 ^ n.toNat) = s)) (ha : I64 a) (hn : I64 n) (w : World) :
    Calls Tryd.prog 30 #[.int .i64 a, .int .i64 n] w fun e w' => e = .returned (.int .i64 s) ∧ Below w.heap.size w w' :=
  (refShift_any a n w ha hn).mono fun e w' ⟨he, hw⟩ => ⟨by rw [he, H.out], hw⟩

set_option maxHeartbeats 1000000 in
theorem wholeQuotients_walk (a0 a1 a2 : Int) (w : World) (h0 : I64 a0) (h1 : I64 a1) (h2 : I64 a2) (hT : TabOK w) :
    Calls Tryd.prog 5 #[.int .i64 a0, .int .i64 a1, .int .i64 a2] w fun e w' => e = .returned (.bool true) ∧ Below w.heap.size w w' := by
  obtain ⟨q, hq⟩ := exHid (held (a0.tdiv a1))
  obtain ⟨r, hr⟩ := exHid (a0.tmod a1)
  obtain ⟨s, hs⟩ := exHid (held (a0 * 2 ^ a2.toNat))
  have hk := Below.refl w.heap.size w
  by_cases hz : a1 = 0
  · subst hz
    go_enter Tryd.func5, Tryd.ntmps5
    go_wp2_with (first
      | (go_at_call 16; refine (awake_any _ (hT.below hk)).mono ?_; rintro e w' ⟨rfl, hb⟩; have hk : Below w.heap.size w _ := below_next (by go_grown) hb)
      | ((with_reducible refine (div_zero _ _).mono ?_); rintro e w' ⟨rfl, rfl⟩)
      | ((with_reducible refine (mod_zero _ _).mono ?_); rintro e w' ⟨rfl, rfl⟩)
      | ((with_reducible refine (refDiv_zero _ _).mono ?_); rintro e w' ⟨rfl, hb⟩; have hk : Below w.heap.size w _ := below_next (by go_grown) hb)
      | ((with_reducible refine (refMod_zero _ _).mono ?_); rintro e w' ⟨rfl, hb⟩; have hk : Below w.heap.size w _ := below_next (by go_grown) hb)
      | ((with_reducible refine (shift_is hs h0 h2 _).mono ?_); rintro e w' ⟨rfl, rfl⟩)
      | ((with_reducible refine (refShift_is hs h0 h2 _).mono ?_); rintro e w' ⟨rfl, hb⟩; have hk : Below w.heap.size w _ := below_next (by go_grown) hb))
    go_ret
    exact ⟨rfl, by assumption⟩
  · go_enter Tryd.func5, Tryd.ntmps5
    go_wp2_with (first
      | (go_at_call 16; refine (awake_any _ (hT.below (by assumption))).mono ?_; rintro e w' ⟨rfl, hb⟩; have hk : Below w.heap.size w _ := below_next (by go_grown) hb)
      | ((with_reducible refine (div_is hq h0 h1 hz _).mono ?_); rintro e w' ⟨rfl, rfl⟩)
      | ((with_reducible refine (mod_is hr h0 h1 hz _).mono ?_); rintro e w' ⟨rfl, rfl⟩)
      | ((with_reducible refine (refDiv_is hq h0 h1 hz _).mono ?_); rintro e w' ⟨rfl, hb⟩; have hk : Below w.heap.size w _ := below_next (by go_grown) hb)
      | ((with_reducible refine (refMod_is hr h0 h1 hz _).mono ?_); rintro e w' ⟨rfl, hb⟩; have hk : Below w.heap.size w _ := below_next (by go_grown) hb)
      | ((with_reducible refine (shift_is hs h0 h2 _).mono ?_); rintro e w' ⟨rfl, rfl⟩)
      | ((with_reducible refine (refShift_is hs h0 h2 _).mono ?_); rintro e w' ⟨rfl, hb⟩; have hk : Below w.heap.size w _ := below_next (by go_grown) hb))
    go_ret
    exact ⟨rfl, by assumption⟩
end Go.Proofs.YtkhbgmdjfkkkcaaDoor
