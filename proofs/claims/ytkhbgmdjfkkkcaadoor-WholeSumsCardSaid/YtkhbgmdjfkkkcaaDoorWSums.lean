/- The walk of WholeSums: it answers true for every two numbers, where the table of powers of ten reads as it was laid. -/
import Derived.Test.YtkhbgmdjfkkkcaaDoorWhole3
import Derived.Test.YtkhbgmdjfkkkcaaDoorRef2
namespace Go.Proofs.YtkhbgmdjfkkkcaaDoor
open Go.RowKit

theorem refAdd_is {a b s : Int} (H : Hid (held (a + b) = s)) (ha : I64 a) (hb : I64 b) (w : World) :
    Calls Tryd.prog 21 #[.int .i64 a, .int .i64 b] w fun e w' => e = .returned (.int .i64 s) ∧ Below w.heap.size w w' :=
  (refAdd_any a b w ha hb).mono fun e w' ⟨he, hw⟩ => ⟨by rw [he, H.out], hw⟩
theorem refSub_is {a b s : Int} (H : Hid (held (a - b) = s)) (ha : I64 a) (hb : I64 b) (w : World) :
    Calls Tryd.prog 23 #[.int .i64 a, .int .i64 b] w fun e w' => e = .returned (.int .i64 s) ∧ Below w.heap.size w w' :=
  (refSub_any a b w ha hb).mono fun e w' ⟨he, hw⟩ => ⟨by rw [he, H.out], hw⟩
theorem refMul_is {a b s : Int} (H : Hid (held (a * b) = s)) (ha : I64 a) (hb : I64 b) (w : World) :
    Calls Tryd.prog 25 #[.int .i64 a, .int .i64 b] w fun e w' => e = .returned (.int .i64 s) ∧ Below w.heap.size w w' :=
  (refMul_any a b w ha hb).mono fun e w' ⟨he, hw⟩ => ⟨by rw [he, H.out], hw⟩
theorem refNeg_is {a s : Int} (H : Hid (held (-a) = s)) (ha : I64 a) (w : World) :
    Calls Tryd.prog 27 #[.int .i64 a] w fun e w' => e = .returned (.int .i64 s) ∧ Below w.heap.size w w' :=
  (refNeg_any a w ha).mono fun e w' ⟨he, hw⟩ => ⟨by rw [he, H.out], hw⟩

set_option maxHeartbeats 1000000 in
theorem wholeSums_walk (a0 a1 : Int) (w : World) (h0 : I64 a0) (h1 : I64 a1) (hT : TabOK w) :
    Calls Tryd.prog 4 #[.int .i64 a0, .int .i64 a1] w fun e w' => e = .returned (.bool true) ∧ Below w.heap.size w w' := by
  obtain ⟨s, hs⟩ := exHid (held (a0 + a1))
  obtain ⟨d, hd⟩ := exHid (held (a0 - a1))
  obtain ⟨p, hp⟩ := exHid (held (a0 * a1))
  obtain ⟨n, hn⟩ := exHid (held (-a0))
  have hk := Below.refl w.heap.size w
  go_enter Tryd.func4, Tryd.ntmps4
  go_wp2_with (first
    | (go_at_call 16; refine (awake_any _ hT).mono ?_; rintro e w' ⟨rfl, hb⟩; have hk : Below w.heap.size w _ := below_next (by go_grown) hb)
    | ((with_reducible refine (add_is hs h0 h1 _).mono ?_); rintro e w' ⟨rfl, rfl⟩)
    | ((with_reducible refine (sub_is hd h0 h1 _).mono ?_); rintro e w' ⟨rfl, rfl⟩)
    | ((with_reducible refine (mul_is hp h0 h1 _).mono ?_); rintro e w' ⟨rfl, rfl⟩)
    | ((with_reducible refine (neg_is hn h0 _).mono ?_); rintro e w' ⟨rfl, rfl⟩)
    | ((with_reducible refine (refAdd_is hs h0 h1 _).mono ?_); rintro e w' ⟨rfl, hb⟩; have hk : Below w.heap.size w _ := below_next (by go_grown) hb)
    | ((with_reducible refine (refSub_is hd h0 h1 _).mono ?_); rintro e w' ⟨rfl, hb⟩; have hk : Below w.heap.size w _ := below_next (by go_grown) hb)
    | ((with_reducible refine (refMul_is hp h0 h1 _).mono ?_); rintro e w' ⟨rfl, hb⟩; have hk : Below w.heap.size w _ := below_next (by go_grown) hb)
    | ((with_reducible refine (refNeg_is hn h0 _).mono ?_); rintro e w' ⟨rfl, hb⟩; have hk : Below w.heap.size w _ := below_next (by go_grown) hb))
  all_goals
    go_ret
    exact ⟨rfl, by assumption⟩
end Go.Proofs.YtkhbgmdjfkkkcaaDoor
