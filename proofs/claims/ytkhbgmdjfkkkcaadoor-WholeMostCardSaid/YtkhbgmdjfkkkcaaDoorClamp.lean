/- Contracts of whole.Clamp at its instances, and of the document's own, for every input. -/
import Derived.Test.YtkhbgmdjfkkkcaaDoorMost
namespace Go.Proofs.YtkhbgmdjfkkkcaaDoor
open Go.RowKit

set_option maxHeartbeats 400000 in
theorem clampInt_any (x lo hi : Int) (w : World) :
    Calls Tryd.prog 18 #[.int .i64 x, .int .i64 lo, .int .i64 hi] w fun e w' => e = .returned (.int .i64 (clampOf x lo hi)) ∧ w = w' := by
  go_enter Tryd.func18, Tryd.ntmps18
  go_wp2
  all_goals
    go_ret
    refine ⟨ret_int ?_, rfl⟩
    unfold clampOf
    (repeat' split) <;> first | rfl | omega

theorem clampInt_is {x lo hi s : Int} (H : Hid (clampOf x lo hi = s)) (w : World) :
    Calls Tryd.prog 18 #[.int .i64 x, .int .i64 lo, .int .i64 hi] w fun e w' => e = .returned (.int .i64 s) ∧ w = w' :=
  (clampInt_any x lo hi w).mono fun e w' ⟨he, hw⟩ => ⟨by rw [he, H.out], hw⟩

set_option maxHeartbeats 400000 in
theorem clamp8_any (x lo hi : Int) (w : World) :
    Calls Tryd.prog 19 #[.int .i8 x, .int .i8 lo, .int .i8 hi] w fun e w' => e = .returned (.int .i8 (clampOf x lo hi)) ∧ w = w' := by
  go_enter Tryd.func19, Tryd.ntmps19
  go_wp2
  all_goals
    go_ret
    refine ⟨ret_int ?_, rfl⟩
    unfold clampOf
    (repeat' split) <;> first | rfl | omega

theorem clamp8_is {x lo hi s : Int} (H : Hid (clampOf x lo hi = s)) (w : World) :
    Calls Tryd.prog 19 #[.int .i8 x, .int .i8 lo, .int .i8 hi] w fun e w' => e = .returned (.int .i8 s) ∧ w = w' :=
  (clamp8_any x lo hi w).mono fun e w' ⟨he, hw⟩ => ⟨by rw [he, H.out], hw⟩

set_option maxHeartbeats 400000 in
theorem refClamp_any (x lo hi : Int) (w : World) :
    Calls Tryd.prog 39 #[.int .i64 x, .int .i64 lo, .int .i64 hi] w fun e w' => e = .returned (.int .i64 (clampOf x lo hi)) ∧ w = w' := by
  go_enter Tryd.func39, Tryd.ntmps39
  go_wp2
  all_goals
    go_ret
    refine ⟨ret_int ?_, rfl⟩
    unfold clampOf
    (repeat' split) <;> first | rfl | omega

theorem refClamp_is {x lo hi s : Int} (H : Hid (clampOf x lo hi = s)) (w : World) :
    Calls Tryd.prog 39 #[.int .i64 x, .int .i64 lo, .int .i64 hi] w fun e w' => e = .returned (.int .i64 s) ∧ w = w' :=
  (refClamp_any x lo hi w).mono fun e w' ⟨he, hw⟩ => ⟨by rw [he, H.out], hw⟩
end Go.Proofs.YtkhbgmdjfkkkcaaDoor
