/- The walk of WholeKnown: it answers true, where the table of powers of ten reads as it was laid. -/
import Derived.Test.YtkhbgmdjfkkkcaaDoorWBack
import Derived.Test.YtkhbgmdjfkkkcaaDoorClamp
namespace Go.Proofs.YtkhbgmdjfkkkcaaDoor
open Go.RowKit

theorem most_known (w : World) :
    Calls Tryd.prog 14 #[.slice (some ⟨w.heap.size, 0, none⟩) 3 3] (w.alloc (.cells #[.int .i64 3, .int .i64 9, .int .i64 (-1)] 3)) fun e w' => e = .returned (.tuple #[.int .i64 9, .bool true]) ∧ (w.alloc (.cells #[.int .i64 3, .int .i64 9, .int .i64 (-1)] 3)) = w' :=
  mostInt_some w.heap.size 0 3 3 [3, 9, -1] _ rfl (by omega) (by omega) (by omega) (fun j hj => by
    rw [Nat.zero_add, World.cell?_alloc_new]
    match j, hj with
    | 0, _ => rfl
    | 1, _ => rfl
    | 2, _ => rfl)

set_option maxHeartbeats 1000000 in
theorem wholeKnown_walk (w : World) (hT : TabOK w) :
    Calls Tryd.prog 3 #[] w fun e w' => e = .returned (.bool true) ∧ Below w.heap.size w w' := by
  have i1 : I64 (-9223372036854775808) := by unfold I64; omega
  have i2 : I64 (-1) := by unfold I64; omega
  have i3 : I64 1 := by unfold I64; omega
  have i4 : I64 5 := by unfold I64; omega
  have i5 : I64 63 := by unfold I64; omega
  have q1 : Hid (held (Int.tdiv (-9223372036854775808) (-1)) = 9223372036854775807) := by show held (Int.tdiv (-9223372036854775808) (-1)) = 9223372036854775807; decide
  have q2 : Hid (Int.tmod (-9223372036854775808) (-1) = 0) := by show Int.tmod (-9223372036854775808) (-1) = 0; decide
  have r1 : Hid (readV (⟨#[45, 57, 50, 50, 51, 51, 55, 50, 48, 51, 54, 56, 53, 52, 55, 55, 53, 56, 48, 56]⟩ : ByteArray).data.toList = (-9223372036854775808, 0)) := by
    show readV [45, 57, 50, 50, 51, 51, 55, 50, 48, 51, 54, 56, 53, 52, 55, 55, 53, 56, 48, 56] = (-9223372036854775808, 0); decide
  have r2 : Hid (readV (⟨#[57, 50, 50, 51, 51, 55, 50, 48, 51, 54, 56, 53, 52, 55, 55, 53, 56, 48, 56]⟩ : ByteArray).data.toList = (0, 2)) := by
    show readV [57, 50, 50, 51, 51, 55, 50, 48, 51, 54, 56, 53, 52, 55, 55, 53, 56, 48, 56] = (0, 2); decide
  have r3 : Hid (readV (⟨#[45, 48]⟩ : ByteArray).data.toList = (0, 9)) := by show readV [45, 48] = (0, 9); decide
  have r4 : Hid (readV (⟨#[48, 48, 55]⟩ : ByteArray).data.toList = (0, 9)) := by show readV [48, 48, 55] = (0, 9); decide
  have s1 : Hid (held (-1 * 2 ^ Int.toNat 63) = -9223372036854775808) := by show held (-1 * 2 ^ Int.toNat 63) = -9223372036854775808; decide
  have s2 : Hid (held (1 * 2 ^ Int.toNat 63) = 9223372036854775807) := by show held (1 * 2 ^ Int.toNat 63) = 9223372036854775807; decide
  have s3 : Hid (held (5 * 2 ^ Int.toNat (-1)) = 5) := by show held (5 * 2 ^ Int.toNat (-1)) = 5; decide
  have c1 : Hid (clampOf 4 5 3 = 5) := by show clampOf 4 5 3 = 5; decide
  have c2 : Hid (clampOf 5 5 3 = 3) := by show clampOf 5 5 3 = 3; decide
  have c3 : Hid (clampOf 5 1 3 = 3) := by show clampOf 5 1 3 = 3; decide
  have hk := Below.refl w.heap.size w
  go_enter Tryd.func3, Tryd.ntmps3
  go_wp2_with (first
    | ((with_reducible refine (div_is q1 i1 i2 (by decide) _).mono ?_); rintro e w' ⟨rfl, rfl⟩)
    | ((with_reducible refine (mod_is q2 i1 i2 (by decide) _).mono ?_); rintro e w' ⟨rfl, rfl⟩)
    | ((with_reducible refine (div_zero _ _).mono ?_); rintro e w' ⟨rfl, rfl⟩)
    | ((with_reducible refine (mod_zero _ _).mono ?_); rintro e w' ⟨rfl, rfl⟩)
    | ((with_reducible refine (read_is r1 (by decide) _).mono ?_); rintro e w' ⟨rfl, rfl⟩)
    | ((with_reducible refine (read_is r2 (by decide) _).mono ?_); rintro e w' ⟨rfl, rfl⟩)
    | ((with_reducible refine (read_is r3 (by decide) _).mono ?_); rintro e w' ⟨rfl, rfl⟩)
    | ((with_reducible refine (read_is r4 (by decide) _).mono ?_); rintro e w' ⟨rfl, rfl⟩)
    | ((with_reducible refine (most_known _).mono ?_); rintro e w' ⟨rfl, rfl⟩)
    | ((with_reducible refine (most16_none _ _ _).mono ?_); rintro e w' ⟨rfl, rfl⟩)
    | (go_at_call 16; refine (awake_any _ (hT.below (by go_grown))).mono ?_; rintro e w' ⟨rfl, hb⟩; have hk : Below w.heap.size w _ := below_next (by go_grown) hb)
    | ((with_reducible refine (shift_is s1 i2 i5 _).mono ?_); rintro e w' ⟨rfl, rfl⟩)
    | ((with_reducible refine (shift_is s2 i3 i5 _).mono ?_); rintro e w' ⟨rfl, rfl⟩)
    | ((with_reducible refine (shift_is s3 i4 i2 _).mono ?_); rintro e w' ⟨rfl, rfl⟩)
    | ((with_reducible refine (clampInt_is c1 _).mono ?_); rintro e w' ⟨rfl, rfl⟩)
    | ((with_reducible refine (clampInt_is c2 _).mono ?_); rintro e w' ⟨rfl, rfl⟩)
    | ((with_reducible refine (clamp8_is c3 _).mono ?_); rintro e w' ⟨rfl, rfl⟩))
  go_ret
  exact ⟨rfl, by assumption⟩
end Go.Proofs.YtkhbgmdjfkkkcaaDoor
