/- Contracts of package whole: each call answers as the numbers held within 64 bits do, for every input, and leaves the memory alone. -/
import Derived.Test.YtkhbgmdjfkkkcaaDoorNum
import Derived.Test.YtkhbgmdjfkkkcaaDoorRows
import Derived.WalkKit
import Derived.WalkSpells
import Derived.WalkLawsBesides
import Derived.Handy
import Derived.Lib.Hide
namespace Go.Proofs.YtkhbgmdjfkkkcaaDoor
open Go.RowKit

def endOf (b : Bool) : Int := if b = true then -9223372036854775808 else 9223372036854775807
theorem endOf_t : endOf true = -9223372036854775808 := rfl
theorem endOf_f : endOf false = 9223372036854775807 := rfl

set_option maxHeartbeats 400000 in
theorem end_any (b : Bool) (w : World) : Calls Tryd.prog 45 #[.bool b] w fun e w' => e = .returned (.int .i64 (endOf b)) ∧ w = w' := by
  cases b
  all_goals
    go_enter Tryd.func45, Tryd.ntmps45
    go_wp2
    go_ret
    exact ⟨rfl, rfl⟩

set_option maxHeartbeats 400000 in
theorem add_any (a b : Int) (w : World) (ha : I64 a) (hb : I64 b) :
    Calls Tryd.prog 20 #[.int .i64 a, .int .i64 b] w fun e w' => e = .returned (.int .i64 (held (a + b))) ∧ w = w' := by
  obtain ⟨a1, a2⟩ := ha
  obtain ⟨b1, b2⟩ := hb
  go_enter Tryd.func20, Tryd.ntmps20
  go_wp2_with (go_at_call 45; refine (end_any _ _).mono ?_; rintro e w' ⟨rfl, rfl⟩)
  all_goals
    go_ret
    refine ⟨ret_int ?_, rfl⟩
    rename_i h
    by_cases h1 : b < 0 <;> by_cases h2 : wrap64 (a + b) < a <;> simp [h1, h2, endOf] at h ⊢ <;> unfold held <;> simp only [wrap64] at * <;> (repeat' split) <;> omega

set_option maxHeartbeats 400000 in
theorem sub_any (a b : Int) (w : World) (ha : I64 a) (hb : I64 b) :
    Calls Tryd.prog 22 #[.int .i64 a, .int .i64 b] w fun e w' => e = .returned (.int .i64 (held (a - b))) ∧ w = w' := by
  obtain ⟨a1, a2⟩ := ha
  obtain ⟨b1, b2⟩ := hb
  go_enter Tryd.func22, Tryd.ntmps22
  go_wp2_with (go_at_call 45; refine (end_any _ _).mono ?_; rintro e w' ⟨rfl, rfl⟩)
  all_goals
    go_ret
    refine ⟨ret_int ?_, rfl⟩
    rename_i h
    by_cases h1 : 0 < b <;> by_cases h2 : wrap64 (a - b) < a <;> simp [h1, h2, endOf] at h ⊢ <;> unfold held <;> simp only [wrap64] at * <;> (repeat' split) <;> omega

theorem i64_zero : I64 0 := by unfold I64; omega

set_option maxHeartbeats 400000 in
theorem neg_any (a : Int) (w : World) (ha : I64 a) :
    Calls Tryd.prog 26 #[.int .i64 a] w fun e w' => e = .returned (.int .i64 (held (-a))) ∧ w = w' := by
  go_enter Tryd.func26, Tryd.ntmps26
  go_wp2_with (go_at_call 22; refine (sub_any _ _ _ i64_zero ha).mono ?_; rintro e w' ⟨rfl, rfl⟩)
  go_ret
  exact ⟨rfl, rfl⟩

set_option maxHeartbeats 400000 in
theorem size_any (a : Int) (w : World) (ha : I64 a) :
    Calls Tryd.prog 50 #[.int .i64 a] w fun e w' => e = .returned (.int .u64 (a.natAbs : Int)) ∧ w = w' := by
  obtain ⟨a1, a2⟩ := ha
  go_enter Tryd.func50, Tryd.ntmps50
  go_wp2
  all_goals
    go_ret
    refine ⟨ret_int ?_, rfl⟩
    try simp only [IntKind.wrap_u64] at *
    omega

theorem i64_end (b : Bool) : I64 (endOf b) := by cases b <;> (unfold I64 endOf; decide)

def roomOf (b : Bool) : Nat := if b = true then 9223372036854775808 else 9223372036854775807

set_option maxHeartbeats 400000 in
theorem room_any (b : Bool) (w : World) : Calls Tryd.prog 43 #[.bool b] w fun e w' => e = .returned (.int .u64 (roomOf b : Int)) ∧ w = w' := by
  cases b
  all_goals
    go_enter Tryd.func43, Tryd.ntmps43
    go_wp2_with (first | (go_at_call 45; refine (end_any _ _).mono ?_; rintro e w' ⟨rfl, rfl⟩) | (go_at_call 50; refine (size_any _ _ (i64_end _)).mono ?_; rintro e w' ⟨rfl, rfl⟩))
    go_ret
    exact ⟨rfl, rfl⟩

def signedOf (n : Nat) (b : Bool) : Int := if b = true then -(n : Int) else n

set_option maxHeartbeats 400000 in
theorem signed_any (n : Nat) (b : Bool) (w : World) (hn : n ≤ roomOf b) :
    Calls Tryd.prog 44 #[.int .u64 n, .bool b] w fun e w' => e = .returned (.int .i64 (signedOf n b)) ∧ w = w' := by
  cases b
  all_goals
    have hn' := hn
    simp [roomOf] at hn'
    clear hn
    go_enter Tryd.func44, Tryd.ntmps44
    go_wp2
    go_ret
    refine ⟨ret_int ?_, rfl⟩
    (simp only [signedOf, wrap64, IntKind.wrap_u64] at *) <;> (try simp) <;> (try omega)
end Go.Proofs.YtkhbgmdjfkkkcaaDoor
