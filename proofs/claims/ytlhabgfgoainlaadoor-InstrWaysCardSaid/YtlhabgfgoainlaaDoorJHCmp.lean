/- Contracts of cmp.Compare, cmp.Or at the instances that the heap uses, for every input. -/
import Derived.Test.YtlhabgfgoainlaaDoorJNum
import Derived.Test.YtlhabgfgoainlaaDoorRows
import Derived.WalkKit
import Derived.WalkSpells
import Derived.WalkLawsBesides
import Derived.Handy
import Derived.Deep.RegionHeld3
namespace Go.Proofs.YtlhabgfgoainlaaDoor
open Go.RowKit

set_option maxHeartbeats 400000 in
theorem nan64_any (a : Int) (w : World) :
    Calls Tryd.prog 97 #[.int .i64 a] w fun e w' => e = .returned (.bool false) ∧ w = w' := by
  go_enter Tryd.func97, Tryd.ntmps97
  go_wp2
  go_ret
  exact ⟨by simp, rfl⟩
set_option maxHeartbeats 400000 in
theorem nanI_any (a : Int) (w : World) :
    Calls Tryd.prog 98 #[.int .i64 a] w fun e w' => e = .returned (.bool false) ∧ w = w' := by
  go_enter Tryd.func98, Tryd.ntmps98
  go_wp2
  go_ret
  exact ⟨by simp, rfl⟩

set_option maxHeartbeats 400000 in
theorem cmp64_any (a b : Int) (w : World) :
    Calls Tryd.prog 95 #[.int .i64 a, .int .i64 b] w fun e w' => e = .returned (.int .i64 (cmpI a b)) ∧ w = w' := by
  go_enter Tryd.func95, Tryd.ntmps95
  go_wp2_with (first
    | ((with_reducible refine (nan64_any _ _).mono ?_); rintro e w' ⟨rfl, rfl⟩))
  all_goals
    go_ret
    refine ⟨ret_int ?_, rfl⟩
    unfold cmpI
    (repeat' split) <;> first | rfl | omega
set_option maxHeartbeats 400000 in
theorem cmpInt_any (a b : Int) (w : World) :
    Calls Tryd.prog 96 #[.int .i64 a, .int .i64 b] w fun e w' => e = .returned (.int .i64 (cmpI a b)) ∧ w = w' := by
  go_enter Tryd.func96, Tryd.ntmps96
  go_wp2_with (first
    | ((with_reducible refine (nanI_any _ _).mono ?_); rintro e w' ⟨rfl, rfl⟩))
  all_goals
    go_ret
    refine ⟨ret_int ?_, rfl⟩
    unfold cmpI
    (repeat' split) <;> first | rfl | omega

set_option maxHeartbeats 400000 in
theorem or2_any (g : Nat) (a b : Int) (w : World) (h0 : w.cell? ⟨g, 0, none⟩ = some (.int .i64 a)) (h1 : w.cell? ⟨g, 1, none⟩ = some (.int .i64 b)) :
    Calls Tryd.prog 94 #[.slice (some ⟨g, 0, none⟩) 2 2] w fun e w' => e = .returned (.int .i64 (orI a b)) ∧ w = w' := by
  by_cases ha : a = 0
  · subst ha
    by_cases hb : b = 0
    · subst hb
      go_enter Tryd.func94, Tryd.ntmps94
      go_wp2
      go_rounds 3
      go_ret
      exact ⟨rfl, rfl⟩
    · have xb : (b != 0) = true := by simp [hb]
      go_enter Tryd.func94, Tryd.ntmps94
      go_wp2
      go_rounds 2
      go_ret
      exact ⟨rfl, rfl⟩
  · have xa : (a != 0) = true := by simp [ha]
    have e : orI a b = a := by unfold orI; rw [if_neg ha]
    replace e := Lib.hid e
    go_enter Tryd.func94, Tryd.ntmps94
    go_wp2
    go_rounds 1
    go_ret
    exact ⟨ret_int e.out.symm, rfl⟩
end Go.Proofs.YtlhabgfgoainlaaDoor
