/- The walk of WholeRises: it answers true for every three numbers, where the table of powers of ten reads as it was laid. -/
import Derived.Test.YtkhbgmdjfkkkcaaDoorWhole3
namespace Go.Proofs.YtkhbgmdjfkkkcaaDoor
open Go.RowKit

set_option maxHeartbeats 1000000 in
theorem wholeRises_walk (a0 a1 a2 : Int) (w : World) (h0 : I64 a0) (h1 : I64 a1) (h2 : I64 a2) (hT : TabOK w) :
    Calls Tryd.prog 9 #[.int .i64 a0, .int .i64 a1, .int .i64 a2] w fun e w' => e = .returned (.bool true) ∧ Below w.heap.size w w' := by
  obtain ⟨s, hs⟩ := exHid (held (a0 + a1))
  have hs' : Hid (held (a1 + a0) = s) := by rw [Int.add_comm]; exact hs
  obtain ⟨p, hp⟩ := exHid (held (a0 * a1))
  have hp' : Hid (held (a1 * a0) = p) := by rw [Int.mul_comm]; exact hp
  obtain ⟨sa, hsa⟩ := exHid (held (a0 + a2))
  obtain ⟨sb, hsb⟩ := exHid (held (a1 + a2))
  obtain ⟨da, hda⟩ := exHid (held (a0 - a2))
  obtain ⟨db, hdb⟩ := exHid (held (a1 - a2))
  obtain ⟨pa, hpa⟩ := exHid (held (a0 * a2))
  obtain ⟨pb, hpb⟩ := exHid (held (a1 * a2))
  have hsI : I64 s := by rw [← hs.out]; exact held_range _
  obtain ⟨u, hu⟩ := exHid (held (s - a1))
  obtain ⟨v, hv⟩ := exHid (held (s - a0))
  have key : ∀ f : Prop, f = f → True := fun _ _ => trivial
  clear key
  have hend : s = 9223372036854775807 ∨ s = -9223372036854775808 ∨ (u = a0 ∧ v = a1) := by
    rw [← hu.out, ← hv.out, ← hs.out]
    obtain ⟨l0, r0⟩ := h0
    obtain ⟨l1, r1⟩ := h1
    by_cases e1 : a0 + a1 < -9223372036854775808
    · rw [held_lo e1]; omega
    · by_cases e2 : 9223372036854775807 < a0 + a1
      · rw [held_hi e2]; omega
      · rw [held_in (by omega) (by omega)]
        right; right
        rw [held_in (by omega) (by omega), held_in (by omega) (by omega)]
        omega
  have huv : s = 9223372036854775807 ∨ (¬ s = 9223372036854775807 ∧ s = -9223372036854775808) ∨ (¬ s = 9223372036854775807 ∧ ¬ s = -9223372036854775808 ∧ u = a0 ∧ v = a1) := by omega
  have hcase : (a0 ≤ a1 ∧ 0 ≤ a2 ∧ sa ≤ sb ∧ da ≤ db ∧ pa ≤ pb) ∨ (a0 ≤ a1 ∧ a2 < 0 ∧ sa ≤ sb ∧ da ≤ db) ∨ a1 < a0 := by
    rw [← hsa.out, ← hsb.out, ← hda.out, ← hdb.out, ← hpa.out, ← hpb.out]
    by_cases h : a0 ≤ a1
    · have t1 : held (a0 + a2) ≤ held (a1 + a2) := held_mono (by omega)
      have t2 : held (a0 - a2) ≤ held (a1 - a2) := held_mono (by omega)
      by_cases hc : 0 ≤ a2
      · exact .inl ⟨h, hc, t1, t2, held_mono (Int.mul_le_mul_of_nonneg_right h hc)⟩
      · exact .inr (.inl ⟨h, by omega, t1, t2⟩)
    · exact .inr (.inr (by omega))
  clear hend
  rcases hcase with ⟨q1, q2, q3, q4, q5⟩ | ⟨q1, q2, q3, q4⟩ | q1 <;> rcases huv with rfl | ⟨n1, rfl⟩ | ⟨n1, n2, hu0, hv0⟩
  all_goals (try rw [hu0] at hu)
  all_goals (try rw [hv0] at hv)
  all_goals (try clear hu0 hv0)
  all_goals
    go_enter Tryd.func9, Tryd.ntmps9
    go_wp2_with (first
      | (go_at_call 16; refine (awake_any _ hT).mono ?_; rintro e w' ⟨rfl, hb⟩)
      | ((with_reducible refine (add_is hs (by assumption) (by assumption) _).mono ?_); rintro e w' ⟨rfl, rfl⟩)
      | ((with_reducible refine (add_is hs' (by assumption) (by assumption) _).mono ?_); rintro e w' ⟨rfl, rfl⟩)
      | ((with_reducible refine (add_is hsa (by assumption) (by assumption) _).mono ?_); rintro e w' ⟨rfl, rfl⟩)
      | ((with_reducible refine (add_is hsb (by assumption) (by assumption) _).mono ?_); rintro e w' ⟨rfl, rfl⟩)
      | ((with_reducible refine (sub_is hda (by assumption) (by assumption) _).mono ?_); rintro e w' ⟨rfl, rfl⟩)
      | ((with_reducible refine (sub_is hdb (by assumption) (by assumption) _).mono ?_); rintro e w' ⟨rfl, rfl⟩)
      | ((with_reducible refine (sub_is hu (by assumption) (by assumption) _).mono ?_); rintro e w' ⟨rfl, rfl⟩)
      | ((with_reducible refine (sub_is hv (by assumption) (by assumption) _).mono ?_); rintro e w' ⟨rfl, rfl⟩)
      | ((with_reducible refine (mul_is hp (by assumption) (by assumption) _).mono ?_); rintro e w' ⟨rfl, rfl⟩)
      | ((with_reducible refine (mul_is hp' (by assumption) (by assumption) _).mono ?_); rintro e w' ⟨rfl, rfl⟩)
      | ((with_reducible refine (mul_is hpa (by assumption) (by assumption) _).mono ?_); rintro e w' ⟨rfl, rfl⟩)
      | ((with_reducible refine (mul_is hpb (by assumption) (by assumption) _).mono ?_); rintro e w' ⟨rfl, rfl⟩))
    all_goals
      go_ret
      exact ⟨rfl, by assumption⟩
end Go.Proofs.YtkhbgmdjfkkkcaaDoor
