/- The walk of WholeBack: it answers true for every number and every text, where the table of powers of ten reads as it was laid. -/
import Derived.Test.YtkhbgmdjfkkkcaaDoorWhole3
import Derived.Test.YtkhbgmdjfkkkcaaDoorRead2
namespace Go.Proofs.YtkhbgmdjfkkkcaaDoor
open Go.RowKit

theorem bytes_of_list (l : List UInt8) : (⟨l.toArray⟩ : ByteArray).data.toList = l := by simp
theorem bytes_back (s : ByteArray) : (⟨s.data.toList.toArray⟩ : ByteArray) = s := by simp

theorem read_of_text (a : Int) (ha : I64 a) (w : World) :
    Calls Tryd.prog 13 #[.string ⟨(Lib.itoa a).toArray⟩] w fun e w' => e = .returned (.tuple #[.int .i64 a, .int .i64 0]) ∧ w = w' :=
  (read_any ⟨(Lib.itoa a).toArray⟩ w (by
      have := Lib.itoa_length_le a ha.1 ha.2
      rw [← bytes_len, bytes_of_list]; omega)).mono fun e w' ⟨he, hw⟩ => by
    rw [bytes_of_list, read_text a ha] at he
    exact ⟨he, hw⟩

theorem read_is {s : ByteArray} {m e0 : Int} (H : Hid (readV s.data.toList = (m, e0))) (hs : s.size ≤ 9223372036854775807) (w : World) :
    Calls Tryd.prog 13 #[.string s] w fun e w' => e = .returned (.tuple #[.int .i64 m, .int .i64 e0]) ∧ w = w' :=
  (read_any s w hs).mono fun e w' ⟨he, hw⟩ => ⟨by rw [he, H.out], hw⟩

theorem text_back {s : ByteArray} {m : Int} (H : Hid (Lib.itoa m = s.data.toList)) (hm : I64 m) (w : World) (ht : TabOK w) :
    Calls Tryd.prog 32 #[.int .i64 m] w fun e w' => e = .returned (.string s) ∧ Below w.heap.size w w' :=
  (text_any m w hm ht).mono fun e w' ⟨he, hw⟩ => ⟨by rw [he, H.out, bytes_back], hw⟩

set_option maxHeartbeats 1000000 in
theorem wholeBack_walk (a0 : Int) (a1 : ByteArray) (w : World) (h0 : I64 a0) (h1 : a1.size ≤ 140737488351232) (hT : TabOK w) :
    Calls Tryd.prog 8 #[.int .i64 a0, .string a1] w fun e w' => e = .returned (.bool true) ∧ Below w.heap.size w w' := by
  have hs : a1.size ≤ 9223372036854775807 := by omega
  have hk := Below.refl w.heap.size w
  obtain ⟨m, e0, hr⟩ : ∃ m e0, readV a1.data.toList = (m, e0) := ⟨_, _, rfl⟩
  have HR := Lib.hid hr
  by_cases h2 : 2000 < a1.size
  · go_enter Tryd.func8, Tryd.ntmps8
    go_wp2_with (first
      | (go_at_call 16; refine (awake_any _ hT).mono ?_; rintro e w' ⟨rfl, hb⟩; have hk : Below w.heap.size w _ := below_next (by go_grown) hb; have hT2 := hT.below hk)
      | ((with_reducible refine (text_any _ _ h0 (by assumption)).mono ?_); rintro e w' ⟨rfl, hb⟩; have hk : Below w.heap.size w _ := below_next (by go_grown) hb)
      | ((with_reducible refine (read_of_text _ h0 _).mono ?_); rintro e w' ⟨rfl, rfl⟩))
    go_ret
    exact ⟨rfl, by assumption⟩
  · by_cases he : e0 = 0
    · have ht := text_read a1.data.toList (by rw [hr]; exact he)
      rw [hr] at ht
      obtain ⟨ht1, ht2⟩ := ht
      replace ht1 := Lib.hid ht1
      subst he
      clear hr
      go_enter Tryd.func8, Tryd.ntmps8
      go_wp2_with (first
        | (go_at_call 16; refine (awake_any _ hT).mono ?_; rintro e w' ⟨rfl, hb⟩; have hk : Below w.heap.size w _ := below_next (by go_grown) hb; have hT2 := hT.below hk)
        | ((with_reducible refine (text_any _ _ h0 (by assumption)).mono ?_); rintro e w' ⟨rfl, hb⟩; have hk : Below w.heap.size w _ := below_next (by go_grown) hb; have hT3 := hT.below hk)
        | ((with_reducible refine (read_of_text _ h0 _).mono ?_); rintro e w' ⟨rfl, rfl⟩)
        | ((with_reducible refine (read_is HR hs _).mono ?_); rintro e w' ⟨rfl, rfl⟩)
        | ((with_reducible refine (text_back ht1 ht2 _ (by assumption)).mono ?_); rintro e w' ⟨rfl, hb⟩; have hk : Below w.heap.size w _ := below_next (by go_grown) hb))
      go_ret
      exact ⟨rfl, by assumption⟩
    · have ht := read_wrong a1.data.toList (by rw [hr]; exact he)
      have hlg := long_read a1.data.toList
      rw [hr] at ht hlg
      rw [bytes_len] at hlg
      obtain ⟨hm0, hcase⟩ := ht
      simp only at hm0 hcase hlg
      subst hm0
      have hcase2 : e0 = 9 ∨ (e0 = 2 ∧ 18 < a1.size) := by omega
      clear hr he hlg hcase
      rcases hcase2 with rfl | ⟨rfl, hlong⟩
      all_goals
        go_enter Tryd.func8, Tryd.ntmps8
        go_wp2_with (first
          | (go_at_call 16; refine (awake_any _ hT).mono ?_; rintro e w' ⟨rfl, hb⟩; have hk : Below w.heap.size w _ := below_next (by go_grown) hb; have hT2 := hT.below hk)
          | ((with_reducible refine (text_any _ _ h0 (by assumption)).mono ?_); rintro e w' ⟨rfl, hb⟩; have hk : Below w.heap.size w _ := below_next (by go_grown) hb)
          | ((with_reducible refine (read_of_text _ h0 _).mono ?_); rintro e w' ⟨rfl, rfl⟩)
          | ((with_reducible refine (read_is HR hs _).mono ?_); rintro e w' ⟨rfl, rfl⟩))
        go_ret
        refine ⟨ret_bool ?_, by assumption⟩
        first
          | rfl
          | exact decide_eq_true (by omega)
end Go.Proofs.YtkhbgmdjfkkkcaaDoor
