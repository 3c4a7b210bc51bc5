/- The walk of WholeReads: it answers true for every text and every number, where the table of powers of ten reads as it was laid. -/
import Derived.Test.YtkhbgmdjfkkkcaaDoorWBack
import Derived.Test.YtkhbgmdjfkkkcaaDoorRef5
namespace Go.Proofs.YtkhbgmdjfkkkcaaDoor
open Go.RowKit

theorem refRead_is {s : ByteArray} {m e0 : Int} (H : Hid (readV s.data.toList = (m, e0))) (hs : s.size ≤ 9223372036854775807) (w : World) :
    Calls Tryd.prog 31 #[.string s] w fun e w' => e = .returned (.tuple #[.int .i64 m, .int .i64 e0]) ∧ Below w.heap.size w w' :=
  (refRead_any s w hs).mono fun e w' ⟨he, hw⟩ => ⟨by rw [he, H.out], hw⟩
theorem text_is {a : Int} {t : ByteArray} (H : Hid ((⟨(Lib.itoa a).toArray⟩ : ByteArray) = t)) (ha : I64 a) (w : World) (ht : TabOK w) :
    Calls Tryd.prog 32 #[.int .i64 a] w fun e w' => e = .returned (.string t) ∧ Below w.heap.size w w' :=
  (text_any a w ha ht).mono fun e w' ⟨he, hw⟩ => ⟨by rw [he, H.out], hw⟩
theorem refText_is {a : Int} {t : ByteArray} (H : Hid ((⟨(Lib.itoa a).toArray⟩ : ByteArray) = t)) (ha : I64 a) (w : World) :
    Calls Tryd.prog 33 #[.int .i64 a] w fun e w' => e = .returned (.string t) ∧ Below w.heap.size w w' :=
  (refText_any a w ha).mono fun e w' ⟨he, hw⟩ => ⟨by rw [he, H.out], hw⟩

set_option maxHeartbeats 1000000 in
theorem wholeReads_walk (a0 : ByteArray) (a1 : Int) (w : World) (h0 : a0.size ≤ 140737488351232) (h1 : I64 a1) (hT : TabOK w) :
    Calls Tryd.prog 6 #[.string a0, .int .i64 a1] w fun e w' => e = .returned (.bool true) ∧ Below w.heap.size w w' := by
  have hs : a0.size ≤ 9223372036854775807 := by omega
  have hk := Below.refl w.heap.size w
  obtain ⟨m, e0, hr⟩ : ∃ m e0, readV a0.data.toList = (m, e0) := ⟨_, _, rfl⟩
  have HR := Lib.hid hr
  clear hr
  obtain ⟨t, ht⟩ := exHid (⟨(Lib.itoa a1).toArray⟩ : ByteArray)
  by_cases h2 : 2000 < a0.size
  all_goals
    go_enter Tryd.func6, Tryd.ntmps6
    go_wp2_with (first
      | (go_at_call 16; refine (awake_any _ hT).mono ?_; rintro e w' ⟨rfl, hb⟩; have hk : Below w.heap.size w _ := below_next (by go_grown) hb; have hT2 := hT.below hk)
      | ((with_reducible refine (read_is HR hs _).mono ?_); rintro e w' ⟨rfl, rfl⟩)
      | ((with_reducible refine (refRead_is HR hs _).mono ?_); rintro e w' ⟨rfl, hb⟩; have hk : Below w.heap.size w _ := below_next (by go_grown) hb; have hT3 := hT.below hk)
      | ((with_reducible refine (text_is ht h1 _ (by assumption)).mono ?_); rintro e w' ⟨rfl, hb⟩; have hk : Below w.heap.size w _ := below_next (by go_grown) hb)
      | ((with_reducible refine (refText_is ht h1 _).mono ?_); rintro e w' ⟨rfl, hb⟩; have hk : Below w.heap.size w _ := below_next (by go_grown) hb))
    go_ret
    exact ⟨rfl, by assumption⟩
end Go.Proofs.YtkhbgmdjfkkkcaaDoor
