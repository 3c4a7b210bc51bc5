/- The contracts of slices.Clone, slices.SortFunc at a heap's things, and of a heap's inOrder. -/
import Derived.Test.YtabcifaknckomaaShelfG
import Derived.Test.YtabcifaknckomaaHHp2
import Derived.Test.YtabcifaknckomaaHDead
import Derived.Shelf.SlSortCmp.NoneTotal
namespace Go.Proofs.Ytabcifaknckomaa.HI
open Go.RowKit Go.Sort

set_option maxHeartbeats 1000000 in
theorem order_grow (k1 n1 v1 k2 n2 v2 : Int) (w : World) :
    Calls Try.prog 51 #[.agg #[.int .i64 k1, .int .i64 n1, .int .i64 v1], .agg #[.int .i64 k2, .int .i64 n2, .int .i64 v2]] w fun e w' => e = .returned (.int .i64 (ordI k1 n1 k2 n2)) ∧ ∃ q os, w' = grow (w.drewN q) os := by
  obtain ⟨c1, hc1⟩ := exHid (cmpI k1 k2)
  obtain ⟨c2, hc2⟩ := exHid (cmpI n1 n2)
  have C1 : ∀ w, Calls Try.prog 58 #[.int .i64 k1, .int .i64 k2] w fun e w' => e = .returned (.int .i64 c1) ∧ w = w' := fun w => by have := cmp64_any k1 k2 w; rw [hc1.out] at this; exact this
  have C2 : ∀ w, Calls Try.prog 59 #[.int .i64 n1, .int .i64 n2] w fun e w' => e = .returned (.int .i64 c2) ∧ w = w' := fun w => by have := cmpInt_any n1 n2 w; rw [hc2.out] at this; exact this
  replace C1 := Lib.hid C1
  replace C2 := Lib.hid C2
  go_enter Try.func51, Try.ntmps51
  go_wp2
  have f1 : ((w.alloc (Obj.cells #[Value.int IntKind.i64 k1, Value.int IntKind.i64 n1, Value.int IntKind.i64 v1] 65)).alloc (Obj.cells #[Value.int IntKind.i64 k2, Value.int IntKind.i64 n2, Value.int IntKind.i64 v2] 65)).cell? ⟨w.heap.size, 0, none⟩ = some (.int .i64 k1) := by simp
  have f2 : ((w.alloc (Obj.cells #[Value.int IntKind.i64 k1, Value.int IntKind.i64 n1, Value.int IntKind.i64 v1] 65)).alloc (Obj.cells #[Value.int IntKind.i64 k2, Value.int IntKind.i64 n2, Value.int IntKind.i64 v2] 65)).cell? ⟨w.heap.size, 1, none⟩ = some (.int .i64 n1) := by simp
  have f3 : ((w.alloc (Obj.cells #[Value.int IntKind.i64 k1, Value.int IntKind.i64 n1, Value.int IntKind.i64 v1] 65)).alloc (Obj.cells #[Value.int IntKind.i64 k2, Value.int IntKind.i64 n2, Value.int IntKind.i64 v2] 65)).cell? ⟨w.heap.size + 1, 0, none⟩ = some (.int .i64 k2) := by simp
  have f4 : ((w.alloc (Obj.cells #[Value.int IntKind.i64 k1, Value.int IntKind.i64 n1, Value.int IntKind.i64 v1] 65)).alloc (Obj.cells #[Value.int IntKind.i64 k2, Value.int IntKind.i64 n2, Value.int IntKind.i64 v2] 65)).cell? ⟨w.heap.size + 1, 1, none⟩ = some (.int .i64 n2) := by simp
  go_region_held3 (fun w' => w'.cell? ⟨w.heap.size, 0, none⟩ = some (.int .i64 k1) ∧ w'.cell? ⟨w.heap.size, 1, none⟩ = some (.int .i64 n1) ∧ w'.cell? ⟨w.heap.size + 1, 0, none⟩ = some (.int .i64 k2) ∧ w'.cell? ⟨w.heap.size + 1, 1, none⟩ = some (.int .i64 n2))
    (first
      | exact ⟨f1, f2, f3, f4⟩
      | go_keep)
    (first
    | (go_at_call 58; refine (C1.out _).mono ?_; rintro e w' ⟨rfl, rfl⟩)
    | (go_at_call 59; refine (C2.out _).mono ?_; rintro e w' ⟨rfl, rfl⟩)
    | (go_at_call 57; refine (or2_any _ c1 c2 _ (by first | exact cell_top (by simp) rfl | exact cell_top_drew (by simp) rfl) (by first | exact cell_top (by simp) rfl | exact cell_top_drew (by simp) rfl)).mono ?_; rintro e w' ⟨rfl, rfl⟩))
  all_goals
    go_wp2
    go_ret
    refine ⟨ret_int (by show _ = orI (cmpI k1 k2) (cmpI n1 n2); rw [hc1.out, hc2.out]), 1, #[Obj.cells #[Value.int IntKind.i64 k1, Value.int IntKind.i64 n1, Value.int IntKind.i64 v1] 65] ++ #[Obj.cells #[Value.int IntKind.i64 k2, Value.int IntKind.i64 n2, Value.int IntKind.i64 v2] 65] ++ #[Obj.cells #[Value.int IntKind.i64 c1, Value.int IntKind.i64 c2] 3], ?_⟩
    rw [alloc_eq_grow, alloc_eq_grow, alloc_eq_grow, grow_grow, grow_grow]
    rfl

/-- Which of two things comes first, as a number. -/
def ordT (x y : T) : Int := ordI x.key x.num y.key y.num
theorem ordT_lt (x y : T) : ltOf ordT x y = aheadB x y := rfl
theorem ordT_swo : SWO (ltOf ordT) where
  irrefl x := by rw [ordT_lt, aheadB_false]; unfold lt_ lexLt; omega
  trans x y z h1 h2 := by rw [ordT_lt, aheadB_iff] at *; unfold lt_ lexLt at *; omega
  ntrans x y z h1 h2 := by rw [ordT_lt, aheadB_false] at *; unfold lt_ lexLt at *; omega

/-- The cells of a list of things, flat. -/
theorem flat_row (d : List T) : (flatK enc 3 d.toArray).toList = rowOf enc d := by
  apply List.ext_getElem?
  intro t
  have hl : (flatK enc 3 d.toArray).toList.length = d.length * 3 := by simp
  have hr : (rowOf enc d).length = d.length * 3 := rowOf_length enc_len d
  by_cases ht : t < d.length * 3
  · have hq : t / 3 < d.length := by omega
    have e0 := rowOf_get enc_len d (t / 3) (t % 3) hq (by omega)
    rw [show t / 3 * 3 + t % 3 = t by omega] at e0
    rw [e0]
    have e1 := get_flatK enc 3 d.toArray t (by simpa using ht)
    rw [getElem!_pos _ t (by simpa using ht)] at e1
    rw [List.getElem?_eq_getElem (by rw [hl]; exact ht), Array.getElem_toList, e1]
    have e2 : d.toArray[t / 3]! = d[t / 3] := by rw [getElem!_pos _ _ (by simpa using hq)]; simp
    rw [e2, List.getElem?_eq_getElem (show t % 3 < (enc d[t / 3]).length by rw [enc_len]; omega), getElem!_pos]
  · rw [List.getElem?_eq_none (by omega), List.getElem?_eq_none (by omega)]
end Go.Proofs.Ytabcifaknckomaa.HI
