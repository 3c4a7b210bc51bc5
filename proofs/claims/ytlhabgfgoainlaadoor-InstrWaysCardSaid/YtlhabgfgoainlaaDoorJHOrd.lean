/- The contract of heap.order at whole numbers, for every input. -/
import Derived.Test.YtlhabgfgoainlaaDoorJHCmp
namespace Go.Proofs.YtlhabgfgoainlaaDoor
open Go.RowKit

set_option maxHeartbeats 1000000 in
theorem order_any (k1 n1 v1 k2 n2 v2 : Int) (w : World) :
    Calls Tryd.prog 93 #[.agg #[.int .i64 k1, .int .i64 n1, .int .i64 v1], .agg #[.int .i64 k2, .int .i64 n2, .int .i64 v2]] w fun e w' => e = .returned (.int .i64 (ordI k1 n1 k2 n2)) ∧ Below w.heap.size w w' := by
  obtain ⟨c1, hc1⟩ := exHid (cmpI k1 k2)
  obtain ⟨c2, hc2⟩ := exHid (cmpI n1 n2)
  have C1 : ∀ w, Calls Tryd.prog 95 #[.int .i64 k1, .int .i64 k2] w fun e w' => e = .returned (.int .i64 c1) ∧ w = w' := fun w => by have := cmp64_any k1 k2 w; rw [hc1.out] at this; exact this
  have C2 : ∀ w, Calls Tryd.prog 96 #[.int .i64 n1, .int .i64 n2] w fun e w' => e = .returned (.int .i64 c2) ∧ w = w' := fun w => by have := cmpInt_any n1 n2 w; rw [hc2.out] at this; exact this
  replace C1 := Lib.hid C1
  replace C2 := Lib.hid C2
  go_enter Tryd.func93, Tryd.ntmps93
  go_wp2
  have f0 := (((Below.refl w.heap.size w).alloc (Nat.le_refl _) (Obj.cells #[Value.int IntKind.i64 k1, Value.int IntKind.i64 n1, Value.int IntKind.i64 v1] 139)).alloc (by simp) (Obj.cells #[Value.int IntKind.i64 k2, Value.int IntKind.i64 n2, Value.int IntKind.i64 v2] 139))
  have f1 : ((w.alloc (Obj.cells #[Value.int IntKind.i64 k1, Value.int IntKind.i64 n1, Value.int IntKind.i64 v1] 139)).alloc (Obj.cells #[Value.int IntKind.i64 k2, Value.int IntKind.i64 n2, Value.int IntKind.i64 v2] 139)).cell? ⟨w.heap.size, 0, none⟩ = some (.int .i64 k1) := by simp
  have f2 : ((w.alloc (Obj.cells #[Value.int IntKind.i64 k1, Value.int IntKind.i64 n1, Value.int IntKind.i64 v1] 139)).alloc (Obj.cells #[Value.int IntKind.i64 k2, Value.int IntKind.i64 n2, Value.int IntKind.i64 v2] 139)).cell? ⟨w.heap.size, 1, none⟩ = some (.int .i64 n1) := by simp
  have f3 : ((w.alloc (Obj.cells #[Value.int IntKind.i64 k1, Value.int IntKind.i64 n1, Value.int IntKind.i64 v1] 139)).alloc (Obj.cells #[Value.int IntKind.i64 k2, Value.int IntKind.i64 n2, Value.int IntKind.i64 v2] 139)).cell? ⟨w.heap.size + 1, 0, none⟩ = some (.int .i64 k2) := by simp
  have f4 : ((w.alloc (Obj.cells #[Value.int IntKind.i64 k1, Value.int IntKind.i64 n1, Value.int IntKind.i64 v1] 139)).alloc (Obj.cells #[Value.int IntKind.i64 k2, Value.int IntKind.i64 n2, Value.int IntKind.i64 v2] 139)).cell? ⟨w.heap.size + 1, 1, none⟩ = some (.int .i64 n2) := by simp
  go_region_held3 (fun w' => w'.cell? ⟨w.heap.size, 0, none⟩ = some (.int .i64 k1) ∧ w'.cell? ⟨w.heap.size, 1, none⟩ = some (.int .i64 n1) ∧ w'.cell? ⟨w.heap.size + 1, 0, none⟩ = some (.int .i64 k2) ∧ w'.cell? ⟨w.heap.size + 1, 1, none⟩ = some (.int .i64 n2))
    (first
      | exact ⟨f1, f2, f3, f4⟩
      | go_keep)
    (first
    | (go_at_call 95; refine (C1.out _).mono ?_; rintro e w' ⟨rfl, rfl⟩)
    | (go_at_call 96; refine (C2.out _).mono ?_; rintro e w' ⟨rfl, rfl⟩)
    | (go_at_call 94; refine (or2_any _ c1 c2 _ (by first | exact cell_top (by simp) rfl | exact cell_top_drew (by simp) rfl) (by first | exact cell_top (by simp) rfl | exact cell_top_drew (by simp) rfl)).mono ?_; rintro e w' ⟨rfl, rfl⟩))
  all_goals
    go_wp2
    go_ret
    refine ⟨ret_int (by show _ = orI (cmpI k1 k2) (cmpI n1 n2); rw [hc1.out, hc2.out]), by go_grown⟩
end Go.Proofs.YtlhabgfgoainlaaDoor
