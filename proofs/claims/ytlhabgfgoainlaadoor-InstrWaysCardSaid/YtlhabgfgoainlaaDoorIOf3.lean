/- The document's Of where late is asked (layer 14), walked. No condition. -/
import Derived.Test.YtlhabgfgoainlaaDoorIOf
import Derived.BigQuiet
import Derived.Laws.Rows
namespace Go.Proofs.YtlhabgfgoainlaaDoor
open Go.RowKit

theorem set7 {w : World} {b : Nat} {t : TypeId} {x0 x1 x2 x3 x4 x5 x6 : Value} (h : w.heap[b]? = some (.cells #[x0, x1, x2, x3, x4, x5, x6] t (0, 0))) (v0 v1 v2 v3 v4 v5 v6 : Value) : (((((((w.setCell ⟨b, 0, none⟩ v0).setCell ⟨b, 1, none⟩ v1).setCell ⟨b, 2, none⟩ v2).setCell ⟨b, 3, none⟩ v3).setCell ⟨b, 4, none⟩ v4).setCell ⟨b, 5, none⟩ v5).setCell ⟨b, 6, none⟩ v6).heap[b]? = some (.cells #[v0, v1, v2, v3, v4, v5, v6] t (0, 0)) := by
  have h1 := heap_setCell_same _ _ 0 _ _ v0 h
  have h2 := heap_setCell_same _ _ 1 _ _ v1 h1
  have h3 := heap_setCell_same _ _ 2 _ _ v2 h2
  have h4 := heap_setCell_same _ _ 3 _ _ v3 h3
  have h5 := heap_setCell_same _ _ 4 _ _ v4 h4
  have h6 := heap_setCell_same _ _ 5 _ _ v5 h5
  have h7 := heap_setCell_same _ _ 6 _ _ v6 h6
  simpa using h7
theorem row_parts (op : Nat) : ∃ (s : ByteArray) (k t l : Int) (b1 b2 b3 : Bool), rowV op = .agg #[.string s, .int .i64 k, .bool b1, .bool b2, .bool b3, .int .i64 t, .int .i64 l] := ⟨_, _, _, _, _, _, _, rfl⟩
set_option maxRecDepth 20000 in
set_option maxHeartbeats 1000000 in
theorem Of_late (op : Nat) (h : op ∉ [1, 2, 3, 4, 5, 6, 8, 9, 10, 20, 21, 22, 23, 24, 25, 26, 27, 28, 32, 33, 34, 35, 36, 37, 38, 39, 40, 41, 42, 43, 44, 45, 46, 47, 48]) (w : World) : Calls Tryd.prog 17 #[.int .u8 op] w fun e w' => e = .returned (rowV op) ∧ Below w.heap.size w w' := by
  have L := fun (W : World) => late_any op h W
  obtain ⟨rs, rk, rt, rl, rb1, rb2, rb3, hrow⟩ := row_parts op
  rw [hrow] at L ⊢
  replace hrow := Lib.hid hrow
  replace L := Lib.hid L
  simp only [List.mem_cons, List.not_mem_nil, or_false, not_or] at h
  have t1 : ((op : Int) == 1) = false := beq_eq_false_iff_ne.2 (by omega)
  have t2 : ((op : Int) == 2) = false := beq_eq_false_iff_ne.2 (by omega)
  have t3 : ((op : Int) == 3) = false := beq_eq_false_iff_ne.2 (by omega)
  have t4 : ((op : Int) == 4) = false := beq_eq_false_iff_ne.2 (by omega)
  have t5 : ((op : Int) == 5) = false := beq_eq_false_iff_ne.2 (by omega)
  have t6 : ((op : Int) == 6) = false := beq_eq_false_iff_ne.2 (by omega)
  have t8 : ((op : Int) == 8) = false := beq_eq_false_iff_ne.2 (by omega)
  have t9 : ((op : Int) == 9) = false := beq_eq_false_iff_ne.2 (by omega)
  have t10 : ((op : Int) == 10) = false := beq_eq_false_iff_ne.2 (by omega)
  have t20 : ((op : Int) == 20) = false := beq_eq_false_iff_ne.2 (by omega)
  have t21 : ((op : Int) == 21) = false := beq_eq_false_iff_ne.2 (by omega)
  have t22 : ((op : Int) == 22) = false := beq_eq_false_iff_ne.2 (by omega)
  have t23 : ((op : Int) == 23) = false := beq_eq_false_iff_ne.2 (by omega)
  have t24 : ((op : Int) == 24) = false := beq_eq_false_iff_ne.2 (by omega)
  have t25 : ((op : Int) == 25) = false := beq_eq_false_iff_ne.2 (by omega)
  have t26 : ((op : Int) == 26) = false := beq_eq_false_iff_ne.2 (by omega)
  have t27 : ((op : Int) == 27) = false := beq_eq_false_iff_ne.2 (by omega)
  have t28 : ((op : Int) == 28) = false := beq_eq_false_iff_ne.2 (by omega)
  rcases Nat.lt_or_ge op 32 with h3 | h3
  · have a0 : ¬ (32 : Int) ≤ op := by omega
    have a1 : ¬ (43 : Int) ≤ op := by omega
    replace h := Lib.hid h
    go_enter Tryd.func17, Tryd.ntmps17
    go_wp2_with (go_at_call 29; refine (L.out _).mono ?_; rintro e w1 ⟨rfl, hb⟩; have hk : Below w.heap.size w w1 := below_next (by go_grown) hb; have hz := hk.size; have hB := Lib.hid ((hb.block w.heap.size (by simp)).trans (heap_alloc_new w _)); have fz : ∀ j, w1.frozen? ⟨w.heap.size, j, none⟩ = false := (fun j => by simp [World.frozen?, hB.out]); have z0 := (hb.cell (p := ⟨w.heap.size, 0, none⟩) (by simp)).trans (World.cell?_alloc_new ..); have z1 := (hb.cell (p := ⟨w.heap.size, 1, none⟩) (by simp)).trans (World.cell?_alloc_new ..); have z2 := (hb.cell (p := ⟨w.heap.size, 2, none⟩) (by simp)).trans (World.cell?_alloc_new ..); have z3 := (hb.cell (p := ⟨w.heap.size, 3, none⟩) (by simp)).trans (World.cell?_alloc_new ..); have z4 := (hb.cell (p := ⟨w.heap.size, 4, none⟩) (by simp)).trans (World.cell?_alloc_new ..); have z5 := (hb.cell (p := ⟨w.heap.size, 5, none⟩) (by simp)).trans (World.cell?_alloc_new ..); have z6 := (hb.cell (p := ⟨w.heap.size, 6, none⟩) (by simp)).trans (World.cell?_alloc_new ..); simp only [List.getElem?_toArray, List.getElem?_cons_zero, List.getElem?_cons_succ] at z0 z1 z2 z3 z4 z5 z6; replace hb := Lib.hid hb)
    refine bodyPost_ret (results_cell_row rfl _ _ w.heap.size _ _ (0, 0) _ rfl (set7 hB.out _ _ _ _ _ _ _) Tryd.underlying47 rfl (by kernel_rfl)) rfl ⟨rfl, by go_grown⟩
  · have a0 : (32 : Int) ≤ op := by omega
    have a1 : (43 : Int) ≤ op := by omega
    have a2 : ¬ (op : Int) ≤ 42 := by omega
    have a3 : ¬ (op : Int) ≤ 48 := by omega
    replace h := Lib.hid h
    go_enter Tryd.func17, Tryd.ntmps17
    go_wp2_with (go_at_call 29; refine (L.out _).mono ?_; rintro e w1 ⟨rfl, hb⟩; have hk : Below w.heap.size w w1 := below_next (by go_grown) hb; have hz := hk.size; have hB := Lib.hid ((hb.block w.heap.size (by simp)).trans (heap_alloc_new w _)); have fz : ∀ j, w1.frozen? ⟨w.heap.size, j, none⟩ = false := (fun j => by simp [World.frozen?, hB.out]); have z0 := (hb.cell (p := ⟨w.heap.size, 0, none⟩) (by simp)).trans (World.cell?_alloc_new ..); have z1 := (hb.cell (p := ⟨w.heap.size, 1, none⟩) (by simp)).trans (World.cell?_alloc_new ..); have z2 := (hb.cell (p := ⟨w.heap.size, 2, none⟩) (by simp)).trans (World.cell?_alloc_new ..); have z3 := (hb.cell (p := ⟨w.heap.size, 3, none⟩) (by simp)).trans (World.cell?_alloc_new ..); have z4 := (hb.cell (p := ⟨w.heap.size, 4, none⟩) (by simp)).trans (World.cell?_alloc_new ..); have z5 := (hb.cell (p := ⟨w.heap.size, 5, none⟩) (by simp)).trans (World.cell?_alloc_new ..); have z6 := (hb.cell (p := ⟨w.heap.size, 6, none⟩) (by simp)).trans (World.cell?_alloc_new ..); simp only [List.getElem?_toArray, List.getElem?_cons_zero, List.getElem?_cons_succ] at z0 z1 z2 z3 z4 z5 z6; replace hb := Lib.hid hb)
    refine bodyPost_ret (results_cell_row rfl _ _ w.heap.size _ _ (0, 0) _ rfl (set7 hB.out _ _ _ _ _ _ _) Tryd.underlying47 rfl (by kernel_rfl)) rfl ⟨rfl, by go_grown⟩
end Go.Proofs.YtlhabgfgoainlaaDoor
