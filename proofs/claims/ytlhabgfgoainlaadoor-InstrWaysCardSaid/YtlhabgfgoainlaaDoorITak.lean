/- The document's Takes, Ends, Behind (layer 14), walked. No condition. -/
import Derived.Test.YtlhabgfgoainlaaDoorIOf2
import Derived.Test.YtlhabgfgoainlaaDoorIIn
import Derived.Test.YtlhabgfgoainlaaDoorIFld
import Derived.BigQuiet
import Derived.Deep.QuietTactic
import Derived.Deep.RegionHeld
import Derived.Deep.RegionHeld3
namespace Go.Proofs.YtlhabgfgoainlaaDoor
open Go.RowKit

theorem run_row_field1 (op : Nat) (w : World) : (Instr.field 47 (rowV op) 1).run Tryd.prog w = .ok (.int .i64 (akI op)) w := by kernel_rfl
theorem run_row_field6 (op : Nat) (w : World) : (Instr.field 47 (rowV op) 6).run Tryd.prog w = .ok (.int .i64 (leaveR op)) w := by kernel_rfl
set_option maxRecDepth 20000 in
set_option maxHeartbeats 1000000 in
theorem Takes_any (x : Ins) (w : World) : Calls Tryd.prog 14 #[insV x] w fun e w' => e = .returned (.int .i64 (takesI x)) ∧ Below w.heap.size w w' := by
  obtain ⟨op, a, num, tx⟩ := x
  have O := fun W => Of_any op W
  unfold rowV at O
  obtain ⟨tk, hT⟩ := exHid (takesI ⟨op, a, num, tx⟩)
  rw [hT.out]
  have hT' := hT.out
  unfold takesI at hT'
  dsimp only at hT'
  unfold insV
  dsimp only
  clear hT
  generalize wordI op = wd at *
  generalize (op == 23) = b1 at *
  generalize (op == 24) = b2 at *
  generalize nameI op = b3 at *
  generalize leaveR op = lv at *
  generalize takesR op = tr at *
  by_cases hk : akI op = 3
  · rw [if_pos hk] at hT'
    have e1 : ((akI op : Int) == 3) = true := by rw [hk]; rfl
    generalize (akI op : Int) = k at *
    replace hT' := Lib.hid hT'
    clear hk
    go_enter Tryd.func14, Tryd.ntmps14
    go_wp2_with (go_at_call 17; refine (O _).mono ?_; rintro e w1 ⟨rfl, hb⟩; have hk : Below w.heap.size w w1 := below_next (by go_grown) hb; have hz := hk.size; have k1 := fun o2 => Go.Proofs.YtlhabgfgoainlaaDoor.cell_kept hb o2 1; replace hb := Lib.hid hb; simp at k1)
    go_ret
    exact ⟨ret_int hT'.out, by go_grown⟩
  · rw [if_neg hk] at hT'
    have e1 : ((akI op : Int) == 3) = false := beq_eq_false_iff_ne.2 (by omega)
    generalize (akI op : Int) = k at *
    replace hT' := Lib.hid hT'
    clear hk
    go_enter Tryd.func14, Tryd.ntmps14
    go_wp2_with (go_at_call 17; refine (O _).mono ?_; rintro e w1 ⟨rfl, hb⟩; have hk : Below w.heap.size w w1 := below_next (by go_grown) hb; have hz := hk.size; have k1 := fun o2 => Go.Proofs.YtlhabgfgoainlaaDoor.cell_kept hb o2 1; replace hb := Lib.hid hb; simp at k1)
    go_ret
    exact ⟨ret_int hT'.out, by go_grown⟩
set_option maxRecDepth 20000 in
theorem Ends_any (op : Nat) (w : World) : Calls Tryd.prog 15 #[.int .u8 op] w fun e w' => e = .returned (.bool (endsI op)) ∧ w = w' := by
  have e1 : endsI op = (((op : Int) == 8) || ((op : Int) == 9) || ((op : Int) == 28)) := by
    unfold endsI
    rw [Bool.eq_iff_iff]
    simp only [Bool.or_eq_true, beq_iff_eq]
    omega
  rcases h1 : ((op : Int) == 8) with _ | _ <;> rcases h2 : ((op : Int) == 9) with _ | _ <;> rcases h3 : ((op : Int) == 28) with _ | _
  all_goals
    rw [h1, h2, h3] at e1
    rw [e1]
    clear e1
    go_enter Tryd.func15, Tryd.ntmps15
    go_wp2
    go_ret
    exact ⟨rfl, rfl⟩
theorem tup2B {a b c d : Int} (h1 : a = c) (h2 : b = d) : Ending.returned (.tuple #[.int .i64 a, .int .i64 b]) = .returned (.tuple #[.int .i64 c, .int .i64 d]) := by rw [h1, h2]
set_option maxRecDepth 20000 in
set_option maxHeartbeats 1000000 in
theorem Behind_any (x : Ins) (d : Int) (h0 : 0 ≤ takesI x) (h1 : takesI x ≤ 2048) (hd0 : 0 ≤ d) (hd1 : d ≤ 100000) (w : World) : Calls Tryd.prog 16 #[insV x, .int .i64 d] w fun e w' => e = .returned (.tuple #[.int .i64 (thereI x d), .int .i64 (nextI x d)]) ∧ Below w.heap.size w w' := by
  have TK := fun W => Takes_any x W
  have hlv := leaveR_le x.op
  have hN : nextI x d = d - takesI x + leaveR x.op := rfl
  obtain ⟨op, a, num, tx⟩ := x
  dsimp only at *
  have O := fun W => Of_any op W
  have rf := fun W => run_row_field6 op W
  obtain ⟨th, hTh⟩ := exHid (thereI ⟨op, a, num, tx⟩ d)
  rw [hTh.out]
  have hTh' := hTh.out
  unfold thereI at hTh'
  dsimp only at hTh'
  clear hTh
  generalize rowV op = rv at *
  generalize takesI ⟨op, a, num, tx⟩ = tk at *
  obtain ⟨nx, hnx⟩ : ∃ y, nextI ⟨op, a, num, tx⟩ d = y := ⟨_, rfl⟩
  rw [hnx] at hTh' hN ⊢
  obtain ⟨lv, hlve⟩ : ∃ y, ((leaveR op : Nat) : Int) = y := ⟨_, rfl⟩
  have hl0 : 0 ≤ lv := by omega
  have hl1 : lv ≤ 1 := by omega
  rw [hlve] at hN rf
  replace hnx := Lib.hid hnx
  replace hlve := Lib.hid hlve
  replace hN := Lib.hid hN
  unfold insV at *
  dsimp only at *
  clear hlv
  obtain ⟨wa, hwa⟩ : ∃ y, w.alloc (.cells #[.int .u8 op, .int .i64 a, .int .i64 num, .string ⟨tx.toArray⟩] 41) = y := ⟨_, rfl⟩
  have hA : Below w.heap.size w wa.drew := by rw [← hwa]; exact (show Below w.heap.size w (w.alloc (.cells #[.int .u8 op, .int .i64 a, .int .i64 num, .string ⟨tx.toArray⟩] 41)) by go_grown).drew
  have y0 : wa.drew.cell? ⟨w.heap.size, 0, none⟩ = some (.int .u8 op) := by rw [← hwa]; exact World.cell?_alloc_new ..
  have y1 : wa.drew.cell? ⟨w.heap.size, 1, none⟩ = some (.int .i64 a) := by rw [← hwa]; exact World.cell?_alloc_new ..
  have y2 : wa.drew.cell? ⟨w.heap.size, 2, none⟩ = some (.int .i64 num) := by rw [← hwa]; exact World.cell?_alloc_new ..
  have y3 : wa.drew.cell? ⟨w.heap.size, 3, none⟩ = some (.string ⟨tx.toArray⟩) := by rw [← hwa]; exact World.cell?_alloc_new ..
  rcases t53 : ((op : Int) == 53) with _ | _ <;> rcases t3 : ((op : Int) == 3) with _ | _ <;> rcases t4 : ((op : Int) == 4) with _ | _
  all_goals
    simp only [show op = 53 ↔ ((op : Int) == 53) = true by rw [beq_iff_eq]; omega, show op = 3 ↔ ((op : Int) == 3) = true by rw [beq_iff_eq]; omega, show op = 4 ↔ ((op : Int) == 4) = true by rw [beq_iff_eq]; omega, t53, t3, t4] at hTh'
    replace hTh' := Lib.hid hTh'
    go_enter Tryd.func16, Tryd.ntmps16
    go_wp2
    go_region_held3 (fun w' => Below w.heap.size w w' ∧ w'.cell? ⟨w.heap.size, 0, none⟩ = some (.int .u8 op) ∧ w'.cell? ⟨w.heap.size, 1, none⟩ = some (.int .i64 a) ∧ w'.cell? ⟨w.heap.size, 2, none⟩ = some (.int .i64 num) ∧ w'.cell? ⟨w.heap.size, 3, none⟩ = some (.string ⟨tx.toArray⟩))
      (first
        | exact ⟨hA, y0, y1, y2, y3⟩
        | exact hold)
      (first
        | (go_at_call 14; refine (TK _).mono ?_; rintro e w' ⟨rfl, hb⟩; have hold : Below w.heap.size w w' ∧ w'.cell? ⟨w.heap.size, 0, none⟩ = some (.int .u8 op) ∧ w'.cell? ⟨w.heap.size, 1, none⟩ = some (.int .i64 a) ∧ w'.cell? ⟨w.heap.size, 2, none⟩ = some (.int .i64 num) ∧ w'.cell? ⟨w.heap.size, 3, none⟩ = some (.string ⟨tx.toArray⟩) := (by first | exact ⟨below_next hold.1 hb, Below.keeps hb hold.2.1, Below.keeps hb hold.2.2.1, Below.keeps hb hold.2.2.2.1, Below.keeps hb hold.2.2.2.2⟩ | exact ⟨below_next hA hb, Below.keeps hb y0, Below.keeps hb y1, Below.keeps hb y2, Below.keeps hb y3⟩))
        | (go_at_call 17; refine (O _).mono ?_; rintro e w' ⟨rfl, hb⟩; have hold : Below w.heap.size w w' ∧ w'.cell? ⟨w.heap.size, 0, none⟩ = some (.int .u8 op) ∧ w'.cell? ⟨w.heap.size, 1, none⟩ = some (.int .i64 a) ∧ w'.cell? ⟨w.heap.size, 2, none⟩ = some (.int .i64 num) ∧ w'.cell? ⟨w.heap.size, 3, none⟩ = some (.string ⟨tx.toArray⟩) := (by first | exact ⟨below_next hold.1 hb, Below.keeps hb hold.2.1, Below.keeps hb hold.2.2.1, Below.keeps hb hold.2.2.2.1, Below.keeps hb hold.2.2.2.2⟩ | exact ⟨below_next hA hb, Below.keeps hb y0, Below.keeps hb y1, Below.keeps hb y2, Below.keeps hb y3⟩)))
    go_wp2
    refine bodyPost_ret (results_tmp2 rfl _ _ _) rfl ?_
    have hwr : IntKind.i64.wrap (IntKind.i64.wrap (d - tk) + lv) = nx := by rw [hN.out]; simp only [IntKind.wrap_i64]; omega
    exact ⟨tup2B (by rw [← hTh'.out]; simp [hwr]) hwr, hold.1⟩
end Go.Proofs.YtlhabgfgoainlaaDoor
