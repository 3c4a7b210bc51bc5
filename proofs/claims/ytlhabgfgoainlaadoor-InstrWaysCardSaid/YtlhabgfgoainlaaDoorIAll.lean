/- instr's isRight, slices.IndexFunc as allRight calls it, and allRight (layer 14), walked. No condition but the table of words, which the card ties. -/
import Derived.Test.YtlhabgfgoainlaaDoorIRt
namespace Go.Proofs.YtlhabgfgoainlaaDoor
open Go.RowKit

set_option maxRecDepth 20000 in
set_option maxHeartbeats 4000000 in
theorem hasTarget_any (x : Ins) (n : Int) (w : World) :
    Calls Tryd.prog 62 #[insV x, .int .i64 n] w fun e w' => e = .returned (.bool (targetI x n)) ∧ Below w.heap.size w w' := by
  obtain ⟨op, a, num, tx⟩ := x
  unfold insV
  dsimp only
  have F := fun W => fieldsOf_any op W
  have rF := run_field_fld op
  obtain ⟨B, hB⟩ := exHid (targetI ⟨op, a, num, tx⟩ n)
  rw [hB.out]
  have hB' := hB.out
  unfold targetI at hB'
  dsimp only at hB'
  clear hB
  have e1 : ((akI op : Int) == 1) = (akI op == 1) := by rw [Bool.eq_iff_iff, beq_iff_eq, beq_iff_eq]; omega
  generalize fldV op = fv at *
  generalize akI op = k at *
  rcases q1 : (k == 1) with _ | _
  · rw [q1] at e1 hB'
    have e2 : ((k : Int) != 1) = true := by rw [bne, e1]; rfl
    replace hB' := Lib.hid hB'
    go_enter Tryd.func62, Tryd.ntmps62
    go_wp2_with (go_at_call 33; refine (F _).mono ?_; rintro e w1 ⟨rfl, hb⟩; have hk : Below w.heap.size w w1 := below_next (by go_grown) hb; have hz := hk.size; have k0 := (hb.cell (p := ⟨w.heap.size, 0, none⟩) (by simp)).trans (World.cell?_alloc_new ..); have k1 := (hb.cell (p := ⟨w.heap.size, 1, none⟩) (by simp)).trans (World.cell?_alloc_new ..); replace hb := Lib.hid hb; simp at k0 k1)
    go_ret
    exact ⟨ret_bool (by rw [← hB'.out]; rfl), by go_grown⟩
  · rw [q1] at e1 hB'
    have e2 : ((k : Int) != 1) = false := by rw [bne, e1]; rfl
    by_cases h0 : 0 ≤ a
    · by_cases hn : a < n
      · rw [decide_eq_true (show 0 ≤ a ∧ a < n from ⟨h0, hn⟩)] at hB'
        replace hB' := Lib.hid hB'
        go_enter Tryd.func62, Tryd.ntmps62
        go_wp2_with (go_at_call 33; refine (F _).mono ?_; rintro e w1 ⟨rfl, hb⟩; have hk : Below w.heap.size w w1 := below_next (by go_grown) hb; have hz := hk.size; have k0 := (hb.cell (p := ⟨w.heap.size, 0, none⟩) (by simp)).trans (World.cell?_alloc_new ..); have k1 := (hb.cell (p := ⟨w.heap.size, 1, none⟩) (by simp)).trans (World.cell?_alloc_new ..); replace hb := Lib.hid hb; simp at k0 k1)
        go_ret
        exact ⟨ret_bool (by rw [← hB'.out]; rfl), by go_grown⟩
      · rw [decide_eq_false (show ¬ (0 ≤ a ∧ a < n) from fun h => hn h.2)] at hB'
        replace hB' := Lib.hid hB'
        go_enter Tryd.func62, Tryd.ntmps62
        go_wp2_with (go_at_call 33; refine (F _).mono ?_; rintro e w1 ⟨rfl, hb⟩; have hk : Below w.heap.size w w1 := below_next (by go_grown) hb; have hz := hk.size; have k0 := (hb.cell (p := ⟨w.heap.size, 0, none⟩) (by simp)).trans (World.cell?_alloc_new ..); have k1 := (hb.cell (p := ⟨w.heap.size, 1, none⟩) (by simp)).trans (World.cell?_alloc_new ..); replace hb := Lib.hid hb; simp at k0 k1)
        go_ret
        exact ⟨ret_bool (by rw [← hB'.out, decide_eq_false (by omega)]; rfl), by go_grown⟩
    · rw [decide_eq_false (show ¬ (0 ≤ a ∧ a < n) from fun h => h0 h.1)] at hB'
      replace hB' := Lib.hid hB'
      go_enter Tryd.func62, Tryd.ntmps62
      go_wp2_with (go_at_call 33; refine (F _).mono ?_; rintro e w1 ⟨rfl, hb⟩; have hk : Below w.heap.size w w1 := below_next (by go_grown) hb; have hz := hk.size; have k0 := (hb.cell (p := ⟨w.heap.size, 0, none⟩) (by simp)).trans (World.cell?_alloc_new ..); have k1 := (hb.cell (p := ⟨w.heap.size, 1, none⟩) (by simp)).trans (World.cell?_alloc_new ..); replace hb := Lib.hid hb; simp at k0 k1)
      go_ret
      exact ⟨ret_bool (by rw [← hB'.out]; rfl), by go_grown⟩
set_option maxRecDepth 20000 in
set_option maxHeartbeats 4000000 in
theorem isRight_any (x : Ins) (hx : FitIns x) (n : Int) (w : World) (hW : WordsOK w) :
    Calls Tryd.prog 43 #[insV x, .int .i64 n] w fun e w' => e = .returned (.bool (rightI x n)) ∧ Below w.heap.size w w' := by
  have Sh := fun (W : World) (hb : Below w.heap.size w W) => isShaped_any x hx W (hW.below hb)
  have Ta := fun W => hasTarget_any x n W
  rw [rightI_two]
  obtain ⟨op, a, num, tx⟩ := x
  unfold insV at *
  dsimp only at *
  generalize targetI ⟨op, a, num, tx⟩ n = t at *
  replace hW := Lib.hid hW
  rcases q1 : shapedI ⟨op, a, num, tx⟩ with _ | _
  all_goals
    rw [q1] at Sh
    go_enter Tryd.func43, Tryd.ntmps43
    go_wp2_with first
      | (go_at_call 61; refine (Sh _ (by go_grown)).mono ?_; rintro e w1 ⟨rfl, hb⟩; have hk : Below w.heap.size w w1 := below_next (by go_grown) hb; have hz := hk.size; have k0 := (hb.cell (p := ⟨w.heap.size, 0, none⟩) (by simp)).trans (World.cell?_alloc_new ..); have k1 := (hb.cell (p := ⟨w.heap.size, 1, none⟩) (by simp)).trans (World.cell?_alloc_new ..); have k2 := (hb.cell (p := ⟨w.heap.size, 2, none⟩) (by simp)).trans (World.cell?_alloc_new ..); have k3 := (hb.cell (p := ⟨w.heap.size, 3, none⟩) (by simp)).trans (World.cell?_alloc_new ..); replace hb := Lib.hid hb; simp at k0 k1 k2 k3)
      | (go_at_call 62; refine (Ta _).mono ?_; rintro e w2 ⟨rfl, hb2⟩; have hk2 : Below w.heap.size w w2 := below_next hk hb2)
    go_ret
    exact ⟨rfl, by go_grown⟩
end Go.Proofs.YtlhabgfgoainlaaDoor
