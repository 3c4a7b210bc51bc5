/- oper.Binary of 2 and 3 at OAdd (layer 12), walked. (Made out of OBin.) No condition. -/
import Derived.Test.YtlljmagmphfnmaaOSum
namespace Go.Proofs.Ytlljmagmphfnmaa
open Go.RowKit

set_option maxRecDepth 20000 in
set_option maxHeartbeats 2000000 in
theorem Bin_sum {w : World} {b1 b2 : Nat} {v1 v2 : Value} (h1 : RowN w b1 v1 [intN 2]) (h2 : RowN w b2 v2 [intN 3]) :
    Calls Try.prog 4 #[.int .u8 36, v1, v2] w (Told2 w [intN 5]) := by
  have k1 := Lib.hid (check_ok (int_right (n := 2) (by constructor <;> omega)) h1)
  have k2 := Lib.hid (fun (W : World) (hb : Below w.heap.size w W) => check_ok (int_right (n := 3) (by constructor <;> omega)) (h2.below hb))
  have kW := Lib.hid (fun (W : World) => ofWholes_sum W)
  have kP := Lib.hid (fun (W : World) => pairs_any W)
  obtain ⟨g1, cap1, rfl, -, hg1, -⟩ := ownsRow_head h1 (Nat.le_refl 1)
  obtain ⟨g2, cap2, rfl, -, hg2, -⟩ := ownsRow_head h2 (Nat.le_refl 1)
  obtain ⟨x0, x1, x2, x3, x4⟩ := rowN_cells (d := [intN 2]) h1 (i := 0) (Nat.zero_lt_one)
  obtain ⟨y0, y1, y2, y3, y4⟩ := rowN_cells (d := [intN 3]) h2 (i := 0) (Nat.zero_lt_one)
  simp only [List.getElem_cons_zero, Nat.zero_mul, Nat.zero_add, intN] at x0 x1 x2 x3 x4 y0 y1 y2 y3 y4
  have hsc := sc_any
  clear h1 h2
  go_enter Try.func4, Try.ntmps4
  go_wp2_with fail
  refine k1.out.mono ?_
  rintro e w1 ⟨rfl, hb1⟩
  go_wp2_with fail
  refine (k2.out _ hb1).mono ?_
  rintro e w2 ⟨rfl, hb2⟩
  have hb3 := below_next hb1 hb2
  have hal := (Below.refl w2.heap.size w2).alloc (Nat.le_refl _) (.cells #[.int .i64 0, .int .i64 0] 24)
  have kO := Lib.hid (Or_new w2)
  have hb4 := below_next hb3 hal
  clear hb1 hb2 hb3 hal
  go_wp2_with fail
  refine kO.out.mono ?_
  rintro e w3 ⟨rfl, rfl⟩
  replace x0 := Below.keeps hb4 x0; replace x1 := Below.keeps hb4 x1; replace x2 := Below.keeps hb4 x2; replace x3 := Below.keeps hb4 x3; replace x4 := Below.keeps hb4 x4
  replace y0 := Below.keeps hb4 y0; replace y1 := Below.keeps hb4 y1; replace y2 := Below.keeps hb4 y2; replace y3 := Below.keeps hb4 y3; replace y4 := Below.keeps hb4 y4
  have hz4 := hb4.size
  replace hb4 := Lib.hid hb4
  generalize (w2.alloc (.cells #[.int .i64 0, .int .i64 0] 24)) = w3 at *
  have hg1' : g1 < w3.heap.size := by omega
  have hg2' : g2 < w3.heap.size := by omega
  go_wp2_with fail
  go_region
  · obtain ⟨f0, e0⟩ := two_new w3 #[.int .u8 2, .int .i64 0, .int .i64 2, .string ⟨#[]⟩, .complex .f64 0 0] #[.int .u8 2, .int .i64 0, .int .i64 3, .string ⟨#[]⟩, .complex .f64 0 0] 37 0
    obtain ⟨f2, e2⟩ := two_new w3 #[.int .u8 2, .int .i64 0, .int .i64 2, .string ⟨#[]⟩, .complex .f64 0 0] #[.int .u8 2, .int .i64 0, .int .i64 3, .string ⟨#[]⟩, .complex .f64 0 0] 37 2
    have hb5 := below_next hb4.out (((Below.refl w3.heap.size w3).alloc (Nat.le_refl _) (.cells #[.int .u8 2, .int .i64 0, .int .i64 2, .string ⟨#[]⟩, .complex .f64 0 0] 37)).alloc (by simp) (.cells #[.int .u8 2, .int .i64 0, .int .i64 3, .string ⟨#[]⟩, .complex .f64 0 0] 37)).drew
    have hz5 : w3.heap.size + 1 < (((w3.alloc (.cells #[.int .u8 2, .int .i64 0, .int .i64 2, .string ⟨#[]⟩, .complex .f64 0 0] 37)).alloc (.cells #[.int .u8 2, .int .i64 0, .int .i64 3, .string ⟨#[]⟩, .complex .f64 0 0] 37))).drew.heap.size := by show _ < (((w3.alloc (.cells #[.int .u8 2, .int .i64 0, .int .i64 2, .string ⟨#[]⟩, .complex .f64 0 0] 37)).alloc (.cells #[.int .u8 2, .int .i64 0, .int .i64 3, .string ⟨#[]⟩, .complex .f64 0 0] 37))).heap.size; simp
    generalize (((w3.alloc (.cells #[.int .u8 2, .int .i64 0, .int .i64 2, .string ⟨#[]⟩, .complex .f64 0 0] 37)).alloc (.cells #[.int .u8 2, .int .i64 0, .int .i64 3, .string ⟨#[]⟩, .complex .f64 0 0] 37))).drew = W5 at *
    have hz6 : w3.heap.size < W5.heap.size := by omega
    replace hb5 := Lib.hid hb5
    have hs0 : W5.cell? ⟨w3.heap.size, 0, none⟩ = some (.int .u8 2) := f0
    have hs1 : W5.cell? ⟨w3.heap.size + 1, 0, none⟩ = some (.int .u8 2) := e0
    have hs2 : W5.cell? ⟨w3.heap.size, 2, none⟩ = some (.int .i64 2) := f2
    have hs3 : W5.cell? ⟨w3.heap.size + 1, 2, none⟩ = some (.int .i64 3) := e2
    clear f0 f2 e0 e2
    go_wp2_with fail
    go_region_held3 (fun W => W.cell? ⟨w3.heap.size, 0, none⟩ = some (.int .u8 2) ∧ W.cell? ⟨w3.heap.size + 1, 0, none⟩ = some (.int .u8 2) ∧ W.cell? ⟨w3.heap.size, 2, none⟩ = some (.int .i64 2) ∧ W.cell? ⟨w3.heap.size + 1, 2, none⟩ = some (.int .i64 3))
      (first
        | exact ⟨hs0, hs1, hs2, hs3⟩
        | (go_split_ands; refine ⟨?_, ?_, ?_, ?_⟩ <;> (rw [hb.cell (by first | (simp; done) | (simp; omega))]; first | assumption | exact hs0 | exact hs1 | exact hs2 | exact hs3)))
      ((go_at_call 12; refine (kP.out _).mono ?_; rintro e w' ⟨b, rfl, hbb, hP, hb⟩; have hl := look_22 hP))
    all_goals
      have t2 : w'.cell? ⟨w3.heap.size, 2, none⟩ = some (.int .i64 2) := (hb.cell (p := ⟨w3.heap.size, 2, none⟩) hz6).trans hs2
      have t3 : w'.cell? ⟨w3.heap.size + 1, 2, none⟩ = some (.int .i64 3) := (hb.cell (p := ⟨w3.heap.size + 1, 2, none⟩) hz5).trans hs3
      have hb6 := Lib.hid (below_next hb5.out.drew hb)
      clear hP hb hl hs0 hs1 hs2 hs3
      go_wp2_with fail
      refine (kW.out _).mono ?_
      rintro e w7 ⟨v, rfl, hr, hb7⟩
      have hr2 := Lib.hid (rowN_low hr hb6.out.size)
      have hb8 := Lib.hid (below_next hb6.out hb7)
      clear hr hb7
      go_wp2_with fail
      go_ret2
      exact ⟨_, rfl, hr2.out, hb8.out⟩
  · obtain ⟨f0, e0⟩ := two_new w3 #[.int .u8 2, .int .i64 0, .int .i64 3, .string ⟨#[]⟩, .complex .f64 0 0] #[.int .u8 2, .int .i64 0, .int .i64 2, .string ⟨#[]⟩, .complex .f64 0 0] 37 0
    obtain ⟨f2, e2⟩ := two_new w3 #[.int .u8 2, .int .i64 0, .int .i64 3, .string ⟨#[]⟩, .complex .f64 0 0] #[.int .u8 2, .int .i64 0, .int .i64 2, .string ⟨#[]⟩, .complex .f64 0 0] 37 2
    have hb5 := below_next hb4.out (((Below.refl w3.heap.size w3).alloc (Nat.le_refl _) (.cells #[.int .u8 2, .int .i64 0, .int .i64 3, .string ⟨#[]⟩, .complex .f64 0 0] 37)).alloc (by simp) (.cells #[.int .u8 2, .int .i64 0, .int .i64 2, .string ⟨#[]⟩, .complex .f64 0 0] 37)).drew
    have hz5 : w3.heap.size + 1 < (((w3.alloc (.cells #[.int .u8 2, .int .i64 0, .int .i64 3, .string ⟨#[]⟩, .complex .f64 0 0] 37)).alloc (.cells #[.int .u8 2, .int .i64 0, .int .i64 2, .string ⟨#[]⟩, .complex .f64 0 0] 37))).drew.heap.size := by show _ < (((w3.alloc (.cells #[.int .u8 2, .int .i64 0, .int .i64 3, .string ⟨#[]⟩, .complex .f64 0 0] 37)).alloc (.cells #[.int .u8 2, .int .i64 0, .int .i64 2, .string ⟨#[]⟩, .complex .f64 0 0] 37))).heap.size; simp
    generalize (((w3.alloc (.cells #[.int .u8 2, .int .i64 0, .int .i64 3, .string ⟨#[]⟩, .complex .f64 0 0] 37)).alloc (.cells #[.int .u8 2, .int .i64 0, .int .i64 2, .string ⟨#[]⟩, .complex .f64 0 0] 37))).drew = W5 at *
    have hz6 : w3.heap.size < W5.heap.size := by omega
    replace hb5 := Lib.hid hb5
    have hs0 : W5.cell? ⟨w3.heap.size + 1, 0, none⟩ = some (.int .u8 2) := e0
    have hs1 : W5.cell? ⟨w3.heap.size, 0, none⟩ = some (.int .u8 2) := f0
    have hs2 : W5.cell? ⟨w3.heap.size + 1, 2, none⟩ = some (.int .i64 2) := e2
    have hs3 : W5.cell? ⟨w3.heap.size, 2, none⟩ = some (.int .i64 3) := f2
    clear f0 f2 e0 e2
    go_wp2_with fail
    go_region_held3 (fun W => W.cell? ⟨w3.heap.size + 1, 0, none⟩ = some (.int .u8 2) ∧ W.cell? ⟨w3.heap.size, 0, none⟩ = some (.int .u8 2) ∧ W.cell? ⟨w3.heap.size + 1, 2, none⟩ = some (.int .i64 2) ∧ W.cell? ⟨w3.heap.size, 2, none⟩ = some (.int .i64 3))
      (first
        | exact ⟨hs0, hs1, hs2, hs3⟩
        | (go_split_ands; refine ⟨?_, ?_, ?_, ?_⟩ <;> (rw [hb.cell (by first | (simp; done) | (simp; omega))]; first | assumption | exact hs0 | exact hs1 | exact hs2 | exact hs3)))
      ((go_at_call 12; refine (kP.out _).mono ?_; rintro e w' ⟨b, rfl, hbb, hP, hb⟩; have hl := look_22 hP))
    all_goals
      have t2 : w'.cell? ⟨w3.heap.size + 1, 2, none⟩ = some (.int .i64 2) := (hb.cell (p := ⟨w3.heap.size + 1, 2, none⟩) hz5).trans hs2
      have t3 : w'.cell? ⟨w3.heap.size, 2, none⟩ = some (.int .i64 3) := (hb.cell (p := ⟨w3.heap.size, 2, none⟩) hz6).trans hs3
      have hb6 := Lib.hid (below_next hb5.out.drew hb)
      clear hP hb hl hs0 hs1 hs2 hs3
      go_wp2_with fail
      refine (kW.out _).mono ?_
      rintro e w7 ⟨v, rfl, hr, hb7⟩
      have hr2 := Lib.hid (rowN_low hr hb6.out.size)
      have hb8 := Lib.hid (below_next hb6.out hb7)
      clear hr hb7
      go_wp2_with fail
      go_ret2
      exact ⟨_, rfl, hr2.out, hb8.out⟩
end Go.Proofs.Ytlljmagmphfnmaa
