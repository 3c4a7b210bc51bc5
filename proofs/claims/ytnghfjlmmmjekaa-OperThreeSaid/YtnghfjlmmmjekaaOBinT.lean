/- oper.Binary of two texts (layer 12) at OLt, OLe, walked. (Made out of OBin.) No condition. -/
import Derived.Test.YtnghfjlmmmjekaaOBin
namespace Go.Proofs.Ytnghfjlmmmjekaa
open Go.RowKit

set_option maxRecDepth 20000 in
set_option maxHeartbeats 2000000 in
theorem Bin_text {w : World} {b1 b2 : Nat} {v1 v2 : Value} {op : Int} {p q : ByteArray} (hop : op = 34 ∨ op = 35) (h1 : RowN w b1 v1 [textN p]) (h2 : RowN w b2 v2 [textN q]) (i1 : p.size ≤ 4095) (i2 : q.size ≤ 4095) :
    Calls Try.prog 33 #[.int .u8 op, v1, v2] w (Told2 w [boolN (cmpB op (Op.bytesLess p.toList q.toList) (p.toList == q.toList))]) := by
  have k1 := Lib.hid (check_ok (text_right i1) h1)
  have k2 := Lib.hid (fun (W : World) (hb : Below w.heap.size w W) => check_ok (text_right i2) (h2.below hb))
  have kW := Lib.hid (fun (W : World) => ofTexts_cmp hop p q W)
  have kP := Lib.hid (fun (W : World) => pairs_any W)
  generalize cmpB op (Op.bytesLess p.toList q.toList) (p.toList == q.toList) = R at *
  obtain ⟨g1, cap1, rfl, -, hg1, -⟩ := ownsRow_head h1 (Nat.le_refl 1)
  obtain ⟨g2, cap2, rfl, -, hg2, -⟩ := ownsRow_head h2 (Nat.le_refl 1)
  obtain ⟨x0, x1, x2, x3, x4⟩ := rowN_cells (d := [textN p]) h1 (i := 0) (Nat.zero_lt_one)
  obtain ⟨y0, y1, y2, y3, y4⟩ := rowN_cells (d := [textN q]) h2 (i := 0) (Nat.zero_lt_one)
  simp only [List.getElem_cons_zero, Nat.zero_mul, Nat.zero_add, textN] at x0 x1 x2 x3 x4 y0 y1 y2 y3 y4
  have hsc := sc_any
  have q1 : ¬ op < 32 := by omega
  have q2 : ¬ (42 < op) := by omega
  have q3 : (op == 32) = false := by rcases hop with rfl | rfl <;> rfl
  have q4 : (op == 33) = false := by rcases hop with rfl | rfl <;> rfl
  clear h1 h2 hop
  go_enter Try.func33, Try.ntmps33
  go_wp2_with fail
  refine k1.out.mono ?_
  rintro e w1 ⟨rfl, hb1⟩
  go_wp2_with fail
  refine (k2.out _ hb1).mono ?_
  rintro e w2 ⟨rfl, hb2⟩
  have hb3 := below_next hb1 hb2
  have hal := (Below.refl w2.heap.size w2).alloc (Nat.le_refl _) (.cells #[.int .i64 0, .int .i64 0] 25)
  have kO := Lib.hid (Or_new w2)
  have hb4 := below_next hb3 hal
  clear hb1 hb2 hb3 hal
  go_wp2_with fail
  refine kO.out.mono ?_
  rintro e w3 ⟨rfl, rfl⟩
  replace x0 := Below.keeps hb4 x0; replace x1 := Below.keeps hb4 x1; replace x2 := Below.keeps hb4 x2; replace x3 := Below.keeps hb4 x3; replace x4 := Below.keeps hb4 x4
  replace y0 := Below.keeps hb4 y0; replace y1 := Below.keeps hb4 y1; replace y2 := Below.keeps hb4 y2; replace y3 := Below.keeps hb4 y3; replace y4 := Below.keeps hb4 y4
  have hz4 := hb4.size
  replace hb4 := Lib.hid hb4
  generalize (w2.alloc (.cells #[.int .i64 0, .int .i64 0] 25)) = w3 at *
  have hg1' : g1 < w3.heap.size := by omega
  have hg2' : g2 < w3.heap.size := by omega
  go_wp2_with fail
  go_region
  · obtain ⟨f0, e0⟩ := two_new w3 #[.int .u8 3, .int .i64 0, .int .i64 0, .string p, .complex .f64 0 0] #[.int .u8 3, .int .i64 0, .int .i64 0, .string q, .complex .f64 0 0] 72 0
    obtain ⟨f2, e2⟩ := two_new w3 #[.int .u8 3, .int .i64 0, .int .i64 0, .string p, .complex .f64 0 0] #[.int .u8 3, .int .i64 0, .int .i64 0, .string q, .complex .f64 0 0] 72 3
    have hb5 := below_next hb4.out (((Below.refl w3.heap.size w3).alloc (Nat.le_refl _) (.cells #[.int .u8 3, .int .i64 0, .int .i64 0, .string p, .complex .f64 0 0] 72)).alloc (by simp) (.cells #[.int .u8 3, .int .i64 0, .int .i64 0, .string q, .complex .f64 0 0] 72)).drew
    have hz5 : w3.heap.size + 1 < (((w3.alloc (.cells #[.int .u8 3, .int .i64 0, .int .i64 0, .string p, .complex .f64 0 0] 72)).alloc (.cells #[.int .u8 3, .int .i64 0, .int .i64 0, .string q, .complex .f64 0 0] 72))).drew.heap.size := by show _ < (((w3.alloc (.cells #[.int .u8 3, .int .i64 0, .int .i64 0, .string p, .complex .f64 0 0] 72)).alloc (.cells #[.int .u8 3, .int .i64 0, .int .i64 0, .string q, .complex .f64 0 0] 72))).heap.size; simp
    generalize (((w3.alloc (.cells #[.int .u8 3, .int .i64 0, .int .i64 0, .string p, .complex .f64 0 0] 72)).alloc (.cells #[.int .u8 3, .int .i64 0, .int .i64 0, .string q, .complex .f64 0 0] 72))).drew = W5 at *
    have hz6 : w3.heap.size < W5.heap.size := by omega
    replace hb5 := Lib.hid hb5
    have hs0 : W5.cell? ⟨w3.heap.size, 0, none⟩ = some (.int .u8 3) := f0
    have hs1 : W5.cell? ⟨w3.heap.size + 1, 0, none⟩ = some (.int .u8 3) := e0
    have hs2 : W5.cell? ⟨w3.heap.size, 3, none⟩ = some (.string p) := f2
    have hs3 : W5.cell? ⟨w3.heap.size + 1, 3, none⟩ = some (.string q) := e2
    clear f0 f2 e0 e2
    go_wp2_with fail
    go_region_held3 (fun W => W.cell? ⟨w3.heap.size, 0, none⟩ = some (.int .u8 3) ∧ W.cell? ⟨w3.heap.size + 1, 0, none⟩ = some (.int .u8 3) ∧ W.cell? ⟨w3.heap.size, 3, none⟩ = some (.string p) ∧ W.cell? ⟨w3.heap.size + 1, 3, none⟩ = some (.string q))
      (first
        | exact ⟨hs0, hs1, hs2, hs3⟩
        | (go_split_ands; refine ⟨?_, ?_, ?_, ?_⟩ <;> (rw [hb.cell (by first | (simp; done) | (simp; omega))]; first | assumption | exact hs0 | exact hs1 | exact hs2 | exact hs3)))
      ((go_at_call 52; refine (kP.out _).mono ?_; rintro e w' ⟨b, rfl, hbb, hP, hb⟩; have hl := look_33 hP))
    all_goals
      have t2 : w'.cell? ⟨w3.heap.size, 3, none⟩ = some (.string p) := (hb.cell (p := ⟨w3.heap.size, 3, none⟩) hz6).trans hs2
      have t3 : w'.cell? ⟨w3.heap.size + 1, 3, none⟩ = some (.string q) := (hb.cell (p := ⟨w3.heap.size + 1, 3, none⟩) hz5).trans hs3
      have hb6 := Lib.hid (below_next hb5.out.drew hb)
      clear hP hb hl hs0 hs1 hs2 hs3
      go_wp2_with fail
      refine (kW.out _).mono ?_
      rintro e w7 ⟨v, rfl, hr, hb7⟩
      have hr2 := Lib.hid (rowN_low hr hb6.out.size)
      have hb8 := Lib.hid (below_next hb6.out hb7)
      clear hr hb7
      go_wp2_with fail
      go_ret2
      exact ⟨_, rfl, hr2.out, hb8.out⟩
  · obtain ⟨f0, e0⟩ := two_new w3 #[.int .u8 3, .int .i64 0, .int .i64 0, .string q, .complex .f64 0 0] #[.int .u8 3, .int .i64 0, .int .i64 0, .string p, .complex .f64 0 0] 72 0
    obtain ⟨f2, e2⟩ := two_new w3 #[.int .u8 3, .int .i64 0, .int .i64 0, .string q, .complex .f64 0 0] #[.int .u8 3, .int .i64 0, .int .i64 0, .string p, .complex .f64 0 0] 72 3
    have hb5 := below_next hb4.out (((Below.refl w3.heap.size w3).alloc (Nat.le_refl _) (.cells #[.int .u8 3, .int .i64 0, .int .i64 0, .string q, .complex .f64 0 0] 72)).alloc (by simp) (.cells #[.int .u8 3, .int .i64 0, .int .i64 0, .string p, .complex .f64 0 0] 72)).drew
    have hz5 : w3.heap.size + 1 < (((w3.alloc (.cells #[.int .u8 3, .int .i64 0, .int .i64 0, .string q, .complex .f64 0 0] 72)).alloc (.cells #[.int .u8 3, .int .i64 0, .int .i64 0, .string p, .complex .f64 0 0] 72))).drew.heap.size := by show _ < (((w3.alloc (.cells #[.int .u8 3, .int .i64 0, .int .i64 0, .string q, .complex .f64 0 0] 72)).alloc (.cells #[.int .u8 3, .int .i64 0, .int .i64 0, .string p, .complex .f64 0 0] 72))).heap.size; simp
    generalize (((w3.alloc (.cells #[.int .u8 3, .int .i64 0, .int .i64 0, .string q, .complex .f64 0 0] 72)).alloc (.cells #[.int .u8 3, .int .i64 0, .int .i64 0, .string p, .complex .f64 0 0] 72))).drew = W5 at *
    have hz6 : w3.heap.size < W5.heap.size := by omega
    replace hb5 := Lib.hid hb5
    have hs0 : W5.cell? ⟨w3.heap.size + 1, 0, none⟩ = some (.int .u8 3) := e0
    have hs1 : W5.cell? ⟨w3.heap.size, 0, none⟩ = some (.int .u8 3) := f0
    have hs2 : W5.cell? ⟨w3.heap.size + 1, 3, none⟩ = some (.string p) := e2
    have hs3 : W5.cell? ⟨w3.heap.size, 3, none⟩ = some (.string q) := f2
    clear f0 f2 e0 e2
    go_wp2_with fail
    go_region_held3 (fun W => W.cell? ⟨w3.heap.size + 1, 0, none⟩ = some (.int .u8 3) ∧ W.cell? ⟨w3.heap.size, 0, none⟩ = some (.int .u8 3) ∧ W.cell? ⟨w3.heap.size + 1, 3, none⟩ = some (.string p) ∧ W.cell? ⟨w3.heap.size, 3, none⟩ = some (.string q))
      (first
        | exact ⟨hs0, hs1, hs2, hs3⟩
        | (go_split_ands; refine ⟨?_, ?_, ?_, ?_⟩ <;> (rw [hb.cell (by first | (simp; done) | (simp; omega))]; first | assumption | exact hs0 | exact hs1 | exact hs2 | exact hs3)))
      ((go_at_call 52; refine (kP.out _).mono ?_; rintro e w' ⟨b, rfl, hbb, hP, hb⟩; have hl := look_33 hP))
    all_goals
      have t2 : w'.cell? ⟨w3.heap.size + 1, 3, none⟩ = some (.string p) := (hb.cell (p := ⟨w3.heap.size + 1, 3, none⟩) hz5).trans hs2
      have t3 : w'.cell? ⟨w3.heap.size, 3, none⟩ = some (.string q) := (hb.cell (p := ⟨w3.heap.size, 3, none⟩) hz6).trans hs3
      have hb6 := Lib.hid (below_next hb5.out.drew hb)
      clear hP hb hl hs0 hs1 hs2 hs3
      go_wp2_with fail
      refine (kW.out _).mono ?_
      rintro e w7 ⟨v, rfl, hr, hb7⟩
      have hr2 := Lib.hid (rowN_low hr hb6.out.size)
      have hb8 := Lib.hid (below_next hb6.out hb7)
      clear hr hb7
      go_wp2_with fail
      go_ret2
      exact ⟨_, rfl, hr2.out, hb8.out⟩
end Go.Proofs.Ytnghfjlmmmjekaa
