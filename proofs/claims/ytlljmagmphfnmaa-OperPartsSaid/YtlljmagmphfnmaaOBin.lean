/- oper.Binary of two whole numbers, of two texts (layer 12), at OEq, ONe, OLt, OLe, walked. No condition. -/
import Derived.Test.YtlljmagmphfnmaaOCmp
import Derived.Test.YtlljmagmphfnmaaOPairs
import Derived.Deep.RegionHeld3
namespace Go.Proofs.Ytlljmagmphfnmaa
open Go.RowKit

theorem cell_new1 (w : World) (cs : Array Value) (t : TypeId) (j : Nat) : (w.alloc (.cells cs t)).cell? ⟨w.heap.size, j, none⟩ = cs[j]? := by
  have h := heap_alloc_new w (Obj.cells cs t)
  simp only [World.cell?, h]
  rfl
theorem Or_new (w : World) : Calls Try.prog 9 #[.slice (some ⟨w.heap.size, 0, none⟩) 2 2] (w.alloc (.cells #[.int .i64 0, .int .i64 0] 24)) fun e w' => e = .returned (.int .i64 0) ∧ w' = w.alloc (.cells #[.int .i64 0, .int .i64 0] 24) :=
  Or_none _ (cell_new1 _ _ _ 0) (cell_new1 _ _ _ 1) 2
set_option maxRecDepth 20000 in
set_option maxHeartbeats 1000000 in
theorem Bin_eq {w : World} {b1 b2 : Nat} {v1 v2 : Value} {x y : Nd} (h1 : RowN w b1 v1 [x]) (h2 : RowN w b2 v2 [y]) (r1 : RightV [x]) (r2 : RightV [y]) (hx : x.x = 0 ∧ x.y = 0) (hy : y.x = 0 ∧ y.y = 0) :
    Calls Try.prog 4 #[.int .u8 32, v1, v2] w (Told2 w [boolN (sameB x y)]) := by
  have k1 := Lib.hid (check_ok r1 h1)
  have k2 := Lib.hid (fun (W : World) (hb : Below w.heap.size w W) => check_ok r2 (h2.below hb))
  have kS := Lib.hid (fun (W : World) (hb : Below w.heap.size w W) => Same1_any (h1.below hb) (h2.below hb) r1 r2 hx hy)
  have kB := Lib.hid (fun (b : Bool) (W : World) => Bool_row b W)
  generalize sameB x y = R at *
  clear h1 h2 r1 r2 hx hy
  go_enter Try.func4, Try.ntmps4
  go_wp2_with fail
  refine k1.out.mono ?_
  rintro e w1 ⟨rfl, hb1⟩
  go_wp2_with fail
  refine (k2.out _ hb1).mono ?_
  rintro e w2 ⟨rfl, hb2⟩
  have hb3 := below_next hb1 hb2
  have hal := (Below.refl w2.heap.size w2).alloc (Nat.le_refl _) (.cells #[.int .i64 0, .int .i64 0] 24)
  have kO := Lib.hid (Or_new w2)
  have hb4 := Lib.hid (below_next hb3 hal)
  clear hb1 hb2 hb3 hal
  go_wp2_with fail
  refine kO.out.mono ?_
  rintro e w3 ⟨rfl, rfl⟩
  go_wp2_with fail
  refine (kS.out _ hb4.out).mono ?_
  rintro e w4 ⟨rfl, hb5⟩
  have hb6 := Lib.hid (below_next hb4.out hb5)
  go_wp2_with fail
  refine (kB.out _ _).mono ?_
  rintro e w5 ⟨v, rfl, hr, hb7⟩
  have hb8 := Lib.hid (below_next hb6.out hb7)
  have hr2 := Lib.hid (rowN_low hr hb6.out.size)
  go_wp2_with fail
  go_ret2
  exact ⟨_, rfl, hr2.out, hb8.out⟩
set_option maxRecDepth 20000 in
set_option maxHeartbeats 1000000 in
theorem Bin_ne {w : World} {b1 b2 : Nat} {v1 v2 : Value} {x y : Nd} (h1 : RowN w b1 v1 [x]) (h2 : RowN w b2 v2 [y]) (r1 : RightV [x]) (r2 : RightV [y]) (hx : x.x = 0 ∧ x.y = 0) (hy : y.x = 0 ∧ y.y = 0) :
    Calls Try.prog 4 #[.int .u8 33, v1, v2] w (Told2 w [boolN (!sameB x y)]) := by
  have k1 := Lib.hid (check_ok r1 h1)
  have k2 := Lib.hid (fun (W : World) (hb : Below w.heap.size w W) => check_ok r2 (h2.below hb))
  have kS := Lib.hid (fun (W : World) (hb : Below w.heap.size w W) => Same1_any (h1.below hb) (h2.below hb) r1 r2 hx hy)
  have kB := Lib.hid (fun (b : Bool) (W : World) => Bool_row b W)
  generalize sameB x y = R at *
  clear h1 h2 r1 r2 hx hy
  go_enter Try.func4, Try.ntmps4
  go_wp2_with fail
  refine k1.out.mono ?_
  rintro e w1 ⟨rfl, hb1⟩
  go_wp2_with fail
  refine (k2.out _ hb1).mono ?_
  rintro e w2 ⟨rfl, hb2⟩
  have hb3 := below_next hb1 hb2
  have hal := (Below.refl w2.heap.size w2).alloc (Nat.le_refl _) (.cells #[.int .i64 0, .int .i64 0] 24)
  have kO := Lib.hid (Or_new w2)
  have hb4 := Lib.hid (below_next hb3 hal)
  clear hb1 hb2 hb3 hal
  go_wp2_with fail
  refine kO.out.mono ?_
  rintro e w3 ⟨rfl, rfl⟩
  go_wp2_with fail
  refine (kS.out _ hb4.out).mono ?_
  rintro e w4 ⟨rfl, hb5⟩
  have hb6 := Lib.hid (below_next hb4.out hb5)
  go_wp2_with fail
  refine (kB.out _ _).mono ?_
  rintro e w5 ⟨v, rfl, hr, hb7⟩
  have hb8 := Lib.hid (below_next hb6.out hb7)
  have hr2 := Lib.hid (rowN_low hr hb6.out.size)
  go_wp2_with fail
  go_ret2
  exact ⟨_, rfl, hr2.out, hb8.out⟩
/-- The cells of two new blocks. -/
theorem two_new (w : World) (c d : Array Value) (t : TypeId) (j : Nat) :
    ((w.alloc (.cells c t)).alloc (.cells d t)).drew.cell? ⟨w.heap.size, j, none⟩ = c[j]? ∧ ((w.alloc (.cells c t)).alloc (.cells d t)).drew.cell? ⟨w.heap.size + 1, j, none⟩ = d[j]? := by
  have e : (w.alloc (.cells c t)).heap.size = w.heap.size + 1 := by simp
  constructor
  · show ((w.alloc (.cells c t)).alloc (.cells d t)).cell? _ = _
    rw [Below.cell ((Below.refl (w.alloc (.cells c t)).heap.size (w.alloc (.cells c t))).alloc (Nat.le_refl _) (.cells d t)) (by show w.heap.size < _; omega)]
    exact cell_new1 w c t j
  · show ((w.alloc (.cells c t)).alloc (.cells d t)).cell? _ = _
    rw [← e]
    exact cell_new1 _ d t j
/-- Which pair of the table, for two of that kind. -/
theorem look_22 {W : World} {b : Nat} (h : Pairs W b) : (Instr.lookup 38 (.map (some b)) (.agg #[.int .u8 2, .int .u8 2]) false).run Try.prog W = .ok (.int .i64 1) W := h.look (j := 0) (by decide)
theorem look_33 {W : World} {b : Nat} (h : Pairs W b) : (Instr.lookup 38 (.map (some b)) (.agg #[.int .u8 3, .int .u8 3]) false).run Try.prog W = .ok (.int .i64 3) W := h.look (j := 4) (by decide)
set_option maxRecDepth 20000 in
set_option maxHeartbeats 2000000 in
theorem Bin_int {w : World} {b1 b2 : Nat} {v1 v2 : Value} {op p q : Int} (hop : op = 34 ∨ op = 35) (h1 : RowN w b1 v1 [intN p]) (h2 : RowN w b2 v2 [intN q]) (i1 : I64 p) (i2 : I64 q) :
    Calls Try.prog 4 #[.int .u8 op, v1, v2] w (Told2 w [boolN (cmpB op (decide (p < q)) (p == q))]) := by
  have k1 := Lib.hid (check_ok (int_right i1) h1)
  have k2 := Lib.hid (fun (W : World) (hb : Below w.heap.size w W) => check_ok (int_right i2) (h2.below hb))
  have kW := Lib.hid (fun (W : World) => ofWholes_cmp hop p q W)
  have kP := Lib.hid (fun (W : World) => pairs_any W)
  generalize cmpB op (decide (p < q)) (p == q) = R at *
  obtain ⟨g1, cap1, rfl, -, hg1, -⟩ := ownsRow_head h1 (Nat.le_refl 1)
  obtain ⟨g2, cap2, rfl, -, hg2, -⟩ := ownsRow_head h2 (Nat.le_refl 1)
  obtain ⟨x0, x1, x2, x3, x4⟩ := rowN_cells (d := [intN p]) h1 (i := 0) (Nat.zero_lt_one)
  obtain ⟨y0, y1, y2, y3, y4⟩ := rowN_cells (d := [intN q]) h2 (i := 0) (Nat.zero_lt_one)
  simp only [List.getElem_cons_zero, Nat.zero_mul, Nat.zero_add, intN] at x0 x1 x2 x3 x4 y0 y1 y2 y3 y4
  have hsc := sc_any
  have q1 : ¬ op < 32 := by omega
  have q2 : ¬ (42 < op) := by omega
  have q3 : (op == 32) = false := by rcases hop with rfl | rfl <;> rfl
  have q4 : (op == 33) = false := by rcases hop with rfl | rfl <;> rfl
  clear h1 h2 hop
  go_enter Try.func4, Try.ntmps4
  go_wp2_with fail
  refine k1.out.mono ?_
  rintro e w1 ⟨rfl, hb1⟩
  go_wp2_with fail
  refine (k2.out _ hb1).mono ?_
  rintro e w2 ⟨rfl, hb2⟩
  have hb3 := below_next hb1 hb2
  have hal := (Below.refl w2.heap.size w2).alloc (Nat.le_refl _) (.cells #[.int .i64 0, .int .i64 0] 24)
  have kO := Lib.hid (Or_new w2)
  have hb4 := below_next hb3 hal
  clear hb1 hb2 hb3 hal
  go_wp2_with fail
  refine kO.out.mono ?_
  rintro e w3 ⟨rfl, rfl⟩
  replace x0 := Below.keeps hb4 x0; replace x1 := Below.keeps hb4 x1; replace x2 := Below.keeps hb4 x2; replace x3 := Below.keeps hb4 x3; replace x4 := Below.keeps hb4 x4
  replace y0 := Below.keeps hb4 y0; replace y1 := Below.keeps hb4 y1; replace y2 := Below.keeps hb4 y2; replace y3 := Below.keeps hb4 y3; replace y4 := Below.keeps hb4 y4
  have hz4 := hb4.size
  replace hb4 := Lib.hid hb4
  generalize (w2.alloc (.cells #[.int .i64 0, .int .i64 0] 24)) = w3 at *
  have hg1' : g1 < w3.heap.size := by omega
  have hg2' : g2 < w3.heap.size := by omega
  go_wp2_with fail
  go_region
  · obtain ⟨f0, e0⟩ := two_new w3 #[.int .u8 2, .int .i64 0, .int .i64 p, .string ⟨#[]⟩, .complex .f64 0 0] #[.int .u8 2, .int .i64 0, .int .i64 q, .string ⟨#[]⟩, .complex .f64 0 0] 37 0
    obtain ⟨f2, e2⟩ := two_new w3 #[.int .u8 2, .int .i64 0, .int .i64 p, .string ⟨#[]⟩, .complex .f64 0 0] #[.int .u8 2, .int .i64 0, .int .i64 q, .string ⟨#[]⟩, .complex .f64 0 0] 37 2
    have hb5 := below_next hb4.out (((Below.refl w3.heap.size w3).alloc (Nat.le_refl _) (.cells #[.int .u8 2, .int .i64 0, .int .i64 p, .string ⟨#[]⟩, .complex .f64 0 0] 37)).alloc (by simp) (.cells #[.int .u8 2, .int .i64 0, .int .i64 q, .string ⟨#[]⟩, .complex .f64 0 0] 37)).drew
    have hz5 : w3.heap.size + 1 < (((w3.alloc (.cells #[.int .u8 2, .int .i64 0, .int .i64 p, .string ⟨#[]⟩, .complex .f64 0 0] 37)).alloc (.cells #[.int .u8 2, .int .i64 0, .int .i64 q, .string ⟨#[]⟩, .complex .f64 0 0] 37))).drew.heap.size := by show _ < (((w3.alloc (.cells #[.int .u8 2, .int .i64 0, .int .i64 p, .string ⟨#[]⟩, .complex .f64 0 0] 37)).alloc (.cells #[.int .u8 2, .int .i64 0, .int .i64 q, .string ⟨#[]⟩, .complex .f64 0 0] 37))).heap.size; simp
    generalize (((w3.alloc (.cells #[.int .u8 2, .int .i64 0, .int .i64 p, .string ⟨#[]⟩, .complex .f64 0 0] 37)).alloc (.cells #[.int .u8 2, .int .i64 0, .int .i64 q, .string ⟨#[]⟩, .complex .f64 0 0] 37))).drew = W5 at *
    have hz6 : w3.heap.size < W5.heap.size := by omega
    replace hb5 := Lib.hid hb5
    have hs0 : W5.cell? ⟨w3.heap.size, 0, none⟩ = some (.int .u8 2) := f0
    have hs1 : W5.cell? ⟨w3.heap.size + 1, 0, none⟩ = some (.int .u8 2) := e0
    have hs2 : W5.cell? ⟨w3.heap.size, 2, none⟩ = some (.int .i64 p) := f2
    have hs3 : W5.cell? ⟨w3.heap.size + 1, 2, none⟩ = some (.int .i64 q) := e2
    clear f0 f2 e0 e2
    go_wp2_with fail
    go_region_held3 (fun W => W.cell? ⟨w3.heap.size, 0, none⟩ = some (.int .u8 2) ∧ W.cell? ⟨w3.heap.size + 1, 0, none⟩ = some (.int .u8 2) ∧ W.cell? ⟨w3.heap.size, 2, none⟩ = some (.int .i64 p) ∧ W.cell? ⟨w3.heap.size + 1, 2, none⟩ = some (.int .i64 q))
      (first
        | exact ⟨hs0, hs1, hs2, hs3⟩
        | (go_split_ands; refine ⟨?_, ?_, ?_, ?_⟩ <;> (rw [hb.cell (by first | (simp; done) | (simp; omega))]; first | assumption | exact hs0 | exact hs1 | exact hs2 | exact hs3)))
      ((go_at_call 12; refine (kP.out _).mono ?_; rintro e w' ⟨b, rfl, hbb, hP, hb⟩; have hl := look_22 hP))
    all_goals
      have t2 : w'.cell? ⟨w3.heap.size, 2, none⟩ = some (.int .i64 p) := (hb.cell (p := ⟨w3.heap.size, 2, none⟩) hz6).trans hs2
      have t3 : w'.cell? ⟨w3.heap.size + 1, 2, none⟩ = some (.int .i64 q) := (hb.cell (p := ⟨w3.heap.size + 1, 2, none⟩) hz5).trans hs3
      have hb6 := Lib.hid (below_next hb5.out.drew hb)
      clear hP hb hl hs0 hs1 hs2 hs3
      go_wp2_with fail
      refine (kW.out _).mono ?_
      rintro e w7 ⟨v, rfl, hr, hb7⟩
      have hr2 := Lib.hid (rowN_low hr hb6.out.size)
      have hb8 := Lib.hid (below_next hb6.out hb7)
      clear hr hb7
      go_wp2_with fail
      go_ret2
      exact ⟨_, rfl, hr2.out, hb8.out⟩
  · obtain ⟨f0, e0⟩ := two_new w3 #[.int .u8 2, .int .i64 0, .int .i64 q, .string ⟨#[]⟩, .complex .f64 0 0] #[.int .u8 2, .int .i64 0, .int .i64 p, .string ⟨#[]⟩, .complex .f64 0 0] 37 0
    obtain ⟨f2, e2⟩ := two_new w3 #[.int .u8 2, .int .i64 0, .int .i64 q, .string ⟨#[]⟩, .complex .f64 0 0] #[.int .u8 2, .int .i64 0, .int .i64 p, .string ⟨#[]⟩, .complex .f64 0 0] 37 2
    have hb5 := below_next hb4.out (((Below.refl w3.heap.size w3).alloc (Nat.le_refl _) (.cells #[.int .u8 2, .int .i64 0, .int .i64 q, .string ⟨#[]⟩, .complex .f64 0 0] 37)).alloc (by simp) (.cells #[.int .u8 2, .int .i64 0, .int .i64 p, .string ⟨#[]⟩, .complex .f64 0 0] 37)).drew
    have hz5 : w3.heap.size + 1 < (((w3.alloc (.cells #[.int .u8 2, .int .i64 0, .int .i64 q, .string ⟨#[]⟩, .complex .f64 0 0] 37)).alloc (.cells #[.int .u8 2, .int .i64 0, .int .i64 p, .string ⟨#[]⟩, .complex .f64 0 0] 37))).drew.heap.size := by show _ < (((w3.alloc (.cells #[.int .u8 2, .int .i64 0, .int .i64 q, .string ⟨#[]⟩, .complex .f64 0 0] 37)).alloc (.cells #[.int .u8 2, .int .i64 0, .int .i64 p, .string ⟨#[]⟩, .complex .f64 0 0] 37))).heap.size; simp
    generalize (((w3.alloc (.cells #[.int .u8 2, .int .i64 0, .int .i64 q, .string ⟨#[]⟩, .complex .f64 0 0] 37)).alloc (.cells #[.int .u8 2, .int .i64 0, .int .i64 p, .string ⟨#[]⟩, .complex .f64 0 0] 37))).drew = W5 at *
    have hz6 : w3.heap.size < W5.heap.size := by omega
    replace hb5 := Lib.hid hb5
    have hs0 : W5.cell? ⟨w3.heap.size + 1, 0, none⟩ = some (.int .u8 2) := e0
    have hs1 : W5.cell? ⟨w3.heap.size, 0, none⟩ = some (.int .u8 2) := f0
    have hs2 : W5.cell? ⟨w3.heap.size + 1, 2, none⟩ = some (.int .i64 p) := e2
    have hs3 : W5.cell? ⟨w3.heap.size, 2, none⟩ = some (.int .i64 q) := f2
    clear f0 f2 e0 e2
    go_wp2_with fail
    go_region_held3 (fun W => W.cell? ⟨w3.heap.size + 1, 0, none⟩ = some (.int .u8 2) ∧ W.cell? ⟨w3.heap.size, 0, none⟩ = some (.int .u8 2) ∧ W.cell? ⟨w3.heap.size + 1, 2, none⟩ = some (.int .i64 p) ∧ W.cell? ⟨w3.heap.size, 2, none⟩ = some (.int .i64 q))
      (first
        | exact ⟨hs0, hs1, hs2, hs3⟩
        | (go_split_ands; refine ⟨?_, ?_, ?_, ?_⟩ <;> (rw [hb.cell (by first | (simp; done) | (simp; omega))]; first | assumption | exact hs0 | exact hs1 | exact hs2 | exact hs3)))
      ((go_at_call 12; refine (kP.out _).mono ?_; rintro e w' ⟨b, rfl, hbb, hP, hb⟩; have hl := look_22 hP))
    all_goals
      have t2 : w'.cell? ⟨w3.heap.size + 1, 2, none⟩ = some (.int .i64 p) := (hb.cell (p := ⟨w3.heap.size + 1, 2, none⟩) hz5).trans hs2
      have t3 : w'.cell? ⟨w3.heap.size, 2, none⟩ = some (.int .i64 q) := (hb.cell (p := ⟨w3.heap.size, 2, none⟩) hz6).trans hs3
      have hb6 := Lib.hid (below_next hb5.out.drew hb)
      clear hP hb hl hs0 hs1 hs2 hs3
      go_wp2_with fail
      refine (kW.out _).mono ?_
      rintro e w7 ⟨v, rfl, hr, hb7⟩
      have hr2 := Lib.hid (rowN_low hr hb6.out.size)
      have hb8 := Lib.hid (below_next hb6.out hb7)
      clear hr hb7
      go_wp2_with fail
      go_ret2
      exact ⟨_, rfl, hr2.out, hb8.out⟩
end Go.Proofs.Ytlljmagmphfnmaa
