/- oper.Binary of two complex numbers at OAdd (layer 12), walked. (Made out of OBinS by mkobinn.py.) No condition. -/
import Derived.Test.YtlljmagmphfnmaaOCx
namespace Go.Proofs.Ytlljmagmphfnmaa
open Go.RowKit

/-- Which pair of the table, for two complex numbers. -/
theorem look_44 {W : World} {b : Nat} (h : Pairs W b) : (Instr.lookup 38 (.map (some b)) (.agg #[.int .u8 4, .int .u8 4]) false).run Try.prog W = .ok (.int .i64 2) W := h.look (j := 3) (by decide)
set_option maxRecDepth 20000 in
set_option maxHeartbeats 2000000 in
theorem Bin_cx0 {w : World} {b1 b2 : Nat} {v1 v2 : Value} {R : Nd} {p1 q1 p2 q2 : Nat} (r1 : RightV [⟨4, 0, 0, ⟨#[]⟩, p1, q1⟩]) (r2 : RightV [⟨4, 0, 0, ⟨#[]⟩, p2, q2⟩])
    (kA : Hid (∀ W : World, Calls Try.prog 15 #[.agg #[.int .u8 4, .int .i64 0, .int .i64 0, .string ⟨#[]⟩, .complex .f64 p1 q1]] W fun e w' => e = .returned (.complex .f64 p1 q1) ∧ Below W.heap.size W w'))
    (kB : Hid (∀ W : World, Calls Try.prog 15 #[.agg #[.int .u8 4, .int .i64 0, .int .i64 0, .string ⟨#[]⟩, .complex .f64 p2 q2]] W fun e w' => e = .returned (.complex .f64 p2 q2) ∧ Below W.heap.size W w'))
    (kR : Hid (∀ W : World, Calls Try.prog 14 #[.int .u8 36, .complex .f64 p1 q1, .complex .f64 p2 q2, artC] W (Told2 W [R])))
    (h1 : RowN w b1 v1 [⟨4, 0, 0, ⟨#[]⟩, p1, q1⟩]) (h2 : RowN w b2 v2 [⟨4, 0, 0, ⟨#[]⟩, p2, q2⟩]) :
    Calls Try.prog 4 #[.int .u8 36, v1, v2] w (Told2 w [R]) := by
  have k1 := Lib.hid (check_ok (r1) h1)
  have k2 := Lib.hid (fun (W : World) (hb : Below w.heap.size w W) => check_ok (r2) (h2.below hb))
  have kX := Lib.hid (fun (W : World) => complexes_any W)
  have kP := Lib.hid (fun (W : World) => pairs_any W)
  obtain ⟨g1, cap1, rfl, -, hg1, -⟩ := ownsRow_head h1 (Nat.le_refl 1)
  obtain ⟨g2, cap2, rfl, -, hg2, -⟩ := ownsRow_head h2 (Nat.le_refl 1)
  obtain ⟨x0, x1, x2, x3, x4⟩ := rowN_cells (d := [⟨4, 0, 0, ⟨#[]⟩, p1, q1⟩]) h1 (i := 0) (Nat.zero_lt_one)
  obtain ⟨y0, y1, y2, y3, y4⟩ := rowN_cells (d := [⟨4, 0, 0, ⟨#[]⟩, p2, q2⟩]) h2 (i := 0) (Nat.zero_lt_one)
  simp only [List.getElem_cons_zero, Nat.zero_mul, Nat.zero_add] at x0 x1 x2 x3 x4 y0 y1 y2 y3 y4
  have hsc := sc_any
  clear h1 h2 r1 r2
  go_enter Try.func4, Try.ntmps4
  go_wp2_with fail
  refine k1.out.mono ?_
  rintro e w1 ⟨rfl, hb1⟩
  go_wp2_with fail
  refine (k2.out _ hb1).mono ?_
  rintro e w2 ⟨rfl, hb2⟩
  have hb3 := below_next hb1 hb2
  have hal := (Below.refl w2.heap.size w2).alloc (Nat.le_refl _) (.cells #[.int .i64 0, .int .i64 0] 24)
  have kO := Lib.hid (Or_new w2)
  have hb4 := below_next hb3 hal
  clear hb1 hb2 hb3 hal
  go_wp2_with fail
  refine kO.out.mono ?_
  rintro e w3 ⟨rfl, rfl⟩
  replace x0 := Below.keeps hb4 x0; replace x1 := Below.keeps hb4 x1; replace x2 := Below.keeps hb4 x2; replace x3 := Below.keeps hb4 x3; replace x4 := Below.keeps hb4 x4
  replace y0 := Below.keeps hb4 y0; replace y1 := Below.keeps hb4 y1; replace y2 := Below.keeps hb4 y2; replace y3 := Below.keeps hb4 y3; replace y4 := Below.keeps hb4 y4
  have hz4 := hb4.size
  replace hb4 := Lib.hid hb4
  generalize (w2.alloc (.cells #[.int .i64 0, .int .i64 0] 24)) = w3 at *
  have hg1' : g1 < w3.heap.size := by omega
  have hg2' : g2 < w3.heap.size := by omega
  go_wp2_with fail
  go_region
  · obtain ⟨f0, e0⟩ := two_new w3 #[.int .u8 4, .int .i64 0, .int .i64 0, .string ⟨#[]⟩, .complex .f64 p1 q1] #[.int .u8 4, .int .i64 0, .int .i64 0, .string ⟨#[]⟩, .complex .f64 p2 q2] 37 0
    have hb5 := below_next hb4.out (((Below.refl w3.heap.size w3).alloc (Nat.le_refl _) (.cells #[.int .u8 4, .int .i64 0, .int .i64 0, .string ⟨#[]⟩, .complex .f64 p1 q1] 37)).alloc (by simp) (.cells #[.int .u8 4, .int .i64 0, .int .i64 0, .string ⟨#[]⟩, .complex .f64 p2 q2] 37)).drew
    have hz5 : w3.heap.size + 1 < (((w3.alloc (.cells #[.int .u8 4, .int .i64 0, .int .i64 0, .string ⟨#[]⟩, .complex .f64 p1 q1] 37)).alloc (.cells #[.int .u8 4, .int .i64 0, .int .i64 0, .string ⟨#[]⟩, .complex .f64 p2 q2] 37))).drew.heap.size := by show _ < (((w3.alloc (.cells #[.int .u8 4, .int .i64 0, .int .i64 0, .string ⟨#[]⟩, .complex .f64 p1 q1] 37)).alloc (.cells #[.int .u8 4, .int .i64 0, .int .i64 0, .string ⟨#[]⟩, .complex .f64 p2 q2] 37))).heap.size; simp
    have nX : IsNode (((w3.alloc (.cells #[.int .u8 4, .int .i64 0, .int .i64 0, .string ⟨#[]⟩, .complex .f64 p1 q1] 37)).alloc (.cells #[.int .u8 4, .int .i64 0, .int .i64 0, .string ⟨#[]⟩, .complex .f64 p2 q2] 37))).drew w3.heap.size 4 0 ⟨#[]⟩ p1 q1 := ((IsNode.made w3 4 0 ⟨#[]⟩ p1 q1).below ((Below.refl _ _).alloc (Nat.le_refl _) _).drew)
    have nY : IsNode (((w3.alloc (.cells #[.int .u8 4, .int .i64 0, .int .i64 0, .string ⟨#[]⟩, .complex .f64 p1 q1] 37)).alloc (.cells #[.int .u8 4, .int .i64 0, .int .i64 0, .string ⟨#[]⟩, .complex .f64 p2 q2] 37))).drew (w3.heap.size + 1) 4 0 ⟨#[]⟩ p2 q2 := by
      have h := (IsNode.made (w3.alloc (.cells #[.int .u8 4, .int .i64 0, .int .i64 0, .string ⟨#[]⟩, .complex .f64 p1 q1] 37)) 4 0 ⟨#[]⟩ p2 q2).below ((Below.refl _ _).drew)
      rwa [show (w3.alloc (.cells #[.int .u8 4, .int .i64 0, .int .i64 0, .string ⟨#[]⟩, .complex .f64 p1 q1] 37)).heap.size = w3.heap.size + 1 by simp] at h
    generalize (((w3.alloc (.cells #[.int .u8 4, .int .i64 0, .int .i64 0, .string ⟨#[]⟩, .complex .f64 p1 q1] 37)).alloc (.cells #[.int .u8 4, .int .i64 0, .int .i64 0, .string ⟨#[]⟩, .complex .f64 p2 q2] 37))).drew = W5 at *
    have hz6 : w3.heap.size < W5.heap.size := by omega
    replace hb5 := Lib.hid hb5
    replace nX := Lib.hid nX
    replace nY := Lib.hid nY
    have ha0 : W5.cell? ⟨w3.heap.size, 0, none⟩ = some (.int .u8 4) := f0
    have hc0 : W5.cell? ⟨w3.heap.size + 1, 0, none⟩ = some (.int .u8 4) := e0
    clear e0 f0
    go_wp2_with fail
    go_region_held3 (fun W => W.cell? ⟨w3.heap.size, 0, none⟩ = some (.int .u8 4) ∧ W.cell? ⟨w3.heap.size + 1, 0, none⟩ = some (.int .u8 4))
      (first
        | exact ⟨ha0, hc0⟩
        | (go_split_ands; refine ⟨?_, ?_⟩ <;> (rw [hb.cell (by first | (simp; done) | (simp; omega))]; first | assumption | exact ha0 | exact hc0)))
      ((go_at_call 12; refine (kP.out _).mono ?_; rintro e w' ⟨b, rfl, hbb, hP, hb⟩; have hl := look_44 hP))
    all_goals
      have hb6 := Lib.hid (below_next hb5.out.drew hb)
      have mX := (nX.out.below ((Below.refl _ _).drew)).kept hb hz6
      have mY := (nY.out.below ((Below.refl _ _).drew)).kept hb hz5
      have hzX := mX.lt
      have hzY := mY.lt
      clear hP hb hl ha0 hc0 nX nY
      replace mX := Lib.hid mX
      replace mY := Lib.hid mY
      go_wp2_with fail
      have cX0 := fun (W : World) (h : Below w'.heap.size w' W) => (h.cell (p := ⟨w3.heap.size, 0, none⟩) hzX).trans mX.out.c0
      have cX1 := fun (W : World) (h : Below w'.heap.size w' W) => (h.cell (p := ⟨w3.heap.size, 1, none⟩) hzX).trans mX.out.c1
      have cX2 := fun (W : World) (h : Below w'.heap.size w' W) => (h.cell (p := ⟨w3.heap.size, 2, none⟩) hzX).trans mX.out.c2
      have cX3 := fun (W : World) (h : Below w'.heap.size w' W) => (h.cell (p := ⟨w3.heap.size, 3, none⟩) hzX).trans mX.out.c3
      have cX4 := fun (W : World) (h : Below w'.heap.size w' W) => (h.cell (p := ⟨w3.heap.size, 4, none⟩) hzX).trans mX.out.c4
      have cY0 := fun (W : World) (h : Below w'.heap.size w' W) => (h.cell (p := ⟨w3.heap.size + 1, 0, none⟩) hzY).trans mY.out.c0
      have cY1 := fun (W : World) (h : Below w'.heap.size w' W) => (h.cell (p := ⟨w3.heap.size + 1, 1, none⟩) hzY).trans mY.out.c1
      have cY2 := fun (W : World) (h : Below w'.heap.size w' W) => (h.cell (p := ⟨w3.heap.size + 1, 2, none⟩) hzY).trans mY.out.c2
      have cY3 := fun (W : World) (h : Below w'.heap.size w' W) => (h.cell (p := ⟨w3.heap.size + 1, 3, none⟩) hzY).trans mY.out.c3
      have cY4 := fun (W : World) (h : Below w'.heap.size w' W) => (h.cell (p := ⟨w3.heap.size + 1, 4, none⟩) hzY).trans mY.out.c4
      have hz := Nat.le_refl w'.heap.size
      go_region_held3 (fun W => w'.heap.size ≤ W.heap.size ∧ Below w'.heap.size w' W)
        (first
          | exact ⟨hz, (Below.refl _ _).drew⟩
          | (go_split_ands; rename_i hq0 hq1; exact ⟨Nat.le_trans hq0 hb.size, hq1.trans (hb.mono hq0)⟩))
        (first
          | (go_at_call 15; (first | (with_reducible refine (kA.out _).mono ?_) | (with_reducible refine (kB.out _).mono ?_)); rintro e w9 ⟨rfl, hb⟩)
          | (go_at_call 16; refine (kX.out _).mono ?_; rintro e w9 ⟨rfl, hb⟩)
          | (go_at_call 14; refine (kR.out _).mono ?_; rintro e w9 ⟨v, rfl, hr, hb⟩))
      all_goals
        have hz9 := hb6.out.size
        go_split_ands
        rename_i wA hbA wB hbB wC hbC hqa hqb
        have hr2 := Lib.hid (rowN_low hr (Nat.le_trans hz9 (Nat.le_trans hbA.size (Nat.le_trans hbB.size hbC.size))))
        have hb9 := Lib.hid (below_next hb6.out hqb)
        go_wp2_with fail
        go_ret2
        exact ⟨_, rfl, hr2.out, hb9.out⟩
  · obtain ⟨f0, e0⟩ := two_new w3 #[.int .u8 4, .int .i64 0, .int .i64 0, .string ⟨#[]⟩, .complex .f64 p2 q2] #[.int .u8 4, .int .i64 0, .int .i64 0, .string ⟨#[]⟩, .complex .f64 p1 q1] 37 0
    have hb5 := below_next hb4.out (((Below.refl w3.heap.size w3).alloc (Nat.le_refl _) (.cells #[.int .u8 4, .int .i64 0, .int .i64 0, .string ⟨#[]⟩, .complex .f64 p2 q2] 37)).alloc (by simp) (.cells #[.int .u8 4, .int .i64 0, .int .i64 0, .string ⟨#[]⟩, .complex .f64 p1 q1] 37)).drew
    have hz5 : w3.heap.size + 1 < (((w3.alloc (.cells #[.int .u8 4, .int .i64 0, .int .i64 0, .string ⟨#[]⟩, .complex .f64 p2 q2] 37)).alloc (.cells #[.int .u8 4, .int .i64 0, .int .i64 0, .string ⟨#[]⟩, .complex .f64 p1 q1] 37))).drew.heap.size := by show _ < (((w3.alloc (.cells #[.int .u8 4, .int .i64 0, .int .i64 0, .string ⟨#[]⟩, .complex .f64 p2 q2] 37)).alloc (.cells #[.int .u8 4, .int .i64 0, .int .i64 0, .string ⟨#[]⟩, .complex .f64 p1 q1] 37))).heap.size; simp
    have nX : IsNode (((w3.alloc (.cells #[.int .u8 4, .int .i64 0, .int .i64 0, .string ⟨#[]⟩, .complex .f64 p2 q2] 37)).alloc (.cells #[.int .u8 4, .int .i64 0, .int .i64 0, .string ⟨#[]⟩, .complex .f64 p1 q1] 37))).drew w3.heap.size 4 0 ⟨#[]⟩ p2 q2 := ((IsNode.made w3 4 0 ⟨#[]⟩ p2 q2).below ((Below.refl _ _).alloc (Nat.le_refl _) _).drew)
    have nY : IsNode (((w3.alloc (.cells #[.int .u8 4, .int .i64 0, .int .i64 0, .string ⟨#[]⟩, .complex .f64 p2 q2] 37)).alloc (.cells #[.int .u8 4, .int .i64 0, .int .i64 0, .string ⟨#[]⟩, .complex .f64 p1 q1] 37))).drew (w3.heap.size + 1) 4 0 ⟨#[]⟩ p1 q1 := by
      have h := (IsNode.made (w3.alloc (.cells #[.int .u8 4, .int .i64 0, .int .i64 0, .string ⟨#[]⟩, .complex .f64 p2 q2] 37)) 4 0 ⟨#[]⟩ p1 q1).below ((Below.refl _ _).drew)
      rwa [show (w3.alloc (.cells #[.int .u8 4, .int .i64 0, .int .i64 0, .string ⟨#[]⟩, .complex .f64 p2 q2] 37)).heap.size = w3.heap.size + 1 by simp] at h
    generalize (((w3.alloc (.cells #[.int .u8 4, .int .i64 0, .int .i64 0, .string ⟨#[]⟩, .complex .f64 p2 q2] 37)).alloc (.cells #[.int .u8 4, .int .i64 0, .int .i64 0, .string ⟨#[]⟩, .complex .f64 p1 q1] 37))).drew = W5 at *
    have hz6 : w3.heap.size < W5.heap.size := by omega
    replace hb5 := Lib.hid hb5
    replace nX := Lib.hid nX
    replace nY := Lib.hid nY
    have ha0 : W5.cell? ⟨w3.heap.size + 1, 0, none⟩ = some (.int .u8 4) := e0
    have hc0 : W5.cell? ⟨w3.heap.size, 0, none⟩ = some (.int .u8 4) := f0
    clear e0 f0
    go_wp2_with fail
    go_region_held3 (fun W => W.cell? ⟨w3.heap.size + 1, 0, none⟩ = some (.int .u8 4) ∧ W.cell? ⟨w3.heap.size, 0, none⟩ = some (.int .u8 4))
      (first
        | exact ⟨ha0, hc0⟩
        | (go_split_ands; refine ⟨?_, ?_⟩ <;> (rw [hb.cell (by first | (simp; done) | (simp; omega))]; first | assumption | exact ha0 | exact hc0)))
      ((go_at_call 12; refine (kP.out _).mono ?_; rintro e w' ⟨b, rfl, hbb, hP, hb⟩; have hl := look_44 hP))
    all_goals
      have hb6 := Lib.hid (below_next hb5.out.drew hb)
      have mX := (nX.out.below ((Below.refl _ _).drew)).kept hb hz6
      have mY := (nY.out.below ((Below.refl _ _).drew)).kept hb hz5
      have hzX := mX.lt
      have hzY := mY.lt
      clear hP hb hl ha0 hc0 nX nY
      replace mX := Lib.hid mX
      replace mY := Lib.hid mY
      go_wp2_with fail
      have cX0 := fun (W : World) (h : Below w'.heap.size w' W) => (h.cell (p := ⟨w3.heap.size, 0, none⟩) hzX).trans mX.out.c0
      have cX1 := fun (W : World) (h : Below w'.heap.size w' W) => (h.cell (p := ⟨w3.heap.size, 1, none⟩) hzX).trans mX.out.c1
      have cX2 := fun (W : World) (h : Below w'.heap.size w' W) => (h.cell (p := ⟨w3.heap.size, 2, none⟩) hzX).trans mX.out.c2
      have cX3 := fun (W : World) (h : Below w'.heap.size w' W) => (h.cell (p := ⟨w3.heap.size, 3, none⟩) hzX).trans mX.out.c3
      have cX4 := fun (W : World) (h : Below w'.heap.size w' W) => (h.cell (p := ⟨w3.heap.size, 4, none⟩) hzX).trans mX.out.c4
      have cY0 := fun (W : World) (h : Below w'.heap.size w' W) => (h.cell (p := ⟨w3.heap.size + 1, 0, none⟩) hzY).trans mY.out.c0
      have cY1 := fun (W : World) (h : Below w'.heap.size w' W) => (h.cell (p := ⟨w3.heap.size + 1, 1, none⟩) hzY).trans mY.out.c1
      have cY2 := fun (W : World) (h : Below w'.heap.size w' W) => (h.cell (p := ⟨w3.heap.size + 1, 2, none⟩) hzY).trans mY.out.c2
      have cY3 := fun (W : World) (h : Below w'.heap.size w' W) => (h.cell (p := ⟨w3.heap.size + 1, 3, none⟩) hzY).trans mY.out.c3
      have cY4 := fun (W : World) (h : Below w'.heap.size w' W) => (h.cell (p := ⟨w3.heap.size + 1, 4, none⟩) hzY).trans mY.out.c4
      have hz := Nat.le_refl w'.heap.size
      go_region_held3 (fun W => w'.heap.size ≤ W.heap.size ∧ Below w'.heap.size w' W)
        (first
          | exact ⟨hz, (Below.refl _ _).drew⟩
          | (go_split_ands; rename_i hq0 hq1; exact ⟨Nat.le_trans hq0 hb.size, hq1.trans (hb.mono hq0)⟩))
        (first
          | (go_at_call 15; (first | (with_reducible refine (kA.out _).mono ?_) | (with_reducible refine (kB.out _).mono ?_)); rintro e w9 ⟨rfl, hb⟩)
          | (go_at_call 16; refine (kX.out _).mono ?_; rintro e w9 ⟨rfl, hb⟩)
          | (go_at_call 14; refine (kR.out _).mono ?_; rintro e w9 ⟨v, rfl, hr, hb⟩))
      all_goals
        have hz9 := hb6.out.size
        go_split_ands
        rename_i wA hbA wB hbB wC hbC hqa hqb
        have hr2 := Lib.hid (rowN_low hr (Nat.le_trans hz9 (Nat.le_trans hbA.size (Nat.le_trans hbB.size hbC.size))))
        have hb9 := Lib.hid (below_next hb6.out hqb)
        go_wp2_with fail
        go_ret2
        exact ⟨_, rfl, hr2.out, hb9.out⟩
end Go.Proofs.Ytlljmagmphfnmaa
