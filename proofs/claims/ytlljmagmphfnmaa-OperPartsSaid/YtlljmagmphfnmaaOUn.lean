/- oper.ofComplex and oper.Unary of a complex number of whole parts (layer 12): the first part, the second one, the conjugate, walked. No condition. -/
import Derived.Test.YtlljmagmphfnmaaONum
namespace Go.Proofs.Ytlljmagmphfnmaa
open Go.RowKit

theorem num_right {a b : Int} (ha : W53 a) (hb : W53 b) : RightV [numN a b] := one_right rfl (.inr (.inr (.inr (.inr (.inl ⟨rfl, rfl, fine_foi ha hb, foi_64 ha, foi_64 hb⟩))))) (by show (0 : Nat) ≤ 4095; omega)
theorem w53_neg {b : Int} (hb : W53 b) : W53 (-b) := by rw [W53, Int.natAbs_neg]; exact hb

/-- What the operators ORe, OIm and OConj make of a complex number. -/
def unN (op a b : Int) : Nd := if op = 46 then intN a else if op = 47 then intN b else numN a (-b)
set_option maxHeartbeats 400000 in
theorem ofComplex_any {op : Int} (hop : op = 46 ∨ op = 47 ∨ op = 48) {a b : Int} (ha : W53 a) (hb : W53 b) (w : World) :
    Calls Try.prog 23 #[.int .u8 op, .complex .f64 (floatOfInt .f64 a) (floatOfInt .f64 b)] w (Told2 w [unN op a b]) := by
  have kP := Lib.hid (fun (W : World) => Parts_any (IsI.of a) ha (IsI.of b) hb W)
  have kI := Lib.hid (fun (n : Int) (W : World) => Int_row n W)
  have kC := Lib.hid (fun (W : World) => Conj_any (IsI.of a) ha (IsI.of b) hb W)
  have kN := Lib.hid (fun (W : World) => Num_row ha (w53_neg hb) W)
  rcases hop with rfl | rfl | rfl
  · go_enter Try.func23, Try.ntmps23
    go_wp2_with fail
    refine (kP.out _).mono ?_
    rintro e w1 ⟨rfl, rfl⟩
    go_wp2_with fail
    refine (kI.out _ _).mono ?_
    rintro e w1 ⟨v, rfl, hr, hb⟩
    go_wp2_with fail
    go_ret2
    exact ⟨_, rfl, hr, hb⟩
  · go_enter Try.func23, Try.ntmps23
    go_wp2_with fail
    refine (kP.out _).mono ?_
    rintro e w1 ⟨rfl, rfl⟩
    go_wp2_with fail
    refine (kI.out _ _).mono ?_
    rintro e w1 ⟨v, rfl, hr, hb⟩
    go_wp2_with fail
    go_ret2
    exact ⟨_, rfl, hr, hb⟩
  · go_enter Try.func23, Try.ntmps23
    go_wp2_with fail
    refine (kP.out _).mono ?_
    rintro e w1 ⟨rfl, rfl⟩
    go_wp2_with fail
    refine (kC.out _).mono ?_
    rintro e w1 ⟨rfl, rfl⟩
    go_wp2_with fail
    refine (kN.out _).mono ?_
    rintro e w1 ⟨v, rfl, hr, hb⟩
    go_wp2_with fail
    go_ret2
    exact ⟨_, rfl, hr, hb⟩
set_option maxRecDepth 20000 in
set_option maxHeartbeats 1000000 in
theorem Unary_num {op : Int} (hop : op = 46 ∨ op = 47 ∨ op = 48) {a b : Int} (ha : W53 a) (hb : W53 b) {w : World} {b1 : Nat} {v1 : Value} (h1 : RowN w b1 v1 [numN a b]) :
    Calls Try.prog 6 #[.int .u8 op, v1] w (Told2 w [unN op a b]) := by
  have k1 := Lib.hid (check_ok (num_right ha hb) h1)
  have kU := Lib.hid (fun (W : World) => ofComplex_any hop ha hb W)
  obtain ⟨g1, cap1, rfl, -, hg1, -⟩ := ownsRow_head h1 (Nat.le_refl 1)
  obtain ⟨x0, x1, x2, x3, x4⟩ := rowN_cells (d := [numN a b]) h1 (i := 0) (Nat.zero_lt_one)
  simp only [List.getElem_cons_zero, Nat.zero_mul, Nat.zero_add, numN] at x0 x1 x2 x3 x4
  generalize unN op a b = R at *
  generalize floatOfInt .f64 a = p at *
  generalize floatOfInt .f64 b = q at *
  have hsc := sc_any
  clear h1
  rcases hop with rfl | rfl | rfl
  all_goals
    go_enter Try.func6, Try.ntmps6
    go_wp2_with fail
    refine k1.out.mono ?_
    rintro e w1 ⟨rfl, hb1⟩
    replace x0 := Below.keeps hb1 x0; replace x1 := Below.keeps hb1 x1; replace x2 := Below.keeps hb1 x2; replace x3 := Below.keeps hb1 x3; replace x4 := Below.keeps hb1 x4
    have hal := (Below.refl w1.heap.size w1).alloc (Nat.le_refl _) (.cells #[.int .u8 4, .int .i64 0, .int .i64 0, .string ⟨#[]⟩, .complex .f64 p q] 37)
    have hb2 := Lib.hid (below_next hb1 hal)
    clear hb1 hal
    go_wp2_with fail
    refine (kU.out _).mono ?_
    rintro e w2 ⟨v, rfl, hr, hb3⟩
    have hr2 := Lib.hid (rowN_low hr hb2.out.size)
    have hb4 := Lib.hid (below_next hb2.out hb3)
    clear hr hb3
    go_wp2_with fail
    go_ret2
    exact ⟨_, rfl, hr2.out, hb4.out⟩
end Go.Proofs.Ytlljmagmphfnmaa
