/- The law OperParts: a complex number that was made of two whole numbers has just these parts, and its conjugate the second one turned. No condition. -/
import Derived.Test.YtlljmagmphfnmaaOBinC
import Derived.Test.YtlljmagmphfnmaaOBinN
import Derived.Test.YtlljmagmphfnmaaOWak
namespace Go.Proofs.Ytlljmagmphfnmaa
open Go.RowKit

/-- Binary OAdd of two complex numbers of whole parts. -/
theorem Bin_cx {a b c d : Int} (ha : W53 a) (hb : W53 b) (hc : W53 c) (hd : W53 d) (hm : W53 (a + c)) (hn : W53 (b + d)) {w : World} {b1 b2 : Nat} {v1 v2 : Value} (h1 : RowN w b1 v1 [numN a b]) (h2 : RowN w b2 v2 [numN c d]) :
    Calls Try.prog 4 #[.int .u8 36, v1, v2] w (Told2 w [numN (a + c) (b + d)]) :=
  Bin_cx0 (num_right ha hb) (num_right hc hd) (Lib.hid fun W => number_any (a := a) (b := b) W) (Lib.hid fun W => number_any (a := c) (b := d) W) (Lib.hid fun W => reckonedC_any ha hb hc hd hm hn W) h1 h2
section
variable {a b : Int} {w : World} {b1 : Nat} {v1 : Value}
theorem Unary_re (ha : W53 a) (hb : W53 b) (h1 : RowN w b1 v1 [numN a b]) : Calls Try.prog 6 #[.int .u8 46, v1] w (Told2 w [intN a]) := Unary_num (op := 46) (.inl rfl) ha hb h1
theorem Unary_im (ha : W53 a) (hb : W53 b) (h1 : RowN w b1 v1 [numN a b]) : Calls Try.prog 6 #[.int .u8 47, v1] w (Told2 w [intN b]) := Unary_num (op := 47) (.inr (.inl rfl)) ha hb h1
theorem Unary_conj (ha : W53 a) (hb : W53 b) (h1 : RowN w b1 v1 [numN a b]) : Calls Try.prog 6 #[.int .u8 48, v1] w (Told2 w [numN a (-b)]) := Unary_num (op := 48) (.inr (.inr rfl)) ha hb h1
end
theorem same_int (n : Int) : sameB (intN n) (intN n) = true := by
  unfold sameB intN
  simp
set_option maxRecDepth 20000 in
set_option maxHeartbeats 2000000 in
theorem parts_walk (x y : Int) (w : World) (hx1 : -2147483648 ≤ x) (hx2 : x ≤ 2147483647) (hy1 : -2147483648 ≤ y) (hy2 : y ≤ 2147483647) :
    Calls Try.prog 3 #[.int .i32 x, .int .i32 y] w fun e w' => e = .returned (.bool true) ∧ Below w.heap.size w w' := by
  have wx : W53 x := by unfold W53; omega
  have wy : W53 y := by unfold W53; omega
  have wny : W53 (-y) := by unfold W53; omega
  have wxx : W53 (x + x) := by unfold W53; omega
  have wyy : W53 (y + -y) := by unfold W53; omega
  have ix : I64 x := by unfold I64; omega
  have iy : I64 y := by unfold I64; omega
  have hWk := Lib.hid wakes12_any
  have kI := Lib.hid (fun (n : Int) (W : World) => Int_row n W)
  go_enter Try.func3, Try.ntmps3
  go_wp2_with fail
  refine (kI.out x _).mono ?_
  rintro e w1 ⟨vx, rfl, r1, b1⟩
  replace r1 := Lib.hid r1
  replace b1 := Lib.hid b1
  go_wp2_with fail
  refine (kI.out y _).mono ?_
  rintro e w2 ⟨vy, rfl, r2, b2⟩
  have kB := Lib.hid (Bin_num ix iy wx wy (r1.out.below b2) r2)
  replace b2 := Lib.hid (below_next b1.out b2)
  clear r1 r2 b1
  go_wp2_with fail
  refine kB.out.mono ?_
  rintro e w3 ⟨vz, rfl, rz, b3⟩
  replace b3 := Lib.hid (below_next b2.out b3)
  clear kB b2
  have k4 := Lib.hid (Unary_re wx wy rz)
  replace rz := Lib.hid rz
  go_wp2_with fail
  refine k4.out.mono ?_
  rintro e w4 ⟨vre, rfl, rre, b4⟩
  replace rz := Lib.hid (rz.out.below b4)
  replace b4 := Lib.hid (below_next b3.out b4)
  replace rre := Lib.hid rre
  clear k4 b3
  have k5 := Lib.hid (Unary_im wx wy rz.out)
  go_wp2_with fail
  refine k5.out.mono ?_
  rintro e w5 ⟨vim, rfl, rim, b5⟩
  replace rz := Lib.hid (rz.out.below b5)
  replace rre := Lib.hid (rre.out.below b5)
  replace b5 := Lib.hid (below_next b4.out b5)
  replace rim := Lib.hid rim
  clear k5 b4
  have k6 := Lib.hid (Unary_conj wx wy rz.out)
  go_wp2_with fail
  refine k6.out.mono ?_
  rintro e w6 ⟨vc, rfl, rc, b6⟩
  replace rz := Lib.hid (rz.out.below b6)
  replace rre := Lib.hid (rre.out.below b6)
  replace rim := Lib.hid (rim.out.below b6)
  replace b6 := Lib.hid (below_next b5.out b6)
  replace rc := Lib.hid rc
  clear k6 b5
  go_wp2_with fail
  refine (kI.out x _).mono ?_
  rintro e w7 ⟨v7, rfl, rI, b7⟩
  replace rz := Lib.hid (rz.out.below b7)
  replace rre := Lib.hid (rre.out.below b7)
  replace rim := Lib.hid (rim.out.below b7)
  replace rc := Lib.hid (rc.out.below b7)
  replace b7 := Lib.hid (below_next b6.out b7)
  clear b6
  replace rI := Lib.hid rI
  have kS := Lib.hid (Same1_any rre.out rI.out (int_right ix) (int_right ix) ⟨rfl, rfl⟩ ⟨rfl, rfl⟩)
  go_wp2_with fail
  clear rI
  rw [show sameB (intN x) (intN x) = true from same_int _] at kS
  refine kS.out.mono ?_
  rintro e w8 ⟨rfl, b8⟩
  replace rz := Lib.hid (rz.out.below b8)
  replace rre := Lib.hid (rre.out.below b8)
  replace rim := Lib.hid (rim.out.below b8)
  replace rc := Lib.hid (rc.out.below b8)
  replace b8 := Lib.hid (below_next b7.out b8)
  clear b7
  clear kS
  go_wp2_with fail
  refine (kI.out y _).mono ?_
  rintro e w9 ⟨v9, rfl, rI, b9⟩
  replace rz := Lib.hid (rz.out.below b9)
  replace rre := Lib.hid (rre.out.below b9)
  replace rim := Lib.hid (rim.out.below b9)
  replace rc := Lib.hid (rc.out.below b9)
  replace b9 := Lib.hid (below_next b8.out b9)
  clear b8
  replace rI := Lib.hid rI
  have kS := Lib.hid (Same1_any rim.out rI.out (int_right iy) (int_right iy) ⟨rfl, rfl⟩ ⟨rfl, rfl⟩)
  go_wp2_with fail
  clear rI
  rw [show sameB (intN y) (intN y) = true from same_int _] at kS
  refine kS.out.mono ?_
  rintro e w10 ⟨rfl, b10⟩
  replace rz := Lib.hid (rz.out.below b10)
  replace rre := Lib.hid (rre.out.below b10)
  replace rim := Lib.hid (rim.out.below b10)
  replace rc := Lib.hid (rc.out.below b10)
  replace b10 := Lib.hid (below_next b9.out b10)
  clear b9
  clear kS
  go_wp2_with fail
  clear rre rim
  have k7 := Lib.hid (Unary_im wx wny rc.out)
  refine k7.out.mono ?_
  rintro e w11 ⟨vb, rfl, rb, b11⟩
  replace rz := Lib.hid (rz.out.below b11)
  replace rc := Lib.hid (rc.out.below b11)
  replace b11 := Lib.hid (below_next b10.out b11)
  clear b10
  replace rb := Lib.hid rb
  clear k7
  go_wp2_with fail
  have k8 := Lib.hid (Bin_cx wx wy wx wny wxx wyy rz.out rc.out)
  refine k8.out.mono ?_
  rintro e w12 ⟨vs, rfl, rs, b12⟩
  replace rz := Lib.hid (rz.out.below b12)
  replace rc := Lib.hid (rc.out.below b12)
  replace rb := Lib.hid (rb.out.below b12)
  replace b12 := Lib.hid (below_next b11.out b12)
  clear b11
  replace rs := Lib.hid rs
  clear k8 rz rc
  go_wp2_with fail
  have iny : I64 (-y) := by unfold I64; omega
  have itx : I64 (2 * x) := by unfold I64; omega
  have e2 : x + x = 2 * x := by omega
  have e0 : y + -y = 0 := by omega
  rw [e2, e0] at rs
  have w2x : W53 (2 * x) := by unfold W53; omega
  have w0 : W53 0 := by unfold W53; omega
  clear e2 e0
  refine (kI.out (-y) _).mono ?_
  rintro e w13 ⟨v13, rfl, rI, b13⟩
  replace rb := Lib.hid (rb.out.below b13)
  replace rs := Lib.hid (rs.out.below b13)
  replace b13 := Lib.hid (below_next b12.out b13)
  clear b12
  replace rI := Lib.hid rI
  have kS := Lib.hid (Same1_any rb.out rI.out (int_right iny) (int_right iny) ⟨rfl, rfl⟩ ⟨rfl, rfl⟩)
  go_wp2_with fail
  clear rI
  rw [show sameB (intN (-y)) (intN (-y)) = true from same_int _] at kS
  refine kS.out.mono ?_
  rintro e w14 ⟨rfl, b14⟩
  replace rb := Lib.hid (rb.out.below b14)
  replace rs := Lib.hid (rs.out.below b14)
  replace b14 := Lib.hid (below_next b13.out b14)
  clear b13
  clear kS
  go_wp2_with fail
  clear rb
  have k9 := Lib.hid (Unary_re w2x w0 rs.out)
  refine k9.out.mono ?_
  rintro e w15 ⟨vt, rfl, rt, b15⟩
  replace rs := Lib.hid (rs.out.below b15)
  replace b15 := Lib.hid (below_next b14.out b15)
  clear b14
  replace rt := Lib.hid rt
  clear k9
  have k9 := Lib.hid (Unary_im w2x w0 rs.out)
  go_wp2_with fail
  refine k9.out.mono ?_
  rintro e w16 ⟨vn, rfl, rn, b16⟩
  replace rs := Lib.hid (rs.out.below b16)
  replace rt := Lib.hid (rt.out.below b16)
  replace b16 := Lib.hid (below_next b15.out b16)
  clear b15
  replace rn := Lib.hid rn
  clear k9 rs
  go_wp2_with fail
  refine (kI.out (2 * x) _).mono ?_
  rintro e w17 ⟨v17, rfl, rI, b17⟩
  replace rt := Lib.hid (rt.out.below b17)
  replace rn := Lib.hid (rn.out.below b17)
  replace b17 := Lib.hid (below_next b16.out b17)
  clear b16
  replace rI := Lib.hid rI
  have kS := Lib.hid (Same1_any rt.out rI.out (int_right itx) (int_right itx) ⟨rfl, rfl⟩ ⟨rfl, rfl⟩)
  go_wp2_with fail
  clear rI
  rw [show sameB (intN (2 * x)) (intN (2 * x)) = true from same_int _] at kS
  refine kS.out.mono ?_
  rintro e w18 ⟨rfl, b18⟩
  replace rt := Lib.hid (rt.out.below b18)
  replace rn := Lib.hid (rn.out.below b18)
  replace b18 := Lib.hid (below_next b17.out b18)
  clear b17
  clear kS
  go_wp2_with fail
  clear rt
  refine (kI.out 0 _).mono ?_
  rintro e w19 ⟨v19, rfl, rI, b19⟩
  replace rn := Lib.hid (rn.out.below b19)
  replace b19 := Lib.hid (below_next b18.out b19)
  clear b18
  replace rI := Lib.hid rI
  have kS := Lib.hid (Same1_any rn.out rI.out (int_right (by unfold I64; omega)) (int_right (by unfold I64; omega)) ⟨rfl, rfl⟩ ⟨rfl, rfl⟩)
  go_wp2_with fail
  clear rI
  rw [show sameB (intN 0) (intN 0) = true from same_int _] at kS
  refine kS.out.mono ?_
  rintro e w20 ⟨rfl, b20⟩
  replace rn := Lib.hid (rn.out.below b20)
  replace b20 := Lib.hid (below_next b19.out b20)
  clear b19
  clear kS
  go_wp2_with fail
  clear rn
  refine (hWk.out _).mono ?_
  rintro e w21 ⟨rfl, b21⟩
  replace b21 := Lib.hid (below_next b20.out b21)
  clear b20
  go_wp2_with fail
  go_ret
  exact ⟨rfl, b21.out⟩
theorem i32_of_wf {x : Int} (h : (Lit.int .i32 x).wf = true) : -2147483648 ≤ x ∧ x ≤ 2147483647 := by
  have hmin : IntKind.i32.min = -2147483648 := rfl
  have hmax : IntKind.i32.max = 2147483647 := rfl
  simp only [Lit.wf, Bool.and_eq_true, decide_eq_true_eq, hmin, hmax] at h
  exact h
theorem operParts_walk (x y : Int) (w : World) (h0 : (Lit.int .i32 x).wf = true) (h1 : (Lit.int .i32 y).wf = true) :
    Calls Try.prog 3 #[.int .i32 x, .int .i32 y] w fun e w' => e = .returned (.bool true) ∧ Below w.heap.size w w' :=
  parts_walk x y w (i32_of_wf h0).1 (i32_of_wf h0).2 (i32_of_wf h1).1 (i32_of_wf h1).2
end Go.Proofs.Ytlljmagmphfnmaa
