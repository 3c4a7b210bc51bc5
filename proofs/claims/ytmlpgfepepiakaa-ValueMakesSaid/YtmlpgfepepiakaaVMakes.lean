/- The walk of ValueMakes: what is made is the document's, and made again as before. -/
import Derived.Test.YtmlpgfepepiakaaVAlike
import Derived.Deep.RegionHeld
namespace Go.Proofs.Ytmlpgfepepiakaa
open Go.RowKit

theorem results_two {fn : Func} {p q : Tmp} {tmps : Array Value} {w : World} {u v : Value} (h : fn.results = #[.tmp p, .tmp q]) (hp : tmps.getD p undef = u) (hq : tmps.getD q undef = v) :
    (results fn tmps).run Try.prog w = .ok (.tuple #[u, v]) w := by
  simp [results, h, go_sem]
  exact ⟨by simpa using hp, by simpa using hq⟩

/-- A node, or an error alone. -/
def MadeOK (w : World) (k n : Int) (s : ByteArray) (x y : Nat) (e : Ending) (w' : World) : Prop :=
  ∃ b, e = .returned (.tuple #[.slice (some ⟨b, 0, none⟩) 1 1, .int .i64 0]) ∧ IsNode w' b k n s x y ∧ w.heap.size ≤ b ∧ Below w.heap.size w w'

set_option maxHeartbeats 400000 in
theorem Text_ok (s : ByteArray) (w : World) (h : s.size ≤ 4095) : Calls Try.prog 5 #[.string s] w (MadeOK w 3 0 s 0 0) := by
  have h' : decide (4095 < (s.size : Int)) = false := decide_eq_false (by omega)
  go_enter Try.func5, Try.ntmps5
  go_wp2_with ((with_reducible refine (nodeText_any _ _ _).mono ?_); rintro e w' ⟨b, rfl, hn, hb, hB⟩)
  go_ret2
  exact ⟨b, rfl, hn, hb, hB⟩
set_option maxHeartbeats 400000 in
theorem Text_no (s : ByteArray) (w : World) (h : ¬ s.size ≤ 4095) (hs : s.size ≤ 140737488351232) :
    Calls Try.prog 5 #[.string s] w fun e w' => e = .returned (.tuple #[.slice none 0 0, .int .i64 2]) ∧ w = w' := by
  have h' : decide (4095 < (s.size : Int)) = true := decide_eq_true (by omega)
  go_enter Try.func5, Try.ntmps5
  go_wp2
  go_ret2
  exact ⟨rfl, rfl⟩
set_option maxHeartbeats 400000 in
theorem Num_ok {x y : Nat} (hx : x < 18446744073709551616) (hy : y < 18446744073709551616) (h : (finB x && finB y) = true) (w : World) :
    Calls Try.prog 6 #[.complex .f64 x y] w (MadeOK w 4 0 ⟨#[]⟩ (plainN x) (plainN y)) := by
  have c := Fine_all (plainN_lt hx) (plainN_lt hy) (IsPlain.of x) (IsPlain.of y)
  rw [finB_plain, finB_plain, h] at c
  clear h
  go_enter Try.func6, Try.ntmps6
  go_wp2_with (first
    | ((with_reducible refine (Plain_all _ _ _).mono ?_); rintro e w' ⟨rfl, rfl⟩)
    | ((with_reducible refine (c _).mono ?_); rintro e w' ⟨rfl, rfl⟩)
    | ((with_reducible refine (nodeNum_any _ _ _ _).mono ?_); rintro e w' ⟨b, rfl, hn, hb, hB⟩))
  go_ret2
  exact ⟨b, rfl, hn, hb, hB⟩
set_option maxHeartbeats 400000 in
theorem Num_no {x y : Nat} (hx : x < 18446744073709551616) (hy : y < 18446744073709551616) (h : (finB x && finB y) = false) (w : World) :
    Calls Try.prog 6 #[.complex .f64 x y] w fun e w' => e = .returned (.tuple #[.slice none 0 0, .int .i64 20]) ∧ w = w' := by
  have c := Fine_all (plainN_lt hx) (plainN_lt hy) (IsPlain.of x) (IsPlain.of y)
  rw [finB_plain, finB_plain, h] at c
  clear h
  go_enter Try.func6, Try.ntmps6
  go_wp2_with (first
    | ((with_reducible refine (Plain_all _ _ _).mono ?_); rintro e w' ⟨rfl, rfl⟩)
    | ((with_reducible refine (c _).mono ?_); rintro e w' ⟨rfl, rfl⟩))
  go_ret2
  exact ⟨rfl, rfl⟩
theorem refFine_is {x y : Nat} {b : Bool} (h : (finB x && finB y) = b) (w : World) :
    Calls Try.prog 10 #[.complex .f64 (plainN x) (plainN y)] w fun e w' => e = .returned (.bool b) ∧ w = w' := by
  have c := refFine_all (x := plainN x) (y := plainN y) plainN_ne plainN_ne w
  rw [finB_plain, finB_plain, h] at c
  exact c

/-- The four nodes of a whole number, of true, of false, of nothing. -/
structure Four (w : World) (x : Int) (i b c d : Nat) : Prop where
  hi : IsNode w i 2 x ⟨#[]⟩ 0 0
  hb : IsNode w b 1 1 ⟨#[]⟩ 0 0
  hc : IsNode w c 1 0 ⟨#[]⟩ 0 0
  hd : IsNode w d 0 0 ⟨#[]⟩ 0 0
theorem Four.below {w w' : World} {x : Int} {i b c d : Nat} (h : Four w x i b c d) (hb : Below w.heap.size w w') : Four w' x i b c d :=
  ⟨h.hi.below hb, h.hb.below hb, h.hc.below hb, h.hd.below hb⟩

theorem float_lt {p : Nat} (h : (Lit.float .f64 p).wf = true) : p < 18446744073709551616 := by
  have := h
  simp [Lit.wf] at this
  exact this

set_option maxRecDepth 100000 in
set_option maxHeartbeats 8000000 in
theorem makes_yy (x : Int) (s : ByteArray) (p q : Nat) (w : World) (hs : s.size ≤ 140737488351232) (hp : p < 18446744073709551616) (hq : q < 18446744073709551616) (h : s.size ≤ 4095) (hf : (finB p && finB q) = true) :
    Calls Try.prog 3 #[.int .i64 x, .string s, .float .f64 p, .float .f64 q] w fun e w' => e = .returned (.bool true) ∧ Below w.heap.size w w' := by
  have h' : decide (4095 < (s.size : Int)) = false := decide_eq_false (by omega)
  have K := Below.refl w.heap.size w
  have ox : Hid (FloatKind.f64.format.order (plainN p) (plainN p) = some .eq) := ord_self_fin (by rw [finB_plain]; simp at hf; exact hf.1)
  have oy : Hid (FloatKind.f64.format.order (plainN q) (plainN q) = some .eq) := ord_self_fin (by rw [finB_plain]; simp at hf; exact hf.2)
  have hf := Lib.hid hf
  go_enter Try.func3, Try.ntmps3
  go_wp2_with fail
  refine (Text_ok s _ h).mono ?_
  rintro e w1 ⟨b1, rfl, n1, lb1, B⟩
  replace K := below_next K B
  clear B
  go_wp2_with fail
  refine (Num_ok hp hq hf.out _).mono ?_
  rintro e w2 ⟨b2, rfl, n2, lb2, B⟩
  replace n1 := n1.below B
  replace K := below_next K B
  clear B
  go_wp2_with fail
  refine (refText_any s _).mono ?_
  rintro e w3 ⟨b3, rfl, n3, lb3, B⟩
  replace n1 := n1.below B
  replace n2 := n2.below B
  replace K := below_next K B
  clear B
  go_wp2_with fail
  refine (alike_one ord_00 ord_00 _ n1 n3).mono ?_
  rintro e w4 ⟨rfl, B⟩
  replace n2 := n2.below B
  replace K := below_next K B
  clear B
  clear n1 n3
  go_wp2_with fail
  refine (refPlain_all hp hq _).mono ?_
  rintro e w' ⟨rfl, rfl⟩
  go_wp2_with fail
  refine (refFine_is hf.out _).mono ?_
  rintro e w' ⟨rfl, rfl⟩
  go_wp2_with fail
  refine (refNum_any _ _ _).mono ?_
  rintro e w5 ⟨b5, rfl, n5, lb5, B⟩
  replace n2 := n2.below B
  replace K := below_next K B
  clear B
  go_wp2_with fail
  refine (alike_one ox.out oy.out _ n2 n5).mono ?_
  rintro e w6 ⟨rfl, B⟩
  replace n2 := n2.below B
  replace K := below_next K B
  clear B
  clear n5
  have c4 := n2.c4
  go_wp2_with fail
  refine (refFine_is hf.out _).mono ?_
  rintro e w' ⟨rfl, rfl⟩
  clear c4 n2
  go_wp2_with fail
  refine (Int_any _ _).mono ?_
  rintro e w7 ⟨bi, rfl, ni, lbi, B⟩
  have lbi := Nat.le_trans K.size lbi
  replace K := below_next K B
  clear B
  go_wp2_with fail
  refine (Bool_yes _).mono ?_
  rintro e w8 ⟨bb, rfl, nb, lbb, B⟩
  have dib : bi ≠ bb := by have := ni.lt; omega
  have lbb := Nat.le_trans K.size lbb
  replace ni := ni.below B
  replace K := below_next K B
  clear B
  go_wp2_with fail
  refine (Bool_no _).mono ?_
  rintro e w9 ⟨bc, rfl, nc, lbc, B⟩
  have dbc : bb ≠ bc := by have := nb.lt; omega
  have dic : bi ≠ bc := by have := ni.lt; omega
  have lbc := Nat.le_trans K.size lbc
  replace ni := ni.below B
  replace nb := nb.below B
  replace K := below_next K B
  clear B
  go_wp2_with fail
  refine (None_any _).mono ?_
  rintro e w10 ⟨bd, rfl, nd, lbd, B⟩
  have dcd : bc ≠ bd := by have := nc.lt; omega
  have dbd : bb ≠ bd := by have := nb.lt; omega
  have did : bi ≠ bd := by have := ni.lt; omega
  have lbd := Nat.le_trans K.size lbd
  have F : Four w10 x bi bb bc bd := ⟨ni.below B, nb.below B, nc.below B, nd⟩
  replace K := below_next K B
  clear B
  clear ni nb nc nd
  go_wp2_with fail
  refine (refInt_any _ _).mono ?_
  rintro e w11 ⟨b0, rfl, n0, lb0, B⟩
  replace F := F.below B
  replace K := below_next K B
  clear B
  go_wp2_with fail
  refine (alike_one ord_00 ord_00 _ F.hi n0).mono ?_
  rintro e w12 ⟨rfl, B⟩
  replace F := F.below B
  replace K := below_next K B
  clear B
  clear n0 lb0
  go_wp2_with fail
  refine (refBool_yes _).mono ?_
  rintro e w13 ⟨b0, rfl, n0, lb0, B⟩
  replace F := F.below B
  replace K := below_next K B
  clear B
  go_wp2_with fail
  refine (alike_one ord_00 ord_00 _ F.hb n0).mono ?_
  rintro e w14 ⟨rfl, B⟩
  replace F := F.below B
  replace K := below_next K B
  clear B
  clear n0 lb0
  go_wp2_with fail
  refine (refBool_no _).mono ?_
  rintro e w15 ⟨b0, rfl, n0, lb0, B⟩
  replace F := F.below B
  replace K := below_next K B
  clear B
  go_wp2_with fail
  refine (alike_one ord_00 ord_00 _ F.hc n0).mono ?_
  rintro e w16 ⟨rfl, B⟩
  replace F := F.below B
  replace K := below_next K B
  clear B
  clear n0 lb0
  go_wp2_with fail
  refine (refNone_any _).mono ?_
  rintro e w17 ⟨b0, rfl, n0, lb0, B⟩
  replace F := F.below B
  replace K := below_next K B
  clear B
  go_wp2_with fail
  refine (alike_one ord_00 ord_00 _ F.hd n0).mono ?_
  rintro e w18 ⟨rfl, B⟩
  replace F := F.below B
  replace K := below_next K B
  clear B
  clear n0 lb0
  have ci := F.hi.c2
  have cb : (w18.setCell ⟨bi, 2, none⟩ (.int .i64 (wrap64 (x + 1)))).cell? ⟨bb, 2, none⟩ = some (.int .i64 1) := by
    rw [World.cell?_setCell_far _ _ _ _ dib]; exact F.hb.c2
  have cc : ((w18.setCell ⟨bi, 2, none⟩ (.int .i64 (wrap64 (x + 1)))).setCell ⟨bb, 2, none⟩ (.int .i64 7)).cell? ⟨bc, 0, none⟩ = some (.int .u8 1) := by
    rw [World.cell?_setCell_far _ _ _ _ dbc, World.cell?_setCell_far _ _ _ _ dic]; exact F.hc.c0
  have cd : (((w18.setCell ⟨bi, 2, none⟩ (.int .i64 (wrap64 (x + 1)))).setCell ⟨bb, 2, none⟩ (.int .i64 7)).setCell ⟨bc, 0, none⟩ (.int .u8 9)).cell? ⟨bd, 0, none⟩ = some (.int .u8 0) := by
    rw [World.cell?_setCell_far _ _ _ _ dcd, World.cell?_setCell_far _ _ _ _ dbd, World.cell?_setCell_far _ _ _ _ did]; exact F.hd.c0
  have fi := F.hi.f 2
  have fb := F.hb.f 2
  have fc := F.hc.f 0
  have fd := F.hd.f 0
  clear dib dbc dic dcd dbd did F
  go_wp2_with fail
  replace K := (((K.setCell (p := ⟨bi, 2, none⟩) lbi (.int .i64 (wrap64 (x + 1)))).setCell (p := ⟨bb, 2, none⟩) lbb (.int .i64 7)).setCell (p := ⟨bc, 0, none⟩) lbc (.int .u8 9)).setCell (p := ⟨bd, 0, none⟩) lbd (.int .u8 9)
  clear ci cb cc cd fi fb fc fd
  generalize (((w18.setCell ⟨bi, 2, none⟩ (.int .i64 (wrap64 (x + 1)))).setCell ⟨bb, 2, none⟩ (.int .i64 7)).setCell ⟨bc, 0, none⟩ (.int .u8 9)).setCell ⟨bd, 0, none⟩ (.int .u8 9) = wz at K ⊢
  refine (Int_any _ _).mono ?_
  rintro e w19 ⟨b6, rfl, n6, lb6, B⟩
  replace K := below_next K B
  clear B
  go_wp2_with fail
  refine (refInt_any _ _).mono ?_
  rintro e w20 ⟨b7, rfl, n7, lb7, B⟩
  replace n6 := n6.below B
  replace K := below_next K B
  clear B
  go_wp2_with fail
  refine (alike_one ord_00 ord_00 _ n6 n7).mono ?_
  rintro e w21 ⟨rfl, B⟩
  replace K := below_next K B
  clear B
  clear n6 n7 lb6 lb7
  go_wp2_with fail
  refine (Bool_yes _).mono ?_
  rintro e w22 ⟨b6, rfl, n6, lb6, B⟩
  replace K := below_next K B
  clear B
  go_wp2_with fail
  refine (refBool_yes _).mono ?_
  rintro e w23 ⟨b7, rfl, n7, lb7, B⟩
  replace n6 := n6.below B
  replace K := below_next K B
  clear B
  go_wp2_with fail
  refine (alike_one ord_00 ord_00 _ n6 n7).mono ?_
  rintro e w24 ⟨rfl, B⟩
  replace K := below_next K B
  clear B
  clear n6 n7 lb6 lb7
  go_wp2_with fail
  refine (Bool_no _).mono ?_
  rintro e w25 ⟨b6, rfl, n6, lb6, B⟩
  replace K := below_next K B
  clear B
  go_wp2_with fail
  refine (refBool_no _).mono ?_
  rintro e w26 ⟨b7, rfl, n7, lb7, B⟩
  replace n6 := n6.below B
  replace K := below_next K B
  clear B
  go_wp2_with fail
  refine (alike_one ord_00 ord_00 _ n6 n7).mono ?_
  rintro e w27 ⟨rfl, B⟩
  replace K := below_next K B
  clear B
  clear n6 n7 lb6 lb7
  go_wp2_with fail
  refine (None_any _).mono ?_
  rintro e w28 ⟨b6, rfl, n6, lb6, B⟩
  replace K := below_next K B
  clear B
  go_wp2_with fail
  refine (refNone_any _).mono ?_
  rintro e w29 ⟨b7, rfl, n7, lb7, B⟩
  replace n6 := n6.below B
  replace K := below_next K B
  clear B
  go_wp2_with fail
  refine (alike_one ord_00 ord_00 _ n6 n7).mono ?_
  rintro e w30 ⟨rfl, B⟩
  replace K := below_next K B
  clear B
  clear n6 n7 lb6 lb7
  go_wp2_with fail
  go_ret
  exact ⟨rfl, K⟩

set_option maxRecDepth 100000 in
set_option maxHeartbeats 8000000 in
theorem makes_yn (x : Int) (s : ByteArray) (p q : Nat) (w : World) (hs : s.size ≤ 140737488351232) (hp : p < 18446744073709551616) (hq : q < 18446744073709551616) (h : s.size ≤ 4095) (hf : (finB p && finB q) = false) :
    Calls Try.prog 3 #[.int .i64 x, .string s, .float .f64 p, .float .f64 q] w fun e w' => e = .returned (.bool true) ∧ Below w.heap.size w w' := by
  have h' : decide (4095 < (s.size : Int)) = false := decide_eq_false (by omega)
  have K := Below.refl w.heap.size w
  have hf := Lib.hid hf
  go_enter Try.func3, Try.ntmps3
  go_wp2_with fail
  refine (Text_ok s _ h).mono ?_
  rintro e w1 ⟨b1, rfl, n1, lb1, B⟩
  replace K := below_next K B
  clear B
  go_wp2_with fail
  refine (Num_no hp hq hf.out _).mono ?_
  rintro e w' ⟨rfl, rfl⟩
  go_wp2_with fail
  refine (refText_any s _).mono ?_
  rintro e w2 ⟨b3, rfl, n3, lb3, B⟩
  replace n1 := n1.below B
  replace K := below_next K B
  clear B
  go_wp2_with fail
  refine (alike_one ord_00 ord_00 _ n1 n3).mono ?_
  rintro e w3 ⟨rfl, B⟩
  replace K := below_next K B
  clear B
  clear n1 n3
  go_wp2_with fail
  refine (refPlain_all hp hq _).mono ?_
  rintro e w' ⟨rfl, rfl⟩
  go_wp2_with fail
  refine (refFine_is hf.out _).mono ?_
  rintro e w' ⟨rfl, rfl⟩
  go_wp2_with fail
  refine (Int_any _ _).mono ?_
  rintro e w4 ⟨bi, rfl, ni, lbi, B⟩
  have lbi := Nat.le_trans K.size lbi
  replace K := below_next K B
  clear B
  go_wp2_with fail
  refine (Bool_yes _).mono ?_
  rintro e w5 ⟨bb, rfl, nb, lbb, B⟩
  have dib : bi ≠ bb := by have := ni.lt; omega
  have lbb := Nat.le_trans K.size lbb
  replace ni := ni.below B
  replace K := below_next K B
  clear B
  go_wp2_with fail
  refine (Bool_no _).mono ?_
  rintro e w6 ⟨bc, rfl, nc, lbc, B⟩
  have dbc : bb ≠ bc := by have := nb.lt; omega
  have dic : bi ≠ bc := by have := ni.lt; omega
  have lbc := Nat.le_trans K.size lbc
  replace ni := ni.below B
  replace nb := nb.below B
  replace K := below_next K B
  clear B
  go_wp2_with fail
  refine (None_any _).mono ?_
  rintro e w7 ⟨bd, rfl, nd, lbd, B⟩
  have dcd : bc ≠ bd := by have := nc.lt; omega
  have dbd : bb ≠ bd := by have := nb.lt; omega
  have did : bi ≠ bd := by have := ni.lt; omega
  have lbd := Nat.le_trans K.size lbd
  have F : Four w7 x bi bb bc bd := ⟨ni.below B, nb.below B, nc.below B, nd⟩
  replace K := below_next K B
  clear B
  clear ni nb nc nd
  go_wp2_with fail
  refine (refInt_any _ _).mono ?_
  rintro e w8 ⟨b0, rfl, n0, lb0, B⟩
  replace F := F.below B
  replace K := below_next K B
  clear B
  go_wp2_with fail
  refine (alike_one ord_00 ord_00 _ F.hi n0).mono ?_
  rintro e w9 ⟨rfl, B⟩
  replace F := F.below B
  replace K := below_next K B
  clear B
  clear n0 lb0
  go_wp2_with fail
  refine (refBool_yes _).mono ?_
  rintro e w10 ⟨b0, rfl, n0, lb0, B⟩
  replace F := F.below B
  replace K := below_next K B
  clear B
  go_wp2_with fail
  refine (alike_one ord_00 ord_00 _ F.hb n0).mono ?_
  rintro e w11 ⟨rfl, B⟩
  replace F := F.below B
  replace K := below_next K B
  clear B
  clear n0 lb0
  go_wp2_with fail
  refine (refBool_no _).mono ?_
  rintro e w12 ⟨b0, rfl, n0, lb0, B⟩
  replace F := F.below B
  replace K := below_next K B
  clear B
  go_wp2_with fail
  refine (alike_one ord_00 ord_00 _ F.hc n0).mono ?_
  rintro e w13 ⟨rfl, B⟩
  replace F := F.below B
  replace K := below_next K B
  clear B
  clear n0 lb0
  go_wp2_with fail
  refine (refNone_any _).mono ?_
  rintro e w14 ⟨b0, rfl, n0, lb0, B⟩
  replace F := F.below B
  replace K := below_next K B
  clear B
  go_wp2_with fail
  refine (alike_one ord_00 ord_00 _ F.hd n0).mono ?_
  rintro e w15 ⟨rfl, B⟩
  replace F := F.below B
  replace K := below_next K B
  clear B
  clear n0 lb0
  have ci := F.hi.c2
  have cb : (w15.setCell ⟨bi, 2, none⟩ (.int .i64 (wrap64 (x + 1)))).cell? ⟨bb, 2, none⟩ = some (.int .i64 1) := by
    rw [World.cell?_setCell_far _ _ _ _ dib]; exact F.hb.c2
  have cc : ((w15.setCell ⟨bi, 2, none⟩ (.int .i64 (wrap64 (x + 1)))).setCell ⟨bb, 2, none⟩ (.int .i64 7)).cell? ⟨bc, 0, none⟩ = some (.int .u8 1) := by
    rw [World.cell?_setCell_far _ _ _ _ dbc, World.cell?_setCell_far _ _ _ _ dic]; exact F.hc.c0
  have cd : (((w15.setCell ⟨bi, 2, none⟩ (.int .i64 (wrap64 (x + 1)))).setCell ⟨bb, 2, none⟩ (.int .i64 7)).setCell ⟨bc, 0, none⟩ (.int .u8 9)).cell? ⟨bd, 0, none⟩ = some (.int .u8 0) := by
    rw [World.cell?_setCell_far _ _ _ _ dcd, World.cell?_setCell_far _ _ _ _ dbd, World.cell?_setCell_far _ _ _ _ did]; exact F.hd.c0
  have fi := F.hi.f 2
  have fb := F.hb.f 2
  have fc := F.hc.f 0
  have fd := F.hd.f 0
  clear dib dbc dic dcd dbd did F
  go_wp2_with fail
  replace K := (((K.setCell (p := ⟨bi, 2, none⟩) lbi (.int .i64 (wrap64 (x + 1)))).setCell (p := ⟨bb, 2, none⟩) lbb (.int .i64 7)).setCell (p := ⟨bc, 0, none⟩) lbc (.int .u8 9)).setCell (p := ⟨bd, 0, none⟩) lbd (.int .u8 9)
  clear ci cb cc cd fi fb fc fd
  generalize (((w15.setCell ⟨bi, 2, none⟩ (.int .i64 (wrap64 (x + 1)))).setCell ⟨bb, 2, none⟩ (.int .i64 7)).setCell ⟨bc, 0, none⟩ (.int .u8 9)).setCell ⟨bd, 0, none⟩ (.int .u8 9) = wz at K ⊢
  refine (Int_any _ _).mono ?_
  rintro e w16 ⟨b6, rfl, n6, lb6, B⟩
  replace K := below_next K B
  clear B
  go_wp2_with fail
  refine (refInt_any _ _).mono ?_
  rintro e w17 ⟨b7, rfl, n7, lb7, B⟩
  replace n6 := n6.below B
  replace K := below_next K B
  clear B
  go_wp2_with fail
  refine (alike_one ord_00 ord_00 _ n6 n7).mono ?_
  rintro e w18 ⟨rfl, B⟩
  replace K := below_next K B
  clear B
  clear n6 n7 lb6 lb7
  go_wp2_with fail
  refine (Bool_yes _).mono ?_
  rintro e w19 ⟨b6, rfl, n6, lb6, B⟩
  replace K := below_next K B
  clear B
  go_wp2_with fail
  refine (refBool_yes _).mono ?_
  rintro e w20 ⟨b7, rfl, n7, lb7, B⟩
  replace n6 := n6.below B
  replace K := below_next K B
  clear B
  go_wp2_with fail
  refine (alike_one ord_00 ord_00 _ n6 n7).mono ?_
  rintro e w21 ⟨rfl, B⟩
  replace K := below_next K B
  clear B
  clear n6 n7 lb6 lb7
  go_wp2_with fail
  refine (Bool_no _).mono ?_
  rintro e w22 ⟨b6, rfl, n6, lb6, B⟩
  replace K := below_next K B
  clear B
  go_wp2_with fail
  refine (refBool_no _).mono ?_
  rintro e w23 ⟨b7, rfl, n7, lb7, B⟩
  replace n6 := n6.below B
  replace K := below_next K B
  clear B
  go_wp2_with fail
  refine (alike_one ord_00 ord_00 _ n6 n7).mono ?_
  rintro e w24 ⟨rfl, B⟩
  replace K := below_next K B
  clear B
  clear n6 n7 lb6 lb7
  go_wp2_with fail
  refine (None_any _).mono ?_
  rintro e w25 ⟨b6, rfl, n6, lb6, B⟩
  replace K := below_next K B
  clear B
  go_wp2_with fail
  refine (refNone_any _).mono ?_
  rintro e w26 ⟨b7, rfl, n7, lb7, B⟩
  replace n6 := n6.below B
  replace K := below_next K B
  clear B
  go_wp2_with fail
  refine (alike_one ord_00 ord_00 _ n6 n7).mono ?_
  rintro e w27 ⟨rfl, B⟩
  replace K := below_next K B
  clear B
  clear n6 n7 lb6 lb7
  go_wp2_with fail
  go_ret
  exact ⟨rfl, K⟩

set_option maxRecDepth 100000 in
set_option maxHeartbeats 8000000 in
theorem makes_ny (x : Int) (s : ByteArray) (p q : Nat) (w : World) (hs : s.size ≤ 140737488351232) (hp : p < 18446744073709551616) (hq : q < 18446744073709551616) (h : ¬ s.size ≤ 4095) (hf : (finB p && finB q) = true) :
    Calls Try.prog 3 #[.int .i64 x, .string s, .float .f64 p, .float .f64 q] w fun e w' => e = .returned (.bool true) ∧ Below w.heap.size w w' := by
  have h' : decide (4095 < (s.size : Int)) = true := decide_eq_true (by omega)
  have K := Below.refl w.heap.size w
  have ox : Hid (FloatKind.f64.format.order (plainN p) (plainN p) = some .eq) := ord_self_fin (by rw [finB_plain]; simp at hf; exact hf.1)
  have oy : Hid (FloatKind.f64.format.order (plainN q) (plainN q) = some .eq) := ord_self_fin (by rw [finB_plain]; simp at hf; exact hf.2)
  have hf := Lib.hid hf
  go_enter Try.func3, Try.ntmps3
  go_wp2_with fail
  refine (Text_no s _ h hs).mono ?_
  rintro e w' ⟨rfl, rfl⟩
  go_wp2_with fail
  refine (Num_ok hp hq hf.out _).mono ?_
  rintro e w1 ⟨b2, rfl, n2, lb2, B⟩
  replace K := below_next K B
  clear B
  go_wp2_with fail
  refine (refPlain_all hp hq _).mono ?_
  rintro e w' ⟨rfl, rfl⟩
  go_wp2_with fail
  refine (refFine_is hf.out _).mono ?_
  rintro e w' ⟨rfl, rfl⟩
  go_wp2_with fail
  refine (refNum_any _ _ _).mono ?_
  rintro e w2 ⟨b5, rfl, n5, lb5, B⟩
  replace n2 := n2.below B
  replace K := below_next K B
  clear B
  go_wp2_with fail
  refine (alike_one ox.out oy.out _ n2 n5).mono ?_
  rintro e w3 ⟨rfl, B⟩
  replace n2 := n2.below B
  replace K := below_next K B
  clear B
  clear n5
  have c4 := n2.c4
  go_wp2_with fail
  refine (refFine_is hf.out _).mono ?_
  rintro e w' ⟨rfl, rfl⟩
  clear c4 n2
  go_wp2_with fail
  refine (Int_any _ _).mono ?_
  rintro e w4 ⟨bi, rfl, ni, lbi, B⟩
  have lbi := Nat.le_trans K.size lbi
  replace K := below_next K B
  clear B
  go_wp2_with fail
  refine (Bool_yes _).mono ?_
  rintro e w5 ⟨bb, rfl, nb, lbb, B⟩
  have dib : bi ≠ bb := by have := ni.lt; omega
  have lbb := Nat.le_trans K.size lbb
  replace ni := ni.below B
  replace K := below_next K B
  clear B
  go_wp2_with fail
  refine (Bool_no _).mono ?_
  rintro e w6 ⟨bc, rfl, nc, lbc, B⟩
  have dbc : bb ≠ bc := by have := nb.lt; omega
  have dic : bi ≠ bc := by have := ni.lt; omega
  have lbc := Nat.le_trans K.size lbc
  replace ni := ni.below B
  replace nb := nb.below B
  replace K := below_next K B
  clear B
  go_wp2_with fail
  refine (None_any _).mono ?_
  rintro e w7 ⟨bd, rfl, nd, lbd, B⟩
  have dcd : bc ≠ bd := by have := nc.lt; omega
  have dbd : bb ≠ bd := by have := nb.lt; omega
  have did : bi ≠ bd := by have := ni.lt; omega
  have lbd := Nat.le_trans K.size lbd
  have F : Four w7 x bi bb bc bd := ⟨ni.below B, nb.below B, nc.below B, nd⟩
  replace K := below_next K B
  clear B
  clear ni nb nc nd
  go_wp2_with fail
  refine (refInt_any _ _).mono ?_
  rintro e w8 ⟨b0, rfl, n0, lb0, B⟩
  replace F := F.below B
  replace K := below_next K B
  clear B
  go_wp2_with fail
  refine (alike_one ord_00 ord_00 _ F.hi n0).mono ?_
  rintro e w9 ⟨rfl, B⟩
  replace F := F.below B
  replace K := below_next K B
  clear B
  clear n0 lb0
  go_wp2_with fail
  refine (refBool_yes _).mono ?_
  rintro e w10 ⟨b0, rfl, n0, lb0, B⟩
  replace F := F.below B
  replace K := below_next K B
  clear B
  go_wp2_with fail
  refine (alike_one ord_00 ord_00 _ F.hb n0).mono ?_
  rintro e w11 ⟨rfl, B⟩
  replace F := F.below B
  replace K := below_next K B
  clear B
  clear n0 lb0
  go_wp2_with fail
  refine (refBool_no _).mono ?_
  rintro e w12 ⟨b0, rfl, n0, lb0, B⟩
  replace F := F.below B
  replace K := below_next K B
  clear B
  go_wp2_with fail
  refine (alike_one ord_00 ord_00 _ F.hc n0).mono ?_
  rintro e w13 ⟨rfl, B⟩
  replace F := F.below B
  replace K := below_next K B
  clear B
  clear n0 lb0
  go_wp2_with fail
  refine (refNone_any _).mono ?_
  rintro e w14 ⟨b0, rfl, n0, lb0, B⟩
  replace F := F.below B
  replace K := below_next K B
  clear B
  go_wp2_with fail
  refine (alike_one ord_00 ord_00 _ F.hd n0).mono ?_
  rintro e w15 ⟨rfl, B⟩
  replace F := F.below B
  replace K := below_next K B
  clear B
  clear n0 lb0
  have ci := F.hi.c2
  have cb : (w15.setCell ⟨bi, 2, none⟩ (.int .i64 (wrap64 (x + 1)))).cell? ⟨bb, 2, none⟩ = some (.int .i64 1) := by
    rw [World.cell?_setCell_far _ _ _ _ dib]; exact F.hb.c2
  have cc : ((w15.setCell ⟨bi, 2, none⟩ (.int .i64 (wrap64 (x + 1)))).setCell ⟨bb, 2, none⟩ (.int .i64 7)).cell? ⟨bc, 0, none⟩ = some (.int .u8 1) := by
    rw [World.cell?_setCell_far _ _ _ _ dbc, World.cell?_setCell_far _ _ _ _ dic]; exact F.hc.c0
  have cd : (((w15.setCell ⟨bi, 2, none⟩ (.int .i64 (wrap64 (x + 1)))).setCell ⟨bb, 2, none⟩ (.int .i64 7)).setCell ⟨bc, 0, none⟩ (.int .u8 9)).cell? ⟨bd, 0, none⟩ = some (.int .u8 0) := by
    rw [World.cell?_setCell_far _ _ _ _ dcd, World.cell?_setCell_far _ _ _ _ dbd, World.cell?_setCell_far _ _ _ _ did]; exact F.hd.c0
  have fi := F.hi.f 2
  have fb := F.hb.f 2
  have fc := F.hc.f 0
  have fd := F.hd.f 0
  clear dib dbc dic dcd dbd did F
  go_wp2_with fail
  replace K := (((K.setCell (p := ⟨bi, 2, none⟩) lbi (.int .i64 (wrap64 (x + 1)))).setCell (p := ⟨bb, 2, none⟩) lbb (.int .i64 7)).setCell (p := ⟨bc, 0, none⟩) lbc (.int .u8 9)).setCell (p := ⟨bd, 0, none⟩) lbd (.int .u8 9)
  clear ci cb cc cd fi fb fc fd
  generalize (((w15.setCell ⟨bi, 2, none⟩ (.int .i64 (wrap64 (x + 1)))).setCell ⟨bb, 2, none⟩ (.int .i64 7)).setCell ⟨bc, 0, none⟩ (.int .u8 9)).setCell ⟨bd, 0, none⟩ (.int .u8 9) = wz at K ⊢
  refine (Int_any _ _).mono ?_
  rintro e w16 ⟨b6, rfl, n6, lb6, B⟩
  replace K := below_next K B
  clear B
  go_wp2_with fail
  refine (refInt_any _ _).mono ?_
  rintro e w17 ⟨b7, rfl, n7, lb7, B⟩
  replace n6 := n6.below B
  replace K := below_next K B
  clear B
  go_wp2_with fail
  refine (alike_one ord_00 ord_00 _ n6 n7).mono ?_
  rintro e w18 ⟨rfl, B⟩
  replace K := below_next K B
  clear B
  clear n6 n7 lb6 lb7
  go_wp2_with fail
  refine (Bool_yes _).mono ?_
  rintro e w19 ⟨b6, rfl, n6, lb6, B⟩
  replace K := below_next K B
  clear B
  go_wp2_with fail
  refine (refBool_yes _).mono ?_
  rintro e w20 ⟨b7, rfl, n7, lb7, B⟩
  replace n6 := n6.below B
  replace K := below_next K B
  clear B
  go_wp2_with fail
  refine (alike_one ord_00 ord_00 _ n6 n7).mono ?_
  rintro e w21 ⟨rfl, B⟩
  replace K := below_next K B
  clear B
  clear n6 n7 lb6 lb7
  go_wp2_with fail
  refine (Bool_no _).mono ?_
  rintro e w22 ⟨b6, rfl, n6, lb6, B⟩
  replace K := below_next K B
  clear B
  go_wp2_with fail
  refine (refBool_no _).mono ?_
  rintro e w23 ⟨b7, rfl, n7, lb7, B⟩
  replace n6 := n6.below B
  replace K := below_next K B
  clear B
  go_wp2_with fail
  refine (alike_one ord_00 ord_00 _ n6 n7).mono ?_
  rintro e w24 ⟨rfl, B⟩
  replace K := below_next K B
  clear B
  clear n6 n7 lb6 lb7
  go_wp2_with fail
  refine (None_any _).mono ?_
  rintro e w25 ⟨b6, rfl, n6, lb6, B⟩
  replace K := below_next K B
  clear B
  go_wp2_with fail
  refine (refNone_any _).mono ?_
  rintro e w26 ⟨b7, rfl, n7, lb7, B⟩
  replace n6 := n6.below B
  replace K := below_next K B
  clear B
  go_wp2_with fail
  refine (alike_one ord_00 ord_00 _ n6 n7).mono ?_
  rintro e w27 ⟨rfl, B⟩
  replace K := below_next K B
  clear B
  clear n6 n7 lb6 lb7
  go_wp2_with fail
  go_ret
  exact ⟨rfl, K⟩

set_option maxRecDepth 100000 in
set_option maxHeartbeats 8000000 in
theorem makes_nn (x : Int) (s : ByteArray) (p q : Nat) (w : World) (hs : s.size ≤ 140737488351232) (hp : p < 18446744073709551616) (hq : q < 18446744073709551616) (h : ¬ s.size ≤ 4095) (hf : (finB p && finB q) = false) :
    Calls Try.prog 3 #[.int .i64 x, .string s, .float .f64 p, .float .f64 q] w fun e w' => e = .returned (.bool true) ∧ Below w.heap.size w w' := by
  have h' : decide (4095 < (s.size : Int)) = true := decide_eq_true (by omega)
  have K := Below.refl w.heap.size w
  have hf := Lib.hid hf
  go_enter Try.func3, Try.ntmps3
  go_wp2_with fail
  refine (Text_no s _ h hs).mono ?_
  rintro e w' ⟨rfl, rfl⟩
  go_wp2_with fail
  refine (Num_no hp hq hf.out _).mono ?_
  rintro e w' ⟨rfl, rfl⟩
  go_wp2_with fail
  refine (refPlain_all hp hq _).mono ?_
  rintro e w' ⟨rfl, rfl⟩
  go_wp2_with fail
  refine (refFine_is hf.out _).mono ?_
  rintro e w' ⟨rfl, rfl⟩
  go_wp2_with fail
  refine (Int_any _ _).mono ?_
  rintro e w1 ⟨bi, rfl, ni, lbi, B⟩
  have lbi := Nat.le_trans K.size lbi
  replace K := below_next K B
  clear B
  go_wp2_with fail
  refine (Bool_yes _).mono ?_
  rintro e w2 ⟨bb, rfl, nb, lbb, B⟩
  have dib : bi ≠ bb := by have := ni.lt; omega
  have lbb := Nat.le_trans K.size lbb
  replace ni := ni.below B
  replace K := below_next K B
  clear B
  go_wp2_with fail
  refine (Bool_no _).mono ?_
  rintro e w3 ⟨bc, rfl, nc, lbc, B⟩
  have dbc : bb ≠ bc := by have := nb.lt; omega
  have dic : bi ≠ bc := by have := ni.lt; omega
  have lbc := Nat.le_trans K.size lbc
  replace ni := ni.below B
  replace nb := nb.below B
  replace K := below_next K B
  clear B
  go_wp2_with fail
  refine (None_any _).mono ?_
  rintro e w4 ⟨bd, rfl, nd, lbd, B⟩
  have dcd : bc ≠ bd := by have := nc.lt; omega
  have dbd : bb ≠ bd := by have := nb.lt; omega
  have did : bi ≠ bd := by have := ni.lt; omega
  have lbd := Nat.le_trans K.size lbd
  have F : Four w4 x bi bb bc bd := ⟨ni.below B, nb.below B, nc.below B, nd⟩
  replace K := below_next K B
  clear B
  clear ni nb nc nd
  go_wp2_with fail
  refine (refInt_any _ _).mono ?_
  rintro e w5 ⟨b0, rfl, n0, lb0, B⟩
  replace F := F.below B
  replace K := below_next K B
  clear B
  go_wp2_with fail
  refine (alike_one ord_00 ord_00 _ F.hi n0).mono ?_
  rintro e w6 ⟨rfl, B⟩
  replace F := F.below B
  replace K := below_next K B
  clear B
  clear n0 lb0
  go_wp2_with fail
  refine (refBool_yes _).mono ?_
  rintro e w7 ⟨b0, rfl, n0, lb0, B⟩
  replace F := F.below B
  replace K := below_next K B
  clear B
  go_wp2_with fail
  refine (alike_one ord_00 ord_00 _ F.hb n0).mono ?_
  rintro e w8 ⟨rfl, B⟩
  replace F := F.below B
  replace K := below_next K B
  clear B
  clear n0 lb0
  go_wp2_with fail
  refine (refBool_no _).mono ?_
  rintro e w9 ⟨b0, rfl, n0, lb0, B⟩
  replace F := F.below B
  replace K := below_next K B
  clear B
  go_wp2_with fail
  refine (alike_one ord_00 ord_00 _ F.hc n0).mono ?_
  rintro e w10 ⟨rfl, B⟩
  replace F := F.below B
  replace K := below_next K B
  clear B
  clear n0 lb0
  go_wp2_with fail
  refine (refNone_any _).mono ?_
  rintro e w11 ⟨b0, rfl, n0, lb0, B⟩
  replace F := F.below B
  replace K := below_next K B
  clear B
  go_wp2_with fail
  refine (alike_one ord_00 ord_00 _ F.hd n0).mono ?_
  rintro e w12 ⟨rfl, B⟩
  replace F := F.below B
  replace K := below_next K B
  clear B
  clear n0 lb0
  have ci := F.hi.c2
  have cb : (w12.setCell ⟨bi, 2, none⟩ (.int .i64 (wrap64 (x + 1)))).cell? ⟨bb, 2, none⟩ = some (.int .i64 1) := by
    rw [World.cell?_setCell_far _ _ _ _ dib]; exact F.hb.c2
  have cc : ((w12.setCell ⟨bi, 2, none⟩ (.int .i64 (wrap64 (x + 1)))).setCell ⟨bb, 2, none⟩ (.int .i64 7)).cell? ⟨bc, 0, none⟩ = some (.int .u8 1) := by
    rw [World.cell?_setCell_far _ _ _ _ dbc, World.cell?_setCell_far _ _ _ _ dic]; exact F.hc.c0
  have cd : (((w12.setCell ⟨bi, 2, none⟩ (.int .i64 (wrap64 (x + 1)))).setCell ⟨bb, 2, none⟩ (.int .i64 7)).setCell ⟨bc, 0, none⟩ (.int .u8 9)).cell? ⟨bd, 0, none⟩ = some (.int .u8 0) := by
    rw [World.cell?_setCell_far _ _ _ _ dcd, World.cell?_setCell_far _ _ _ _ dbd, World.cell?_setCell_far _ _ _ _ did]; exact F.hd.c0
  have fi := F.hi.f 2
  have fb := F.hb.f 2
  have fc := F.hc.f 0
  have fd := F.hd.f 0
  clear dib dbc dic dcd dbd did F
  go_wp2_with fail
  replace K := (((K.setCell (p := ⟨bi, 2, none⟩) lbi (.int .i64 (wrap64 (x + 1)))).setCell (p := ⟨bb, 2, none⟩) lbb (.int .i64 7)).setCell (p := ⟨bc, 0, none⟩) lbc (.int .u8 9)).setCell (p := ⟨bd, 0, none⟩) lbd (.int .u8 9)
  clear ci cb cc cd fi fb fc fd
  generalize (((w12.setCell ⟨bi, 2, none⟩ (.int .i64 (wrap64 (x + 1)))).setCell ⟨bb, 2, none⟩ (.int .i64 7)).setCell ⟨bc, 0, none⟩ (.int .u8 9)).setCell ⟨bd, 0, none⟩ (.int .u8 9) = wz at K ⊢
  refine (Int_any _ _).mono ?_
  rintro e w13 ⟨b6, rfl, n6, lb6, B⟩
  replace K := below_next K B
  clear B
  go_wp2_with fail
  refine (refInt_any _ _).mono ?_
  rintro e w14 ⟨b7, rfl, n7, lb7, B⟩
  replace n6 := n6.below B
  replace K := below_next K B
  clear B
  go_wp2_with fail
  refine (alike_one ord_00 ord_00 _ n6 n7).mono ?_
  rintro e w15 ⟨rfl, B⟩
  replace K := below_next K B
  clear B
  clear n6 n7 lb6 lb7
  go_wp2_with fail
  refine (Bool_yes _).mono ?_
  rintro e w16 ⟨b6, rfl, n6, lb6, B⟩
  replace K := below_next K B
  clear B
  go_wp2_with fail
  refine (refBool_yes _).mono ?_
  rintro e w17 ⟨b7, rfl, n7, lb7, B⟩
  replace n6 := n6.below B
  replace K := below_next K B
  clear B
  go_wp2_with fail
  refine (alike_one ord_00 ord_00 _ n6 n7).mono ?_
  rintro e w18 ⟨rfl, B⟩
  replace K := below_next K B
  clear B
  clear n6 n7 lb6 lb7
  go_wp2_with fail
  refine (Bool_no _).mono ?_
  rintro e w19 ⟨b6, rfl, n6, lb6, B⟩
  replace K := below_next K B
  clear B
  go_wp2_with fail
  refine (refBool_no _).mono ?_
  rintro e w20 ⟨b7, rfl, n7, lb7, B⟩
  replace n6 := n6.below B
  replace K := below_next K B
  clear B
  go_wp2_with fail
  refine (alike_one ord_00 ord_00 _ n6 n7).mono ?_
  rintro e w21 ⟨rfl, B⟩
  replace K := below_next K B
  clear B
  clear n6 n7 lb6 lb7
  go_wp2_with fail
  refine (None_any _).mono ?_
  rintro e w22 ⟨b6, rfl, n6, lb6, B⟩
  replace K := below_next K B
  clear B
  go_wp2_with fail
  refine (refNone_any _).mono ?_
  rintro e w23 ⟨b7, rfl, n7, lb7, B⟩
  replace n6 := n6.below B
  replace K := below_next K B
  clear B
  go_wp2_with fail
  refine (alike_one ord_00 ord_00 _ n6 n7).mono ?_
  rintro e w24 ⟨rfl, B⟩
  replace K := below_next K B
  clear B
  clear n6 n7 lb6 lb7
  go_wp2_with fail
  go_ret
  exact ⟨rfl, K⟩

theorem valueMakes_walk (x : Int) (s : ByteArray) (p q : Nat) (w : World) (_hx : I64 x) (hs : s.size ≤ 140737488351232) (hp : (Lit.float .f64 p).wf = true) (hq : (Lit.float .f64 q).wf = true) :
    Calls Try.prog 3 #[.int .i64 x, .string s, .float .f64 p, .float .f64 q] w fun e w' => e = .returned (.bool true) ∧ Below w.heap.size w w' := by
  have hp := float_lt hp
  have hq := float_lt hq
  cases hf : (finB p && finB q) <;> by_cases h : s.size ≤ 4095
  · exact makes_yn x s p q w hs hp hq h hf
  · exact makes_nn x s p q w hs hp hq h hf
  · exact makes_yy x s p q w hs hp hq h hf
  · exact makes_ny x s p q w hs hp hq h hf
end Go.Proofs.Ytmlpgfepepiakaa
