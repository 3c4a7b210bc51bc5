/- oper.complexes and oper.reckoned of complex numbers of whole parts at OAdd (layer 12), walked. No condition. -/
import Derived.Test.YtlljmagmphfnmaaOUn
import Derived.Test.YtlljmagmphfnmaaOSum
namespace Go.Proofs.Ytlljmagmphfnmaa
open Go.RowKit

/-- The art of complex numbers. -/
abbrev artC : Value := .agg #[fv 34, fv 35, fv 36, fv 37, .nilFunc, fv 30]
theorem results_cx {W : World} {b : Nat} {v0 v1 v2 v3 v4 v5 : Value} {tmps : Array Value} (h : tmps.getD 0 undef = .pointer (some ⟨b, 0, none⟩)) (hc : W.heap[b]? = some (.cells #[v0, v1, v2, v3, v4, v5] 48 (0, 0))) :
    (results Try.f16 tmps).run Try.prog W = .ok (.agg #[v0, v1, v2, v3, v4, v5]) W := by
  have hcell : ∀ j, W.cell? ⟨b, j, none⟩ = #[v0, v1, v2, v3, v4, v5][j]? := fun j => by simp [World.cell?, hc]
  have c0 := hcell 0; have c1 := hcell 1; have c2 := hcell 2; have c3 := hcell 3; have c4 := hcell 4; have c5 := hcell 5
  simp only [List.getElem?_toArray, List.getElem?_cons_succ, List.getElem?_cons_zero] at c0 c1 c2 c3 c4 c5
  have h' : tmps[0]?.getD undef = .pointer (some ⟨b, 0, none⟩) := by simpa using h
  simp [results, Try.results16, go_sem, h', c0, c1, c2, c3, c4, c5]
theorem sn_any (a : Addr) (m : Mode) (w : World) : (store a .nilFunc m).run Try.prog w = stored Try.prog w a .nilFunc m := run_store _ _ _ _ _ rfl
set_option maxHeartbeats 1000000 in
theorem complexes_any (w : World) : Calls Try.prog 16 #[] w fun e w' => e = .returned artC ∧ Below w.heap.size w w' := by
  have hsf := sf1_any
  have hsn := sn_any
  have hal := Lib.hid ((Below.refl w.heap.size w).alloc (Nat.le_refl _) (.cells #[fv 34, fv 35, fv 36, fv 37, .nilFunc, fv 30] 48))
  have hN := Lib.hid (heap_alloc_new w (.cells #[fv 34, fv 35, fv 36, fv 37, .nilFunc, fv 30] 48 (0, 0)))
  go_enter Try.func16, Try.ntmps16
  go_wp2_with fail
  refine bodyPost_ret (results_cx rfl hN.out) rfl ?_
  exact ⟨rfl, hal.out⟩
theorem func_nilC (f : Fn) (c d : Array Value) (w : World) : (binOp .eql 45 (.func f c d) .nilFunc).run Try.prog w = .ok (.bool false) w := by
  kernel_rfl
set_option maxRecDepth 20000 in
set_option maxHeartbeats 1000000 in
theorem reckonedC_any {a b c d : Int} (ha : W53 a) (hb : W53 b) (hc : W53 c) (hd : W53 d) (hm : W53 (a + c)) (hn : W53 (b + d)) (w : World) :
    Calls Try.prog 14 #[.int .u8 36, .complex .f64 (floatOfInt .f64 a) (floatOfInt .f64 b), .complex .f64 (floatOfInt .f64 c) (floatOfInt .f64 d), artC] w (Told2 w [numN (a + c) (b + d)]) := by
  have hsf := sf1_any
  have k1 := Lib.hid (fun (W : World) => Add_any (IsI.of a) ha (IsI.of b) hb (IsI.of c) hc (IsI.of d) hd hm hn W)
  have k2 := Lib.hid (fun (W : World) => Num_row hm hn W)
  go_enter Try.func14, Try.ntmps14
  have hfn := func_nilC
  have hal := (Below.refl w.heap.size w).alloc (Nat.le_refl _) (.cells #[fv 34, fv 35, fv 36, fv 37, .nilFunc, fv 30] 48)
  have c5 := cell_new1 w #[fv 34, fv 35, fv 36, fv 37, .nilFunc, fv 30] 48 5
  simp only [List.getElem?_toArray, List.getElem?_cons_succ, List.getElem?_cons_zero] at c5
  go_wp2_with fail
  refine (k1.out _).mono ?_
  rintro e w1 ⟨rfl, rfl⟩
  go_wp2_with fail
  refine (k2.out _).mono ?_
  rintro e w2 ⟨v, rfl, hr, hb⟩
  have hr2 := rowN_low hr hal.size
  have hb2 := below_next hal hb
  go_wp2_with fail
  go_ret2
  exact ⟨_, rfl, hr2, hb2⟩
set_option maxHeartbeats 400000 in
theorem ofWholes_num {x y : Int} (hx : W53 x) (hy : W53 y) (w : World) : Calls Try.prog 13 #[.int .u8 41, .int .i64 x, .int .i64 y] w (Told2 w [numN x y]) := by
  have kO := Lib.hid (fun (W : World) => Of_any x y W)
  have kN := Lib.hid (fun (W : World) => Num_row hx hy W)
  go_enter Try.func13, Try.ntmps13
  go_wp2_with fail
  refine (kO.out _).mono ?_
  rintro e w1 ⟨rfl, rfl⟩
  go_wp2_with fail
  refine (kN.out _).mono ?_
  rintro e w1 ⟨v, rfl, hr, hb⟩
  go_wp2_with fail
  go_ret2
  exact ⟨_, rfl, hr, hb⟩
set_option maxHeartbeats 400000 in
theorem number_any {a b : Int} (w : World) : Calls Try.prog 15 #[ndV (numN a b)] w fun e w' => e = .returned (.complex .f64 (floatOfInt .f64 a) (floatOfInt .f64 b)) ∧ Below w.heap.size w w' := by
  have hsc := sc_any
  have hal := (Below.refl w.heap.size w).alloc (Nat.le_refl _) (.cells #[.int .u8 4, .int .i64 0, .int .i64 0, .string ⟨#[]⟩, .complex .f64 (floatOfInt .f64 a) (floatOfInt .f64 b)] 37)
  unfold ndV numN
  generalize floatOfInt .f64 a = p at *
  generalize floatOfInt .f64 b = q at *
  go_enter Try.func15, Try.ntmps15
  go_wp2_with fail
  go_ret
  exact ⟨rfl, hal⟩
end Go.Proofs.Ytlljmagmphfnmaa
