/- oper.Binary of two whole numbers at OAdd: 2 and 3 (layer 12), walked: the statements' wakes. No condition. -/
import Derived.Test.YtlljmagmphfnmaaOBin
namespace Go.Proofs.Ytlljmagmphfnmaa
open Go.RowKit

theorem sf1_any (a : Addr) (f : Fn) (c d : Array Value) (m : Mode) (w : World) : (store a (.func f c d) m).run Try.prog w = stored Try.prog w a (.func f c d) m := run_store _ _ _ _ _ rfl
abbrev fv (f : Nat) : Value := .func (.func f) #[] #[]
abbrev cl (b : Nat) : Value := .func (.func 73) #[] #[.pointer (some ⟨b, 0, none⟩)]
set_option maxHeartbeats 400000 in
theorem add23 (w : World) : Calls Try.prog 54 #[.int .i64 2, .int .i64 3] w fun e w' => e = .returned (.int .i64 5) ∧ w' = w := by
  go_enter Try.func54, Try.ntmps54
  go_wp2_with fail
  go_ret
  exact ⟨rfl, rfl⟩
set_option maxHeartbeats 400000 in
theorem sure_any (f : Nat) (w : World) : Calls Try.prog 53 #[fv f] w fun e w' => ∃ b, e = .returned (cl b) ∧ w'.cell? ⟨b, 0, none⟩ = some (fv f) ∧ w.heap.size ≤ b ∧ Below w.heap.size w w' := by
  have hsf := sf1_any
  have hal := (Below.refl w.heap.size w).alloc (Nat.le_refl _) (.cells #[fv f] 90)
  have hc := cell_new1 w #[fv f] 90 0
  go_enter Try.func53, Try.ntmps53
  go_wp2_with fail
  go_ret
  exact ⟨_, rfl, hc, Nat.le_refl _, hal⟩
set_option maxHeartbeats 400000 in
theorem sure1_any {w : World} {b : Nat} (h : w.cell? ⟨b, 0, none⟩ = some (fv 54)) : Calls Try.prog 73 #[.int .i64 2, .int .i64 3, .pointer (some ⟨b, 0, none⟩)] w fun e w' => e = .returned (.tuple #[.int .i64 5, .int .i64 0]) ∧ w' = w := by
  have k := Lib.hid (fun (W : World) => add23 W)
  go_enter Try.func73, Try.ntmps73
  go_wp2_with fail
  refine (k.out _).mono ?_
  rintro e w1 ⟨rfl, rfl⟩
  go_wp2_with fail
  go_ret2
  exact ⟨rfl, rfl⟩
set_option maxHeartbeats 400000 in
theorem put_any (n : Int) (w : World) : Calls Try.prog 59 #[.int .i64 n] w (Told2 w [intN n]) := by
  have k := Lib.hid (fun (W : World) => Int_row n W)
  go_enter Try.func59, Try.ntmps59
  go_wp2_with fail
  refine (k.out _).mono ?_
  rintro e w1 ⟨v, rfl, hr, hb⟩
  go_wp2_with fail
  go_ret2
  exact ⟨_, rfl, hr, hb⟩
/-- The art of whole numbers. -/
abbrev artV (a b c : Nat) : Value := .agg #[cl a, cl b, cl c, fv 57, fv 58, fv 59]
theorem stored6 {W : World} {b : Nat} {x0 x1 x2 x3 x4 x5 : Value} {t : TypeId} (h : W.heap[b]? = some (.cells #[x0, x1, x2, x3, x4, x5] t (0, 0))) (v0 v1 v2 v3 v4 v5 : Value) :
    ((((((W.setCell ⟨b, 0, none⟩ v0).setCell ⟨b, 1, none⟩ v1).setCell ⟨b, 2, none⟩ v2).setCell ⟨b, 3, none⟩ v3).setCell ⟨b, 4, none⟩ v4).setCell ⟨b, 5, none⟩ v5).heap[b]? = some (.cells #[v0, v1, v2, v3, v4, v5] t (0, 0)) := by
  have a0 := heap_setCell_same W b 0 _ _ v0 h
  have a1 := heap_setCell_same _ b 1 _ _ v1 a0
  have a2 := heap_setCell_same _ b 2 _ _ v2 a1
  have a3 := heap_setCell_same _ b 3 _ _ v3 a2
  have a4 := heap_setCell_same _ b 4 _ _ v4 a3
  have a5 := heap_setCell_same _ b 5 _ _ v5 a4
  simpa using a5
theorem results_ints {W : World} {b : Nat} {v0 v1 v2 v3 v4 v5 : Value} {tmps : Array Value} (h : tmps.getD 0 undef = .pointer (some ⟨b, 0, none⟩)) (hc : W.heap[b]? = some (.cells #[v0, v1, v2, v3, v4, v5] 66 (0, 0))) :
    (results Try.f33 tmps).run Try.prog W = .ok (.agg #[v0, v1, v2, v3, v4, v5]) W := by
  have hcell : ∀ j, W.cell? ⟨b, j, none⟩ = #[v0, v1, v2, v3, v4, v5][j]? := fun j => by simp [World.cell?, hc]
  have c0 := hcell 0; have c1 := hcell 1; have c2 := hcell 2; have c3 := hcell 3; have c4 := hcell 4; have c5 := hcell 5
  simp only [List.getElem?_toArray, List.getElem?_cons_succ, List.getElem?_cons_zero] at c0 c1 c2 c3 c4 c5
  have h' : tmps[0]?.getD undef = .pointer (some ⟨b, 0, none⟩) := by simpa using h
  simp [results, Try.results33, go_sem, h', c0, c1, c2, c3, c4, c5]
set_option maxHeartbeats 1000000 in
theorem integers_any (w : World) : Calls Try.prog 33 #[] w fun e w' => ∃ a b c, e = .returned (artV a b c) ∧ w'.cell? ⟨a, 0, none⟩ = some (fv 54) ∧ Below w.heap.size w w' := by
  have hsf := sf1_any
  have k := Lib.hid (fun (f : Nat) (W : World) => sure_any f W)
  have hal := (Below.refl w.heap.size w).alloc (Nat.le_refl _) (.cells #[.nilFunc, .nilFunc, .nilFunc, .nilFunc, .nilFunc, .nilFunc] 66)
  have hN := heap_alloc_new w (.cells #[.nilFunc, .nilFunc, .nilFunc, .nilFunc, .nilFunc, .nilFunc] 66 (0, 0))
  have hlt : w.heap.size < (w.alloc (.cells #[.nilFunc, .nilFunc, .nilFunc, .nilFunc, .nilFunc, .nilFunc] 66)).heap.size := by simp
  go_enter Try.func33, Try.ntmps33
  go_wp2_with fail
  refine (k.out _ _).mono ?_
  rintro e w1 ⟨ba, rfl, ca, la, h1⟩
  go_wp2_with fail
  refine (k.out _ _).mono ?_
  rintro e w2 ⟨bb, rfl, _, _, h2⟩
  go_wp2_with fail
  refine (k.out _ _).mono ?_
  rintro e w3 ⟨bc, rfl, _, _, h3⟩
  have hb := below_next (below_next h1 h2) h3
  have hN3 := (hb.block _ hlt).trans hN
  have ca3 := Below.keeps (below_next h2 h3) ca
  have hcell : ∀ j, w3.cell? ⟨w.heap.size, j, none⟩ = #[Value.nilFunc, .nilFunc, .nilFunc, .nilFunc, .nilFunc, .nilFunc][j]? := fun j => by simp [World.cell?, hN3]
  have hfz : ∀ j, w3.frozen? ⟨w.heap.size, j, none⟩ = false := fun j => by simp [World.frozen?, hN3]
  have c0 := hcell 0; have c1 := hcell 1; have c2 := hcell 2; have c3 := hcell 3; have c4 := hcell 4; have c5 := hcell 5
  have f0 := hfz 0; have f1 := hfz 1; have f2 := hfz 2; have f3 := hfz 3; have f4 := hfz 4; have f5 := hfz 5
  simp only [List.getElem?_toArray, List.getElem?_cons_succ, List.getElem?_cons_zero] at c0 c1 c2 c3 c4 c5
  have hst := Lib.hid (stored6 hN3)
  have hbw := hal.trans (hb.mono (Nat.le_of_lt hlt))
  have hba : ¬ ba = w.heap.size := by omega
  replace hN3 := Lib.hid hN3
  clear hcell hfz hN hal hb h1 h2 h3 ca
  have hlt3 := (Array.getElem?_eq_some_iff.1 hN3.out).1
  have hca := World.block_lt_of_cell? w3 _ ca3
  have hon : Hid (∀ v0 v1 v2 v3 v4 v5, Only (fun k => k = w.heap.size) w3 ((((((w3.setCell ⟨w.heap.size, 0, none⟩ v0).setCell ⟨w.heap.size, 1, none⟩ v1).setCell ⟨w.heap.size, 2, none⟩ v2).setCell ⟨w.heap.size, 3, none⟩ v3).setCell ⟨w.heap.size, 4, none⟩ v4).setCell ⟨w.heap.size, 5, none⟩ v5)) := Lib.hid (fun v0 v1 v2 v3 v4 v5 =>
    ((((((Only.refl (fun k => k = w.heap.size) w3).setCell (p := ⟨w.heap.size, 0, none⟩) (.inl rfl) _).setCell (p := ⟨w.heap.size, 1, none⟩) (.inl rfl) _).setCell (p := ⟨w.heap.size, 2, none⟩) (.inl rfl) _).setCell (p := ⟨w.heap.size, 3, none⟩) (.inl rfl) _).setCell (p := ⟨w.heap.size, 4, none⟩) (.inl rfl) _).setCell (p := ⟨w.heap.size, 5, none⟩) (.inl rfl) _)
  replace ca3 := Lib.hid ca3
  replace hbw := Lib.hid hbw
  go_wp2_with fail
  refine bodyPost_ret (results_ints rfl (hst.out _ _ _ _ _ _)) rfl ?_
  have ho := hon.out (cl ba) (cl bb) (cl bc) (fv 57) (fv 58) (fv 59)
  exact ⟨ba, bb, bc, rfl, (ho.cell (p := ⟨ba, 0, none⟩) hca hba).trans ca3.out, hbw.out.trans (ho.below hbw.out.size (fun k hk e => by omega))⟩
theorem func_nil (f : Fn) (c d : Array Value) (w : World) : (binOp .eql 63 (.func f c d) .nilFunc).run Try.prog w = .ok (.bool false) w := by
  kernel_rfl
set_option maxRecDepth 20000 in
set_option maxHeartbeats 1000000 in
theorem reckoned_any {w : World} {a b c : Nat} (h : w.cell? ⟨a, 0, none⟩ = some (fv 54)) : Calls Try.prog 32 #[.int .u8 36, .int .i64 2, .int .i64 3, artV a b c] w (Told2 w [intN 5]) := by
  have hsf := sf1_any
  have k1 := Lib.hid (fun (W : World) (h : W.cell? ⟨a, 0, none⟩ = some (fv 54)) => sure1_any h)
  have k2 := Lib.hid (fun (W : World) => put_any 5 W)
  go_enter Try.func32, Try.ntmps32
  have hfn := func_nil
  have hal := (Below.refl w.heap.size w).alloc (Nat.le_refl _) (.cells #[cl a, cl b, cl c, fv 57, fv 58, fv 59] 66)
  have h2 := Below.keeps hal h
  have c5 := cell_new1 w #[cl a, cl b, cl c, fv 57, fv 58, fv 59] 66 5
  simp only [List.getElem?_toArray, List.getElem?_cons_succ, List.getElem?_cons_zero] at c5
  go_wp2_with fail
  refine (k1.out _ h2).mono ?_
  rintro e w1 ⟨rfl, rfl⟩
  go_wp2_with fail
  refine (k2.out _).mono ?_
  rintro e w2 ⟨v, rfl, hr, hb⟩
  have hr2 := rowN_low hr hal.size
  have hb2 := below_next hal hb
  go_wp2_with fail
  go_ret2
  exact ⟨_, rfl, hr2, hb2⟩
set_option maxRecDepth 20000 in
set_option maxHeartbeats 1000000 in
theorem ofWholes_sum (w : World) : Calls Try.prog 13 #[.int .u8 36, .int .i64 2, .int .i64 3] w (Told2 w [intN 5]) := by
  have kI := Lib.hid (fun (W : World) => integers_any W)
  have kR := Lib.hid (fun (W : World) (a b c : Nat) (h : W.cell? ⟨a, 0, none⟩ = some (fv 54)) => reckoned_any (b := b) (c := c) h)
  go_enter Try.func13, Try.ntmps13
  go_wp2_with fail
  refine (kI.out _).mono ?_
  rintro e w1 ⟨a, b, c, rfl, hc, hb1⟩
  replace hb1 := Lib.hid hb1
  go_wp2_with fail
  refine (kR.out _ _ _ _ hc).mono ?_
  rintro e w2 ⟨v, rfl, hr, hb2⟩
  have hr2 := Lib.hid (rowN_low hr hb1.out.size)
  have hb3 := Lib.hid (below_next hb1.out hb2)
  clear hr hb2
  go_wp2_with fail
  go_ret2
  exact ⟨_, rfl, hr2.out, hb3.out⟩
end Go.Proofs.Ytlljmagmphfnmaa
