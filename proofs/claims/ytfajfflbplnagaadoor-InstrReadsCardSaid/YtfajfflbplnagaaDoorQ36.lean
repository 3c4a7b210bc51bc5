/- A part of the proof: FaceI, FaceS. No condition. -/
import Derived.Test.YtfajfflbplnagaaDoorQ33
set_option linter.unusedVariables false
set_option linter.unusedSimpArgs false
namespace Go.Proofs.YtfajfflbplnagaaDoor
open Go.RowKit
set_option maxHeartbeats 400000 in
theorem catchI (na ea : Nat) (c p : Int) (x' y' : Value) (w : World) (hn : w.cell? ⟨na, 0, none⟩ = some x') (he : w.cell? ⟨ea, 0, none⟩ = some y') (fn : w.frozen? ⟨na, 0, none⟩ = false) (fe : w.frozen? ⟨ea, 0, none⟩ = false) (hne : na ≠ ea) :
   CallsD Tryd.prog 65 #[.pointer (some ⟨na, 0, none⟩), .pointer (some ⟨ea, 0, none⟩)] (.panicking [{ v := .iface 96 (.agg #[.int .i64 c, .int .i64 p]), recovered := false }]) w
     fun e u' w' => e = .returned (.tuple #[]) ∧ u' = .panicking [{ v := .iface 96 (.agg #[.int .i64 c, .int .i64 p]), recovered := true }] ∧
       w'.cell? ⟨na, 0, none⟩ = some (.int .i64 p) ∧ w'.cell? ⟨ea, 0, none⟩ = some (.int .i64 c) ∧ Only (fun k => k = na ∨ k = ea) w w' := by
 refine callsD_of_wpS Tryd.func65 rfl fun c₀ cs hu => ?_
 apply wpS_seq
 apply wpS_region
 simp [wpOpsS, go_sem, recoverD, hu, Tryd.ntmps65, Exit.thenS]
 refine wpS_of_wp ?_;rw [slots15];have h1 := eqFault c p;have h2 := asFault c p;clear hu;go_wp2
 have l1 := World.block_lt_of_cell? w _ hn;have l2 := World.block_lt_of_cell? w _ he;simp only at l1 l2;have g1 : na ≠ w.heap.size := by omega
 have g2 : ea ≠ w.heap.size := by omega
 have hA := below_cells ((Below.refl w.heap.size w).alloc (Nat.le_refl _) (.cells #[.int .i64 c, .int .i64 p] 96));replace hn := (hA.1 na 0 l1).trans hn;replace he := (hA.1 ea 0 l2).trans he;replace fn := (hA.2 na 0 l1).trans fn;replace fe := (hA.2 ea 0 l2).trans fe;have k0 : (w.alloc (.cells #[.int .i64 c, .int .i64 p] 96)).cell? ⟨w.heap.size, 0, none⟩ = some (.int .i64 c) := by rw [World.cell?_alloc_new]; rfl
 have k1 : (w.alloc (.cells #[.int .i64 c, .int .i64 p] 96)).cell? ⟨w.heap.size, 1, none⟩ = some (.int .i64 p) := by rw [World.cell?_alloc_new]; rfl
 have hO : Only (fun k => k = na ∨ k = ea) w (w.alloc (.cells #[.int .i64 c, .int .i64 p] 96)) := (Only.refl _ w).alloc _;generalize w.alloc (.cells #[.int .i64 c, .int .i64 p] 96) = W at hn he fn fe k0 k1 hO ⊢;generalize w.heap.size = z at g1 g2 k0 k1 ⊢;clear hA l1 l2 h1 h2;go_region
 have hw : ((W.setCell ⟨na, 0, none⟩ (.int .i64 p)).setCell ⟨ea, 0, none⟩ (.int .i64 c)).drew.cell? ⟨na, 0, none⟩ = some (.int .i64 p) :=
   (World.cell?_setCell_other _ _ _ _ (by intro h; simp only [Addr.mk.injEq] at h; omega)).trans (World.cell?_setCell_same _ _ _ hn)
 have hw2 : ((W.setCell ⟨na, 0, none⟩ (.int .i64 p)).setCell ⟨ea, 0, none⟩ (.int .i64 c)).drew.cell? ⟨ea, 0, none⟩ = some (.int .i64 c) :=
   World.cell?_setCell_same _ _ _ ((World.cell?_setCell_other _ _ _ _ (by intro h; simp only [Addr.mk.injEq] at h; omega)).trans he)
 exact ⟨rfl, _, rfl, _, results_none rfl _ _ _, rfl, rfl, hw, hw2, ((hO.setCell (p := ⟨na, 0, none⟩) (.inl (.inl rfl)) _).setCell (p := ⟨ea, 0, none⟩) (.inl (.inr rfl)) _).drew⟩
set_option maxHeartbeats 400000 in
theorem idleI (na ea : Nat) (w : World) :
   CallsD Tryd.prog 65 #[.pointer (some ⟨na, 0, none⟩), .pointer (some ⟨ea, 0, none⟩)] .returning w fun e u' w' => e = .returned (.tuple #[]) ∧ u' = .returning ∧ w' = w := by
 refine callsD_of_wpS Tryd.func65 rfl fun c₀ cs hu => ?_
 apply wpS_seq
 apply wpS_region
 simp [wpOpsS, go_sem, recoverD, hu, Tryd.ntmps65, Exit.thenS]
 refine wpS_of_wp ?_;rw [slots15];have h1 := eqNone;go_wp2
 cases c₀
 simp only at hu;subst hu;exact ⟨rfl, _, rfl, _, results_none rfl _ _ _, rfl, rfl, rfl⟩
set_option maxHeartbeats 1000000 in
theorem faceI {T : Value → World → Prop} {to c : Nat} {a : Option Addr} {L cap : Nat} {f : Nat → Nat} {w : World} (hb : By w a L f) (hl : L ≤ cap) (hm : cap ≤ 9223372036854775807) (hn : a = none → cap = 0)
   (hT : ∀ v w1 w2, T v w1 → Only (fun k => k < w.heap.size + 2) w1 w2 → T v w2)
   (hdo : ∀ w1, Rd w1 (w.heap.size + 2) a L cap f 0 → Calls Tryd.prog 55 #[.pointer (some ⟨w.heap.size + 2, 0, none⟩)] w1 (Took T to c w1 (w.heap.size + 2) a L cap f)) :
   Calls Tryd.prog 54 #[.slice a L cap, .func (.func 55) #[] #[]] w (ReadPost T (.int .i64 0) to c w) := by
 have hmf : ∀ (fn : Fn) (first cap : Array Value) (w : World), (Instr.makeFunc fn first cap).run Tryd.prog w = .ok (.func fn first cap) w := fun _ _ _ _ => rfl;have hR := made_reader hb hl hm hn;have hc0 := hdo _ hR;rcases Nat.eq_zero_or_pos c with hc | hc
 · have hok := (hc0.mono fun e w' h => Took.ok h hc)
   clear hc0 hdo hR;have hT' := Lib.hid hT;have hb' := Lib.hid hb;clear hT hb;go_enter_defers Tryd.func54, Tryd.ntmps54
   go_wp2_with ((with_reducible refine hok.mono ?_); rintro e w' ⟨v, rfl, ht, hr, hO⟩)
   obtain ⟨c1, c2, f1, f2, hB⟩ := made_cells hO;have cR := hr.c1;have hz : w.heap.size < w'.heap.size := World.block_lt_of_cell? w' _ c1;replace ht := Lib.hid ht;replace hO := Lib.hid hO;replace hr := Lib.hid hr;replace hB := Lib.hid hB;generalize hsz : w.heap.size = z at c1 c2 f1 f2 cR ⊢;replace hsz := Lib.hid hsz;replace hz := Lib.hid hz;go_region
   go_wp2
   refine leaves_cons (f := 65) (args := #[.pointer (some ⟨z, 0, none⟩), .pointer (some ⟨z + 1, 0, none⟩)]) (by simp) (by simp [go_sem]) ?_;refine (idleI z (z + 1) _).mono ?_;rintro e u' w'' ⟨rfl, rfl, rfl⟩;have d1 : ((w'.setCell ⟨z, 0, none⟩ (.int .i64 to)).setCell ⟨z + 1, 0, none⟩ (.int .i64 0)).drew.cell? ⟨z, 0, none⟩ = some (.int .i64 to) :=
     (World.cell?_setCell_other _ _ _ _ (by intro h; simp only [Addr.mk.injEq] at h; omega)).trans (World.cell?_setCell_same _ _ _ c1)
   have d2 : ((w'.setCell ⟨z, 0, none⟩ (.int .i64 to)).setCell ⟨z + 1, 0, none⟩ (.int .i64 0)).drew.cell? ⟨z + 1, 0, none⟩ = some (.int .i64 0) :=
     World.cell?_setCell_same _ _ _ ((World.cell?_setCell_other _ _ _ _ (by intro h; simp only [Addr.mk.injEq] at h; omega)).trans c2)
   have hO3 : Only (fun k => k < w.heap.size + 2) w' ((w'.setCell ⟨z, 0, none⟩ (.int .i64 to)).setCell ⟨z + 1, 0, none⟩ (.int .i64 0)).drew :=
     (((Only.refl _ w').setCell (p := ⟨z, 0, none⟩) (.inl (by have := hsz.out; show z < _; omega)) _).setCell (p := ⟨z + 1, 0, none⟩) (.inl (by have := hsz.out; show z + 1 < _; omega)) _).drew
   have hB3 : Below w.heap.size w ((w'.setCell ⟨z, 0, none⟩ (.int .i64 to)).setCell ⟨z + 1, 0, none⟩ (.int .i64 0)).drew := by
     have h1 := (hB.out.setCell (p := ⟨z, 0, none⟩) (by have := hsz.out; show _ ≤ z; omega) (.int .i64 to)).setCell (p := ⟨z + 1, 0, none⟩) (by have := hsz.out; show _ ≤ z + 1; omega) (.int .i64 0);exact ⟨h1.os, h1.tape, h1.output, h1.size, h1.block⟩
   subst hc;refine ⟨.tuple #[v, .int .i64 to, .int .i64 0], ?_, v, rfl, .inl ⟨rfl, hT'.out v _ _ ht.out hO3⟩, hB3⟩;simp [results, Tryd.results54, go_sem, d1, d2]
 · have hbad := (hc0.mono fun e w' h => Took.bad h (by omega))
   go_enter_defers Tryd.func54, Tryd.ntmps54
   go_wp2_with ((with_reducible refine hbad.mono ?_); rintro e w' ⟨rfl, hO⟩)
   obtain ⟨c1, c2, f1, f2, hB⟩ := made_cells hO;refine leaves_cons (f := 65) (args := #[.pointer (some ⟨w.heap.size, 0, none⟩), .pointer (some ⟨w.heap.size + 1, 0, none⟩)]) (by simp) (by simp [go_sem]) ?_;refine (catchI w.heap.size (w.heap.size + 1) c to _ _ _ c1 c2 f1 f2 (by omega)).mono ?_;rintro e u' w'' ⟨rfl, rfl, d1, d2, hO2⟩;refine ⟨.tuple #[.int .i64 0, .int .i64 to, .int .i64 c], ?_, _, rfl, .inr ⟨by omega, rfl⟩, hB.trans (hO2.below ?_ ?_)⟩
   · simp [results, Tryd.results54, go_sem, d1, d2]
   · exact hB.size
   · intro k hk h
     omega
end Go.Proofs.YtfajfflbplnagaaDoor
namespace Go.Proofs.YtfajfflbplnagaaDoor
open Go.RowKit
set_option maxHeartbeats 400000 in
theorem catchS (na ea : Nat) (c p : Int) (x' y' : Value) (w : World) (hn : w.cell? ⟨na, 0, none⟩ = some x') (he : w.cell? ⟨ea, 0, none⟩ = some y') (fn : w.frozen? ⟨na, 0, none⟩ = false) (fe : w.frozen? ⟨ea, 0, none⟩ = false) (hne : na ≠ ea) :
   CallsD Tryd.prog 67 #[.pointer (some ⟨na, 0, none⟩), .pointer (some ⟨ea, 0, none⟩)] (.panicking [{ v := .iface 96 (.agg #[.int .i64 c, .int .i64 p]), recovered := false }]) w
     fun e u' w' => e = .returned (.tuple #[]) ∧ u' = .panicking [{ v := .iface 96 (.agg #[.int .i64 c, .int .i64 p]), recovered := true }] ∧
       w'.cell? ⟨na, 0, none⟩ = some (.int .i64 p) ∧ w'.cell? ⟨ea, 0, none⟩ = some (.int .i64 c) ∧ Only (fun k => k = na ∨ k = ea) w w' := by
 refine callsD_of_wpS Tryd.func67 rfl fun c₀ cs hu => ?_
 apply wpS_seq
 apply wpS_region
 simp [wpOpsS, go_sem, recoverD, hu, Tryd.ntmps67, Exit.thenS]
 refine wpS_of_wp ?_;rw [slots15];have h1 := eqFault c p;have h2 := asFault c p;clear hu;go_wp2
 have l1 := World.block_lt_of_cell? w _ hn;have l2 := World.block_lt_of_cell? w _ he;simp only at l1 l2;have g1 : na ≠ w.heap.size := by omega
 have g2 : ea ≠ w.heap.size := by omega
 have hA := below_cells ((Below.refl w.heap.size w).alloc (Nat.le_refl _) (.cells #[.int .i64 c, .int .i64 p] 96));replace hn := (hA.1 na 0 l1).trans hn;replace he := (hA.1 ea 0 l2).trans he;replace fn := (hA.2 na 0 l1).trans fn;replace fe := (hA.2 ea 0 l2).trans fe;have k0 : (w.alloc (.cells #[.int .i64 c, .int .i64 p] 96)).cell? ⟨w.heap.size, 0, none⟩ = some (.int .i64 c) := by rw [World.cell?_alloc_new]; rfl
 have k1 : (w.alloc (.cells #[.int .i64 c, .int .i64 p] 96)).cell? ⟨w.heap.size, 1, none⟩ = some (.int .i64 p) := by rw [World.cell?_alloc_new]; rfl
 have hO : Only (fun k => k = na ∨ k = ea) w (w.alloc (.cells #[.int .i64 c, .int .i64 p] 96)) := (Only.refl _ w).alloc _;generalize w.alloc (.cells #[.int .i64 c, .int .i64 p] 96) = W at hn he fn fe k0 k1 hO ⊢;generalize w.heap.size = z at g1 g2 k0 k1 ⊢;clear hA l1 l2 h1 h2;go_region
 have hw : ((W.setCell ⟨na, 0, none⟩ (.int .i64 p)).setCell ⟨ea, 0, none⟩ (.int .i64 c)).drew.cell? ⟨na, 0, none⟩ = some (.int .i64 p) :=
   (World.cell?_setCell_other _ _ _ _ (by intro h; simp only [Addr.mk.injEq] at h; omega)).trans (World.cell?_setCell_same _ _ _ hn)
 have hw2 : ((W.setCell ⟨na, 0, none⟩ (.int .i64 p)).setCell ⟨ea, 0, none⟩ (.int .i64 c)).drew.cell? ⟨ea, 0, none⟩ = some (.int .i64 c) :=
   World.cell?_setCell_same _ _ _ ((World.cell?_setCell_other _ _ _ _ (by intro h; simp only [Addr.mk.injEq] at h; omega)).trans he)
 exact ⟨rfl, _, rfl, _, results_none rfl _ _ _, rfl, rfl, hw, hw2, ((hO.setCell (p := ⟨na, 0, none⟩) (.inl (.inl rfl)) _).setCell (p := ⟨ea, 0, none⟩) (.inl (.inr rfl)) _).drew⟩
set_option maxHeartbeats 400000 in
theorem idleS (na ea : Nat) (w : World) :
   CallsD Tryd.prog 67 #[.pointer (some ⟨na, 0, none⟩), .pointer (some ⟨ea, 0, none⟩)] .returning w fun e u' w' => e = .returned (.tuple #[]) ∧ u' = .returning ∧ w' = w := by
 refine callsD_of_wpS Tryd.func67 rfl fun c₀ cs hu => ?_
 apply wpS_seq
 apply wpS_region
 simp [wpOpsS, go_sem, recoverD, hu, Tryd.ntmps67, Exit.thenS]
 refine wpS_of_wp ?_;rw [slots15];have h1 := eqNone;go_wp2
 cases c₀
 simp only at hu;subst hu;exact ⟨rfl, _, rfl, _, results_none rfl _ _ _, rfl, rfl, rfl⟩
set_option maxHeartbeats 1000000 in
theorem faceS {T : Value → World → Prop} {to c : Nat} {a : Option Addr} {L cap : Nat} {f : Nat → Nat} {w : World} (hb : By w a L f) (hl : L ≤ cap) (hm : cap ≤ 9223372036854775807) (hn : a = none → cap = 0)
   (hT : ∀ v w1 w2, T v w1 → Only (fun k => k < w.heap.size + 2) w1 w2 → T v w2)
   (hdo : ∀ w1, Rd w1 (w.heap.size + 2) a L cap f 0 → Calls Tryd.prog 57 #[.pointer (some ⟨w.heap.size + 2, 0, none⟩)] w1 (Took T to c w1 (w.heap.size + 2) a L cap f)) :
   Calls Tryd.prog 56 #[.slice a L cap, .func (.func 57) #[] #[]] w (ReadPost T (.string ⟨#[]⟩) to c w) := by
 have hmf : ∀ (fn : Fn) (first cap : Array Value) (w : World), (Instr.makeFunc fn first cap).run Tryd.prog w = .ok (.func fn first cap) w := fun _ _ _ _ => rfl;have hR := made_reader hb hl hm hn;have hc0 := hdo _ hR;rcases Nat.eq_zero_or_pos c with hc | hc
 · have hok := (hc0.mono fun e w' h => Took.ok h hc)
   clear hc0 hdo hR;have hT' := Lib.hid hT;have hb' := Lib.hid hb;clear hT hb;go_enter_defers Tryd.func56, Tryd.ntmps56
   go_wp2_with ((with_reducible refine hok.mono ?_); rintro e w' ⟨v, rfl, ht, hr, hO⟩)
   obtain ⟨c1, c2, f1, f2, hB⟩ := made_cells hO;have cR := hr.c1;have hz : w.heap.size < w'.heap.size := World.block_lt_of_cell? w' _ c1;replace ht := Lib.hid ht;replace hO := Lib.hid hO;replace hr := Lib.hid hr;replace hB := Lib.hid hB;generalize hsz : w.heap.size = z at c1 c2 f1 f2 cR ⊢;replace hsz := Lib.hid hsz;replace hz := Lib.hid hz;go_region
   go_wp2
   refine leaves_cons (f := 67) (args := #[.pointer (some ⟨z, 0, none⟩), .pointer (some ⟨z + 1, 0, none⟩)]) (by simp) (by simp [go_sem]) ?_;refine (idleS z (z + 1) _).mono ?_;rintro e u' w'' ⟨rfl, rfl, rfl⟩;have d1 : ((w'.setCell ⟨z, 0, none⟩ (.int .i64 to)).setCell ⟨z + 1, 0, none⟩ (.int .i64 0)).drew.cell? ⟨z, 0, none⟩ = some (.int .i64 to) :=
     (World.cell?_setCell_other _ _ _ _ (by intro h; simp only [Addr.mk.injEq] at h; omega)).trans (World.cell?_setCell_same _ _ _ c1)
   have d2 : ((w'.setCell ⟨z, 0, none⟩ (.int .i64 to)).setCell ⟨z + 1, 0, none⟩ (.int .i64 0)).drew.cell? ⟨z + 1, 0, none⟩ = some (.int .i64 0) :=
     World.cell?_setCell_same _ _ _ ((World.cell?_setCell_other _ _ _ _ (by intro h; simp only [Addr.mk.injEq] at h; omega)).trans c2)
   have hO3 : Only (fun k => k < w.heap.size + 2) w' ((w'.setCell ⟨z, 0, none⟩ (.int .i64 to)).setCell ⟨z + 1, 0, none⟩ (.int .i64 0)).drew :=
     (((Only.refl _ w').setCell (p := ⟨z, 0, none⟩) (.inl (by have := hsz.out; show z < _; omega)) _).setCell (p := ⟨z + 1, 0, none⟩) (.inl (by have := hsz.out; show z + 1 < _; omega)) _).drew
   have hB3 : Below w.heap.size w ((w'.setCell ⟨z, 0, none⟩ (.int .i64 to)).setCell ⟨z + 1, 0, none⟩ (.int .i64 0)).drew := by
     have h1 := (hB.out.setCell (p := ⟨z, 0, none⟩) (by have := hsz.out; show _ ≤ z; omega) (.int .i64 to)).setCell (p := ⟨z + 1, 0, none⟩) (by have := hsz.out; show _ ≤ z + 1; omega) (.int .i64 0);exact ⟨h1.os, h1.tape, h1.output, h1.size, h1.block⟩
   subst hc;refine ⟨.tuple #[v, .int .i64 to, .int .i64 0], ?_, v, rfl, .inl ⟨rfl, hT'.out v _ _ ht.out hO3⟩, hB3⟩;simp [results, Tryd.results56, go_sem, d1, d2]
 · have hbad := (hc0.mono fun e w' h => Took.bad h (by omega))
   go_enter_defers Tryd.func56, Tryd.ntmps56
   go_wp2_with ((with_reducible refine hbad.mono ?_); rintro e w' ⟨rfl, hO⟩)
   obtain ⟨c1, c2, f1, f2, hB⟩ := made_cells hO;refine leaves_cons (f := 67) (args := #[.pointer (some ⟨w.heap.size, 0, none⟩), .pointer (some ⟨w.heap.size + 1, 0, none⟩)]) (by simp) (by simp [go_sem]) ?_;refine (catchS w.heap.size (w.heap.size + 1) c to _ _ _ c1 c2 f1 f2 (by omega)).mono ?_;rintro e u' w'' ⟨rfl, rfl, d1, d2, hO2⟩;refine ⟨.tuple #[.string ⟨#[]⟩, .int .i64 to, .int .i64 c], ?_, _, rfl, .inr ⟨by omega, rfl⟩, hB.trans (hO2.below ?_ ?_)⟩
   · simp [results, Tryd.results56, go_sem, d1, d2]
   · exact hB.size
   · intro k hk h
     omega
end Go.Proofs.YtfajfflbplnagaaDoor
