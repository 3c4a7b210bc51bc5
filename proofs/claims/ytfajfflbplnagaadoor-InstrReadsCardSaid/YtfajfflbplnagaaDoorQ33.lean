/- A part of the proof: Face, JRd2. No condition. -/
import Derived.Defers
import Derived.Recover
import Derived.Laws.DeepNot64
import Derived.Laws.IdiomStrings
import Derived.Lib.BufferRead
import Derived.Test.YtfajfflbplnagaaDoorQ31
import Derived.Test.YtfajfflbplnagaaDoorQ32
set_option linter.unusedVariables false
set_option linter.unusedSimpArgs false
namespace Go.Proofs.YtfajfflbplnagaaDoor
open Go.RowKit
theorem eqFault (c p : Int) (w : World) : (binOp .eql 20 (.iface 96 (.agg #[.int .i64 c, .int .i64 p])) .nilIface).run Tryd.prog w = .ok (.bool false) w := by kernel_rfl
theorem asFault (c p : Int) (w : World) : (Instr.typeAssert (.iface 96 (.agg #[.int .i64 c, .int .i64 p])) 20 96 true).run Tryd.prog w = .ok (.tuple #[.agg #[.int .i64 c, .int .i64 p], .bool true]) w := by kernel_rfl
theorem slots15 (a b X : Value) : #[a, b] ++ (Array.replicate 13 undef).setIfInBounds 3 X = #[a, b, undef, undef, undef, X, undef, undef, undef, undef, undef, undef, undef, undef, undef] := rfl
theorem eqNone (w : World) : (binOp .eql 20 .nilIface .nilIface).run Tryd.prog w = .ok (.bool true) w := by kernel_rfl
def Took (T : Value → World → Prop) (to c : Nat) (w : World) (R : Nat) (a : Option Addr) (L cap : Nat) (f : Nat → Nat) (e : Ending) (w' : World) : Prop :=
 Only (fun k => k = R) w w' ∧ (c = 0 ∧ (∃ v, e = .returned v ∧ T v w') ∧ Rd w' R a L cap f to ∨ c ≠ 0 ∧ Gave c to e)
theorem Took.bad {T : Value → World → Prop} {to c : Nat} {w w' : World} {R : Nat} {a : Option Addr} {L cap : Nat} {f : Nat → Nat} {e : Ending} (h : Took T to c w R a L cap f e w') (hc : c ≠ 0) :
   e = .panicked [{ v := .iface 96 (.agg #[.int .i64 c, .int .i64 to]), recovered := false }] ∧ Only (fun k => k = R) w w' := by
 rcases h.2 with h1 | h1
 · exact absurd h1.1 hc
 · exact ⟨h1.2, h.1⟩
theorem Took.ok {T : Value → World → Prop} {to c : Nat} {w w' : World} {R : Nat} {a : Option Addr} {L cap : Nat} {f : Nat → Nat} {e : Ending} (h : Took T to c w R a L cap f e w') (hc : c = 0) :
   ∃ v, e = .returned v ∧ T v w' ∧ Rd w' R a L cap f to ∧ Only (fun k => k = R) w w' := by
 rcases h.2 with h1 | h1
 · obtain ⟨v, hv, ht⟩ := h1.2.1
   exact ⟨v, hv, ht, h1.2.2, h.1⟩
 · exact absurd hc h1.1
def ReadPost (T : Value → World → Prop) (z : Value) (to c : Nat) (w : World) (e : Ending) (w' : World) : Prop :=
 ∃ v, e = .returned (.tuple #[v, .int .i64 to, .int .i64 c]) ∧ (c = 0 ∧ T v w' ∨ c ≠ 0 ∧ v = z) ∧ Below w.heap.size w w'
theorem made_reader {a : Option Addr} {L cap : Nat} {f : Nat → Nat} {w : World} (hb : By w a L f) (hl : L ≤ cap) (hm : cap ≤ 9223372036854775807) (hn : a = none → cap = 0) :
   Rd (((w.alloc (.cells #[.int .i64 0] 3)).alloc (.cells #[.int .i64 0] 25)).alloc (.cells #[.slice a L cap, .int .i64 0] 98)) (w.heap.size + 2) a L cap f 0 := by
 have hO : Only (fun _ => False) w (((w.alloc (.cells #[.int .i64 0] 3)).alloc (.cells #[.int .i64 0] 25)).alloc (.cells #[.slice a L cap, .int .i64 0] 98)) := (((Only.refl _ w).alloc _).alloc _).alloc _;refine ⟨?_, hb.kept hO (fun _ _ _ h => h), fun q hq h0 => ?_, Nat.zero_le _, hl, hm, hn⟩
 · have := heap_alloc_new ((w.alloc (.cells #[.int .i64 0] 3)).alloc (.cells #[.int .i64 0] 25)) (.cells #[.slice a L cap, .int .i64 0] 98)
   have e : ((w.alloc (.cells #[.int .i64 0] 3)).alloc (.cells #[.int .i64 0] 25)).heap.size = w.heap.size + 2 := by simp
   rw [e] at this;exact this
 · obtain ⟨b, off, rfl, hlt, _⟩ := hb h0
   cases hq
   show b ≠ _
   omega
theorem made_cells {a : Option Addr} {L cap : Nat} {w w' : World}
   (ho : Only (fun k => k = w.heap.size + 2) (((w.alloc (.cells #[.int .i64 0] 3)).alloc (.cells #[.int .i64 0] 25)).alloc (.cells #[.slice a L cap, .int .i64 0] 98)) w') :
   w'.cell? ⟨w.heap.size, 0, none⟩ = some (.int .i64 0) ∧ w'.cell? ⟨w.heap.size + 1, 0, none⟩ = some (.int .i64 0) ∧ w'.frozen? ⟨w.heap.size, 0, none⟩ = false ∧ w'.frozen? ⟨w.heap.size + 1, 0, none⟩ = false ∧ Below w.heap.size w w' := by
 have s1 : (w.alloc (.cells #[.int .i64 0] 3)).heap.size = w.heap.size + 1 := by simp
 have s2 : ((w.alloc (.cells #[.int .i64 0] 3)).alloc (.cells #[.int .i64 0] 25)).heap.size = w.heap.size + 2 := by simp
 have s3 : (((w.alloc (.cells #[.int .i64 0] 3)).alloc (.cells #[.int .i64 0] 25)).alloc (.cells #[.slice a L cap, .int .i64 0] 98)).heap.size = w.heap.size + 3 := by simp
 have b0 : w'.heap[w.heap.size]? = some (.cells #[.int .i64 0] 3 (0, 0)) := by
   rw [ho.block w.heap.size (by omega) (by omega), Below.heap_alloc _ _ _ (by omega), Below.heap_alloc _ _ _ (by omega)];exact heap_alloc_new w _
 have b1 : w'.heap[w.heap.size + 1]? = some (.cells #[.int .i64 0] 25 (0, 0)) := by
   rw [ho.block (w.heap.size + 1) (by omega) (by omega), Below.heap_alloc _ _ _ (by omega), ← s1];exact heap_alloc_new _ _
 refine ⟨by simp [World.cell?, b0], by simp [World.cell?, b1], by simp [World.frozen?, b0], by simp [World.frozen?, b1], ?_⟩;have hM : Below w.heap.size w (((w.alloc (.cells #[.int .i64 0] 3)).alloc (.cells #[.int .i64 0] 25)).alloc (.cells #[.slice a L cap, .int .i64 0] 98)) := (((Below.refl _ w).alloc (Nat.le_refl _) _).alloc (by omega) _).alloc (by omega) _;exact hM.trans (ho.below (by omega) (fun k hk h => by omega))
set_option maxHeartbeats 400000 in
theorem catchU (na ea : Nat) (c p : Int) (x' y' : Value) (w : World) (hn : w.cell? ⟨na, 0, none⟩ = some x') (he : w.cell? ⟨ea, 0, none⟩ = some y') (fn : w.frozen? ⟨na, 0, none⟩ = false) (fe : w.frozen? ⟨ea, 0, none⟩ = false) (hne : na ≠ ea) :
   CallsD Tryd.prog 51 #[.pointer (some ⟨na, 0, none⟩), .pointer (some ⟨ea, 0, none⟩)] (.panicking [{ v := .iface 96 (.agg #[.int .i64 c, .int .i64 p]), recovered := false }]) w
     fun e u' w' => e = .returned (.tuple #[]) ∧ u' = .panicking [{ v := .iface 96 (.agg #[.int .i64 c, .int .i64 p]), recovered := true }] ∧
       w'.cell? ⟨na, 0, none⟩ = some (.int .i64 p) ∧ w'.cell? ⟨ea, 0, none⟩ = some (.int .i64 c) ∧ Only (fun k => k = na ∨ k = ea) w w' := by
 refine callsD_of_wpS Tryd.func51 rfl fun c₀ cs hu => ?_
 apply wpS_seq
 apply wpS_region
 simp [wpOpsS, go_sem, recoverD, hu, Tryd.ntmps51, Exit.thenS]
 refine wpS_of_wp ?_;rw [slots15];have h1 := eqFault c p;have h2 := asFault c p;clear hu;go_wp2
 have l1 := World.block_lt_of_cell? w _ hn;have l2 := World.block_lt_of_cell? w _ he;simp only at l1 l2;have g1 : na ≠ w.heap.size := by omega
 have g2 : ea ≠ w.heap.size := by omega
 have hA := below_cells ((Below.refl w.heap.size w).alloc (Nat.le_refl _) (.cells #[.int .i64 c, .int .i64 p] 96));replace hn := (hA.1 na 0 l1).trans hn;replace he := (hA.1 ea 0 l2).trans he;replace fn := (hA.2 na 0 l1).trans fn;replace fe := (hA.2 ea 0 l2).trans fe;have k0 : (w.alloc (.cells #[.int .i64 c, .int .i64 p] 96)).cell? ⟨w.heap.size, 0, none⟩ = some (.int .i64 c) := by rw [World.cell?_alloc_new]; rfl
 have k1 : (w.alloc (.cells #[.int .i64 c, .int .i64 p] 96)).cell? ⟨w.heap.size, 1, none⟩ = some (.int .i64 p) := by rw [World.cell?_alloc_new]; rfl
 have hO : Only (fun k => k = na ∨ k = ea) w (w.alloc (.cells #[.int .i64 c, .int .i64 p] 96)) := (Only.refl _ w).alloc _;generalize w.alloc (.cells #[.int .i64 c, .int .i64 p] 96) = W at hn he fn fe k0 k1 hO ⊢;generalize w.heap.size = z at g1 g2 k0 k1 ⊢;clear hA l1 l2 h1 h2;go_region
 have hw : ((W.setCell ⟨na, 0, none⟩ (.int .i64 p)).setCell ⟨ea, 0, none⟩ (.int .i64 c)).drew.cell? ⟨na, 0, none⟩ = some (.int .i64 p) :=
   (World.cell?_setCell_other _ _ _ _ (by intro h; simp only [Addr.mk.injEq] at h; omega)).trans (World.cell?_setCell_same _ _ _ hn)
 have hw2 : ((W.setCell ⟨na, 0, none⟩ (.int .i64 p)).setCell ⟨ea, 0, none⟩ (.int .i64 c)).drew.cell? ⟨ea, 0, none⟩ = some (.int .i64 c) :=
   World.cell?_setCell_same _ _ _ ((World.cell?_setCell_other _ _ _ _ (by intro h; simp only [Addr.mk.injEq] at h; omega)).trans he)
 exact ⟨rfl, _, rfl, _, results_none rfl _ _ _, rfl, rfl, hw, hw2, ((hO.setCell (p := ⟨na, 0, none⟩) (.inl (.inl rfl)) _).setCell (p := ⟨ea, 0, none⟩) (.inl (.inr rfl)) _).drew⟩
set_option maxHeartbeats 400000 in
theorem idleU (na ea : Nat) (w : World) :
   CallsD Tryd.prog 51 #[.pointer (some ⟨na, 0, none⟩), .pointer (some ⟨ea, 0, none⟩)] .returning w fun e u' w' => e = .returned (.tuple #[]) ∧ u' = .returning ∧ w' = w := by
 refine callsD_of_wpS Tryd.func51 rfl fun c₀ cs hu => ?_
 apply wpS_seq
 apply wpS_region
 simp [wpOpsS, go_sem, recoverD, hu, Tryd.ntmps51, Exit.thenS]
 refine wpS_of_wp ?_;rw [slots15];have h1 := eqNone;go_wp2
 cases c₀
 simp only at hu;subst hu;exact ⟨rfl, _, rfl, _, results_none rfl _ _ _, rfl, rfl, rfl⟩
set_option maxHeartbeats 1000000 in
theorem faceU {T : Value → World → Prop} {to c : Nat} {a : Option Addr} {L cap : Nat} {f : Nat → Nat} {w : World} (hb : By w a L f) (hl : L ≤ cap) (hm : cap ≤ 9223372036854775807) (hn : a = none → cap = 0)
   (hT : ∀ v w1 w2, T v w1 → Only (fun k => k < w.heap.size + 2) w1 w2 → T v w2)
   (hdo : ∀ w1, Rd w1 (w.heap.size + 2) a L cap f 0 → Calls Tryd.prog 29 #[.pointer (some ⟨w.heap.size + 2, 0, none⟩)] w1 (Took T to c w1 (w.heap.size + 2) a L cap f)) :
   Calls Tryd.prog 28 #[.slice a L cap, .func (.func 29) #[] #[]] w (ReadPost T (.int .u64 0) to c w) := by
 have hmf : ∀ (fn : Fn) (first cap : Array Value) (w : World), (Instr.makeFunc fn first cap).run Tryd.prog w = .ok (.func fn first cap) w := fun _ _ _ _ => rfl;have hR := made_reader hb hl hm hn;have hc0 := hdo _ hR;rcases Nat.eq_zero_or_pos c with hc | hc
 · have hok := (hc0.mono fun e w' h => Took.ok h hc)
   clear hc0 hdo hR;have hT' := Lib.hid hT;have hb' := Lib.hid hb;clear hT hb;go_enter_defers Tryd.func28, Tryd.ntmps28
   go_wp2_with ((with_reducible refine hok.mono ?_); rintro e w' ⟨v, rfl, ht, hr, hO⟩)
   obtain ⟨c1, c2, f1, f2, hB⟩ := made_cells hO;have cR := hr.c1;have hz : w.heap.size < w'.heap.size := World.block_lt_of_cell? w' _ c1;replace ht := Lib.hid ht;replace hO := Lib.hid hO;replace hr := Lib.hid hr;replace hB := Lib.hid hB;generalize hsz : w.heap.size = z at c1 c2 f1 f2 cR ⊢;replace hsz := Lib.hid hsz;replace hz := Lib.hid hz;go_region
   go_wp2
   refine leaves_cons (f := 51) (args := #[.pointer (some ⟨z, 0, none⟩), .pointer (some ⟨z + 1, 0, none⟩)]) (by simp) (by simp [go_sem]) ?_;refine (idleU z (z + 1) _).mono ?_;rintro e u' w'' ⟨rfl, rfl, rfl⟩;have d1 : ((w'.setCell ⟨z, 0, none⟩ (.int .i64 to)).setCell ⟨z + 1, 0, none⟩ (.int .i64 0)).drew.cell? ⟨z, 0, none⟩ = some (.int .i64 to) :=
     (World.cell?_setCell_other _ _ _ _ (by intro h; simp only [Addr.mk.injEq] at h; omega)).trans (World.cell?_setCell_same _ _ _ c1)
   have d2 : ((w'.setCell ⟨z, 0, none⟩ (.int .i64 to)).setCell ⟨z + 1, 0, none⟩ (.int .i64 0)).drew.cell? ⟨z + 1, 0, none⟩ = some (.int .i64 0) :=
     World.cell?_setCell_same _ _ _ ((World.cell?_setCell_other _ _ _ _ (by intro h; simp only [Addr.mk.injEq] at h; omega)).trans c2)
   have hO3 : Only (fun k => k < w.heap.size + 2) w' ((w'.setCell ⟨z, 0, none⟩ (.int .i64 to)).setCell ⟨z + 1, 0, none⟩ (.int .i64 0)).drew :=
     (((Only.refl _ w').setCell (p := ⟨z, 0, none⟩) (.inl (by have := hsz.out; show z < _; omega)) _).setCell (p := ⟨z + 1, 0, none⟩) (.inl (by have := hsz.out; show z + 1 < _; omega)) _).drew
   have hB3 : Below w.heap.size w ((w'.setCell ⟨z, 0, none⟩ (.int .i64 to)).setCell ⟨z + 1, 0, none⟩ (.int .i64 0)).drew := by
     have h1 := (hB.out.setCell (p := ⟨z, 0, none⟩) (by have := hsz.out; show _ ≤ z; omega) (.int .i64 to)).setCell (p := ⟨z + 1, 0, none⟩) (by have := hsz.out; show _ ≤ z + 1; omega) (.int .i64 0);exact ⟨h1.os, h1.tape, h1.output, h1.size, h1.block⟩
   subst hc;refine ⟨.tuple #[v, .int .i64 to, .int .i64 0], ?_, v, rfl, .inl ⟨rfl, hT'.out v _ _ ht.out hO3⟩, hB3⟩;simp [results, Tryd.results28, go_sem, d1, d2]
 · have hbad := (hc0.mono fun e w' h => Took.bad h (by omega))
   go_enter_defers Tryd.func28, Tryd.ntmps28
   go_wp2_with ((with_reducible refine hbad.mono ?_); rintro e w' ⟨rfl, hO⟩)
   obtain ⟨c1, c2, f1, f2, hB⟩ := made_cells hO;refine leaves_cons (f := 51) (args := #[.pointer (some ⟨w.heap.size, 0, none⟩), .pointer (some ⟨w.heap.size + 1, 0, none⟩)]) (by simp) (by simp [go_sem]) ?_;refine (catchU w.heap.size (w.heap.size + 1) c to _ _ _ c1 c2 f1 f2 (by omega)).mono ?_;rintro e u' w'' ⟨rfl, rfl, d1, d2, hO2⟩;refine ⟨.tuple #[.int .u64 0, .int .i64 to, .int .i64 c], ?_, _, rfl, .inr ⟨by omega, rfl⟩, hB.trans (hO2.below ?_ ?_)⟩
   · simp [results, Tryd.results28, go_sem, d1, d2]
   · exact hB.size
   · intro k hk h
     omega
end Go.Proofs.YtfajfflbplnagaaDoor
namespace Go.Proofs.YtfajfflbplnagaaDoor
open Go.RowKit
section
variable {w : World} {R L cap p : Nat} {a : Option Addr} {f : Nat → Nat}
theorem TookN.took {V : Nat → Value} {r : Rn} {e : Ending} {w' : World} (h : TookN V r w R a L cap f e w') : Took (fun v _ => v = V r.v) r.to r.code w R a L cap f e w' := by
 refine ⟨h.1, ?_⟩;rcases h.2 with ⟨h1, h2, h3⟩ | h1
 · exact .inl ⟨h1, ⟨_, h2, rfl⟩, h3⟩
 · exact .inr h1
theorem number_took (h : Rd w R a L cap f p) :
   Calls Tryd.prog 29 #[.pointer (some ⟨R, 0, none⟩)] w (Took (fun v _ => v = .int .u64 ((numR f L p).v : Nat)) (numR f L p).to (numR f L p).code w R a L cap f) :=
 (number_any h).mono fun _ _ h => h.took
set_option maxHeartbeats 400000 in
theorem unfold_any (u : Nat) (hu : u < 18446744073709551616) (w : World) :
   Calls Tryd.prog 66 #[.int .u64 u] w fun e w' => e = .returned (.int .i64 (unfN u)) ∧ w = w' := by
 have e1 : bits .and .u64 (u : Int) 1 = ((u % 2 : Nat) : Int) := by
   have e := u64_and_nat u 1 hu (by omega);rw [show (((1 : Nat)) : Int) = 1 by rfl] at e;rw [e, nat_mask1]
 rcases Nat.mod_two_eq_zero_or_one u with h | h
 · replace e1 : bits .and .u64 (u : Int) 1 = 0 := by rw [e1, h]; rfl
   have E : Hid (unfN u = ((u / 2 : Nat) : Int)) := by show unfN u = _; unfold unfN; rw [if_neg (by omega)]
   clear h;go_enter Tryd.func66, Tryd.ntmps66
   go_wp2
   go_ret
   refine ⟨ret_int ?_, rfl⟩;rw [E.out];omega
 · replace e1 : bits .and .u64 (u : Int) 1 = 1 := by rw [e1, h]; rfl
   have E : Hid (unfN u = -((u / 2 : Nat) : Int) - 1) := by show unfN u = _; unfold unfN; rw [if_pos h]
   have hx : Hid (bits .xor .i64 (-1) ((u : Int) / 2) = -1 - (u : Int) / 2) := by
     have := i64_not (u / 2) (by omega);show bits .xor .i64 (-1) ((u : Int) / 2) = -1 - (u : Int) / 2
     rw [show (u : Int) / 2 = ((u / 2 : Nat) : Int) by omega];exact this
   have hsg : IntKind.i64.signed = true := rfl;clear h;go_enter Tryd.func66, Tryd.ntmps66
   go_wp2
   go_ret
   refine ⟨ret_int ?_, rfl⟩;rw [E.out];refine hx.out.trans ?_;omega
set_option maxHeartbeats 400000 in
theorem whole_took (h : Rd w R a L cap f p) (hr : (numR f L p).v < 18446744073709551616) :
   Calls Tryd.prog 55 #[.pointer (some ⟨R, 0, none⟩)] w (Took (fun v _ => v = .int .i64 (unfN (numR f L p).v)) (numR f L p).to (numR f L p).code w R a L cap f) := by
 have hN := number_took h;generalize numR f L p = r at hN hr ⊢;rcases Nat.eq_zero_or_pos r.code with hc | hc
 · have hok := hN.mono fun e w' h => Took.ok h hc
   have hu := unfold_any r.v hr;replace hc := Lib.hid hc;clear hN h;go_enter Tryd.func55, Tryd.ntmps55
   go_wp2_with (first
     | ((with_reducible refine hok.mono ?_); rintro e w' ⟨v, rfl, rfl, hr', hO⟩; replace hr' := Lib.hid hr')
     | ((with_reducible refine (hu _).mono ?_); rintro e w' ⟨rfl, rfl⟩))
   go_ret
   exact ⟨hO, .inl ⟨hc.out, ⟨_, rfl, rfl⟩, hr'.out⟩⟩
 · have hbad := hN.mono fun e w' h => Took.bad h (by omega)
   have hc' : Hid (r.code ≠ 0) := by show r.code ≠ 0; omega
   clear hN h hc;go_enter Tryd.func55, Tryd.ntmps55
   go_wp2_with (first
     | ((with_reducible refine hbad.mono ?_); rintro e w' ⟨rfl, hO⟩))
   exact ⟨rfl, hO, .inr ⟨hc'.out, rfl⟩⟩
end
end Go.Proofs.YtfajfflbplnagaaDoor
