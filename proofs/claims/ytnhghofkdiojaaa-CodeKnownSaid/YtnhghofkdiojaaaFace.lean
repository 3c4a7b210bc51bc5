/- Contracts of code's faces: a reader is made, what it reads is told; what it gives up by is caught. -/
import Derived.Test.YtnhghofkdiojaaaRd
import Derived.Defers
import Derived.Recover
namespace Go.Proofs.Ytnhghofkdiojaaa
open Go.RowKit

theorem eqFault (c p : Int) (w : World) : (binOp .eql 20 (.iface 87 (.agg #[.int .i64 c, .int .i64 p])) .nilIface).run Try.prog w = .ok (.bool false) w := by kernel_rfl
theorem asFault (c p : Int) (w : World) : (Instr.typeAssert (.iface 87 (.agg #[.int .i64 c, .int .i64 p])) 20 87 true).run Try.prog w = .ok (.tuple #[.agg #[.int .i64 c, .int .i64 p], .bool true]) w := by kernel_rfl
theorem slots15 (a b X : Value) : #[a, b] ++ (Array.replicate 13 undef).setIfInBounds 3 X = #[a, b, undef, undef, undef, X, undef, undef, undef, undef, undef, undef, undef, undef, undef] := rfl

theorem eqNone (w : World) : (binOp .eql 20 .nilIface .nilIface).run Try.prog w = .ok (.bool true) w := by kernel_rfl

/-- What a call of a reader's method comes to: it is told, and the reader moved on; or it gave up. -/
def Took (T : Value → World → Prop) (to c : Nat) (w : World) (R : Nat) (a : Option Addr) (L cap : Nat) (f : Nat → Nat) (e : Ending) (w' : World) : Prop :=
  Only (fun k => k = R) w w' ∧ (c = 0 ∧ (∃ v, e = .returned v ∧ T v w') ∧ Rd w' R a L cap f to ∨ c ≠ 0 ∧ Gave c to e)
theorem Took.bad {T : Value → World → Prop} {to c : Nat} {w w' : World} {R : Nat} {a : Option Addr} {L cap : Nat} {f : Nat → Nat} {e : Ending} (h : Took T to c w R a L cap f e w') (hc : c ≠ 0) :
    e = .panicked [{ v := .iface 87 (.agg #[.int .i64 c, .int .i64 to]), recovered := false }] ∧ Only (fun k => k = R) w w' := by
  rcases h.2 with h1 | h1
  · exact absurd h1.1 hc
  · exact ⟨h1.2, h.1⟩
theorem Took.ok {T : Value → World → Prop} {to c : Nat} {w w' : World} {R : Nat} {a : Option Addr} {L cap : Nat} {f : Nat → Nat} {e : Ending} (h : Took T to c w R a L cap f e w') (hc : c = 0) :
    ∃ v, e = .returned v ∧ T v w' ∧ Rd w' R a L cap f to ∧ Only (fun k => k = R) w w' := by
  rcases h.2 with h1 | h1
  · obtain ⟨v, hv, ht⟩ := h1.2.1
    exact ⟨v, hv, ht, h1.2.2, h.1⟩
  · exact absurd hc h1.1

/-- What a face tells. -/
def ReadPost (T : Value → World → Prop) (z : Value) (to c : Nat) (w : World) (e : Ending) (w' : World) : Prop :=
  ∃ v, e = .returned (.tuple #[v, .int .i64 to, .int .i64 c]) ∧ (c = 0 ∧ T v w' ∨ c ≠ 0 ∧ v = z) ∧ Below w.heap.size w w'

theorem made_reader {a : Option Addr} {L cap : Nat} {f : Nat → Nat} {w : World} (hb : By w a L f) (hl : L ≤ cap) (hm : cap ≤ 9223372036854775807) (hn : a = none → cap = 0) :
    Rd (((w.alloc (.cells #[.int .i64 0] 3)).alloc (.cells #[.int .i64 0] 25)).alloc (.cells #[.slice a L cap, .int .i64 0] 89)) (w.heap.size + 2) a L cap f 0 := by
  have hO : Only (fun _ => False) w (((w.alloc (.cells #[.int .i64 0] 3)).alloc (.cells #[.int .i64 0] 25)).alloc (.cells #[.slice a L cap, .int .i64 0] 89)) := (((Only.refl _ w).alloc _).alloc _).alloc _
  refine ⟨?_, hb.kept hO (fun _ _ _ h => h), fun q hq h0 => ?_, Nat.zero_le _, hl, hm, hn⟩
  · have := heap_alloc_new ((w.alloc (.cells #[.int .i64 0] 3)).alloc (.cells #[.int .i64 0] 25)) (.cells #[.slice a L cap, .int .i64 0] 89)
    have e : ((w.alloc (.cells #[.int .i64 0] 3)).alloc (.cells #[.int .i64 0] 25)).heap.size = w.heap.size + 2 := by simp
    rw [e] at this
    exact this
  · obtain ⟨b, off, rfl, hlt, _⟩ := hb h0
    cases hq
    show b ≠ _
    omega

/-- What the two named results and the reader hold behind the method's call. -/
theorem made_cells {a : Option Addr} {L cap : Nat} {w w' : World}
    (ho : Only (fun k => k = w.heap.size + 2) (((w.alloc (.cells #[.int .i64 0] 3)).alloc (.cells #[.int .i64 0] 25)).alloc (.cells #[.slice a L cap, .int .i64 0] 89)) w') :
    w'.cell? ⟨w.heap.size, 0, none⟩ = some (.int .i64 0) ∧ w'.cell? ⟨w.heap.size + 1, 0, none⟩ = some (.int .i64 0) ∧ w'.frozen? ⟨w.heap.size, 0, none⟩ = false ∧ w'.frozen? ⟨w.heap.size + 1, 0, none⟩ = false ∧ Below w.heap.size w w' := by
  have s1 : (w.alloc (.cells #[.int .i64 0] 3)).heap.size = w.heap.size + 1 := by simp
  have s2 : ((w.alloc (.cells #[.int .i64 0] 3)).alloc (.cells #[.int .i64 0] 25)).heap.size = w.heap.size + 2 := by simp
  have s3 : (((w.alloc (.cells #[.int .i64 0] 3)).alloc (.cells #[.int .i64 0] 25)).alloc (.cells #[.slice a L cap, .int .i64 0] 89)).heap.size = w.heap.size + 3 := by simp
  have b0 : w'.heap[w.heap.size]? = some (.cells #[.int .i64 0] 3 (0, 0)) := by
    rw [ho.block w.heap.size (by omega) (by omega), Below.heap_alloc _ _ _ (by omega), Below.heap_alloc _ _ _ (by omega)]
    exact heap_alloc_new w _
  have b1 : w'.heap[w.heap.size + 1]? = some (.cells #[.int .i64 0] 25 (0, 0)) := by
    rw [ho.block (w.heap.size + 1) (by omega) (by omega), Below.heap_alloc _ _ _ (by omega), ← s1]
    exact heap_alloc_new _ _
  refine ⟨by simp [World.cell?, b0], by simp [World.cell?, b1], by simp [World.frozen?, b0], by simp [World.frozen?, b1], ?_⟩
  have hM : Below w.heap.size w (((w.alloc (.cells #[.int .i64 0] 3)).alloc (.cells #[.int .i64 0] 25)).alloc (.cells #[.slice a L cap, .int .i64 0] 89)) := (((Below.refl _ w).alloc (Nat.le_refl _) _).alloc (by omega) _).alloc (by omega) _
  exact hM.trans (ho.below (by omega) (fun k hk h => by omega))

set_option maxHeartbeats 400000 in
theorem catchU (na ea : Nat) (c p : Int) (x' y' : Value) (w : World) (hn : w.cell? ⟨na, 0, none⟩ = some x') (he : w.cell? ⟨ea, 0, none⟩ = some y') (fn : w.frozen? ⟨na, 0, none⟩ = false) (fe : w.frozen? ⟨ea, 0, none⟩ = false) (hne : na ≠ ea) :
    CallsD Try.prog 52 #[.pointer (some ⟨na, 0, none⟩), .pointer (some ⟨ea, 0, none⟩)] (.panicking [{ v := .iface 87 (.agg #[.int .i64 c, .int .i64 p]), recovered := false }]) w
      fun e u' w' => e = .returned (.tuple #[]) ∧ u' = .panicking [{ v := .iface 87 (.agg #[.int .i64 c, .int .i64 p]), recovered := true }] ∧
        w'.cell? ⟨na, 0, none⟩ = some (.int .i64 p) ∧ w'.cell? ⟨ea, 0, none⟩ = some (.int .i64 c) ∧ Only (fun k => k = na ∨ k = ea) w w' := by
  refine callsD_of_wpS Try.func52 rfl fun c₀ cs hu => ?_
  apply wpS_seq
  apply wpS_region
  simp [wpOpsS, go_sem, recoverD, hu, Try.ntmps52, Exit.thenS]
  refine wpS_of_wp ?_
  rw [slots15]
  have h1 := eqFault c p
  have h2 := asFault c p
  clear hu
  go_wp2
  have l1 := World.block_lt_of_cell? w _ hn
  have l2 := World.block_lt_of_cell? w _ he
  simp only at l1 l2
  have g1 : na ≠ w.heap.size := by omega
  have g2 : ea ≠ w.heap.size := by omega
  have hA := below_cells ((Below.refl w.heap.size w).alloc (Nat.le_refl _) (.cells #[.int .i64 c, .int .i64 p] 87))
  replace hn := (hA.1 na 0 l1).trans hn
  replace he := (hA.1 ea 0 l2).trans he
  replace fn := (hA.2 na 0 l1).trans fn
  replace fe := (hA.2 ea 0 l2).trans fe
  have k0 : (w.alloc (.cells #[.int .i64 c, .int .i64 p] 87)).cell? ⟨w.heap.size, 0, none⟩ = some (.int .i64 c) := by rw [World.cell?_alloc_new]; rfl
  have k1 : (w.alloc (.cells #[.int .i64 c, .int .i64 p] 87)).cell? ⟨w.heap.size, 1, none⟩ = some (.int .i64 p) := by rw [World.cell?_alloc_new]; rfl
  have hO : Only (fun k => k = na ∨ k = ea) w (w.alloc (.cells #[.int .i64 c, .int .i64 p] 87)) := (Only.refl _ w).alloc _
  generalize w.alloc (.cells #[.int .i64 c, .int .i64 p] 87) = W at hn he fn fe k0 k1 hO ⊢
  generalize w.heap.size = z at g1 g2 k0 k1 ⊢
  clear hA l1 l2 h1 h2
  go_region
  have hw : ((W.setCell ⟨na, 0, none⟩ (.int .i64 p)).setCell ⟨ea, 0, none⟩ (.int .i64 c)).drew.cell? ⟨na, 0, none⟩ = some (.int .i64 p) :=
    (World.cell?_setCell_other _ _ _ _ (by intro h; simp only [Addr.mk.injEq] at h; omega)).trans (World.cell?_setCell_same _ _ _ hn)
  have hw2 : ((W.setCell ⟨na, 0, none⟩ (.int .i64 p)).setCell ⟨ea, 0, none⟩ (.int .i64 c)).drew.cell? ⟨ea, 0, none⟩ = some (.int .i64 c) :=
    World.cell?_setCell_same _ _ _ ((World.cell?_setCell_other _ _ _ _ (by intro h; simp only [Addr.mk.injEq] at h; omega)).trans he)
  exact ⟨rfl, _, rfl, _, results_none rfl _ _ _, rfl, rfl, hw, hw2, ((hO.setCell (p := ⟨na, 0, none⟩) (.inl (.inl rfl)) _).setCell (p := ⟨ea, 0, none⟩) (.inl (.inr rfl)) _).drew⟩

set_option maxHeartbeats 400000 in
theorem idleU (na ea : Nat) (w : World) :
    CallsD Try.prog 52 #[.pointer (some ⟨na, 0, none⟩), .pointer (some ⟨ea, 0, none⟩)] .returning w fun e u' w' => e = .returned (.tuple #[]) ∧ u' = .returning ∧ w' = w := by
  refine callsD_of_wpS Try.func52 rfl fun c₀ cs hu => ?_
  apply wpS_seq
  apply wpS_region
  simp [wpOpsS, go_sem, recoverD, hu, Try.ntmps52, Exit.thenS]
  refine wpS_of_wp ?_
  rw [slots15]
  have h1 := eqNone
  go_wp2
  cases c₀
  simp only at hu
  subst hu
  exact ⟨rfl, _, rfl, _, results_none rfl _ _ _, rfl, rfl, rfl⟩

set_option maxHeartbeats 1000000 in
theorem faceU {T : Value → World → Prop} {to c : Nat} {a : Option Addr} {L cap : Nat} {f : Nat → Nat} {w : World} (hb : By w a L f) (hl : L ≤ cap) (hm : cap ≤ 9223372036854775807) (hn : a = none → cap = 0)
    (hT : ∀ v w1 w2, T v w1 → Only (fun k => k < w.heap.size + 2) w1 w2 → T v w2)
    (hdo : ∀ w1, Rd w1 (w.heap.size + 2) a L cap f 0 → Calls Try.prog 32 #[.pointer (some ⟨w.heap.size + 2, 0, none⟩)] w1 (Took T to c w1 (w.heap.size + 2) a L cap f)) :
    Calls Try.prog 31 #[.slice a L cap, .func (.func 32) #[] #[]] w (ReadPost T (.int .u64 0) to c w) := by
  have hmf : ∀ (fn : Fn) (first cap : Array Value) (w : World), (Instr.makeFunc fn first cap).run Try.prog w = .ok (.func fn first cap) w := fun _ _ _ _ => rfl
  have hR := made_reader hb hl hm hn
  have hc0 := hdo _ hR
  rcases Nat.eq_zero_or_pos c with hc | hc
  · have hok := (hc0.mono fun e w' h => Took.ok h hc)
    clear hc0 hdo hR
    have hT' := Lib.hid hT
    have hb' := Lib.hid hb
    clear hT hb
    go_enter_defers Try.func31, Try.ntmps31
    go_wp2_with ((with_reducible refine hok.mono ?_); rintro e w' ⟨v, rfl, ht, hr, hO⟩)
    obtain ⟨c1, c2, f1, f2, hB⟩ := made_cells hO
    have cR := hr.c1
    have hz : w.heap.size < w'.heap.size := World.block_lt_of_cell? w' _ c1
    replace ht := Lib.hid ht
    replace hO := Lib.hid hO
    replace hr := Lib.hid hr
    replace hB := Lib.hid hB
    generalize hsz : w.heap.size = z at c1 c2 f1 f2 cR ⊢
    replace hsz := Lib.hid hsz
    replace hz := Lib.hid hz
    go_region
    go_wp2
    refine leaves_cons (f := 52) (args := #[.pointer (some ⟨z, 0, none⟩), .pointer (some ⟨z + 1, 0, none⟩)]) (by simp) (by simp [go_sem]) ?_
    refine (idleU z (z + 1) _).mono ?_
    rintro e u' w'' ⟨rfl, rfl, rfl⟩
    have d1 : ((w'.setCell ⟨z, 0, none⟩ (.int .i64 to)).setCell ⟨z + 1, 0, none⟩ (.int .i64 0)).drew.cell? ⟨z, 0, none⟩ = some (.int .i64 to) :=
      (World.cell?_setCell_other _ _ _ _ (by intro h; simp only [Addr.mk.injEq] at h; omega)).trans (World.cell?_setCell_same _ _ _ c1)
    have d2 : ((w'.setCell ⟨z, 0, none⟩ (.int .i64 to)).setCell ⟨z + 1, 0, none⟩ (.int .i64 0)).drew.cell? ⟨z + 1, 0, none⟩ = some (.int .i64 0) :=
      World.cell?_setCell_same _ _ _ ((World.cell?_setCell_other _ _ _ _ (by intro h; simp only [Addr.mk.injEq] at h; omega)).trans c2)
    have hO3 : Only (fun k => k < w.heap.size + 2) w' ((w'.setCell ⟨z, 0, none⟩ (.int .i64 to)).setCell ⟨z + 1, 0, none⟩ (.int .i64 0)).drew :=
      (((Only.refl _ w').setCell (p := ⟨z, 0, none⟩) (.inl (by have := hsz.out; show z < _; omega)) _).setCell (p := ⟨z + 1, 0, none⟩) (.inl (by have := hsz.out; show z + 1 < _; omega)) _).drew
    have hB3 : Below w.heap.size w ((w'.setCell ⟨z, 0, none⟩ (.int .i64 to)).setCell ⟨z + 1, 0, none⟩ (.int .i64 0)).drew := by
      have h1 := (hB.out.setCell (p := ⟨z, 0, none⟩) (by have := hsz.out; show _ ≤ z; omega) (.int .i64 to)).setCell (p := ⟨z + 1, 0, none⟩) (by have := hsz.out; show _ ≤ z + 1; omega) (.int .i64 0)
      exact ⟨h1.os, h1.tape, h1.output, h1.size, h1.block⟩
    subst hc
    refine ⟨.tuple #[v, .int .i64 to, .int .i64 0], ?_, v, rfl, .inl ⟨rfl, hT'.out v _ _ ht.out hO3⟩, hB3⟩
    simp [results, Try.results31, go_sem, d1, d2]
  · have hbad := (hc0.mono fun e w' h => Took.bad h (by omega))
    go_enter_defers Try.func31, Try.ntmps31
    go_wp2_with ((with_reducible refine hbad.mono ?_); rintro e w' ⟨rfl, hO⟩)
    obtain ⟨c1, c2, f1, f2, hB⟩ := made_cells hO
    refine leaves_cons (f := 52) (args := #[.pointer (some ⟨w.heap.size, 0, none⟩), .pointer (some ⟨w.heap.size + 1, 0, none⟩)]) (by simp) (by simp [go_sem]) ?_
    refine (catchU w.heap.size (w.heap.size + 1) c to _ _ _ c1 c2 f1 f2 (by omega)).mono ?_
    rintro e u' w'' ⟨rfl, rfl, d1, d2, hO2⟩
    refine ⟨.tuple #[.int .u64 0, .int .i64 to, .int .i64 c], ?_, _, rfl, .inr ⟨by omega, rfl⟩, hB.trans (hO2.below ?_ ?_)⟩
    · simp [results, Try.results31, go_sem, d1, d2]
    · exact hB.size
    · intro k hk h
      omega
end Go.Proofs.Ytnhghofkdiojaaa
