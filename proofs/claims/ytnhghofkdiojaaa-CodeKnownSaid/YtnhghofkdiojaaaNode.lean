/- Contracts of code's reader: a bit, a number that is at most so much, a node. -/
import Derived.Test.YtnhghofkdiojaaaCVal
namespace Go.Proofs.Ytnhghofkdiojaaa
open Go.RowKit

def mostTo (p most : Nat) (r : Rn) : Nat := if r.code = 0 then (if most < r.v then p else r.to) else r.to
def mostCode (most : Nat) (r : Rn) : Nat := if r.code = 0 then (if most < r.v then 2 else 0) else r.code
def bitTo (f : Nat → Nat) (L p : Nat) : Nat := if L ≤ p then L else if 1 < f p then p else p + 1
def bitCode (f : Nat → Nat) (L p : Nat) : Nat := if L ≤ p then 4 else if 1 < f p then 3 else 0

section
variable {w : World} {R L cap p : Nat} {a : Option Addr} {f : Nat → Nat}
set_option maxHeartbeats 1000000 in
theorem atMost_took (h : Rd w R a L cap f p) (hr : (numR f L p).v < 18446744073709551616) {most : Nat} (hm : most ≤ 4611686018427387904) :
    Calls Try.prog 72 #[.pointer (some ⟨R, 0, none⟩), .int .i64 most] w (Took (fun v _ => v = .int .i64 ((numR f L p).v : Nat)) (mostTo p most (numR f L p)) (mostCode most (numR f L p)) w R a L cap f) := by
  have hN := number_took h
  have c1 := h.c1
  have hpL := h.le
  have hlc := h.lc
  have hcm := h.cm
  generalize numR f L p = r at hN hr ⊢
  rcases Nat.eq_zero_or_pos r.code with hc | hc
  · have hok := hN.mono fun e w' h => Took.ok h hc
    clear hN h
    rcases Nat.lt_or_ge most r.v with hlt | hlt
    · have E : Hid (mostTo p most r = p ∧ mostCode most r = 2) := ⟨by unfold mostTo; rw [if_pos hc, if_pos hlt], by unfold mostCode; rw [if_pos hc, if_pos hlt]⟩
      have hlt' : (most : Int) < (r.v : Int) := by omega
      clear hc
      go_enter Try.func72, Try.ntmps72
      go_wp2_with (first
        | ((with_reducible refine hok.mono ?_); rintro e w' ⟨v, rfl, rfl, hr', hO⟩; replace hr' := Lib.hid hr')
        | ((with_reducible refine (giveUp_any _ _ _).mono ?_); rintro e w' ⟨rfl, rfl⟩))
      refine ⟨rfl, hO, .inr ?_⟩
      rw [E.out.1, E.out.2]
      exact ⟨by decide, rfl⟩
    · have hn : ¬ most < r.v := by omega
      have E : Hid (mostTo p most r = r.to ∧ mostCode most r = 0) := ⟨by unfold mostTo; rw [if_pos hc, if_neg hn], by unfold mostCode; rw [if_pos hc, if_neg hn]⟩
      have hlt' : ¬ (most : Int) < (r.v : Int) := by omega
      have hv63 : (r.v : Int) ≤ 9223372036854775807 := by omega
      clear hc hn
      go_enter Try.func72, Try.ntmps72
      go_wp2_with (first
        | ((with_reducible refine hok.mono ?_); rintro e w' ⟨v, rfl, rfl, hr', hO⟩; replace hr' := Lib.hid hr'))
      go_ret
      refine ⟨hO, .inl ?_⟩
      rw [E.out.1, E.out.2]
      exact ⟨rfl, ⟨_, rfl, rfl⟩, hr'.out⟩
  · have hbad := hN.mono fun e w' h => Took.bad h (by omega)
    have hc0 : r.code ≠ 0 := by omega
    have E : Hid (r.code ≠ 0 ∧ mostTo p most r = r.to ∧ mostCode most r = r.code) := ⟨hc0, by unfold mostTo; rw [if_neg hc0], by unfold mostCode; rw [if_neg hc0]⟩
    clear hN h hc hc0
    go_enter Try.func72, Try.ntmps72
    go_wp2_with (first
      | ((with_reducible refine hbad.mono ?_); rintro e w' ⟨rfl, hO⟩))
    refine ⟨rfl, hO, .inr ?_⟩
    rw [E.out.2.1, E.out.2.2]
    exact ⟨E.out.1, rfl⟩

set_option maxHeartbeats 1000000 in
theorem bit_took (h : Rd w R a L cap f p) :
    Calls Try.prog 71 #[.pointer (some ⟨R, 0, none⟩)] w (Took (fun v _ => v = .int .i64 (f p : Nat)) (bitTo f L p) (bitCode f L p) w R a L cap f) := by
  have hpL := h.le
  have hlc := h.lc
  have hcm := h.cm
  by_cases hlt : p < L
  · have hN := next_some h hlt
    obtain ⟨c, hc⟩ := exHid (f p)
    rw [hc.out] at hN ⊢
    rcases Nat.lt_or_ge 1 c with h1 | h1
    · have E : Hid (bitTo f L p = p ∧ bitCode f L p = 3) := ⟨by unfold bitTo; rw [if_neg (by omega), if_pos (by rw [hc.out]; exact h1)], by unfold bitCode; rw [if_neg (by omega), if_pos (by rw [hc.out]; exact h1)]⟩
      have h1' : (1 : Int) < (c : Int) := by omega
      clear h
      go_enter Try.func71, Try.ntmps71
      go_wp2_with (first
        | ((with_reducible refine hN.mono ?_); rintro e w' ⟨rfl, hc256, hR', hO'⟩; have c1 := hR'.c1; replace hR' := Lib.hid hR')
        | ((with_reducible refine (giveUp_any _ _ _).mono ?_); rintro e w' ⟨rfl, rfl⟩))
      refine ⟨rfl, hO', .inr ?_⟩
      rw [E.out.1, E.out.2]
      refine ⟨by decide, ?_⟩
      rfl
    · have E : Hid (bitTo f L p = p + 1 ∧ bitCode f L p = 0) := ⟨by unfold bitTo; rw [if_neg (by omega), if_neg (by rw [hc.out]; omega)], by unfold bitCode; rw [if_neg (by omega), if_neg (by rw [hc.out]; omega)]⟩
      have h1' : ¬ (1 : Int) < (c : Int) := by omega
      clear h
      go_enter Try.func71, Try.ntmps71
      go_wp2_with (first
        | ((with_reducible refine hN.mono ?_); rintro e w' ⟨rfl, hc256, hR', hO'⟩; replace hR' := Lib.hid hR'))
      go_ret
      refine ⟨hO', .inl ?_⟩
      rw [E.out.1, E.out.2]
      exact ⟨rfl, ⟨_, rfl, rfl⟩, hR'.out⟩
  · have hpe : L = p := by omega
    have hN := next_end h hpe
    unfold Gave faultV at hN
    have E : Hid (bitTo f L p = p ∧ bitCode f L p = 4) := ⟨by unfold bitTo; rw [if_pos (by omega)]; exact hpe, by unfold bitCode; rw [if_pos (by omega)]⟩
    clear h
    go_enter Try.func71, Try.ntmps71
    go_wp2_with (first
      | ((with_reducible refine hN.mono ?_); rintro e w' ⟨rfl, hO⟩))
    refine ⟨rfl, hO, .inr ?_⟩
    rw [E.out.1, E.out.2]
    exact ⟨by decide, rfl⟩

/-- A node as a value. -/
def ndV (d : Nd) : Value := .agg #[.int .u8 d.k, .int .i64 d.kids, .int .i64 d.n, .string d.s, .complex .f64 d.x d.y]
/-- .. as cells. -/
def encN (d : Nd) : List Value := [.int .u8 d.k, .int .i64 d.kids, .int .i64 d.n, .string d.s, .complex .f64 d.x d.y]
theorem encN_len (d : Nd) : (encN d).length = 5 := rfl

theorem sc_any (a : Addr) (x y : Nat) (m : Mode) (w : World) : (store a (.complex .f64 x y) m).run Try.prog w = stored Try.prog w a (.complex .f64 x y) m := run_store _ _ _ _ _ rfl

/-- The two nodes that a reader of a node makes. -/
def twoNodes (w : World) (k : Int) : World := (w.alloc (.cells #[.int .u8 0, .int .i64 0, .int .i64 0, .string ⟨#[]⟩, .complex .f64 0 0] 34)).alloc (.cells #[.int .u8 k, .int .i64 0, .int .i64 0, .string ⟨#[]⟩, .complex .f64 0 0] 34)
theorem two_only (w : World) (k : Int) (F : Nat → Prop) : Only F w (twoNodes w k) := ((Only.refl _ w).alloc _).alloc _
theorem two_cells {k : Int} {w' : World} (hR : R < w.heap.size) (ho : Only (fun k => k = R) (twoNodes w k) w') :
    w'.heap[w.heap.size]? = some (.cells #[.int .u8 0, .int .i64 0, .int .i64 0, .string ⟨#[]⟩, .complex .f64 0 0] 34 (0, 0)) ∧
      w'.heap[w.heap.size + 1]? = some (.cells #[.int .u8 k, .int .i64 0, .int .i64 0, .string ⟨#[]⟩, .complex .f64 0 0] 34 (0, 0)) := by
  have s1 : (w.alloc (.cells #[.int .u8 0, .int .i64 0, .int .i64 0, .string ⟨#[]⟩, .complex .f64 0 0] 34)).heap.size = w.heap.size + 1 := by simp
  have s2 : (twoNodes w k).heap.size = w.heap.size + 2 := by unfold twoNodes; simp
  constructor
  · rw [ho.block _ (by omega) (by omega)]
    unfold twoNodes
    rw [Below.heap_alloc _ _ _ (by omega)]
    exact heap_alloc_new w _
  · rw [ho.block _ (by omega) (by omega)]
    unfold twoNodes
    rw [← s1]
    exact heap_alloc_new _ _
end
end Go.Proofs.Ytnhghofkdiojaaa
