/- The contract of code's reader of a node: a text, no kind; all kinds together. -/
import Derived.Test.YtnhghofkdiojaaaNode2
namespace Go.Proofs.Ytnhghofkdiojaaa
open Go.RowKit

section
variable {w : World} {R L cap p : Nat} {a : Option Addr} {f : Nat → Nat}
set_option maxRecDepth 100000 in
set_option maxHeartbeats 1000000 in
theorem node_3_most (h : Rd w R a L cap f p) (room : Nat) (hroom : room ≤ 4611686018427387904) (hr : (numR f L p).v < 18446744073709551616) (hc : mostCode room (numR f L p) ≠ 0) :
    Calls Try.prog 56 #[.pointer (some ⟨R, 0, none⟩), .int .u8 3, .int .i64 room] w (NodeTook 3 room w R a L cap f p) := by
  have hsc := sc_any
  have hB := (atMost_took (h.two 3) hr hroom).mono fun e w' h => Took.bad h hc
  unfold twoNodes at hB
  have E : Hid ((nodeR f L p 3 room).to = mostTo p room (numR f L p) ∧ (nodeR f L p 3 room).code = mostCode room (numR f L p)) := by constructor <;> rw [nodeR_3, if_neg hc]
  replace hc := Lib.hid hc
  replace hr := Lib.hid hr
  generalize mostTo p room (numR f L p) = to at hB E
  generalize mostCode room (numR f L p) = cd at hB E hc
  clear h
  go_enter Try.func56, Try.ntmps56
  go_wp2_with (first
    | ((with_reducible refine hB.mono ?_); rintro e w' ⟨rfl, hO'⟩))
  unfold NodeTook
  rw [E.out.1, E.out.2]
  exact ⟨rfl, (two_only w _ _).then hO', .inr ⟨hc.out, rfl⟩⟩

set_option maxRecDepth 100000 in
set_option maxHeartbeats 1000000 in
theorem node_3_short (h : Rd w R a L cap f p) (room : Nat) (hroom : room ≤ 4611686018427387904) (hr : (numR f L p).v < 18446744073709551616) (hc : mostCode room (numR f L p) = 0) (hs : textCode L (numR f L p) ≠ 0) :
    Calls Try.prog 56 #[.pointer (some ⟨R, 0, none⟩), .int .u8 3, .int .i64 room] w (NodeTook 3 room w R a L cap f p) := by
  have hsc := sc_any
  have hB := (atMost_took (h.two 3) hr hroom).mono fun e w' h => Took.ok h hc
  unfold twoNodes at hB
  have E : Hid ((nodeR f L p 3 room).to = textTo L (numR f L p) ∧ (nodeR f L p 3 room).code = textCode L (numR f L p)) := by constructor <;> rw [nodeR_3, if_pos hc]
  have hcode : (numR f L p).code = 0 := by
    unfold mostCode at hc
    by_cases h1 : (numR f L p).code = 0
    · exact h1
    · rw [if_neg h1] at hc; exact hc
  have hmt : mostTo p room (numR f L p) = (numR f L p).to := by
    unfold mostTo; rw [if_pos hcode, if_neg]
    intro h1; unfold mostCode at hc; rw [if_pos hcode, if_pos h1] at hc; cases hc
  rw [hmt] at hB
  have et : textTo L (numR f L p) = (if L - (numR f L p).to < (numR f L p).v then L else (numR f L p).to + (numR f L p).v) := by unfold textTo; rw [if_pos hcode]
  have ec : textCode L (numR f L p) = (if L - (numR f L p).to < (numR f L p).v then 4 else 0) := by unfold textCode; rw [if_pos hcode]
  have hv63 : (numR f L p).v ≤ 4611686018427387904 := by
    unfold mostCode at hc; rw [if_pos hcode] at hc
    by_cases h1 : room < (numR f L p).v
    · rw [if_pos h1] at hc; cases hc
    · omega
  generalize numR f L p = r at *
  have hlt : L - r.to < r.v := by
    by_cases h1 : L - r.to < r.v
    · exact h1
    · rw [ec, if_neg h1] at hs; exact absurd rfl hs
  have hT := fun w2 (h2 : Rd w2 R a L cap f r.to) => (take_any h2 r.v hr).mono fun e w' h => Took.bad h (by rw [if_pos hlt]; decide)
  rw [if_pos hlt, if_pos hlt] at hT
  rw [if_pos hlt] at et ec
  have E2 : Hid ((nodeR f L p 3 room).to = L ∧ (nodeR f L p 3 room).code = 4) := ⟨E.out.1.trans et, E.out.2.trans ec⟩
  clear h E et ec hs hc
  replace hr := Lib.hid hr
  have hv63' : (r.v : Int) ≤ 4611686018427387904 := by omega
  go_enter Try.func56, Try.ntmps56
  go_wp2_with (first
    | ((with_reducible refine hB.mono ?_); rintro e w' ⟨v, rfl, rfl, hr', hO'⟩; have hT2 := hT _ hr'; replace hr' := Lib.hid hr')
    | ((with_reducible refine hT2.mono ?_); rintro e w' ⟨rfl, hO2⟩))
  unfold NodeTook
  rw [E2.out.1, E2.out.2]
  exact ⟨rfl, ((two_only w _ _).then hO').then hO2, .inr ⟨by decide, rfl⟩⟩

set_option maxRecDepth 100000 in
set_option maxHeartbeats 1000000 in
theorem node_3_ok (h : Rd w R a L cap f p) (room : Nat) (hroom : room ≤ 4611686018427387904) (hr : (numR f L p).v < 18446744073709551616) (hc : mostCode room (numR f L p) = 0) (hs : textCode L (numR f L p) = 0) :
    Calls Try.prog 56 #[.pointer (some ⟨R, 0, none⟩), .int .u8 3, .int .i64 room] w (NodeTook 3 room w R a L cap f p) := by
  have hsc := sc_any
  have hR := h.lt
  have hL := h.bl
  have hB := (atMost_took (h.two 3) hr hroom).mono fun e w' h => Took.ok h hc
  unfold twoNodes at hB
  have E : Hid (nodeR f L p 3 room = ⟨⟨3, 0, 0, textB f (numR f L p).to (numR f L p).v, 0, 0⟩, textTo L (numR f L p), 0⟩) := by show nodeR f L p 3 room = _; rw [nodeR_3, if_pos hc, hs]
  have hcode : (numR f L p).code = 0 := by
    unfold mostCode at hc
    by_cases h1 : (numR f L p).code = 0
    · exact h1
    · rw [if_neg h1] at hc; exact hc
  have hmt : mostTo p room (numR f L p) = (numR f L p).to := by
    unfold mostTo; rw [if_pos hcode, if_neg]
    intro h1; unfold mostCode at hc; rw [if_pos hcode, if_pos h1] at hc; cases hc
  rw [hmt] at hB
  have et : textTo L (numR f L p) = (if L - (numR f L p).to < (numR f L p).v then L else (numR f L p).to + (numR f L p).v) := by unfold textTo; rw [if_pos hcode]
  have ec : textCode L (numR f L p) = (if L - (numR f L p).to < (numR f L p).v then 4 else 0) := by unfold textCode; rw [if_pos hcode]
  have hv63 : (numR f L p).v ≤ 4611686018427387904 := by
    unfold mostCode at hc; rw [if_pos hcode] at hc
    by_cases h1 : room < (numR f L p).v
    · rw [if_pos h1] at hc; cases hc
    · omega
  generalize numR f L p = r at *
  have hlt : ¬ L - r.to < r.v := by
    intro h1
    rw [ec, if_pos h1] at hs; cases hs
  have hT := fun w2 (h2 : Rd w2 R a L cap f r.to) => (take_any h2 r.v hr).mono fun e w' h => Took.ok h (by rw [if_neg hlt])
  rw [if_neg hlt] at hT
  rw [if_neg hlt] at et
  rw [et] at E
  clear h et ec hs hc
  replace hr := Lib.hid hr
  have hv63' : (r.v : Int) ≤ 4611686018427387904 := by omega
  obtain ⟨u, hu⟩ := exHid (textB f r.to r.v)
  rw [hu.out] at hT E
  replace hL := Lib.hid hL
  go_enter Try.func56, Try.ntmps56
  go_wp2_with (first
    | ((with_reducible refine hB.mono ?_); rintro e w' ⟨v, rfl, rfl, hr', hO1⟩; have hT2 := hT _ hr'; replace hr' := Lib.hid hr')
    | ((with_reducible refine hT2.mono ?_); rintro e w' ⟨v, rfl, rfl, hr2, hO2⟩; have hO' := hO1.then hO2; obtain ⟨b0, b1⟩ := two_cells (k := 3) hR hO'; obtain ⟨c0, c1, c2, c3, c4, f0⟩ := cells5 b0; obtain ⟨d0, d1, d2, d3, d4, f1⟩ := cells5 b1; replace hr2 := Lib.hid hr2; replace hO' := Lib.hid hO'; replace b0 := Lib.hid b0; replace b1 := Lib.hid b1))
  obtain ⟨e1, e2, e3⟩ := node_fin (j := 3) hO'.out hR hL.out hr2.out b0.out (.string u) (.int .u8 3) (.int .i64 0) (.int .i64 0) (.string u) (.complex .f64 0 0)
  obtain ⟨g0, g1, g2, g3, g4, -⟩ := cells5 e1
  refine bodyPost_ret (results_node (d := (⟨3, 0, 0, u, 0, 0⟩ : Nd)) rfl g0 g1 g2 g3 g4) rfl ?_
  unfold NodeTook
  rw [E.out]
  exact ⟨e3, .inl ⟨rfl, ⟨_, rfl, rfl⟩, e2⟩⟩

set_option maxRecDepth 100000 in
set_option maxHeartbeats 1000000 in
theorem node_x (h : Rd w R a L cap f p) (room : Nat) {k : Nat} (hk : 5 < k) (hp : 0 < p) :
    Calls Try.prog 56 #[.pointer (some ⟨R, 0, none⟩), .int .u8 k, .int .i64 room] w (NodeTook k room w R a L cap f p) := by
  have hsc := sc_any
  have h2 := h.two k
  have c1 := h2.c1
  unfold twoNodes at c1
  have hlc := h.lc
  have hcm := h.cm
  have hle := h.le
  have E : Hid (nodeR f L p k room = ⟨nd0 k, p - 1, 3⟩) := nodeR_x hk
  have k0 : ((k : Int) == 0) = false := by simp; omega
  have k1 : ((k : Int) == 1) = false := by simp; omega
  have k2 : ((k : Int) == 2) = false := by simp; omega
  have k3 : ((k : Int) == 3) = false := by simp; omega
  have k4 : ((k : Int) == 4) = false := by simp; omega
  have k5 : ((k : Int) == 5) = false := by simp; omega
  have hRn := h.lt
  have hR0 : R ≠ w.heap.size := by omega
  have hR1 : R ≠ w.heap.size + 1 := by omega
  clear h h2
  go_enter Try.func56, Try.ntmps56
  go_wp2_with ((with_reducible refine (giveUp_any _ _ _).mono ?_); rintro e w' ⟨rfl, rfl⟩)
  unfold NodeTook
  rw [E.out]
  refine ⟨rfl, two_only w _ _, .inr ⟨by simp, ?_⟩⟩
  show Ending.panicked _ = Ending.panicked [{ v := .iface _ (.agg #[.int .i64 3, .int .i64 ((p - 1 : Nat) : Int)]), recovered := false }]
  rw [show ((p - 1 : Nat) : Int) = (p : Int) - 1 by omega]

theorem node_any (h : Rd w R a L cap f p) {k room : Nat} (hp : 0 < p) (hroom : room ≤ 4611686018427387904) :
    Calls Try.prog 56 #[.pointer (some ⟨R, 0, none⟩), .int .u8 k, .int .i64 room] w (NodeTook k room w R a L cap f p) := by
  have hr : (numR f L p).v < 18446744073709551616 := (numR_range h.le (fun j _ hj => h.by_.lt' j hj)).1
  rcases (show k = 0 ∨ k = 1 ∨ k = 2 ∨ k = 3 ∨ k = 4 ∨ k = 5 ∨ 5 < k by omega) with rfl | rfl | rfl | rfl | rfl | rfl | hk
  · exact node_0 h room
  · by_cases hc : bitCode f L p = 0
    · exact node_1_ok h room hc
    · exact node_1_bad h room hc
  · by_cases hc : (numR f L p).code = 0
    · exact node_2_ok h room hr hc
    · exact node_2_bad h room hr hc
  · by_cases hc : mostCode room (numR f L p) = 0
    · by_cases hs : textCode L (numR f L p) = 0
      · exact node_3_ok h room hroom hr hc hs
      · exact node_3_short h room hroom hr hc hs
    · exact node_3_most h room hroom hr hc
  · by_cases hc : numCode L p (fineB (be f p 8) (be f (p + 8) 8)) = 0
    · exact node_4_ok h room hc
    · exact node_4_bad h room hc
  · by_cases hc : mostCode 1024 (numR f L p) = 0
    · exact node_5_ok h room hr hc
    · exact node_5_bad h room hr hc
  · exact node_x h room hk hp
end
end Go.Proofs.Ytnhghofkdiojaaa
