/- Contracts of code.ReadValue, ReadAll as they are called; the document's comparison of nodes; the law CodeValueReads. -/
import Derived.Test.YtnhghofkdiojaaaRVal
import Derived.Test.YtnhghofkdiojaaaCVal3
import Derived.Test.YtnhghofkdiojaaaFaceV
import Derived.Test.YtnhghofkdiojaaaCReads
namespace Go.Proofs.Ytnhghofkdiojaaa
open Go.RowKit

section
variable {w : World} {L cap : Nat} {a : Option Addr} {f : Nat → Nat}
theorem rowN_stable {R : Nat} {v : Value} {w1 w2 : World} {d : List Nd} (h : RowN w1 (R + 1) v d) (ho : Only (fun k => k < R) w1 w2) : RowN w2 (R + 1) v d :=
  h.only ho (fun k hk e => by have := row_base h k hk; omega)
theorem rowN_low {b b' : Nat} {v : Value} {d : List Nd} (h : RowN w b v d) (hb : b' ≤ b) : RowN w b' v d := ownsRow_base h (fun g hg => by have := row_base h g hg; omega)

set_option maxHeartbeats 400000 in
theorem ReadValue_any5 (h : By w a L f) (hl : L ≤ cap) (hm : cap ≤ 9223372036854775807) (hn : a = none → cap = 0) :
    Calls Try.prog 10 #[.slice a L cap] w (ValPost (valR f L) w) := by
  have hF := faceV (T := fun v w' => RowN w' (w.heap.size + 2 + 1) v (valR f L).d) h hl hm hn (fun v w1 w2 h ho => rowN_stable h ho) (fun w1 hR => value_took hR)
  have hz := fun hc => (valR_err (f := f) (L := L) (fun j hj => h.lt j hj) hc).1
  clear h
  go_enter Try.func10, Try.ntmps10
  go_wp2_with ((with_reducible refine hF.mono ?_); rintro e w' ⟨v, rfl, hv, hb⟩)
  go_ret3
  refine ⟨v, rfl, ?_, hb⟩
  rcases hv with ⟨_, h⟩ | ⟨hc, rfl⟩
  · exact rowN_low h (by omega)
  · rw [hz hc]; exact RowN.nil _ _

theorem allR_err (hf : ∀ j, j < L → f j < 256) (hc : (allR f L).code ≠ 0) : (allR f L).d = [] := by
  unfold allR at hc ⊢
  by_cases h : (valR f L).code = 0 ∧ (valR f L).to < L
  · rw [if_pos h]
  · rw [if_neg h] at hc ⊢; exact (valR_err hf hc).1

set_option maxHeartbeats 400000 in
theorem ReadAll_any5 (h : By w a L f) (hl : L ≤ cap) (hm : cap ≤ 9223372036854775807) (hn : a = none → cap = 0) :
    Calls Try.prog 11 #[.slice a L cap] w (ValPost (allR f L) w) := by
  have hF := faceA (T := fun v w' => RowN w' (w.heap.size + 2 + 1) v (allR f L).d) h hl hm hn (fun v w1 w2 h ho => rowN_stable h ho) (fun w1 hR => all_took hR)
  have hz := fun hc => allR_err (f := f) (L := L) (fun j hj => h.lt j hj) hc
  clear h
  go_enter Try.func11, Try.ntmps11
  go_wp2_with ((with_reducible refine hF.mono ?_); rintro e w' ⟨v, rfl, hv, hb⟩)
  go_ret3
  refine ⟨v, rfl, ?_, hb⟩
  rcases hv with ⟨_, h⟩ | ⟨hc, rfl⟩
  · exact rowN_low h (by omega)
  · rw [hz hc]; exact RowN.nil _ _
end

/-- A node's number is as itself. -/
def SelfN (x : Nd) : Prop := FloatKind.f64.format.order x.x x.x = some .eq ∧ FloatKind.f64.format.order x.y x.y = some .eq
theorem ord_00 : FloatKind.f64.format.order 0 0 = some .eq := by decide
theorem RightNd.self {x : Nd} (h : RightNd x) : SelfN x := by
  rcases h with ⟨_, h⟩ | ⟨_, h | h⟩ | ⟨_, h, _⟩ | ⟨_, h⟩ | ⟨_, h, hf, _, _⟩ | ⟨_, h⟩
  · rw [h]; exact ⟨ord_00, ord_00⟩
  · rw [h]; exact ⟨ord_00, ord_00⟩
  · rw [h]; exact ⟨ord_00, ord_00⟩
  · rw [h]; exact ⟨ord_00, ord_00⟩
  · rw [h]; exact ⟨ord_00, ord_00⟩
  · unfold fineB at hf
    simp only [Bool.and_eq_true] at hf
    exact ⟨ord_self_fin hf.1.1.1, ord_self_fin hf.1.1.2⟩
  · rw [h]; exact ⟨ord_00, ord_00⟩

theorem floatEq_self {x : Nat} (ho : FloatKind.f64.format.order x x = some .eq) : Op.floatEq .f64 x x = true := by
  unfold Op.floatEq
  rw [ho]
  rfl
theorem eqc (d : Nat) (t : TypeId) (x y : Nat) (w : World) (h : Try.prog.underlying t = some (.complex .f64)) :
    (Op.equalIn (d + 1) t (.complex .f64 x y) (.complex .f64 x y)).run Try.prog w = .ok (Op.floatEq .f64 x x && Op.floatEq .f64 y y) w := by
  simp [Op.equalIn, run_underlying h]
theorem eq_num {x y : Nat} (hx : FloatKind.f64.format.order x x = some .eq) (hy : FloatKind.f64.format.order y y = some .eq) (w : World) : (Op.equalIn 9999 32 (.complex .f64 x y) (.complex .f64 x y)).run Try.prog w = .ok true w := by
  rw [eqc 9998 _ _ _ _ Try.underlying32, floatEq_self hx, floatEq_self hy]
  rfl

/-- The cells of a node of a row. -/
theorem rowN_cells {w : World} {base g cap : Nat} {d : List Nd} (h : RowN w base (.slice (some ⟨g, 0, none⟩) d.length cap) d) {i : Nat} (hi : i < d.length) :
    w.cell? ⟨g, i * 5, none⟩ = some (.int .u8 (d[i]).k) ∧ w.cell? ⟨g, i * 5 + 1, none⟩ = some (.int .i64 (d[i]).kids) ∧ w.cell? ⟨g, i * 5 + 2, none⟩ = some (.int .i64 (d[i]).n) ∧ w.cell? ⟨g, i * 5 + 3, none⟩ = some (.string (d[i]).s) ∧ w.cell? ⟨g, i * 5 + 4, none⟩ = some (.complex .f64 (d[i]).x (d[i]).y) := by
  unfold RowN at h
  refine ⟨?_, ?_, ?_, ?_, ?_⟩
  · rw [h.cellAt _ (by omega)]
    have := rowOf_get encN_len d i 0 hi (by omega)
    rw [Nat.add_zero] at this
    rw [this]; rfl
  · rw [h.cellAt _ (by omega), rowOf_get encN_len d i 1 hi (by omega)]; rfl
  · rw [h.cellAt _ (by omega), rowOf_get encN_len d i 2 hi (by omega)]; rfl
  · rw [h.cellAt _ (by omega), rowOf_get encN_len d i 3 hi (by omega)]; rfl
  · rw [h.cellAt _ (by omega), rowOf_get encN_len d i 4 hi (by omega)]; rfl

set_option maxRecDepth 100000 in
set_option maxHeartbeats 2000000 in
theorem Equal_self {w : World} {b1 b2 : Nat} {v1 v2 : Value} {d : List Nd} (h1 : RowN w b1 v1 d) (h2 : RowN w b2 v2 d) (hs : ∀ x ∈ d, SelfN x) :
    Calls Try.prog 49 #[v1, v2] w fun e w' => e = .returned (.bool true) ∧ Below w.heap.size w w' := by
  obtain ⟨a1, c1, rfl, n1, m1⟩ := ownsRow_shape h1
  obtain ⟨a2, c2, rfl, n2, m2⟩ := ownsRow_shape h2
  replace h1 := Lib.hid h1
  replace h2 := Lib.hid h2
  replace hs := Lib.hid hs
  go_enter Try.func49, Try.ntmps49
  go_wp2
  go_loopw [5] (fun i wr => ∃ k : Nat, k ≤ d.length ∧ i = .int .i64 k ∧ ∃ q, wr = w.drewN q) (fun i _ => d.length - (intOf i).toNat)
  case atStart => exact ⟨0, Nat.zero_le _, rfl, 0, rfl⟩
  case round =>
    obtain ⟨k, hk, rfl, q, rfl⟩ := hrel
    by_cases hlt : k < d.length
    · have hki : (k : Int) < d.length := by omega
      have g1 : RowN (w.drewN q) b1 (.slice a1 d.length c1) d := h1.out
      have g2 : RowN (w.drewN q) b2 (.slice a2 d.length c2) d := h2.out
      obtain ⟨z1, e1, hv1, -, -, -, -, -⟩ := ownsRow_head g1 (by omega)
      obtain ⟨z2, e2, hv2, -, -, -, -, -⟩ := ownsRow_head g2 (by omega)
      simp only [Value.slice.injEq, true_and] at hv1 hv2
      obtain ⟨rfl, rfl⟩ := hv1
      obtain ⟨rfl, rfl⟩ := hv2
      obtain ⟨x0, x1, x2, x3, x4⟩ := rowN_cells g1 hlt
      obtain ⟨y0, y1, y2, y3, y4⟩ := rowN_cells g2 hlt
      obtain ⟨s1, s2⟩ := hs.out _ (List.getElem_mem hlt)
      have heq := eq_num s1 s2
      generalize d[k] = nd at *
      obtain ⟨nk, nkids, nn, ns, nx, ny⟩ := nd
      simp only at x0 x1 x2 x3 x4 y0 y1 y2 y3 y4 heq
      clear g1 g2 s1 s2
      generalize hwq : w.drewN q = wq at x0 x1 x2 x3 x4 y0 y1 y2 y3 y4 ⊢
      go_wp2
      go_quiet (fail)
      clear x0 x1 x2 x3 x4 y0 y1 y2 y3 y4
      go_wp2
      go_roundw
      case rel => exact ⟨k + 1, by omega, by go_num, q + nq, by rw [← hwq, World.drewN_drewN]⟩
      case measure => simp [intOf]; omega
    · have hki : ¬ (k : Int) < d.length := by omega
      go_wp2
      go_ret
      exact ⟨rfl, below_drewN (Below.refl _ _) _⟩

set_option maxHeartbeats 400000 in
theorem Same_self {w : World} {b1 b2 : Nat} {v1 v2 : Value} {d : List Nd} (h1 : RowN w b1 v1 d) (h2 : RowN w b2 v2 d) (hs : ∀ x ∈ d, SelfN x) :
    Calls Try.prog 26 #[v1, v2] w fun e w' => e = .returned (.bool true) ∧ Below w.heap.size w w' := by
  have hE := Equal_self h1 h2 hs
  clear h1 h2 hs
  go_enter Try.func26, Try.ntmps26
  go_wp2_with ((with_reducible refine hE.mono ?_); rintro e w' ⟨rfl, hb⟩)
  go_ret
  exact ⟨rfl, hb⟩

section
variable {w : World} {L cap : Nat} {a : Option Addr} {f : Nat → Nat}
theorem valR_self (hf : ∀ j, j < L → f j < 256) : ∀ x ∈ (valR f L).d, SelfN x := by
  by_cases hc : (valR f L).code = 0
  · obtain ⟨⟨size, hI⟩, _⟩ := valR_inv hf hc
    exact fun x hx => (hI.nodes x hx).self
  · rw [(valR_err hf hc).1]; intro x hx; cases hx
theorem allR_self (hf : ∀ j, j < L → f j < 256) : ∀ x ∈ (allR f L).d, SelfN x := by
  unfold allR
  split
  · intro x hx; cases hx
  · exact valR_self hf

set_option maxHeartbeats 2000000 in
theorem vreads_long (h20 : 20000 < L) :
    Calls Try.prog 5 #[.slice a L cap] w fun e w' => e = .returned (.bool true) ∧ Below w.heap.size w w' := by
  have hA := awake_any5 w
  have hLo := long_any L a cap
  rw [decide_eq_true (by omega)] at hLo
  go_enter Try.func5, Try.ntmps5
  go_wp2_with (first
    | ((with_reducible refine hA.mono ?_); rintro e w' ⟨rfl, hb⟩)
    | ((with_reducible refine (hLo _).mono ?_); rintro e w' ⟨rfl, rfl⟩))
  go_ret
  exact ⟨rfl, hb⟩

theorem RowN.below {w' : World} {b : Nat} {v : Value} {d : List Nd} (h : RowN w b v d) (hb : Below w.heap.size w w') : RowN w' b v d := h.only (F := fun _ => False) (Only.of_below hb) (fun _ _ h => h)

set_option maxRecDepth 100000 in
set_option maxHeartbeats 4000000 in
theorem vreads_main (h : By w a L f) (hl : L ≤ cap) (hm : cap ≤ 9223372036854775807) (hn : a = none → cap = 0) (h20 : L ≤ 20000) :
    Calls Try.prog 5 #[.slice a L cap] w fun e w' => e = .returned (.bool true) ∧ Below w.heap.size w w' := by
  have hA := awake_any5 w
  have hLo := long_any L a cap
  rw [decide_eq_false (by omega)] at hLo
  have hf : ∀ j, j < L → f j < 256 := fun j hj => h.lt j hj
  have k1 := fun w' (hb : Below w.heap.size w w') => ReadValue_any5 (h.below hb) hl hm hn
  have k2 := fun w' (hb : Below w.heap.size w w') => ReadAll_any5 (h.below hb) hl hm hn
  have r1 := fun w' (hb : Below w.heap.size w w') => refValue_any (h.below hb) hl hm h20
  have r2 := fun w' (hb : Below w.heap.size w w') => refAll_any (h.below hb) hl hm h20
  have s1 := valR_self (f := f) (L := L) hf
  have s2 := allR_self (f := f) (L := L) hf
  clear h hf
  generalize valR f L = R1 at k1 r1 s1
  generalize allR f L = R2 at k2 r2 s2
  unfold ValPost at k1 k2 r1 r2
  replace k1 := Lib.hid k1
  replace k2 := Lib.hid k2
  replace r1 := Lib.hid r1
  replace r2 := Lib.hid r2
  replace s1 := Lib.hid s1
  replace s2 := Lib.hid s2
  go_enter Try.func5, Try.ntmps5
  go_wp2_with (first
    | ((with_reducible refine hA.mono ?_); rintro e w' ⟨rfl, hb0⟩)
    | ((with_reducible refine (hLo _).mono ?_); rintro e w' ⟨rfl, rfl⟩)
    | (go_at_call 10; refine (k1.out _ hb0).mono ?_; rintro e w1 ⟨v1, rfl, q1, g1⟩; have hb1 := below_next hb0 g1; have R1c := r1.out _ hb1; clear g1)
    | (go_at_call 25; refine R1c.mono ?_; rintro e w2 ⟨v2, rfl, q2, g1⟩; have hb2 := below_next hb1 g1; have S1c := Same_self (q1.below g1) q2 s1.out; clear g1)
    | ((with_reducible refine S1c.mono ?_); rintro e w3 ⟨rfl, g1⟩; have hb3 := below_next hb2 g1; clear g1)
    | (go_at_call 11; refine (k2.out _ hb3).mono ?_; rintro e w4 ⟨v4, rfl, q4, g1⟩; have hb4 := below_next hb3 g1; have R2c := r2.out _ hb4; clear g1)
    | (go_at_call 27; refine R2c.mono ?_; rintro e w5 ⟨v5, rfl, q5, g1⟩; have hb5 := below_next hb4 g1; have S2c := Same_self (q4.below g1) q5 s2.out; clear g1)
    | ((with_reducible refine S2c.mono ?_); rintro e w6 ⟨rfl, g1⟩; have hb6 := below_next hb5 g1; clear g1))
  go_ret
  exact ⟨rfl, hb6⟩
end

theorem codeValueReads_walk (v0 : Value) (w : World) (h0 : BytesIn w v0) :
    Calls Try.prog 5 #[v0] w fun e w' => e = .returned (.bool true) ∧ Below w.heap.size w w' := by
  obtain ⟨a, L, cap, f, rfl, hB, hl, hm, hn⟩ := h0
  rcases Nat.lt_or_ge 20000 L with h | h
  · exact vreads_long h
  · exact vreads_main hB hl hm hn h
end Go.Proofs.Ytnhghofkdiojaaa
