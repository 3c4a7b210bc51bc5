/- The contract of code's reader of a node, kind by kind. -/
import Derived.Test.YtnhghofkdiojaaaNode
namespace Go.Proofs.Ytnhghofkdiojaaa
open Go.RowKit

theorem results_node {W : World} {z : Nat} {d : Nd} {tmps : Array Value} (h6 : tmps.getD 6 undef = .pointer (some ⟨z, 0, none⟩)) (c0 : W.cell? ⟨z, 0, none⟩ = some (.int .u8 d.k)) (c1 : W.cell? ⟨z, 1, none⟩ = some (.int .i64 d.kids)) (c2 : W.cell? ⟨z, 2, none⟩ = some (.int .i64 d.n)) (c3 : W.cell? ⟨z, 3, none⟩ = some (.string d.s)) (c4 : W.cell? ⟨z, 4, none⟩ = some (.complex .f64 d.x d.y)) :
    (results Try.f56 tmps).run Try.prog W = .ok (ndV d) W := by
  have h6' : tmps[6]?.getD undef = .pointer (some ⟨z, 0, none⟩) := by simpa using h6
  unfold ndV
  simp [results, Try.results56, go_sem, h6', c0, c1, c2, c3, c4]

/-- Five cells are stored into a node's block. -/
theorem store5 {W : World} {z : Nat} {b0 b1 b2 b3 b4 : Value} {t : TypeId} (h : W.heap[z]? = some (.cells #[b0, b1, b2, b3, b4] t (0, 0))) (v0 v1 v2 v3 v4 : Value) :
    (((((W.setCell ⟨z, 0, none⟩ v0).setCell ⟨z, 1, none⟩ v1).setCell ⟨z, 2, none⟩ v2).setCell ⟨z, 3, none⟩ v3).setCell ⟨z, 4, none⟩ v4).heap[z]? = some (.cells #[v0, v1, v2, v3, v4] t (0, 0)) := by
  have h1 := heap_setCell_same W z 0 _ _ v0 h
  have h2 := heap_setCell_same _ z 1 _ _ v1 h1
  have h3 := heap_setCell_same _ z 2 _ _ v2 h2
  have h4 := heap_setCell_same _ z 3 _ _ v3 h3
  have h5 := heap_setCell_same _ z 4 _ _ v4 h4
  simpa using h5
theorem store5_only {F : Nat → Prop} {w W : World} (z : Nat) (h : Only F w W) (hz : w.heap.size ≤ z) (v0 v1 v2 v3 v4 : Value) :
    Only F w (((((W.setCell ⟨z, 0, none⟩ v0).setCell ⟨z, 1, none⟩ v1).setCell ⟨z, 2, none⟩ v2).setCell ⟨z, 3, none⟩ v3).setCell ⟨z, 4, none⟩ v4) :=
  ((((h.setCell (p := ⟨z, 0, none⟩) (.inr hz) _).setCell (p := ⟨z, 1, none⟩) (.inr hz) _).setCell (p := ⟨z, 2, none⟩) (.inr hz) _).setCell (p := ⟨z, 3, none⟩) (.inr hz) _).setCell (p := ⟨z, 4, none⟩) (.inr hz) _
theorem cells5 {W : World} {z : Nat} {v0 v1 v2 v3 v4 : Value} {t : TypeId} (h : W.heap[z]? = some (.cells #[v0, v1, v2, v3, v4] t (0, 0))) :
    W.cell? ⟨z, 0, none⟩ = some v0 ∧ W.cell? ⟨z, 1, none⟩ = some v1 ∧ W.cell? ⟨z, 2, none⟩ = some v2 ∧ W.cell? ⟨z, 3, none⟩ = some v3 ∧ W.cell? ⟨z, 4, none⟩ = some v4 ∧ (∀ j, W.frozen? ⟨z, j, none⟩ = false) := by
  refine ⟨?_, ?_, ?_, ?_, ?_, fun j => ?_⟩ <;> simp [World.cell?, World.frozen?, h]

section
variable {w : World} {R L cap p : Nat} {a : Option Addr} {f : Nat → Nat}

/-- What a node's making comes to in memory. -/
theorem node_fin {to j : Nat} {k : Int} {w' : World} (hO : Only (fun k => k = R) (twoNodes w k) w') (hR : R < w.heap.size) (hL : ∀ q, a = some q → 0 < L → q.block < w.heap.size) (hr : Rd w' R a L cap f to)
    (b0 : w'.heap[w.heap.size]? = some (.cells #[.int .u8 0, .int .i64 0, .int .i64 0, .string ⟨#[]⟩, .complex .f64 0 0] 34 (0, 0))) (u v0 v1 v2 v3 v4 : Value) :
    (((((((w'.setCell ⟨w.heap.size + 1, j, none⟩ u).setCell ⟨w.heap.size, 0, none⟩ v0).setCell ⟨w.heap.size, 1, none⟩ v1).setCell ⟨w.heap.size, 2, none⟩ v2).setCell ⟨w.heap.size, 3, none⟩ v3).setCell ⟨w.heap.size, 4, none⟩ v4).heap[w.heap.size]? = some (.cells #[v0, v1, v2, v3, v4] 34 (0, 0))) ∧
      Rd ((((((w'.setCell ⟨w.heap.size + 1, j, none⟩ u).setCell ⟨w.heap.size, 0, none⟩ v0).setCell ⟨w.heap.size, 1, none⟩ v1).setCell ⟨w.heap.size, 2, none⟩ v2).setCell ⟨w.heap.size, 3, none⟩ v3).setCell ⟨w.heap.size, 4, none⟩ v4) R a L cap f to ∧
      Only (fun k => k = R) w ((((((w'.setCell ⟨w.heap.size + 1, j, none⟩ u).setCell ⟨w.heap.size, 0, none⟩ v0).setCell ⟨w.heap.size, 1, none⟩ v1).setCell ⟨w.heap.size, 2, none⟩ v2).setCell ⟨w.heap.size, 3, none⟩ v3).setCell ⟨w.heap.size, 4, none⟩ v4) := by
  have b0' : (w'.setCell ⟨w.heap.size + 1, j, none⟩ u).heap[w.heap.size]? = some (.cells #[.int .u8 0, .int .i64 0, .int .i64 0, .string ⟨#[]⟩, .complex .f64 0 0] 34 (0, 0)) := by
    rw [Below.heap_setCell _ _ _ _ (by simp)]; exact b0
  refine ⟨store5 b0' _ _ _ _ _, ?_, ?_⟩
  · have hW : Only (fun q => w.heap.size ≤ q) w' ((((((w'.setCell ⟨w.heap.size + 1, j, none⟩ u).setCell ⟨w.heap.size, 0, none⟩ v0).setCell ⟨w.heap.size, 1, none⟩ v1).setCell ⟨w.heap.size, 2, none⟩ v2).setCell ⟨w.heap.size, 3, none⟩ v3).setCell ⟨w.heap.size, 4, none⟩ v4) :=
      (((((((Only.refl _ w').setCell (p := ⟨w.heap.size + 1, j, none⟩) (.inl (by simp)) _).setCell (p := ⟨w.heap.size, 0, none⟩) (.inl (by simp)) _).setCell (p := ⟨w.heap.size, 1, none⟩) (.inl (by simp)) _).setCell (p := ⟨w.heap.size, 2, none⟩) (.inl (by simp)) _).setCell (p := ⟨w.heap.size, 3, none⟩) (.inl (by simp)) _).setCell (p := ⟨w.heap.size, 4, none⟩) (.inl (by simp)) _)
    exact hr.kept hW (by omega) (fun q hq h0 => by have := hL q hq h0; omega)
  · have h1 : Only (fun k => k = R) w w' := (two_only w k _).then hO
    exact store5_only _ (h1.setCell (p := ⟨w.heap.size + 1, j, none⟩) (.inr (by simp)) _) (Nat.le_refl _) _ _ _ _ _

theorem Rd.bl (h : Rd w R a L cap f p) : ∀ q, a = some q → 0 < L → q.block < w.heap.size := by
  intro q hq h0
  obtain ⟨b, off, rfl, hb, _⟩ := h.by_ h0
  cases hq
  exact hb
theorem By.lt' (h : By w a L f) : ∀ j, j < L → f j < 256 := fun j hj => by obtain ⟨b, off, _, _, hc⟩ := h (by omega); exact (hc j hj).2
theorem Rd.two (h : Rd w R a L cap f p) (k : Int) : Rd (twoNodes w k) R a L cap f p := h.kept (two_only w k (fun _ => False)) (fun h => h) (fun _ _ _ h => h)
end

section
variable {f : Nat → Nat} {L p room : Nat}
theorem nodeR_1 : (nodeR f L p 1 room).to = bitTo f L p ∧ (nodeR f L p 1 room).code = bitCode f L p ∧ (bitCode f L p = 0 → (nodeR f L p 1 room).nd = ⟨1, 0, f p, ⟨#[]⟩, 0, 0⟩) := by
  unfold nodeR bitTo bitCode
  rw [if_neg (by omega), if_pos rfl]
  by_cases h1 : L ≤ p
  · rw [if_pos h1, if_pos h1, if_pos h1]; exact ⟨rfl, rfl, fun h => by cases h⟩
  · rw [if_neg h1, if_neg h1, if_neg h1]
    by_cases h2 : 1 < f p
    · rw [if_pos h2, if_pos h2, if_pos h2]; exact ⟨rfl, rfl, fun h => by cases h⟩
    · rw [if_neg h2, if_neg h2, if_neg h2]; exact ⟨rfl, rfl, fun _ => rfl⟩
theorem nodeR_2 : nodeR f L p 2 room = ⟨⟨2, 0, unfN (numR f L p).v, ⟨#[]⟩, 0, 0⟩, (numR f L p).to, (numR f L p).code⟩ := by
  unfold nodeR; rw [if_neg (by omega), if_neg (by omega), if_pos rfl]
theorem nodeR_3 : nodeR f L p 3 room = if mostCode room (numR f L p) = 0 then ⟨⟨3, 0, 0, textB f (numR f L p).to (numR f L p).v, 0, 0⟩, textTo L (numR f L p), textCode L (numR f L p)⟩ else ⟨nd0 3, mostTo p room (numR f L p), mostCode room (numR f L p)⟩ := by
  unfold nodeR mostCode mostTo
  rw [if_neg (by omega), if_neg (by omega), if_neg (by omega), if_pos rfl]
  by_cases h1 : (numR f L p).code = 0
  · rw [if_pos h1, if_pos h1, if_pos h1]
    by_cases h2 : room < (numR f L p).v
    · rw [if_pos h2, if_pos h2, if_pos h2]; rfl
    · rw [if_neg h2, if_neg h2]; rfl
  · rw [if_neg h1, if_neg h1, if_neg h1, if_neg h1]
theorem nodeR_4 : nodeR f L p 4 room = ⟨⟨4, 0, 0, ⟨#[]⟩, be f p 8, be f (p + 8) 8⟩, numTo L p (fineB (be f p 8) (be f (p + 8) 8)), numCode L p (fineB (be f p 8) (be f (p + 8) 8))⟩ := by
  unfold nodeR; rw [if_neg (by omega), if_neg (by omega), if_neg (by omega), if_neg (by omega), if_pos rfl]
theorem nodeR_5 : (nodeR f L p 5 room).to = mostTo p 1024 (numR f L p) ∧ (nodeR f L p 5 room).code = mostCode 1024 (numR f L p) ∧ (mostCode 1024 (numR f L p) = 0 → (nodeR f L p 5 room).nd = ⟨5, (numR f L p).v, 0, ⟨#[]⟩, 0, 0⟩) := by
  unfold nodeR mostCode mostTo
  rw [if_neg (by omega), if_neg (by omega), if_neg (by omega), if_neg (by omega), if_neg (by omega), if_pos rfl]
  by_cases h1 : (numR f L p).code = 0
  · rw [if_pos h1, if_pos h1, if_pos h1]
    by_cases h2 : 1024 < (numR f L p).v
    · rw [if_pos h2, if_pos h2, if_pos h2]; exact ⟨rfl, rfl, fun h => by cases h⟩
    · rw [if_neg h2, if_neg h2, if_neg h2]; exact ⟨rfl, rfl, fun _ => rfl⟩
  · rw [if_neg h1, if_neg h1, if_neg h1]; exact ⟨rfl, rfl, fun h => absurd h h1⟩
theorem nodeR_x {k : Nat} (hk : 5 < k) : nodeR f L p k room = ⟨nd0 k, p - 1, 3⟩ := by
  unfold nodeR; rw [if_neg (by omega), if_neg (by omega), if_neg (by omega), if_neg (by omega), if_neg (by omega), if_neg (by omega)]
end

/-- What is asked of a node's contract. -/
def NodeTook (k room : Nat) (w : World) (R : Nat) (a : Option Addr) (L cap : Nat) (f : Nat → Nat) (p : Nat) : Ending → World → Prop :=
  Took (fun v _ => v = ndV (nodeR f L p k room).nd) (nodeR f L p k room).to (nodeR f L p k room).code w R a L cap f

section
variable {w : World} {R L cap p : Nat} {a : Option Addr} {f : Nat → Nat}
set_option maxRecDepth 100000 in
set_option maxHeartbeats 1000000 in
theorem node_0 (h : Rd w R a L cap f p) (room : Nat) :
    Calls Try.prog 56 #[.pointer (some ⟨R, 0, none⟩), .int .u8 0, .int .i64 room] w (NodeTook 0 room w R a L cap f p) := by
  have hsc := sc_any
  have hR := h.lt
  obtain ⟨b0, b1⟩ := two_cells (k := 0) hR (Only.refl _ _)
  obtain ⟨c0, c1, c2, c3, c4, f0⟩ := cells5 b0
  have hO := two_only w 0 (fun k => k = R)
  replace b0 := Lib.hid b0
  replace b1 := Lib.hid b1
  replace c0 := Lib.hid c0
  replace c1 := Lib.hid c1
  replace c2 := Lib.hid c2
  replace c3 := Lib.hid c3
  replace c4 := Lib.hid c4
  go_enter Try.func56, Try.ntmps56
  go_wp2
  refine bodyPost_ret (results_node (d := nd0 0) rfl c0.out c1.out c2.out c3.out c4.out) rfl ?_
  exact ⟨hO, .inl ⟨rfl, ⟨_, rfl, rfl⟩, h.two 0⟩⟩

set_option maxRecDepth 100000 in
set_option maxHeartbeats 1000000 in
theorem node_1_ok (h : Rd w R a L cap f p) (room : Nat) (hc : bitCode f L p = 0) :
    Calls Try.prog 56 #[.pointer (some ⟨R, 0, none⟩), .int .u8 1, .int .i64 room] w (NodeTook 1 room w R a L cap f p) := by
  have hsc := sc_any
  have hR := h.lt
  have hL := h.bl
  have hB := (bit_took (h.two 1)).mono fun e w' h => Took.ok h hc
  unfold twoNodes at hB
  have E : Hid (nodeR f L p 1 room = ⟨⟨1, 0, f p, ⟨#[]⟩, 0, 0⟩, bitTo f L p, 0⟩) := by
    obtain ⟨q1, q2, q3⟩ := nodeR_1 (f := f) (L := L) (p := p) (room := room)
    show nodeR f L p 1 room = _
    rw [← q1, ← q3 hc, show (0 : Nat) = (nodeR f L p 1 room).code by rw [q2, hc]]
  replace hc := Lib.hid hc
  replace hL := Lib.hid hL
  clear h
  go_enter Try.func56, Try.ntmps56
  go_wp2_with (first
    | ((with_reducible refine hB.mono ?_); rintro e w' ⟨v, rfl, rfl, hr', hO'⟩; obtain ⟨b0, b1⟩ := two_cells (k := 1) hR hO'; obtain ⟨c0, c1, c2, c3, c4, f0⟩ := cells5 b0; obtain ⟨d0, d1, d2, d3, d4, f1⟩ := cells5 b1; replace hr' := Lib.hid hr'; replace hO' := Lib.hid hO'; replace b0 := Lib.hid b0; replace b1 := Lib.hid b1))
  obtain ⟨e1, e2, e3⟩ := node_fin (j := 2) hO'.out hR hL.out hr'.out b0.out (.int .i64 (f p : Nat)) (.int .u8 1) (.int .i64 0) (.int .i64 (f p : Nat)) (.string ⟨#[]⟩) (.complex .f64 0 0)
  obtain ⟨g0, g1, g2, g3, g4, -⟩ := cells5 e1
  refine bodyPost_ret (results_node (d := (⟨1, 0, f p, ⟨#[]⟩, 0, 0⟩ : Nd)) rfl g0 g1 g2 g3 g4) rfl ?_
  unfold NodeTook
  rw [E.out]
  exact ⟨e3, .inl ⟨rfl, ⟨_, rfl, rfl⟩, e2⟩⟩

set_option maxRecDepth 100000 in
set_option maxHeartbeats 1000000 in
theorem node_1_bad (h : Rd w R a L cap f p) (room : Nat) (hc : bitCode f L p ≠ 0) :
    Calls Try.prog 56 #[.pointer (some ⟨R, 0, none⟩), .int .u8 1, .int .i64 room] w (NodeTook 1 room w R a L cap f p) := by
  have hsc := sc_any
  have hB := (bit_took (h.two 1)).mono fun e w' h => Took.bad h hc
  unfold twoNodes at hB
  have E : Hid ((nodeR f L p 1 room).to = bitTo f L p ∧ (nodeR f L p 1 room).code = bitCode f L p) := ⟨nodeR_1.1, nodeR_1.2.1⟩
  replace hc := Lib.hid hc
  clear h
  go_enter Try.func56, Try.ntmps56
  go_wp2_with (first
    | ((with_reducible refine hB.mono ?_); rintro e w' ⟨rfl, hO'⟩))
  unfold NodeTook
  rw [E.out.1, E.out.2]
  exact ⟨rfl, (two_only w _ _).then hO', .inr ⟨hc.out, rfl⟩⟩

set_option maxRecDepth 100000 in
set_option maxHeartbeats 1000000 in
theorem node_2_ok (h : Rd w R a L cap f p) (room : Nat) (hr : (numR f L p).v < 18446744073709551616) (hc : (numR f L p).code = 0) :
    Calls Try.prog 56 #[.pointer (some ⟨R, 0, none⟩), .int .u8 2, .int .i64 room] w (NodeTook 2 room w R a L cap f p) := by
  have hsc := sc_any
  have hR := h.lt
  have hL := h.bl
  have hB := (whole_took (h.two 2) hr).mono fun e w' h => Took.ok h hc
  unfold twoNodes at hB
  have E : Hid (nodeR f L p 2 room = ⟨⟨2, 0, unfN (numR f L p).v, ⟨#[]⟩, 0, 0⟩, (numR f L p).to, 0⟩) := by show nodeR f L p 2 room = _; rw [nodeR_2, hc]
  replace hc := Lib.hid hc
  generalize unfN (numR f L p).v = u at hB E
  generalize (numR f L p).to = to at hB E
  replace hL := Lib.hid hL
  clear h
  go_enter Try.func56, Try.ntmps56
  go_wp2_with (first
    | ((with_reducible refine hB.mono ?_); rintro e w' ⟨v, rfl, rfl, hr', hO'⟩; obtain ⟨b0, b1⟩ := two_cells (k := 2) hR hO'; obtain ⟨c0, c1, c2, c3, c4, f0⟩ := cells5 b0; obtain ⟨d0, d1, d2, d3, d4, f1⟩ := cells5 b1; replace hr' := Lib.hid hr'; replace hO' := Lib.hid hO'; replace b0 := Lib.hid b0; replace b1 := Lib.hid b1))
  obtain ⟨e1, e2, e3⟩ := node_fin (j := 2) hO'.out hR hL.out hr'.out b0.out (.int .i64 u) (.int .u8 2) (.int .i64 0) (.int .i64 u) (.string ⟨#[]⟩) (.complex .f64 0 0)
  obtain ⟨g0, g1, g2, g3, g4, -⟩ := cells5 e1
  refine bodyPost_ret (results_node (d := (⟨2, 0, u, ⟨#[]⟩, 0, 0⟩ : Nd)) rfl g0 g1 g2 g3 g4) rfl ?_
  unfold NodeTook
  rw [E.out]
  exact ⟨e3, .inl ⟨rfl, ⟨_, rfl, rfl⟩, e2⟩⟩

set_option maxRecDepth 100000 in
set_option maxHeartbeats 1000000 in
theorem node_2_bad (h : Rd w R a L cap f p) (room : Nat) (hr : (numR f L p).v < 18446744073709551616) (hc : (numR f L p).code ≠ 0) :
    Calls Try.prog 56 #[.pointer (some ⟨R, 0, none⟩), .int .u8 2, .int .i64 room] w (NodeTook 2 room w R a L cap f p) := by
  have hsc := sc_any
  have hB := (whole_took (h.two 2) hr).mono fun e w' h => Took.bad h hc
  unfold twoNodes at hB
  have E : Hid ((nodeR f L p 2 room).to = (numR f L p).to ∧ (nodeR f L p 2 room).code = (numR f L p).code) := by constructor <;> rw [nodeR_2]
  replace hc := Lib.hid hc
  clear h
  go_enter Try.func56, Try.ntmps56
  go_wp2_with (first
    | ((with_reducible refine hB.mono ?_); rintro e w' ⟨rfl, hO'⟩))
  unfold NodeTook
  rw [E.out.1, E.out.2]
  exact ⟨rfl, (two_only w _ _).then hO', .inr ⟨hc.out, rfl⟩⟩

set_option maxRecDepth 100000 in
set_option maxHeartbeats 1000000 in
theorem node_4_ok (h : Rd w R a L cap f p) (room : Nat) (hc : numCode L p (fineB (be f p 8) (be f (p + 8) 8)) = 0) :
    Calls Try.prog 56 #[.pointer (some ⟨R, 0, none⟩), .int .u8 4, .int .i64 room] w (NodeTook 4 room w R a L cap f p) := by
  have hsc := sc_any
  have hR := h.lt
  have hL := h.bl
  have hB := (num_took (h.two 4)).mono fun e w' h => Took.ok h hc
  unfold twoNodes at hB
  have E : Hid (nodeR f L p 4 room = ⟨⟨4, 0, 0, ⟨#[]⟩, be f p 8, be f (p + 8) 8⟩, numTo L p (fineB (be f p 8) (be f (p + 8) 8)), 0⟩) := by show nodeR f L p 4 room = _; rw [nodeR_4, hc]
  replace hc := Lib.hid hc
  generalize numTo L p (fineB (be f p 8) (be f (p + 8) 8)) = to at hB E
  generalize be f p 8 = x at hB E
  generalize be f (p + 8) 8 = y at hB E
  replace hL := Lib.hid hL
  clear h
  go_enter Try.func56, Try.ntmps56
  go_wp2_with (first
    | ((with_reducible refine hB.mono ?_); rintro e w' ⟨v, rfl, rfl, hr', hO'⟩; obtain ⟨b0, b1⟩ := two_cells (k := 4) hR hO'; obtain ⟨c0, c1, c2, c3, c4, f0⟩ := cells5 b0; obtain ⟨d0, d1, d2, d3, d4, f1⟩ := cells5 b1; replace hr' := Lib.hid hr'; replace hO' := Lib.hid hO'; replace b0 := Lib.hid b0; replace b1 := Lib.hid b1))
  obtain ⟨e1, e2, e3⟩ := node_fin (j := 4) hO'.out hR hL.out hr'.out b0.out (.complex .f64 x y) (.int .u8 4) (.int .i64 0) (.int .i64 0) (.string ⟨#[]⟩) (.complex .f64 x y)
  obtain ⟨g0, g1, g2, g3, g4, -⟩ := cells5 e1
  refine bodyPost_ret (results_node (d := (⟨4, 0, 0, ⟨#[]⟩, x, y⟩ : Nd)) rfl g0 g1 g2 g3 g4) rfl ?_
  unfold NodeTook
  rw [E.out]
  exact ⟨e3, .inl ⟨rfl, ⟨_, rfl, rfl⟩, e2⟩⟩

set_option maxRecDepth 100000 in
set_option maxHeartbeats 1000000 in
theorem node_4_bad (h : Rd w R a L cap f p) (room : Nat) (hc : numCode L p (fineB (be f p 8) (be f (p + 8) 8)) ≠ 0) :
    Calls Try.prog 56 #[.pointer (some ⟨R, 0, none⟩), .int .u8 4, .int .i64 room] w (NodeTook 4 room w R a L cap f p) := by
  have hsc := sc_any
  have hB := (num_took (h.two 4)).mono fun e w' h => Took.bad h hc
  unfold twoNodes at hB
  have E : Hid ((nodeR f L p 4 room).to = numTo L p (fineB (be f p 8) (be f (p + 8) 8)) ∧ (nodeR f L p 4 room).code = numCode L p (fineB (be f p 8) (be f (p + 8) 8))) := by constructor <;> rw [nodeR_4]
  replace hc := Lib.hid hc
  clear h
  go_enter Try.func56, Try.ntmps56
  go_wp2_with (first
    | ((with_reducible refine hB.mono ?_); rintro e w' ⟨rfl, hO'⟩))
  unfold NodeTook
  rw [E.out.1, E.out.2]
  exact ⟨rfl, (two_only w _ _).then hO', .inr ⟨hc.out, rfl⟩⟩

set_option maxRecDepth 100000 in
set_option maxHeartbeats 1000000 in
theorem node_5_ok (h : Rd w R a L cap f p) (room : Nat) (hr : (numR f L p).v < 18446744073709551616) (hc : mostCode 1024 (numR f L p) = 0) :
    Calls Try.prog 56 #[.pointer (some ⟨R, 0, none⟩), .int .u8 5, .int .i64 room] w (NodeTook 5 room w R a L cap f p) := by
  have hsc := sc_any
  have hR := h.lt
  have hL := h.bl
  have hB : Calls Try.prog 72 #[.pointer (some ⟨R, 0, none⟩), .int .i64 1024] (twoNodes w 5) _ := (atMost_took (h.two 5) hr (most := 1024) (by omega)).mono fun e w' h => Took.ok h hc
  unfold twoNodes at hB
  have E : Hid (nodeR f L p 5 room = ⟨⟨5, (numR f L p).v, 0, ⟨#[]⟩, 0, 0⟩, mostTo p 1024 (numR f L p), 0⟩) := by
    obtain ⟨q1, q2, q3⟩ := nodeR_5 (f := f) (L := L) (p := p) (room := room)
    show nodeR f L p 5 room = _
    rw [← q1, ← q3 hc, show (0 : Nat) = (nodeR f L p 5 room).code by rw [q2, hc]]
  replace hc := Lib.hid hc
  replace hr := Lib.hid hr
  generalize mostTo p 1024 (numR f L p) = to at hB E
  generalize (numR f L p).v = u at hB E
  replace hL := Lib.hid hL
  clear h
  go_enter Try.func56, Try.ntmps56
  go_wp2_with (first
    | ((with_reducible refine hB.mono ?_); rintro e w' ⟨v, rfl, rfl, hr', hO'⟩; obtain ⟨b0, b1⟩ := two_cells (k := 5) hR hO'; obtain ⟨c0, c1, c2, c3, c4, f0⟩ := cells5 b0; obtain ⟨d0, d1, d2, d3, d4, f1⟩ := cells5 b1; replace hr' := Lib.hid hr'; replace hO' := Lib.hid hO'; replace b0 := Lib.hid b0; replace b1 := Lib.hid b1))
  obtain ⟨e1, e2, e3⟩ := node_fin (j := 1) hO'.out hR hL.out hr'.out b0.out (.int .i64 (u : Nat)) (.int .u8 5) (.int .i64 (u : Nat)) (.int .i64 0) (.string ⟨#[]⟩) (.complex .f64 0 0)
  obtain ⟨g0, g1, g2, g3, g4, -⟩ := cells5 e1
  refine bodyPost_ret (results_node (d := (⟨5, u, 0, ⟨#[]⟩, 0, 0⟩ : Nd)) rfl g0 g1 g2 g3 g4) rfl ?_
  unfold NodeTook
  rw [E.out]
  exact ⟨e3, .inl ⟨rfl, ⟨_, rfl, rfl⟩, e2⟩⟩

set_option maxRecDepth 100000 in
set_option maxHeartbeats 1000000 in
theorem node_5_bad (h : Rd w R a L cap f p) (room : Nat) (hr : (numR f L p).v < 18446744073709551616) (hc : mostCode 1024 (numR f L p) ≠ 0) :
    Calls Try.prog 56 #[.pointer (some ⟨R, 0, none⟩), .int .u8 5, .int .i64 room] w (NodeTook 5 room w R a L cap f p) := by
  have hsc := sc_any
  have hB : Calls Try.prog 72 #[.pointer (some ⟨R, 0, none⟩), .int .i64 1024] (twoNodes w 5) _ := (atMost_took (h.two 5) hr (most := 1024) (by omega)).mono fun e w' h => Took.bad h hc
  unfold twoNodes at hB
  have E : Hid ((nodeR f L p 5 room).to = mostTo p 1024 (numR f L p) ∧ (nodeR f L p 5 room).code = mostCode 1024 (numR f L p)) := ⟨nodeR_5.1, nodeR_5.2.1⟩
  replace hc := Lib.hid hc
  generalize mostTo p 1024 (numR f L p) = to at hB E
  generalize mostCode 1024 (numR f L p) = cd at hB E hc
  clear h
  go_enter Try.func56, Try.ntmps56
  go_wp2_with (first
    | ((with_reducible refine hB.mono ?_); rintro e w' ⟨rfl, hO'⟩))
  unfold NodeTook
  rw [E.out.1, E.out.2]
  exact ⟨rfl, (two_only w _ _).then hO', .inr ⟨hc.out, rfl⟩⟩
end
end Go.Proofs.Ytnhghofkdiojaaa
