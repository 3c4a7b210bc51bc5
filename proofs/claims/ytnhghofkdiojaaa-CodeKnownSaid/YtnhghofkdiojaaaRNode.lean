/- The contract of the document's reader of a node. -/
import Derived.Test.YtnhghofkdiojaaaValue
import Derived.Test.YtnhghofkdiojaaaCRef
namespace Go.Proofs.Ytnhghofkdiojaaa
open Go.RowKit

theorem results_rnode {W : World} {z : Nat} {d : Nd} {to code : Int} {tmps : Array Value} (h6 : tmps.getD 6 undef = .pointer (some ⟨z, 0, none⟩)) (h7 : tmps.getD 7 undef = .int .i64 to) (h8 : tmps.getD 8 undef = .int .i64 code) (c0 : W.cell? ⟨z, 0, none⟩ = some (.int .u8 d.k)) (c1 : W.cell? ⟨z, 1, none⟩ = some (.int .i64 d.kids)) (c2 : W.cell? ⟨z, 2, none⟩ = some (.int .i64 d.n)) (c3 : W.cell? ⟨z, 3, none⟩ = some (.string d.s)) (c4 : W.cell? ⟨z, 4, none⟩ = some (.complex .f64 d.x d.y)) :
    (results Try.f48 tmps).run Try.prog W = .ok (.tuple #[ndV d, .int .i64 to, .int .i64 code]) W := by
  have h6' : tmps[6]?.getD undef = .pointer (some ⟨z, 0, none⟩) := by simpa using h6
  have h7' : tmps[7]?.getD undef = .int .i64 to := by simpa using h7
  have h8' : tmps[8]?.getD undef = .int .i64 code := by simpa using h8
  unfold ndV
  simp [results, Try.results48, go_sem, h6', h7', h8', c0, c1, c2, c3, c4]
theorem two5 (w : World) (v0 v1 v2 v3 v4 : Value) (t : TypeId) (o : Obj) : ((w.alloc (.cells #[v0, v1, v2, v3, v4] t)).alloc o).heap[w.heap.size]? = some (.cells #[v0, v1, v2, v3, v4] t (0, 0)) := by
  rw [Below.heap_alloc _ _ _ (by simp)]
  exact heap_alloc_new w _

/-- What the document's reader of a node comes to. -/
def RNodePost (r : Rv) (w : World) (e : Ending) (w' : World) : Prop :=
  ∃ nd' : Nd, e = .returned (.tuple #[ndV nd', .int .i64 r.to, .int .i64 r.code]) ∧ (r.code = 0 → nd' = r.nd) ∧ Below w.heap.size w w'
theorem RNodePost.of {r : Rv} {w : World} {e : Ending} {w' : World} (nd' : Nd) (to code : Nat) (he : e = .returned (.tuple #[ndV nd', .int .i64 to, .int .i64 code])) (h1 : r.to = to) (h2 : r.code = code) (h3 : code = 0 → nd' = r.nd) (hb : Below w.heap.size w w') : RNodePost r w e w' :=
  ⟨nd', by rw [he, h1, h2], fun h => h3 (by rw [← h2]; exact h), hb⟩
theorem below_two (w : World) (o1 o2 : Obj) : Below w.heap.size w ((w.alloc o1).alloc o2) := ((Below.refl _ w).alloc (Nat.le_refl _) _).alloc (by simp) _
theorem By.below' {w w' : World} {a : Option Addr} {L : Nat} {f : Nat → Nat} (h : By w a L f) (hb : Below w.heap.size w w') : By w' a L f := h.kept (F := fun _ => False) (Only.of_below hb) (fun _ _ _ h => h)

section
variable {w : World} {b off L cap p size : Nat} {f : Nat → Nat}

set_option maxRecDepth 100000 in
set_option maxHeartbeats 2000000 in
theorem rnode_0 (h : By w (some ⟨b, off, none⟩) L f) (hlc : L ≤ cap) (hcm : cap ≤ 9223372036854775807) (hL : L ≤ 20000) (hp : p < L) (hs : size ≤ 4095) (hcp : w.cell? ⟨b, off + p, none⟩ = some (.int .u8 0))  :
    Calls Try.prog 48 #[.slice (some ⟨b, off, none⟩) L cap, .int .i64 p, .int .i64 size] w (RNodePost (nodeR f L (p + 1) 0 (4095 - size)) w) := by
  have hsc := sc_any
  have hbw : b < w.heap.size := World.block_lt_of_cell? w _ hcp
  have hpp : ((p + 1 : Nat) : Int) = (p : Int) + 1 := by omega
  go_enter Try.func48, Try.ntmps48
  go_wp2
  obtain ⟨g0, g1, g2, g3, g4, -⟩ := cells5 (two5 w _ _ _ _ _ _ _)
  refine bodyPost_ret (results_rnode (d := (nd0 0)) rfl rfl rfl g0 g1 g2 g3 g4) rfl ?_
  exact RNodePost.of (nd0 0) (p + 1) 0 (by first | rfl | (congr 3 <;> omega)) rfl rfl (fun _ => rfl) (below_two _ _ _)

set_option maxRecDepth 100000 in
set_option maxHeartbeats 2000000 in
theorem rnode_1s (h : By w (some ⟨b, off, none⟩) L f) (hlc : L ≤ cap) (hcm : cap ≤ 9223372036854775807) (hL : L ≤ 20000) (hp : p < L) (hs : size ≤ 4095) (hcp : w.cell? ⟨b, off + p, none⟩ = some (.int .u8 1)) (h1 : L ≤ p + 1) :
    Calls Try.prog 48 #[.slice (some ⟨b, off, none⟩) L cap, .int .i64 p, .int .i64 size] w (RNodePost (nodeR f L (p + 1) 1 (4095 - size)) w) := by
  have hsc := sc_any
  have hbw : b < w.heap.size := World.block_lt_of_cell? w _ hcp
  have hpp : ((p + 1 : Nat) : Int) = (p : Int) + 1 := by omega
  obtain ⟨q1, q2, q3⟩ := nodeR_1 (f := f) (L := L) (p := p + 1) (room := 4095 - size)
  have e1 : Hid ((nodeR f L (p + 1) 1 (4095 - size)).to = L ∧ (nodeR f L (p + 1) 1 (4095 - size)).code = 4) := ⟨by rw [q1]; unfold bitTo; rw [if_pos h1], by rw [q2]; unfold bitCode; rw [if_pos h1]⟩
  have hge : (L : Int) ≤ (p : Int) + 1 := by omega
  clear q1 q2 q3
  go_enter Try.func48, Try.ntmps48
  go_wp2
  obtain ⟨g0, g1, g2, g3, g4, -⟩ := cells5 (two5 w _ _ _ _ _ _ _)
  refine bodyPost_ret (results_rnode (d := (nd0 1)) rfl rfl rfl g0 g1 g2 g3 g4) rfl ?_
  exact RNodePost.of (nd0 1) L 4 (by first | rfl | (congr 3 <;> omega)) e1.out.1 e1.out.2 (fun h => by cases h) (below_two _ _ _)

set_option maxRecDepth 100000 in
set_option maxHeartbeats 2000000 in
theorem rnode_1b (h : By w (some ⟨b, off, none⟩) L f) (hlc : L ≤ cap) (hcm : cap ≤ 9223372036854775807) (hL : L ≤ 20000) (hp : p < L) (hs : size ≤ 4095) (hcp : w.cell? ⟨b, off + p, none⟩ = some (.int .u8 1)) (h1 : p + 1 < L) (h2 : 1 < f (p + 1)) :
    Calls Try.prog 48 #[.slice (some ⟨b, off, none⟩) L cap, .int .i64 p, .int .i64 size] w (RNodePost (nodeR f L (p + 1) 1 (4095 - size)) w) := by
  have hsc := sc_any
  have hbw : b < w.heap.size := World.block_lt_of_cell? w _ hcp
  have hpp : ((p + 1 : Nat) : Int) = (p : Int) + 1 := by omega
  obtain ⟨q1, q2, q3⟩ := nodeR_1 (f := f) (L := L) (p := p + 1) (room := 4095 - size)
  have hcell := (h (by omega))
  obtain ⟨b', off', hbo, _, hcell⟩ := hcell
  simp only [Option.some.injEq, Addr.mk.injEq, and_true] at hbo
  obtain ⟨rfl, rfl⟩ := hbo
  have hc2 := (hcell (p + 1) (by omega)).1
  have hlt : ¬ (L : Int) ≤ (p : Int) + 1 := by omega
  clear hcell
  have e1 : Hid ((nodeR f L (p + 1) 1 (4095 - size)).to = p + 1 ∧ (nodeR f L (p + 1) 1 (4095 - size)).code = 3) := ⟨by rw [q1]; unfold bitTo; rw [if_neg (by omega), if_pos h2], by rw [q2]; unfold bitCode; rw [if_neg (by omega), if_pos h2]⟩
  have h2' : (1 : Int) < (f (p + 1) : Nat) := by omega
  clear q1 q2 q3
  go_enter Try.func48, Try.ntmps48
  go_wp2
  obtain ⟨g0, g1, g2, g3, g4, -⟩ := cells5 (two5 w _ _ _ _ _ _ _)
  refine bodyPost_ret (results_rnode (d := (nd0 1)) rfl rfl rfl g0 g1 g2 g3 g4) rfl ?_
  exact RNodePost.of (nd0 1) (p + 1) 3 (by first | rfl | (congr 3 <;> omega)) e1.out.1 e1.out.2 (fun h => by cases h) (below_two _ _ _)

set_option maxRecDepth 100000 in
set_option maxHeartbeats 2000000 in
theorem rnode_1 (h : By w (some ⟨b, off, none⟩) L f) (hlc : L ≤ cap) (hcm : cap ≤ 9223372036854775807) (hL : L ≤ 20000) (hp : p < L) (hs : size ≤ 4095) (hcp : w.cell? ⟨b, off + p, none⟩ = some (.int .u8 1)) (h1 : p + 1 < L) (h2 : ¬ 1 < f (p + 1)) :
    Calls Try.prog 48 #[.slice (some ⟨b, off, none⟩) L cap, .int .i64 p, .int .i64 size] w (RNodePost (nodeR f L (p + 1) 1 (4095 - size)) w) := by
  have hsc := sc_any
  have hbw : b < w.heap.size := World.block_lt_of_cell? w _ hcp
  have hpp : ((p + 1 : Nat) : Int) = (p : Int) + 1 := by omega
  obtain ⟨q1, q2, q3⟩ := nodeR_1 (f := f) (L := L) (p := p + 1) (room := 4095 - size)
  have hcell := (h (by omega))
  obtain ⟨b', off', hbo, _, hcell⟩ := hcell
  simp only [Option.some.injEq, Addr.mk.injEq, and_true] at hbo
  obtain ⟨rfl, rfl⟩ := hbo
  have hc2 := (hcell (p + 1) (by omega)).1
  have hlt : ¬ (L : Int) ≤ (p : Int) + 1 := by omega
  clear hcell
  have e1 : Hid ((nodeR f L (p + 1) 1 (4095 - size)).to = p + 2 ∧ (nodeR f L (p + 1) 1 (4095 - size)).code = 0 ∧ (nodeR f L (p + 1) 1 (4095 - size)).nd = ⟨1, 0, f (p + 1), ⟨#[]⟩, 0, 0⟩) := ⟨by rw [q1]; unfold bitTo; rw [if_neg (by omega), if_neg h2], by rw [q2]; unfold bitCode; rw [if_neg (by omega), if_neg h2], q3 (by unfold bitCode; rw [if_neg (by omega), if_neg h2])⟩
  have h2' : ¬ (1 : Int) < (f (p + 1) : Nat) := by omega
  clear q1 q2 q3
  go_enter Try.func48, Try.ntmps48
  go_wp2
  obtain ⟨g0, g1, g2, g3, g4, -⟩ := cells5 (two5 w _ _ _ _ _ _ _)
  refine bodyPost_ret (results_rnode (d := (⟨1, 0, f (p + 1), ⟨#[]⟩, 0, 0⟩ : Nd)) rfl rfl rfl g0 g1 g2 g3 g4) rfl ?_
  exact RNodePost.of (⟨1, 0, f (p + 1), ⟨#[]⟩, 0, 0⟩ : Nd) (p + 2) 0 (by first | rfl | (congr 3 <;> omega)) e1.out.1 e1.out.2.1 (fun _ => e1.out.2.2.symm) (below_two _ _ _)

set_option maxRecDepth 100000 in
set_option maxHeartbeats 2000000 in
theorem rnode_2 (h : By w (some ⟨b, off, none⟩) L f) (hlc : L ≤ cap) (hcm : cap ≤ 9223372036854775807) (hL : L ≤ 20000) (hp : p < L) (hs : size ≤ 4095) (hcp : w.cell? ⟨b, off + p, none⟩ = some (.int .u8 2))  :
    Calls Try.prog 48 #[.slice (some ⟨b, off, none⟩) L cap, .int .i64 p, .int .i64 size] w (RNodePost (nodeR f L (p + 1) 2 (4095 - size)) w) := by
  have hsc := sc_any
  have hbw : b < w.heap.size := World.block_lt_of_cell? w _ hcp
  have hpp : ((p + 1 : Nat) : Int) = (p : Int) + 1 := by omega
  have hW := below_two w (.cells #[.int .u8 0, .int .i64 0, .int .i64 0, .string ⟨#[]⟩, .complex .f64 0 0] 34) (.cells #[.int .u8 2, .int .i64 0, .int .i64 0, .string ⟨#[]⟩, .complex .f64 0 0] 34)
  have hC := refInt_any5 (p := p + 1) (h.below' hW) hlc hcm hL (by omega)
  rw [hpp] at hC
  have e1 : Hid (nodeR f L (p + 1) 2 (4095 - size) = _) := nodeR_2
  generalize numR f L (p + 1) = r at hC e1
  go_enter Try.func48, Try.ntmps48
  go_wp2_with ((with_reducible refine hC.mono ?_); rintro e w' ⟨rfl, rfl⟩)
  obtain ⟨g0, g1, g2, g3, g4, -⟩ := cells5 (two5 w _ _ _ _ _ _ _)
  refine bodyPost_ret (results_rnode (d := (⟨2, 0, unfN r.v, ⟨#[]⟩, 0, 0⟩ : Nd)) rfl rfl rfl g0 g1 g2 g3 g4) rfl ?_
  exact RNodePost.of (⟨2, 0, unfN r.v, ⟨#[]⟩, 0, 0⟩ : Nd) r.to r.code (by first | rfl | (congr 3 <;> omega)) (by rw [e1.out]) (by rw [e1.out]) (fun _ => by rw [e1.out]) (below_two _ _ _)

set_option maxRecDepth 100000 in
set_option maxHeartbeats 2000000 in
theorem rnode_4 (h : By w (some ⟨b, off, none⟩) L f) (hlc : L ≤ cap) (hcm : cap ≤ 9223372036854775807) (hL : L ≤ 20000) (hp : p < L) (hs : size ≤ 4095) (hcp : w.cell? ⟨b, off + p, none⟩ = some (.int .u8 4))  :
    Calls Try.prog 48 #[.slice (some ⟨b, off, none⟩) L cap, .int .i64 p, .int .i64 size] w (RNodePost (nodeR f L (p + 1) 4 (4095 - size)) w) := by
  have hsc := sc_any
  have hbw : b < w.heap.size := World.block_lt_of_cell? w _ hcp
  have hpp : ((p + 1 : Nat) : Int) = (p : Int) + 1 := by omega
  have hW := below_two w (.cells #[.int .u8 0, .int .i64 0, .int .i64 0, .string ⟨#[]⟩, .complex .f64 0 0] 34) (.cells #[.int .u8 4, .int .i64 0, .int .i64 0, .string ⟨#[]⟩, .complex .f64 0 0] 34)
  have hC := refNum_any5 (p := p + 1) (h.below' hW) hlc hcm hL (by omega)
  rw [hpp] at hC
  have e1 : Hid (nodeR f L (p + 1) 4 (4095 - size) = _) := nodeR_4
  have e2 : Hid (numV f L (p + 1) = if numCode L (p + 1) (fineB (be f (p + 1) 8) (be f (p + 1 + 8) 8)) = 0 then .complex .f64 (be f (p + 1) 8) (be f (p + 1 + 8) 8) else .complex .f64 0 0) := rfl
  rw [e2.out] at hC
  generalize numTo L (p + 1) (fineB (be f (p + 1) 8) (be f (p + 1 + 8) 8)) = to at hC e1
  generalize numCode L (p + 1) (fineB (be f (p + 1) 8) (be f (p + 1 + 8) 8)) = cd at hC e1
  generalize be f (p + 1) 8 = x at hC e1
  generalize be f (p + 1 + 8) 8 = y at hC e1
  clear e2
  by_cases hcd : cd = 0
  · rw [if_pos hcd] at hC
    replace hcd := Lib.hid hcd
    go_enter Try.func48, Try.ntmps48
    go_wp2_with ((with_reducible refine hC.mono ?_); rintro e w' ⟨rfl, rfl⟩)
    obtain ⟨g0, g1, g2, g3, g4, -⟩ := cells5 (two5 w _ _ _ _ _ _ _)
    refine bodyPost_ret (results_rnode (d := (⟨4, 0, 0, ⟨#[]⟩, x, y⟩ : Nd)) rfl rfl rfl g0 g1 g2 g3 g4) rfl ?_
    exact RNodePost.of (⟨4, 0, 0, ⟨#[]⟩, x, y⟩ : Nd) to cd (by first | rfl | (congr 3 <;> omega)) (by rw [e1.out]) (by rw [e1.out]) (fun _ => by rw [e1.out]) (below_two _ _ _)
  · rw [if_neg hcd] at hC
    replace hcd := Lib.hid hcd
    go_enter Try.func48, Try.ntmps48
    go_wp2_with ((with_reducible refine hC.mono ?_); rintro e w' ⟨rfl, rfl⟩)
    obtain ⟨g0, g1, g2, g3, g4, -⟩ := cells5 (two5 w _ _ _ _ _ _ _)
    refine bodyPost_ret (results_rnode (d := (nd0 4)) rfl rfl rfl g0 g1 g2 g3 g4) rfl ?_
    exact RNodePost.of (nd0 4) to cd (by first | rfl | (congr 3 <;> omega)) (by rw [e1.out]) (by rw [e1.out]) (fun h => absurd h hcd.out) (below_two _ _ _)

set_option maxRecDepth 100000 in
set_option maxHeartbeats 2000000 in
theorem rnode_5 (h : By w (some ⟨b, off, none⟩) L f) (hlc : L ≤ cap) (hcm : cap ≤ 9223372036854775807) (hL : L ≤ 20000) (hp : p < L) (hs : size ≤ 4095) (hcp : w.cell? ⟨b, off + p, none⟩ = some (.int .u8 5))  :
    Calls Try.prog 48 #[.slice (some ⟨b, off, none⟩) L cap, .int .i64 p, .int .i64 size] w (RNodePost (nodeR f L (p + 1) 5 (4095 - size)) w) := by
  have hsc := sc_any
  have hbw : b < w.heap.size := World.block_lt_of_cell? w _ hcp
  have hpp : ((p + 1 : Nat) : Int) = (p : Int) + 1 := by omega
  have hW := below_two w (.cells #[.int .u8 0, .int .i64 0, .int .i64 0, .string ⟨#[]⟩, .complex .f64 0 0] 34) (.cells #[.int .u8 5, .int .i64 0, .int .i64 0, .string ⟨#[]⟩, .complex .f64 0 0] 34)
  have hC := refUint_any (p := p + 1) (h.below' hW) hlc hcm hL (by omega)
  rw [hpp] at hC
  obtain ⟨q1, q2, q3⟩ := nodeR_5 (f := f) (L := L) (p := p + 1) (room := 4095 - size)
  have hz := numR_zero (f := f) (L := L) (p := p + 1) (by omega) (fun j _ hj => h.lt j hj)
  have hrg := (numR_range (f := f) (L := L) (p := p + 1) (by omega) (fun j _ hj => h.lt j hj)).2.1
  generalize numR f L (p + 1) = r at hC q1 q2 q3 hz hrg
  by_cases hc : r.code = 0
  · have hc' : ((r.code : Int) == 0) = true := by simp; omega
    by_cases hv : 1024 < r.v
    · have e1 : Hid ((nodeR f L (p + 1) 5 (4095 - size)).to = p + 1 ∧ (nodeR f L (p + 1) 5 (4095 - size)).code = 2) := ⟨by rw [q1]; unfold mostTo; rw [if_pos hc, if_pos hv], by rw [q2]; unfold mostCode; rw [if_pos hc, if_pos hv]⟩
      have hv' : (1024 : Int) < (r.v : Nat) := by omega
      clear q1 q2 q3 hz
      replace hc := Lib.hid hc
      go_enter Try.func48, Try.ntmps48
      go_wp2_with ((with_reducible refine hC.mono ?_); rintro e w' ⟨rfl, rfl⟩)
      obtain ⟨g0, g1, g2, g3, g4, -⟩ := cells5 (two5 w _ _ _ _ _ _ _)
      refine bodyPost_ret (results_rnode (d := (nd0 5)) rfl rfl rfl g0 g1 g2 g3 g4) rfl ?_
      exact RNodePost.of (nd0 5) (p + 1) 2 (by first | rfl | (congr 3 <;> omega)) e1.out.1 e1.out.2 (fun h => by cases h) (below_two _ _ _)
    · have e1 : Hid ((nodeR f L (p + 1) 5 (4095 - size)).to = r.to ∧ (nodeR f L (p + 1) 5 (4095 - size)).code = 0 ∧ (nodeR f L (p + 1) 5 (4095 - size)).nd = ⟨5, r.v, 0, ⟨#[]⟩, 0, 0⟩) := ⟨by rw [q1]; unfold mostTo; rw [if_pos hc, if_neg hv], by rw [q2]; unfold mostCode; rw [if_pos hc, if_neg hv], q3 (by unfold mostCode; rw [if_pos hc, if_neg hv])⟩
      have hv' : ¬ (1024 : Int) < (r.v : Nat) := by omega
      have hv63 : (r.v : Int) ≤ 9223372036854775807 := by omega
      clear q1 q2 q3 hz
      replace hc := Lib.hid hc
      go_enter Try.func48, Try.ntmps48
      go_wp2_with ((with_reducible refine hC.mono ?_); rintro e w' ⟨rfl, rfl⟩)
      obtain ⟨g0, g1, g2, g3, g4, -⟩ := cells5 (two5 w _ _ _ _ _ _ _)
      refine bodyPost_ret (results_rnode (d := (⟨5, r.v, 0, ⟨#[]⟩, 0, 0⟩ : Nd)) rfl rfl rfl g0 g1 g2 g3 g4) rfl ?_
      exact RNodePost.of (⟨5, r.v, 0, ⟨#[]⟩, 0, 0⟩ : Nd) r.to 0 (by first | rw [hc.out] | (rw [hc.out]; rfl)) e1.out.1 e1.out.2.1 (fun _ => e1.out.2.2.symm) (below_two _ _ _)
  · have hc' : ((r.code : Int) == 0) = false := by simp; omega
    have hv0 : r.v = 0 := hz hc
    have e1 : Hid ((nodeR f L (p + 1) 5 (4095 - size)).to = r.to ∧ (nodeR f L (p + 1) 5 (4095 - size)).code = r.code) := ⟨by rw [q1]; unfold mostTo; rw [if_neg hc], by rw [q2]; unfold mostCode; rw [if_neg hc]⟩
    rw [hv0] at hC
    clear q1 q2 q3 hz
    replace hc := Lib.hid hc
    go_enter Try.func48, Try.ntmps48
    go_wp2_with ((with_reducible refine hC.mono ?_); rintro e w' ⟨rfl, rfl⟩)
    obtain ⟨g0, g1, g2, g3, g4, -⟩ := cells5 (two5 w _ _ _ _ _ _ _)
    refine bodyPost_ret (results_rnode (d := (nd0 5)) rfl rfl rfl g0 g1 g2 g3 g4) rfl ?_
    exact RNodePost.of (nd0 5) r.to r.code (by first | rfl | (congr 3 <;> omega)) e1.out.1 e1.out.2 (fun h => absurd h hc.out) (below_two _ _ _)

set_option maxRecDepth 100000 in
set_option maxHeartbeats 2000000 in
theorem rnode_x {k : Nat} (h : By w (some ⟨b, off, none⟩) L f) (hlc : L ≤ cap) (hcm : cap ≤ 9223372036854775807) (hL : L ≤ 20000) (hp : p < L) (hs : size ≤ 4095) (hcp : w.cell? ⟨b, off + p, none⟩ = some (.int .u8 k)) (hk : 5 < k) :
    Calls Try.prog 48 #[.slice (some ⟨b, off, none⟩) L cap, .int .i64 p, .int .i64 size] w (RNodePost (nodeR f L (p + 1) k (4095 - size)) w) := by
  have hsc := sc_any
  have hbw : b < w.heap.size := World.block_lt_of_cell? w _ hcp
  have hpp : ((p + 1 : Nat) : Int) = (p : Int) + 1 := by omega
  have e1 : Hid (nodeR f L (p + 1) k (4095 - size) = _) := nodeR_x hk
  have k0 : ((k : Int) == 0) = false := by simp; omega
  have k1 : ((k : Int) == 1) = false := by simp; omega
  have k2 : ((k : Int) == 2) = false := by simp; omega
  have k3 : ((k : Int) == 3) = false := by simp; omega
  have k4 : ((k : Int) == 4) = false := by simp; omega
  have k5 : ((k : Int) == 5) = false := by simp; omega
  go_enter Try.func48, Try.ntmps48
  go_wp2
  obtain ⟨g0, g1, g2, g3, g4, -⟩ := cells5 (two5 w _ _ _ _ _ _ _)
  refine bodyPost_ret (results_rnode (d := (nd0 k)) rfl rfl rfl g0 g1 g2 g3 g4) rfl ?_
  exact RNodePost.of (nd0 k) p 3 (by first | rfl | (congr 3 <;> omega)) (by rw [e1.out]; rfl) (by rw [e1.out]) (fun h => by cases h) (below_two _ _ _)

set_option maxRecDepth 100000 in
set_option maxHeartbeats 2000000 in
theorem rnode_3 (h : By w (some ⟨b, off, none⟩) L f) (hlc : L ≤ cap) (hcm : cap ≤ 9223372036854775807) (hL : L ≤ 20000) (hp : p < L) (hs : size ≤ 4095) (hcp : w.cell? ⟨b, off + p, none⟩ = some (.int .u8 3)) (hnl : (some ⟨b, off, none⟩ : Option Addr) = none → cap = 0) :
    Calls Try.prog 48 #[.slice (some ⟨b, off, none⟩) L cap, .int .i64 p, .int .i64 size] w (RNodePost (nodeR f L (p + 1) 3 (4095 - size)) w) := by
  have hsc := sc_any
  have hbw : b < w.heap.size := World.block_lt_of_cell? w _ hcp
  have hpp : ((p + 1 : Nat) : Int) = (p : Int) + 1 := by omega
  have hW := below_two w (.cells #[.int .u8 0, .int .i64 0, .int .i64 0, .string ⟨#[]⟩, .complex .f64 0 0] 34) (.cells #[.int .u8 3, .int .i64 0, .int .i64 0, .string ⟨#[]⟩, .complex .f64 0 0] 34)
  have hC := refUint_any (p := p + 1) (h.below' hW) hlc hcm hL (by omega)
  have hT := refText_any5 (p := p + 1) (h.below' hW) hlc hcm hnl hL (by omega)
  rw [hpp] at hC hT
  have q := nodeR_3 (f := f) (L := L) (p := p + 1) (room := 4095 - size)
  have hV : Hid (textV f L (numR f L (p + 1)) = if textCode L (numR f L (p + 1)) = 0 then .string (textB f (numR f L (p + 1)).to (numR f L (p + 1)).v) else .string ⟨#[]⟩) := rfl
  rw [hV.out] at hT
  clear hV
  have hrg := (numR_range (f := f) (L := L) (p := p + 1) (by omega) (fun j _ hj => h.lt j hj))
  have hvb := hrg.1
  generalize numR f L (p + 1) = r at hC hT q hvb hrg
  have hto : r.to ≤ 20000 := by have := hrg.2.1; omega
  clear hrg
  by_cases hbig : r.code = 0 ∧ 4095 - size < r.v
  · obtain ⟨hc, hv⟩ := hbig
    have hc' : ((r.code : Int) == 0) = true := by simp; omega
    have e0 : mostCode (4095 - size) r = 2 := by unfold mostCode; rw [if_pos hc, if_pos hv]
    have e1 : Hid ((nodeR f L (p + 1) 3 (4095 - size)).to = p + 1 ∧ (nodeR f L (p + 1) 3 (4095 - size)).code = 2) := by
      rw [q, if_neg (by rw [e0]; decide)]
      exact ⟨by show mostTo (p + 1) (4095 - size) r = p + 1; unfold mostTo; rw [if_pos hc, if_pos hv], e0⟩
    have hv' : (4096 : Int) - size - 1 < (r.v : Nat) := by omega
    clear q e0 hT
    replace hc := Lib.hid hc
    go_enter Try.func48, Try.ntmps48
    go_wp2_with ((with_reducible refine hC.mono ?_); rintro e w' ⟨rfl, rfl⟩)
    obtain ⟨g0, g1, g2, g3, g4, -⟩ := cells5 (two5 w _ _ _ _ _ _ _)
    refine bodyPost_ret (results_rnode (d := (nd0 3)) rfl rfl rfl g0 g1 g2 g3 g4) rfl ?_
    exact RNodePost.of (nd0 3) (p + 1) 2 (by first | rfl | (congr 3 <;> omega)) e1.out.1 e1.out.2 (fun h => by cases h) (below_two _ _ _)
  · have e1 : Hid ((nodeR f L (p + 1) 3 (4095 - size)).to = textTo L r ∧ (nodeR f L (p + 1) 3 (4095 - size)).code = textCode L r ∧ (textCode L r = 0 → (nodeR f L (p + 1) 3 (4095 - size)).nd = ⟨3, 0, 0, textB f r.to r.v, 0, 0⟩)) := by
      show _ ∧ _ ∧ _
      rw [q]
      by_cases hc : r.code = 0
      · have hv : ¬ 4095 - size < r.v := fun h => hbig ⟨hc, h⟩
        rw [if_pos (by unfold mostCode; rw [if_pos hc, if_neg hv])]
        exact ⟨rfl, rfl, fun _ => rfl⟩
      · rw [if_neg (by unfold mostCode; rw [if_neg hc]; exact hc)]
        have t1 : textTo L r = r.to := by unfold textTo; rw [if_neg hc]
        have t2 : textCode L r = r.code := by unfold textCode; rw [if_neg hc]
        rw [t1, t2]
        exact ⟨by show mostTo (p + 1) (4095 - size) r = r.to; unfold mostTo; rw [if_neg hc], by show mostCode (4095 - size) r = r.code; unfold mostCode; rw [if_neg hc], fun h => absurd h hc⟩
    have hways : (((r.code : Int) == 0) = true ∧ ¬ (4096 : Int) - size - 1 < (r.v : Nat)) ∨ ((r.code : Int) == 0) = false := by
      by_cases hc : r.code = 0
      · exact .inl ⟨by simp; omega, fun h => hbig ⟨hc, by omega⟩⟩
      · exact .inr (by simp; omega)
    clear q hbig
    generalize textTo L r = tt at hT e1
    generalize textCode L r = tc at hT e1
    generalize textB f r.to r.v = s at hT e1
    by_cases htc : tc = 0
    · rw [if_pos htc] at hT
      replace htc := Lib.hid htc
      rcases hways with ⟨m1, m2⟩ | m1
      all_goals
        go_enter Try.func48, Try.ntmps48
        go_wp2_with (first
          | ((with_reducible refine hC.mono ?_); rintro e w' ⟨rfl, rfl⟩)
          | ((with_reducible refine hT.mono ?_); rintro e w' ⟨rfl, rfl⟩))
        obtain ⟨g0, g1, g2, g3, g4, -⟩ := cells5 (two5 w _ _ _ _ _ _ _)
        refine bodyPost_ret (results_rnode (d := (⟨3, 0, 0, s, 0, 0⟩ : Nd)) rfl rfl rfl g0 g1 g2 g3 g4) rfl ?_
        exact RNodePost.of (⟨3, 0, 0, s, 0, 0⟩ : Nd) tt tc (by first | rfl | (congr 3 <;> omega)) e1.out.1 e1.out.2.1 (fun h => (e1.out.2.2 h).symm) (below_two _ _ _)
    · rw [if_neg htc] at hT
      replace htc := Lib.hid htc
      rcases hways with ⟨m1, m2⟩ | m1
      all_goals
        go_enter Try.func48, Try.ntmps48
        go_wp2_with (first
          | ((with_reducible refine hC.mono ?_); rintro e w' ⟨rfl, rfl⟩)
          | ((with_reducible refine hT.mono ?_); rintro e w' ⟨rfl, rfl⟩))
        obtain ⟨g0, g1, g2, g3, g4, -⟩ := cells5 (two5 w _ _ _ _ _ _ _)
        refine bodyPost_ret (results_rnode (d := (nd0 3)) rfl rfl rfl g0 g1 g2 g3 g4) rfl ?_
        exact RNodePost.of (nd0 3) tt tc (by first | rfl | (congr 3 <;> omega)) e1.out.1 e1.out.2.1 (fun h => absurd h htc.out) (below_two _ _ _)

theorem rnode_any (h : By w (some ⟨b, off, none⟩) L f) (hlc : L ≤ cap) (hcm : cap ≤ 9223372036854775807) (hL : L ≤ 20000) (hp : p < L) (hs : size ≤ 4095) :
    Calls Try.prog 48 #[.slice (some ⟨b, off, none⟩) L cap, .int .i64 p, .int .i64 size] w (RNodePost (nodeR f L (p + 1) (f p) (4095 - size)) w) := by
  have hcell := h (by omega)
  obtain ⟨b', off', hbo, _, hcell⟩ := hcell
  simp only [Option.some.injEq, Addr.mk.injEq, and_true] at hbo
  obtain ⟨rfl, rfl⟩ := hbo
  have hcp := (hcell p hp).1
  generalize f p = k at hcp ⊢
  rcases (show k = 0 ∨ k = 1 ∨ k = 2 ∨ k = 3 ∨ k = 4 ∨ k = 5 ∨ 5 < k by omega) with rfl | rfl | rfl | rfl | rfl | rfl | hk
  · exact rnode_0 h hlc hcm hL hp hs hcp
  · by_cases h1 : L ≤ p + 1
    · exact rnode_1s h hlc hcm hL hp hs hcp h1
    · by_cases h2 : 1 < f (p + 1)
      · exact rnode_1b h hlc hcm hL hp hs hcp (by omega) h2
      · exact rnode_1 h hlc hcm hL hp hs hcp (by omega) h2
  · exact rnode_2 h hlc hcm hL hp hs hcp
  · exact rnode_3 h hlc hcm hL hp hs hcp (fun h => by cases h)
  · exact rnode_4 h hlc hcm hL hp hs hcp
  · exact rnode_5 h hlc hcm hL hp hs hcp
  · exact rnode_x h hlc hcm hL hp hs hcp hk
end
end Go.Proofs.Ytnhghofkdiojaaa
