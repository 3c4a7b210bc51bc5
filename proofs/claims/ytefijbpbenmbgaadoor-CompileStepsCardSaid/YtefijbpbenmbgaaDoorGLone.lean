/- compile's lone (layer 15), walked: the one instruction of a twig that has just one. The listed variable compile.ops. No condition. -/
import Derived.Test.YtefijbpbenmbgaaDoorGMem
import Derived.LoopTactic
import Derived.IntWalk
import Derived.Deep.RegionWith
import Derived.Deep.RegionHeld
namespace Go.Proofs.YtefijbpbenmbgaaDoor
open Go.RowKit Go.Shelf

def opsL : List Nat := [0, 0, 0, 0, 0, 0, 0, 0, 8, 9, 10, 6, 0, 0, 0, 0, 0, 0, 0, 0, 20, 21, 22, 23, 24, 25, 0, 0, 0, 0, 0, 0, 32, 33, 34, 35, 36, 37, 38, 39, 40, 41, 42, 43, 44, 45, 46, 47, 48, 0, 50, 51, 52, 0, 54, 55, 56, 57]
/-- What the listed variable says. -/
def OpsOK (w : World) : Prop := ∀ i, i < 58 → w.cell? ⟨0, i, none⟩ = some (.int .u8 (opsL.getD i 0 : Nat))
theorem OpsOK.below {w W : World} (h : OpsOK w) (hb : Below w.heap.size w W) : OpsOK W := by
  intro i hi
  have h0 := h i hi
  exact (hb.cell (p := ⟨0, i, none⟩) (World.block_lt_of_cell? w _ h0)).trans h0
theorem ops_at {op : Nat} (h : op ∈ loneOps) : opsL.getD op 0 = opI op := by
  have : ∀ o ∈ loneOps, opsL.getD o 0 = opI o := by decide
  exact this op h
set_option maxRecDepth 20000 in
set_option maxHeartbeats 4000000 in
theorem lone_any {x : Tw} (hx : x.op ∈ loneOps) (w : World) (hO : OpsOK w) :
    Calls Tryd.prog 26 #[twV x] w fun e w' => e = .returned (insV (loneI x)) ∧ Below w.heap.size w w' := by
  obtain ⟨op, kids, num, text⟩ := x
  dsimp only at hx
  have hf := lone_facts hx
  have g0 := hO op hf.1
  rw [ops_at hx] at g0
  have hlt : (op : Int) < 58 := by have := hf.1; omega
  have hop0 : (0 : Int) ≤ (op : Int) := by omega
  obtain ⟨O, hOP⟩ := exHid (opI op)
  rw [hOP.out] at g0
  have hgb := World.block_lt_of_cell? w _ g0
  unfold loneI twV insV
  dsimp only
  rw [hOP.out]
  obtain ⟨K, hK⟩ := exHid (if op = 25 ∨ op = 50 ∨ op = 51 then kids else 0)
  rw [hK.out]
  have B1 := (Below.refl w.heap.size w).alloc (Nat.le_refl _) (.cells #[.int .u8 op, .int .i64 kids, .int .i64 num, .string ⟨text.toArray⟩] 34)
  have N1 : (w.alloc (.cells #[.int .u8 op, .int .i64 kids, .int .i64 num, .string ⟨text.toArray⟩] 34)).heap[w.heap.size]? = some (.cells #[.int .u8 op, .int .i64 kids, .int .i64 num, .string ⟨text.toArray⟩] 34 (0, 0)) := heap_alloc_new w _
  have g1 := Below.keeps B1 g0
  clear hO g0
  go_enter Tryd.func26, Tryd.ntmps26
  go_wp2_with fail
  have B2 := B1.alloc (by simp) (.cells #[.int .u8 0, .int .i64 0, .int .i64 0, .string ⟨#[]⟩] 36)
  have A2 : Below (w.alloc (.cells #[.int .u8 op, .int .i64 kids, .int .i64 num, .string ⟨text.toArray⟩] 34)).heap.size (w.alloc (.cells #[.int .u8 op, .int .i64 kids, .int .i64 num, .string ⟨text.toArray⟩] 34)) ((w.alloc (.cells #[.int .u8 op, .int .i64 kids, .int .i64 num, .string ⟨text.toArray⟩] 34)).alloc (.cells #[.int .u8 0, .int .i64 0, .int .i64 0, .string ⟨#[]⟩] 36)) := (Below.refl _ _).alloc (Nat.le_refl _) _
  have N2 : ((w.alloc (.cells #[.int .u8 op, .int .i64 kids, .int .i64 num, .string ⟨text.toArray⟩] 34)).alloc (.cells #[.int .u8 0, .int .i64 0, .int .i64 0, .string ⟨#[]⟩] 36)).heap[w.heap.size + 1]? = some (.cells #[.int .u8 0, .int .i64 0, .int .i64 0, .string ⟨#[]⟩] 36 (0, 0)) := by
    have := heap_alloc_new (w.alloc (.cells #[.int .u8 op, .int .i64 kids, .int .i64 num, .string ⟨text.toArray⟩] 34)) (.cells #[.int .u8 0, .int .i64 0, .int .i64 0, .string ⟨#[]⟩] 36)
    simpa using this
  have N1b := heldC (F := fun _ => False) (Only.of_below A2) N1 (fun e => e)
  have g2 := Below.keeps A2 g1
  have hs2 : ((w.alloc (.cells #[.int .u8 op, .int .i64 kids, .int .i64 num, .string ⟨text.toArray⟩] 34)).alloc (.cells #[.int .u8 0, .int .i64 0, .int .i64 0, .string ⟨#[]⟩] 36)).heap.size = w.heap.size + 2 := by simp
  clear N1 g1 B1 A2
  generalize hW : (w.alloc (.cells #[.int .u8 op, .int .i64 kids, .int .i64 num, .string ⟨text.toArray⟩] 34)).alloc (.cells #[.int .u8 0, .int .i64 0, .int .i64 0, .string ⟨#[]⟩] 36) = W2 at *
  replace hW := Lib.hid hW
  have n0 := cellC N1b 0; have n1 := cellC N1b 1; have n2 := cellC N1b 2; have n3 := cellC N1b 3
  simp only [List.getElem?_toArray, List.getElem?_cons_succ, List.getElem?_cons_zero] at n0 n1 n2 n3
  have B3 := (Below.refl W2.heap.size W2).alloc (Nat.le_refl _) (.cells #[.int .u8 0, .int .i64 0, .int .i64 0, .string ⟨#[]⟩] 36)
  have B4 := (Below.refl W2.heap.size W2).alloc (Nat.le_refl _) (.cells #[.int .u8 O, .int .i64 0, .int .i64 num, .string ⟨text.toArray⟩] 36)
  have z0 := Below.keeps B3 n0; have z2 := Below.keeps B3 n2; have z3 := Below.keeps B3 n3; have z4 := Below.keeps B3 g2
  have N3 : (W2.alloc (.cells #[.int .u8 O, .int .i64 0, .int .i64 num, .string ⟨text.toArray⟩] 36)).drew.heap[W2.heap.size]? = some (.cells #[.int .u8 O, .int .i64 0, .int .i64 num, .string ⟨text.toArray⟩] 36 (0, 0)) := heap_alloc_new W2 _
  have N2c := Lib.hid (heldC (F := fun _ => False) (Only.of_below B4.drew) N2 (fun e => e))
  have N1c := Lib.hid (heldC (F := fun _ => False) (Only.of_below B4.drew) N1b (fun e => e))
  have hB4 : Below w.heap.size w (W2.alloc (.cells #[.int .u8 O, .int .i64 0, .int .i64 num, .string ⟨text.toArray⟩] 36)).drew := B2.trans ((B4.drew).mono (by omega))
  have B2h := Lib.hid hB4
  have hn12 : w.heap.size + 1 ≠ W2.heap.size := by omega
  replace N3 := Lib.hid N3
  clear B2 B3 B4 N2 N1b hB4
  go_region
  generalize hW3 : (W2.alloc (.cells #[.int .u8 O, .int .i64 0, .int .i64 num, .string ⟨text.toArray⟩] 36)).drew = W3 at *
  replace hW3 := Lib.hid hW3
  clear n0 n1 n2 n3 z0 z2 z3 z4 g2
  have N3' := N3.out
  rw [hs2] at N3'
  replace N3 := Lib.hid N3'
  clear N3'
  replace hn12 : w.heap.size + 1 ≠ w.heap.size + 2 := by omega
  clear hs2
  have n0 := cellC N1c.out 0; have n1 := cellC N1c.out 1
  have r0 := cellC N3.out 0; have r1 := cellC N3.out 1; have r2 := cellC N3.out 2; have r3 := cellC N3.out 3
  have r1f := fzC N3.out 1
  have s0 := fzC N2c.out 0; have s1 := fzC N2c.out 1; have s2 := fzC N2c.out 2; have s3 := fzC N2c.out 3
  have k0 := cellC N2c.out 0; have k1 := cellC N2c.out 1; have k2 := cellC N2c.out 2; have k3 := cellC N2c.out 3
  simp only [List.getElem?_toArray, List.getElem?_cons_succ, List.getElem?_cons_zero] at n0 n1 r0 r1 r2 r3 k0 k1 k2 k3
  generalize hy : w.heap.size + 2 = by_ at *
  generalize hz : w.heap.size + 1 = bz at *
  generalize hbn : w.heap.size = bn at *
  have fin : ∀ (W : World) (a b c d : Value), W.heap[bz]? = some (.cells #[.int .u8 0, .int .i64 0, .int .i64 0, .string ⟨#[]⟩] 36 (0, 0)) → Below bn w W → ((((W.setCell ⟨bz, 0, none⟩ a).setCell ⟨bz, 1, none⟩ b).setCell ⟨bz, 2, none⟩ c).setCell ⟨bz, 3, none⟩ d).heap[bz]? = some (.cells #[a, b, c, d] 36 (0, 0)) ∧ Below bn w ((((W.setCell ⟨bz, 0, none⟩ a).setCell ⟨bz, 1, none⟩ b).setCell ⟨bz, 2, none⟩ c).setCell ⟨bz, 3, none⟩ d) := by
    intro W a b c d h1 h2
    obtain ⟨q1, q2⟩ := stored4C h1 a b c d
    exact ⟨q1, h2.trans (q2.below (by have := h2.size; omega) (fun k hk e => by omega))⟩
  by_cases c : op = 25 ∨ op = 50 ∨ op = 51
  · have hk := hK.out
    rw [if_pos c] at hk
    subst hk
    have P3 : (W3.setCell ⟨by_, 1, none⟩ (.int .i64 kids)).heap[by_]? = some (.cells #[.int .u8 O, .int .i64 kids, .int .i64 num, .string ⟨text.toArray⟩] 36 (0, 0)) := by
      have := heap_setCell_same W3 by_ 1 _ _ (.int .i64 kids) N3.out
      simpa using this
    have P2 := ((scOnly W3 by_ 1 (.int .i64 kids)).block bz (Array.getElem?_eq_some_iff.1 N2c.out).1 hn12).trans N2c.out
    have PB : Below bn w (W3.setCell ⟨by_, 1, none⟩ (.int .i64 kids)) := B2h.out.trans ((scOnly W3 by_ 1 (.int .i64 kids)).below (by have := B2h.out.size; omega) (fun k hk e => by omega))
    have t0 := cellC P3 0; have t1 := cellC P3 1; have t2 := cellC P3 2; have t3 := cellC P3 3
    have v0 := cellC P2 0; have v1 := cellC P2 1; have v2 := cellC P2 2; have v3 := cellC P2 3
    have u0 := fzC P2 0; have u1 := fzC P2 1; have u2 := fzC P2 2; have u3 := fzC P2 3
    simp only [List.getElem?_toArray, List.getElem?_cons_succ, List.getElem?_cons_zero] at t0 t1 t2 t3 v0 v1 v2 v3
    obtain ⟨E1, E2⟩ := fin _ (.int .u8 O) (.int .i64 kids) (.int .i64 num) (.string ⟨text.toArray⟩) P2 PB
    replace E1 := Lib.hid E1
    replace E2 := Lib.hid E2
    clear fin P3 P2 PB
    rcases c with c | c | c
    all_goals
      first
        | (have q1 : ((op : Int) == 25) = true := by rw [c]; rfl)
        | (have q1 : ((op : Int) == 25) = false := beq_eq_false_iff_ne.2 (by omega)
           first
             | (have q2 : ((op : Int) == 50) = true := by rw [c]; rfl)
             | (have q2 : ((op : Int) == 50) = false := beq_eq_false_iff_ne.2 (by omega)
                have q3 : ((op : Int) == 51) = true := by rw [c]; rfl))
      replace c := Lib.hid c
      go_wp2_with fail
      refine bodyPost_ret (results_cell_row rfl _ _ bz _ _ (0, 0) _ rfl E1.out Tryd.underlying36 rfl (by kernel_rfl)) rfl ⟨rfl, by rw [hbn]; exact E2.out⟩
  · have hk := hK.out
    rw [if_neg c] at hk
    subst hk
    have q1 : ((op : Int) == 25) = false := beq_eq_false_iff_ne.2 (by omega)
    have q2 : ((op : Int) == 50) = false := beq_eq_false_iff_ne.2 (by omega)
    have q3 : ((op : Int) == 51) = false := beq_eq_false_iff_ne.2 (by omega)
    obtain ⟨E1, E2⟩ := fin W3 (.int .u8 O) (.int .i64 0) (.int .i64 num) (.string ⟨text.toArray⟩) N2c.out B2h.out
    replace E1 := Lib.hid E1
    replace E2 := Lib.hid E2
    clear fin
    replace c := Lib.hid c
    go_wp2_with fail
    refine bodyPost_ret (results_cell_row rfl _ _ bz _ _ (0, 0) _ rfl E1.out Tryd.underlying36 rfl (by kernel_rfl)) rfl ⟨rfl, by rw [hbn]; exact E2.out⟩
end Go.Proofs.YtefijbpbenmbgaaDoor
