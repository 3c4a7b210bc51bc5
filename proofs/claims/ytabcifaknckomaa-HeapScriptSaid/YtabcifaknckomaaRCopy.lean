/- The document's own heap: Copy. -/
import Derived.Test.YtabcifaknckomaaRPop
import Derived.Deep.AppendLies
namespace Go.Proofs.Ytabcifaknckomaa.RF
open Go.RowKit HI

/-- The new heap's block. -/
theorem copy_start {w : World} {nx : Nat} : (w.alloc (.cells #[.slice none 0 0, .int .i64 nx] 29)).heap[w.heap.size]? = some (.cells #[.slice none 0 0, .int .i64 nx] 29 (0, 0)) := heap_alloc_new w _
theorem copy_cells {w1 : World} {c nx : Nat} (st : w1.heap[c]? = some (.cells #[.slice none 0 0, .int .i64 nx] 29 (0, 0))) : w1.cell? ⟨c, 0, none⟩ = some (.slice none 0 0) ∧ w1.frozen? ⟨c, 0, none⟩ = false := by
  constructor
  · simp [World.cell?, st]
  · simp [World.frozen?, st]
theorem copy_fin {w w1 w2 : World} {c nx : Nat} {R : List T} {v : Value} (hc : c = w.heap.size) (st : w1.heap[c]? = some (.cells #[.slice none 0 0, .int .i64 nx] 29 (0, 0))) (hB : Below w.heap.size w w1) (hg : w1.drew.grownBy w2 none) (hrow : w2.ownsRow w1.heap.size 36 3 v R.length (rowOf enc R)) (hlen : R.length ≤ 100000) (hnx : nx ≤ 100000) :
    RefAt (w2.setCell ⟨c, 0, none⟩ v) c v R nx ∧ Below w.heap.size w (w2.setCell ⟨c, 0, none⟩ v) ∧ ∀ g, v.ownBlock = some g → w.heap.size ≤ g := by
  have hcl : c < w1.heap.size := (Array.getElem?_eq_some_iff.1 st).1
  have hB2 : Below w.heap.size w w2 := hB.trans (⟨hg.os, hg.tape, hg.output, hg.size, fun k hk => hg.block k (Nat.lt_of_lt_of_le hk hB.size) (by simp)⟩)
  have st2 := (hg.block c hcl (by simp)).trans st
  refine ⟨⟨?_, ?_, hlen, hnx⟩, hB2.setCell (p := ⟨c, 0, none⟩) (by rw [hc]; exact Nat.le_refl _) v, fun g hg' => ?_⟩
  · have := heap_setCell_same w2 c 0 _ _ v st2
    simpa using this
  · have := ownsRow_only hrow ((Only.refl (fun k => k = c) w2).setCell (p := ⟨c, 0, none⟩) (.inl rfl) v) (fun g hg' e => by have := (hrow.lt g hg').1; omega)
    exact ownsRow_base this (fun _ _ => Nat.zero_le _)
  · have := (hrow.lt g hg').1
    omega

set_option maxRecDepth 100000 in
set_option maxHeartbeats 2000000 in
theorem rcopy_none {r nx : Nat} {rv : Value} {R : List T} {w : World} (h : RefAt w r rv R nx) (h0 : R.length = 0) :
    Calls Try.prog 49 #[.pointer (some ⟨r, 0, none⟩)] w fun e w' => e = .returned (.pointer (some ⟨w.heap.size, 0, none⟩)) ∧ ∃ rv', RefAt w' w.heap.size rv' [] nx ∧ Below w.heap.size w w' ∧ ∀ g, rv'.ownBlock = some g → w.heap.size ≤ g := by
  have hlim := h.lim
  obtain ⟨oa, cap, rfl, hnc, hcm⟩ := ownsRow_shape h.row
  have c0 := h.c0
  have c1 := h.c1
  rw [h0] at c0
  have d0 : (w.alloc (.cells #[.slice none 0 0, .int .i64 nx] 29)).cell? ⟨r, 0, none⟩ = some (.slice oa 0 cap) := Below.keeps ((Below.refl w.heap.size w).alloc (Nat.le_refl _) _) c0
  have st := copy_start (w := w) (nx := nx)
  obtain ⟨d1, d2⟩ := copy_cells st
  have hB := Lib.hid ((Below.refl w.heap.size w).alloc (Nat.le_refl _) (.cells #[.slice none 0 0, .int .i64 nx] 29))
  replace st := Lib.hid st
  clear h h0
  cases oa
  all_goals
    go_enter Try.func49, Try.ntmps49
    go_wp2
    clear c0 c1
    generalize w.alloc (.cells #[.slice none 0 0, .int .i64 nx] 29) = w1 at *
    go_region
    go_wp2
    go_ret
    have F := copy_fin (v := .slice none 0 0) (R := []) (w2 := w1.drew) rfl st.out hB.out ⟨rfl, rfl, rfl, Nat.le_refl _, fun _ _ _ => rfl⟩ (World.ownsRow_nil _ _ _ _) (by simp) hlim
    exact ⟨rfl, _, F⟩

set_option maxRecDepth 100000 in
set_option maxHeartbeats 2000000 in
theorem rcopy_some {r nx : Nat} {rv : Value} {R : List T} {w : World} (h : RefAt w r rv R nx) (h0 : 0 < R.length) :
    Calls Try.prog 49 #[.pointer (some ⟨r, 0, none⟩)] w fun e w' => e = .returned (.pointer (some ⟨w.heap.size, 0, none⟩)) ∧ ∃ rv', RefAt w' w.heap.size rv' R nx ∧ Below w.heap.size w w' ∧ ∀ g, rv'.ownBlock = some g → w.heap.size ≤ g := by
  have hlim := h.lim
  have hlen := h.len
  have hrow := h.row
  obtain ⟨g, cap, rfl, _, hgl, hnc, hcm, _⟩ := ownsRow_head h.row (by omega)
  have c0 := h.c0
  have c1 := h.c1
  obtain ⟨i0, hi, hz0, hz1, hz2⟩ := info_parts infoR
  have d0 : (w.alloc (.cells #[.slice none 0 0, .int .i64 nx] 29)).cell? ⟨r, 0, none⟩ = some (.slice (some ⟨g, 0, none⟩) R.length cap) := Below.keeps ((Below.refl w.heap.size w).alloc (Nat.le_refl _) _) c0
  have st := copy_start (w := w) (nx := nx)
  obtain ⟨d1, d2⟩ := copy_cells st
  have hB := Lib.hid ((Below.refl w.heap.size w).alloc (Nat.le_refl _) (.cells #[.slice none 0 0, .int .i64 nx] 29))
  have hrow1 := hrow.alloc (.cells #[.slice none 0 0, .int .i64 nx] 29)
  have hrl : (rowOf enc R).length = R.length * 3 := rowOf_length enc_len R
  have hone := row_cell_one R
  replace st := Lib.hid st
  generalize hn : R.length = n at *
  replace hn := Lib.hid hn
  have hnews : ∀ W : World, W.heap = (w.alloc (.cells #[.slice none 0 0, .int .i64 nx] 29)).heap → ∀ j u, (rowOf enc R)[j]? = some u → W.cell? ((⟨g, 0, none⟩ : Addr).add j) = some u := by
    intro W hW j u hu
    have hj : j < n * 3 := by
      have := (List.getElem?_eq_some_iff.1 hu).1
      omega
    rw [show (⟨g, 0, none⟩ : Addr).add j = ⟨g, j, none⟩ by unfold Addr.add; split <;> simp_all]
    have := hrow1.cellAt j hj
    rw [hu] at this
    rw [World.cell?_of_block (w := w.alloc (.cells #[.slice none 0 0, .int .i64 nx] 29)) (by rw [hW])]
    exact this
  replace hnews := Lib.hid hnews
  replace hone := Lib.hid hone
  replace hrl := Lib.hid hrl
  clear h hrow hrow1
  go_enter Try.func49, Try.ntmps49
  go_wp2
  clear c0 c1
  generalize w.alloc (.cells #[.slice none 0 0, .int .i64 nx] 29) = w1 at *
  go_region_law ((refine step_append_lies w1.drew rfl (.tmp 14) (.tmp 18) 27 rfl w1.heap.size 36 i0 (.agg #[.int .i64 0, .int .i64 0, .int .i64 0]) 3 24 Try.underlying27 hi hz0 hz1 hz2 rfl (by decide) (.slice none 0 0) 0 [] rfl (World.ownsRow_nil _ _ _ _) ⟨g, 0, none⟩ n cap (rowOf enc R) rfl hrl.out (hnews.out w1.drew rfl) hone.out h0 (by unfold maxLen; omega) (by omega) (Nat.le_refl _) w1.heap.size rfl ?_; intro g2 cap2 w2 hown2 hgr2 hloc2 hg2; have q0 : w2.cell? ⟨w.heap.size, 0, none⟩ = some (.slice none 0 0) := hgr2.cell d1 (by simp [Value.ownBlock]); have q1 : w2.frozen? ⟨w.heap.size, 0, none⟩ = false := (copy_cells ((hgr2.block w.heap.size (Array.getElem?_eq_some_iff.1 st.out).1 (by simp [Value.ownBlock])).trans st.out)).2))
  all_goals
    go_wp2
    go_ret
    rw [Nat.zero_add, List.nil_append] at hown2
    have F := copy_fin (v := .slice (some ⟨g2, 0, none⟩) n cap2) (R := R) (w2 := w2) rfl st.out hB.out hgr2 (by rw [hn.out]; exact hown2) (by rw [hn.out]; exact hlen) hlim
    exact ⟨rfl, _, F⟩
end Go.Proofs.Ytabcifaknckomaa.RF
