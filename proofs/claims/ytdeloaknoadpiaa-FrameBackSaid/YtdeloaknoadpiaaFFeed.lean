/- The reader (layer 6): New, take, Feed, walked. -/
import Derived.Test.YtdeloaknoadpiaaFSplit
import Derived.Test.YtdeloaknoadpiaaFKnown
namespace Go.Proofs.Ytdeloaknoadpiaa
open Go.RowKit Crc

/-- A reader in block r: rest is what it keeps, left how many it tells, taken, its fault. -/
structure RdAt (w : World) (r : Nat) (v : Value) (rest : List Nat) (left taken fault : Nat) : Prop where
  st : w.heap[r]? = some (.cells #[.bool true, .int .i64 left, v, .int .i64 taken, .int .i64 fault] 33 (0, 0))
  row : ∃ base, Buf8 w base v rest
  byte : ∀ b ∈ rest, b < 256
section
variable {w W : World} {r left taken fault : Nat} {v : Value} {rest : List Nat}
theorem RdAt.lt (h : RdAt w r v rest left taken fault) : r < w.heap.size := (Array.getElem?_eq_some_iff.1 h.st).1
theorem RdAt.cell (h : RdAt w r v rest left taken fault) : w.cell? ⟨r, 0, none⟩ = some (.bool true) ∧ w.cell? ⟨r, 1, none⟩ = some (.int .i64 left) ∧ w.cell? ⟨r, 2, none⟩ = some v ∧ w.cell? ⟨r, 3, none⟩ = some (.int .i64 taken) ∧ w.cell? ⟨r, 4, none⟩ = some (.int .i64 fault) := by
  simp [World.cell?, h.st]
theorem RdAt.frozen (h : RdAt w r v rest left taken fault) (j : Nat) : w.frozen? ⟨r, j, none⟩ = false := by simp [World.frozen?, h.st]
theorem RdAt.below (h : RdAt w r v rest left taken fault) (hb : Below w.heap.size w W) : RdAt W r v rest left taken fault :=
  ⟨(hb.block r h.lt).trans h.st, h.row.imp fun _ hB => hB.below hb, h.byte⟩

theorem New_any (w : World) : Calls Try.prog 23 #[] w fun e w' => e = .returned (.pointer (some ⟨w.heap.size, 0, none⟩)) ∧ RdAt w' w.heap.size (.slice none 0 0) [] 0 0 0 ∧ Below w.heap.size w w' := by
  go_enter Try.func23, Try.ntmps23
  go_wp2
  go_ret
  exact ⟨rfl, ⟨heap_alloc_new w _, ⟨0, Buf8.nil _ _⟩, fun b hb => by simp at hb⟩, (Below.refl _ w).alloc (Nat.le_refl _) _⟩

/-- A reader that has broken. -/
theorem Feed_broken (h : RdAt w r v rest left taken fault) (hf : fault ≠ 0) (u : Value) :
    Calls Try.prog 11 #[.pointer (some ⟨r, 0, none⟩), u] w fun e w' => e = .returned (.tuple #[.slice none 0 0, .int .i64 fault]) ∧ Below w.heap.size w w' := by
  obtain ⟨c0, c1, c2, c3, c4⟩ := h.cell
  have hf1 : ((fault : Int) != 0) = true := by simp; omega
  go_enter Try.func11, Try.ntmps11
  go_wp2
  go_quiet (fail)
  go_wp2
  go_ret2
  exact ⟨rfl, below_drewN (Below.refl _ _) _⟩

theorem RdAt.told (h : RdAt w r v rest left taken fault) {v' : Value} {rest' : List Nat} {left' taken' fault' : Nat} {W : World}
    (hst : W.heap[r]? = some (.cells #[.bool true, .int .i64 left', v', .int .i64 taken', .int .i64 fault'] 33 (0, 0))) {base : Nat} (hB : Buf8 W base v' rest') (hby : ∀ b ∈ rest', b < 256) : RdAt W r v' rest' left' taken' fault' := ⟨hst, ⟨base, hB⟩, hby⟩

theorem rd_ne {base : Nat} {l : List Nat} {cur : Array Value} (hst : w.heap[r]? = some (.cells cur 33 (0, 0))) (hB : Buf8 w base v l) : ∀ k, RowOf v k → k ≠ r := by
  rintro k hk rfl
  rcases hB.2 with ⟨hv, _⟩ | ⟨g, cap, cur', hv, hb, hg, _⟩
  · rw [hv] at hk; cases hk
  · rw [hv] at hk
    have e : k = g := by simpa [RowOf, Value.ownBlock] using hk.symm
    subst e
    rw [hst] at hg
    injection hg with hg
    injection hg with _ hg _
    exact absurd hg (by decide)

set_option maxRecDepth 20000 in
set_option maxHeartbeats 600000 in
theorem take_none (h : RdAt w r v rest left taken fault) (hl : rest.length ≤ 1000000) (ht : taken ≤ 1000000000) :
    Calls Try.prog 28 #[.pointer (some ⟨r, 0, none⟩), .int .i64 0] w fun e w' => (∃ x, e = .returned x) ∧ RdAt w' r v rest rest.length taken fault ∧ Only (fun k => k = r) w w' := by
  obtain ⟨c0, c1, c2, c3, c4⟩ := h.cell
  have f1 := h.frozen 1
  have f3 := h.frozen 3
  have hti : (taken : Int) ≤ 1000000000 := by omega
  obtain ⟨base, hB⟩ := h.row
  obtain ⟨a, cap, rfl, _, _⟩ := ownsRow_shape hB
  have hO : Only (fun k => k = r) w ((w.setCell ⟨r, 1, none⟩ (.int .i64 rest.length)).setCell ⟨r, 3, none⟩ (.int .i64 taken)) := ((Only.refl (fun k => k = r) w).setCell (p := ⟨r, 1, none⟩) (.inl rfl) _).setCell (p := ⟨r, 3, none⟩) (.inl rfl) _
  have hfin : RdAt ((w.setCell ⟨r, 1, none⟩ (.int .i64 rest.length)).setCell ⟨r, 3, none⟩ (.int .i64 taken)) r (.slice a rest.length cap) rest rest.length taken fault := by
    refine h.told ?_ (hB.only hO (fun k hk e => rd_ne h.st hB k hk e)) h.byte
    have h1 := heap_setCell_same w r 1 _ _ (.int .i64 rest.length) h.st
    have h2 := heap_setCell_same _ r 3 _ _ (.int .i64 taken) h1
    simpa using h2
  replace hfin := Lib.hid hfin
  replace h := Lib.hid h
  replace hB := Lib.hid hB
  go_enter Try.func28, Try.ntmps28
  go_wp2
  exact ⟨rfl, _, results_none rfl _ _ _, ⟨_, rfl⟩, hfin.out, hO⟩

theorem restV_shape (a : Option Addr) (L cap n : Nat) : ∃ a' L' c', restV a L cap n = .slice a' L' c' := ⟨_, _, _, rfl⟩
set_option maxRecDepth 20000 in
set_option maxHeartbeats 600000 in
theorem take_some (h : RdAt w r v rest left taken fault) (hl : rest.length ≤ 1000000) (ht : taken ≤ 1000000000) {n : Nat} (hn0 : 0 < n) (hn : n ≤ rest.length) :
    Calls Try.prog 28 #[.pointer (some ⟨r, 0, none⟩), .int .i64 n] w fun e w' => (∃ x, e = .returned x) ∧ (∃ v', RdAt w' r v' (rest.drop n) (rest.length - n) (taken + n) fault ∧ ∀ k, RowOf v' k → w.heap.size ≤ k) ∧ Only (fun k => k = r) w w' := by
  obtain ⟨c0, c1, c2, c3, c4⟩ := h.cell
  have f1 := h.frozen 1
  have f2 := h.frozen 2
  have f3 := h.frozen 3
  have hti : (taken : Int) ≤ 1000000000 := by omega
  have hni : (n : Int) ≤ 1000000 := by omega
  have hn1 : (0 : Int) < (n : Int) := by omega
  have hn2 : (n : Int) ≤ (rest.length : Int) := by omega
  obtain ⟨base, hB⟩ := h.row
  have hbs := hB.bs h.byte
  obtain ⟨a, cap, rfl, _, _⟩ := ownsRow_shape hB
  obtain ⟨q1, _⟩ := restV_bs hbs hn (by omega)
  have hCl := Clone_any q1 (by rw [List.length_drop]; omega)
  have hdl : (rest.drop n).length = rest.length - n := List.length_drop
  have hfin : ∀ w2 v', Buf8 w2 w.heap.size v' (rest.drop n) → Below w.heap.size w w2 →
      RdAt (((w2.setCell ⟨r, 2, none⟩ v').setCell ⟨r, 1, none⟩ (.int .i64 (rest.length - n : Nat))).setCell ⟨r, 3, none⟩ (.int .i64 ((taken : Int) + (n : Int)))) r v' (rest.drop n) (rest.length - n) (taken + n) fault ∧
      Only (fun k => k = r) w (((w2.setCell ⟨r, 2, none⟩ v').setCell ⟨r, 1, none⟩ (.int .i64 (rest.length - n : Nat))).setCell ⟨r, 3, none⟩ (.int .i64 ((taken : Int) + (n : Int)))) ∧ ∀ k, RowOf v' k → w.heap.size ≤ k := fun w2 v' hB2 hb2 => by
    have hst2 := (hb2.block r h.lt).trans h.st
    have hO : Only (fun k => k = r) w2 (((w2.setCell ⟨r, 2, none⟩ v').setCell ⟨r, 1, none⟩ (.int .i64 (rest.length - n : Nat))).setCell ⟨r, 3, none⟩ (.int .i64 ((taken : Int) + (n : Int)))) := (((Only.refl (fun k => k = r) w2).setCell (p := ⟨r, 2, none⟩) (.inl rfl) _).setCell (p := ⟨r, 1, none⟩) (.inl rfl) _).setCell (p := ⟨r, 3, none⟩) (.inl rfl) _
    refine ⟨h.told ?_ (hB2.only hO (fun k hk e => rd_ne hst2 hB2 k hk e)) (fun b hb => h.byte b (List.mem_of_mem_drop hb)), (Only.of_below hb2).then hO, fun k hk => (hB2.base_ k hk).1⟩
    have h1 := heap_setCell_same w2 r 2 _ _ v' hst2
    have h2 := heap_setCell_same _ r 1 _ _ (.int .i64 (rest.length - n : Nat)) h1
    have h3 := heap_setCell_same _ r 3 _ _ (.int .i64 ((taken : Int) + (n : Int))) h2
    simpa using h3
  have hcells : ∀ w2, Below w.heap.size w w2 → w2.cell? ⟨r, 2, none⟩ = some (.slice a rest.length cap) ∧ w2.cell? ⟨r, 3, none⟩ = some (.int .i64 taken) ∧ w2.frozen? ⟨r, 1, none⟩ = false ∧ w2.frozen? ⟨r, 2, none⟩ = false ∧ w2.frozen? ⟨r, 3, none⟩ = false ∧ w2.cell? ⟨r, 1, none⟩ = some (.int .i64 left) := fun w2 hb => by
    have h' := h.below hb
    exact ⟨h'.cell.2.2.1, h'.cell.2.2.2.1, h'.frozen 1, h'.frozen 2, h'.frozen 3, h'.cell.2.1⟩
  replace hfin := Lib.hid hfin
  replace hcells := Lib.hid hcells
  replace h := Lib.hid h
  replace hB := Lib.hid hB
  by_cases hcn : cap = n
  · unfold restV at hCl
    rw [if_pos hcn, show rest.length - n = 0 by omega, show cap - n = 0 by omega] at hCl
    have hcn' := hcn
    subst hcn
    go_enter Try.func28, Try.ntmps28
    go_wp2_with fail
    refine hCl.mono ?_
    rintro e w2 ⟨v2, rfl, hB2, hb2⟩
    obtain ⟨d2, d3, g1, g2, g3, d1⟩ := hcells.out w2 hb2
    obtain ⟨k1, k2, k3⟩ := hfin.out w2 v2 hB2 hb2
    obtain ⟨a2, cap2, rfl, _, _⟩ := ownsRow_shape hB2
    have e0 : rest.length - cap = 0 := by omega
    rw [hdl, e0] at k1 k2 k3
    go_wp2
    exact ⟨rfl, _, results_none rfl _ _ _, ⟨_, rfl⟩, ⟨.slice a2 0 cap2, by rw [e0]; exact k1, k3⟩, k2⟩
  · unfold restV at hCl
    rw [if_neg hcn] at hCl
    go_enter Try.func28, Try.ntmps28
    go_wp2_with fail
    refine hCl.mono ?_
    rintro e w2 ⟨v2, rfl, hB2, hb2⟩
    obtain ⟨d2, d3, g1, g2, g3, d1⟩ := hcells.out w2 hb2
    obtain ⟨k1, k2, k3⟩ := hfin.out w2 v2 hB2 hb2
    obtain ⟨a2, cap2, rfl, _, _⟩ := ownsRow_shape hB2
    rw [hdl] at k1 k2 k3
    go_wp2
    exact ⟨rfl, _, results_none rfl _ _ _, ⟨_, rfl⟩, ⟨_, k1, k3⟩, k2⟩
end
end Go.Proofs.Ytdeloaknoadpiaa
