/- The document's state (layer 11) in memory; wrong, walked. No condition. -/
import Derived.Test.YtnghfjlmmmjekaaCkE
namespace Go.Proofs.Ytnghfjlmmmjekaa
open Go.RowKit Go.Shelf

def headD (tv : Value) (gl n cl : Nat) (S : D11) : Array Value := #[tv, .slice (some ⟨gl, 0, none⟩) n cl, .int .i64 (S.made : Int), .int .i64 (S.at_ : Int), .int .i64 S.e]
/-- The state, in block gs; its slots, in block gl. -/
structure SMem (w0 w : World) (gs gl n cl : Nat) (tv : Value) (ts : List Tw) (S : D11) : Prop where
  b : Below w0.heap.size w0 w
  tw : TwIn w0 tv ts
  s : w.heap[gs]? = some (.cells (headD tv gl n cl S) 52 (0, 0))
  l : IntsAt w w0.heap.size (.slice (some ⟨gl, 0, none⟩) n cl) S.l
  gb : w0.heap.size ≤ gs
  ne : gs ≠ gl
section
variable {w0 w W : World} {gs gl n cl : Nat} {tv : Value} {ts : List Tw} {S : D11}
theorem SMem.twin (h : SMem w0 w gs gl n cl tv ts S) : TwIn w tv ts := h.tw.below h.b
theorem SMem.len (h : SMem w0 w gs gl n cl tv ts S) : S.l.length = n := by
  obtain ⟨a, cap, e, _⟩ := h.l.shape
  injection e with _ e _
  exact e.symm
theorem SMem.glb (h : SMem w0 w gs gl n cl tv ts S) : w0.heap.size ≤ gl ∧ gl < w.heap.size := by
  have := h.l.block (g := gl) (by simp [Value.ownBlock])
  exact ⟨this.1, this.2.1⟩
theorem SMem.keep {F : Nat → Prop} (h : SMem w0 w gs gl n cl tv ts S) (ho : Only F w W) (hF : ∀ k, F k → w0.heap.size ≤ k) (h1 : ¬ F gs) (h2 : ¬ F gl) : SMem w0 W gs gl n cl tv ts S :=
  ⟨h.b.trans (ho.below h.b.size (fun k hk e => by have := hF k e; omega)), h.tw, heldC ho h.s h1, ownsRow_only h.l ho (fun g hg e => by
    have : g = gl := by simpa [Value.ownBlock] using hg.symm
    exact h2 (this ▸ e)), h.gb, h.ne⟩
theorem SMem.below (h : SMem w0 w gs gl n cl tv ts S) (hb : Below w.heap.size w W) : SMem w0 W gs gl n cl tv ts S :=
  h.keep (F := fun _ => False) (Only.of_below hb) (fun _ e => e.elim) (fun e => e) (fun e => e)
/-- Another state in its place. -/
theorem SMem.turn (h : SMem w0 w gs gl n cl tv ts S) {S' : D11} (hs : W.heap[gs]? = some (.cells (headD tv gl n cl S') 52 (0, 0))) (ho : Only (fun k => k = gs) w W) (hl : S'.l = S.l) : SMem w0 W gs gl n cl tv ts S' :=
  ⟨h.b.trans (ho.below h.b.size (fun k hk e => by have := h.gb; omega)), h.tw, hs, by
    rw [hl]
    exact ownsRow_only h.l ho (fun g hg e => by
      have : g = gl := by simpa [Value.ownBlock] using hg.symm
      exact h.ne (by omega)), h.gb, h.ne⟩
/-- A slot is told. -/
theorem SMem.slot (h : SMem w0 w gs gl n cl tv ts S) (i : Nat) (x : Int) : SMem w0 (w.setCell ⟨gl, i, none⟩ (.int .i64 x)) gs gl n cl tv ts ⟨S.l.set i x, S.made, S.at_, S.e⟩ ∧ Only (fun k => k = gl) w (w.setCell ⟨gl, i, none⟩ (.int .i64 x)) := by
  have ho : Only (fun k => k = gl) w (w.setCell ⟨gl, i, none⟩ (.int .i64 x)) := (Only.refl (fun k => k = gl) w).setCell (p := ⟨gl, i, none⟩) (.inl rfl) _
  have hg := h.glb
  have hlen := h.len
  refine ⟨⟨h.b.trans (ho.below h.b.size (fun k hk e => by omega)), h.tw, heldC ho h.s (fun e => h.ne e), ?_, h.gb, h.ne⟩, ho⟩
  have hl := h.l
  unfold IntsAt at hl ⊢
  have h2 := (World.ownsRow.stored (by rw [hlen] at hl; exact hl) i (.int .i64 x)).1
  dsimp only
  rw [List.length_set, hlen, List.map_set]
  exact h2
theorem SMem.mades (h : SMem w0 w gs gl n cl tv ts S) (m : Nat) : SMem w0 (w.setCell ⟨gs, 2, none⟩ (.int .i64 (m : Int))) gs gl n cl tv ts ⟨S.l, m, S.at_, S.e⟩ ∧ Only (fun k => k = gs) w (w.setCell ⟨gs, 2, none⟩ (.int .i64 (m : Int))) := by
  have ho : Only (fun k => k = gs) w (w.setCell ⟨gs, 2, none⟩ (.int .i64 (m : Int))) := (Only.refl (fun k => k = gs) w).setCell (p := ⟨gs, 2, none⟩) (.inl rfl) _
  have a1 := heap_setCell_same w gs 2 _ _ (.int .i64 (m : Int)) h.s
  exact ⟨h.turn (S' := ⟨S.l, m, S.at_, S.e⟩) (by simpa [headD] using a1) ho rfl, ho⟩
/-- A slot that is told, as a cell. -/
theorem SMem.cell (h : SMem w0 w gs gl n cl tv ts S) {i : Nat} (hi : i < n) : w.frozen? ⟨gl, i, none⟩ = false ∧ ∃ x, w.cell? ⟨gl, i, none⟩ = some (.int .i64 x) ∧ S.l[i]? = some x := by
  have hl := h.l
  have hlen := h.len
  unfold IntsAt at hl
  rw [hlen] at hl
  refine ⟨World.ownsRow.frozenAt hl i, ?_⟩
  have hc := World.ownsRow.cellAt hl i (by omega)
  rw [List.getElem?_map, List.getElem?_eq_getElem (by omega)] at hc
  exact ⟨_, hc, List.getElem?_eq_getElem (by omega)⟩
end
def errI (e : Int) : Prop := -9223372036854775808 ≤ e ∧ e ≤ 9223372036854775807
set_option maxRecDepth 20000 in
set_option maxHeartbeats 2000000 in
theorem wrong11_any {w0 w : World} {gs gl n cl : Nat} {tv : Value} {ts : List Tw} {S : D11} (h : SMem w0 w gs gl n cl tv ts S) (i : Nat) (e : Int) :
    Calls Try.prog 39 #[.pointer (some ⟨gs, 0, none⟩), .int .i64 (i : Int), .int .i64 e] w fun e' w' => e' = .returned (.tuple #[]) ∧ SMem w0 w' gs gl n cl tv ts (wrongD S i e) ∧ Only (fun k => k = gs) w w' := by
  have c4 := cellC h.s 4
  have f3 := fzC h.s 3
  have f4 := fzC h.s 4
  have c3 := cellC h.s 3
  simp only [headD, List.getElem?_toArray, List.getElem?_cons_succ, List.getElem?_cons_zero] at c3 c4
  have h' := Lib.hid h
  by_cases hz : S.e = 0
  · have hq : (S.e == 0) = true := beq_iff_eq.2 hz
    have hW : wrongD S i e = ⟨S.l, S.made, i, e⟩ := by unfold wrongD; rw [if_pos hz]
    have a1 := heap_setCell_same w gs 3 _ _ (.int .i64 (i : Int)) h.s
    have a2 := heap_setCell_same _ gs 4 _ _ (.int .i64 e) a1
    have c5 := cellC a1 4
    have f5 := fzC a1 4
    simp only [headD] at c5
    have hF : SMem w0 ((w.setCell ⟨gs, 3, none⟩ (.int .i64 (i : Int))).setCell ⟨gs, 4, none⟩ (.int .i64 e)) gs gl n cl tv ts (wrongD S i e) ∧ Only (fun k => k = gs) w ((w.setCell ⟨gs, 3, none⟩ (.int .i64 (i : Int))).setCell ⟨gs, 4, none⟩ (.int .i64 e)) := by
      have ho : Only (fun k => k = gs) w ((w.setCell ⟨gs, 3, none⟩ (.int .i64 (i : Int))).setCell ⟨gs, 4, none⟩ (.int .i64 e)) :=
        ((Only.refl (fun k => k = gs) w).setCell (p := ⟨gs, 3, none⟩) (.inl rfl) _).setCell (p := ⟨gs, 4, none⟩) (.inl rfl) _
      rw [hW]
      exact ⟨h.turn (S' := ⟨S.l, S.made, i, e⟩) (by simpa [headD] using a2) ho rfl, ho⟩
    replace hF := Lib.hid hF
    clear a1 a2 h h' hW
    go_enter Try.func39, Try.ntmps39
    go_wp2_with fail
    refine bodyPost_end (results_none rfl _ _ _) rfl ?_
    exact ⟨rfl, hF.out⟩
  · have hq : (S.e == 0) = false := beq_eq_false_iff_ne.2 hz
    have hW : wrongD S i e = S := by unfold wrongD; rw [if_neg hz]
    rw [hW]
    clear h
    go_enter Try.func39, Try.ntmps39
    go_wp2_with fail
    refine bodyPost_end (results_none rfl _ _ _) rfl ?_
    exact ⟨rfl, h'.out, Only.refl _ _⟩
end Go.Proofs.Ytnghfjlmmmjekaa
