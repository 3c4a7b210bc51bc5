/- Bodies in memory: a row of the call's own, each element a row of bytes of the call's own (layer 6). No condition. -/
import Derived.RangeFuncBox
import Derived.Test.YtdeloaknoadpiaaFRead
namespace Go.Proofs.Ytdeloaknoadpiaa
open Go.RowKit Crc

/-- A row of the call's own, of rows of bytes of the call's own. -/
def Bods (w : World) (base : Nat) (v : Value) (ls : List (List Nat)) : Prop :=
  ∃ vs : List Value, vs.length = ls.length ∧ w.ownsRow base 22 1 v ls.length vs ∧ ∀ i, i < ls.length → ∃ u, vs[i]? = some u ∧ Buf8 w base u (ls.getD i [])

theorem infoS : (Try.prog.info? 22).map (fun i => (i.zero, i.size, i.bytes)) = some (some (.slice none 0 0), 1, 24) := by kernel_rfl
theorem infoS_parts : ∃ i0, Try.prog.info? 22 = some i0 ∧ i0.zero = some (.slice none 0 0) ∧ i0.size = 1 ∧ i0.bytes = 24 := by
  have h := infoS
  cases hi : Try.prog.info? 22 with
  | none => rw [hi] at h; simp at h
  | some i0 =>
    rw [hi] at h
    simp at h
    exact ⟨i0, rfl, h.1, h.2.1, h.2.2⟩

/-- Blocks of cells are kept. -/
def CellsKept (base : Nat) (W W' : World) : Prop := ∀ g cs t fr, base ≤ g → W.heap[g]? = some (.cells cs t fr) → W'.heap[g]? = some (.cells cs t fr)
section
variable {w W : World} {base : Nat} {v : Value} {ls : List (List Nat)}
theorem ownsRow_kept {e : TypeId} {k n : Nat} {v : Value} {xs : List Value} (h : w.ownsRow base e k v n xs) (hk : CellsKept base w W) : W.ownsRow base e k v n xs := by
  refine ⟨h.1, ?_⟩
  rcases h.2 with hn | ⟨g, cap, cur, hv, hb, hg, rest⟩
  · exact .inl hn
  · exact .inr ⟨g, cap, cur, hv, hb, hk _ _ _ _ hb hg, rest⟩
theorem Bods.kept (h : Bods w base v ls) (hk : CellsKept base w W) : Bods W base v ls := by
  obtain ⟨vs, h1, h2, h3⟩ := h
  refine ⟨vs, h1, ownsRow_kept h2 hk, fun i hi => ?_⟩
  obtain ⟨u, hu, hB⟩ := h3 i hi
  exact ⟨u, hu, ownsRow_kept hB hk⟩
theorem cellsKept_below (hb : Below w.heap.size w W) : CellsKept base w W := fun g cs t fr _ hg => (hb.block g (Array.getElem?_eq_some_iff.1 hg).1).trans hg
theorem Bods.below (h : Bods w base v ls) (hb : Below w.heap.size w W) : Bods W base v ls := h.kept (cellsKept_below hb)
theorem Bods.nil (w : World) (base : Nat) : Bods w base (.slice none 0 0) [] := ⟨[], rfl, World.ownsRow_nil _ _ _ _, fun i hi => by simp at hi⟩
/-- A store below the base. -/
theorem cellsKept_set {b o : Nat} {u : Value} (hb : b < base) : CellsKept base w (w.setCell ⟨b, o, none⟩ u) := fun g cs t fr hg h => (Below.heap_setCell _ _ _ _ (by intro e; have h4 : g = b := e; omega)).trans h
/-- One body more. -/
theorem Bods.snoc {w1 : World} {v' u : Value} {l : List Nat} {o : Obj} {vs : List Value} (h1 : vs.length = ls.length) (h2 : w.ownsRow base 22 1 v ls.length vs) (h3 : ∀ i, i < ls.length → ∃ u, vs[i]? = some u ∧ Buf8 w base u (ls.getD i []))
    (hu : Buf8 w base u l) (hown : w1.ownsRow base 22 1 v' (ls.length + 1) (vs ++ [u])) (hg : (w.alloc o).grownBy w1 v.ownBlock) : Bods w1 base v' (ls ++ [l]) := by
  have hk : ∀ (g : Nat) cs fr, w.heap[g]? = some (.cells cs 5 fr) → w1.heap[g]? = some (.cells cs 5 fr) := fun g cs fr hgc => by
    have hlt := (Array.getElem?_eq_some_iff.1 hgc).1
    refine (hg.block g (by simp; omega) ?_).trans ((Below.heap_alloc _ _ _ hlt).trans hgc)
    intro e
    rcases h2.2 with ⟨hv, _⟩ | ⟨g', cap, cur, hv, hb, hgg, _⟩
    · rw [hv] at e; cases e
    · rw [hv] at e
      have h4 : g = g' := by simpa [Value.ownBlock] using e
      subst h4
      rw [hgg] at hgc
      injection hgc with hgc
      injection hgc with _ hgc _
      exact absurd hgc (by decide)
  have hbuf : ∀ {x : Value} {m : List Nat}, Buf8 w base x m → Buf8 w1 base x m := fun {x m} hx => by
    refine ⟨hx.1, ?_⟩
    rcases hx.2 with hn | ⟨g, cap, cur, hv, hb, hgg, rest⟩
    · exact .inl hn
    · exact .inr ⟨g, cap, cur, hv, hb, hk _ _ _ hgg, rest⟩
  refine ⟨vs ++ [u], by simp [h1], by rw [List.length_append]; exact hown, fun i hi => ?_⟩
  rw [List.length_append, List.length_singleton] at hi
  rcases Nat.lt_or_ge i ls.length with hlt | hge
  · obtain ⟨x, hx, hB⟩ := h3 i hlt
    refine ⟨x, by rw [List.getElem?_append_left (by omega)]; exact hx, ?_⟩
    have e : (ls ++ [l]).getD i [] = ls.getD i [] := by rw [List.getD_eq_getElem?_getD, List.getD_eq_getElem?_getD, List.getElem?_append_left hlt]
    rw [e]
    exact hbuf hB
  · obtain rfl : i = ls.length := by omega
    refine ⟨u, by rw [← h1, List.getElem?_append_right (Nat.le_refl _)]; simp, ?_⟩
    have e : (ls ++ [l]).getD ls.length [] = l := by rw [List.getD_eq_getElem?_getD, List.getElem?_append_right (Nat.le_refl _)]; simp
    rw [e]
    exact hbuf hu
end
end Go.Proofs.Ytdeloaknoadpiaa
