/- A round of Split that goes on (layer 6): what memory comes to. And append, inside a fence, at the operation. -/
import Derived.Test.YtdeloaknoadpiaaFIter
import Derived.Test.YtdeloaknoadpiaaFBods
import Derived.Maps.OwnIn
namespace Go.Proofs.Ytdeloaknoadpiaa
open Go.RowKit Go.Shelf Crc

theorem boxed_below {W W' : World} {B : Nat} {t : TypeId} {v : Value} (h : Boxed W B t v) (hb : Below W.heap.size W W') : Boxed W' B t v := (hb.block B h.lt).trans h
/-- append onto a row of slices, at the operation, inside a fence. -/
theorem wpIn_append_row {F : Fence} {nF : Nat} {w : World} {o : Oper} {a : Act} {K : Act → World → Prop} {Q : Exit → Act → World → Prop} (s x : Operand)
    (ho : o.op = .call { callee := .builtin .append, args := #[s, x], argTypes := #[29, 29] })
    {base : Nat} {v : Value} {vs : List Value} {k : Nat} (hs : a.eval s = v) (hown : w.ownsRow base 22 1 v k vs) {g : Nat} {u : Value} {fr : Nat × Nat}
    (hx : a.eval x = .slice (some ⟨g, 0, none⟩) 1 1) (hg : w.heap[g]? = some (.cells #[u] 22 fr)) (hu : u.oneCell' = true)
    (hk : k ≤ 1000000000) (hbase : base ≤ w.heap.size)
    (h : ∀ g' cap w', w'.ownsRow base 22 1 (.slice (some ⟨g', 0, none⟩) (k + 1) cap) (k + 1) (vs ++ [u]) → w.grownBy w' v.ownBlock → K (a.put o.dst (.slice (some ⟨g', 0, none⟩) (k + 1) cap)) w') : o.wpIn F nF Try.prog a w K Q := by
  obtain ⟨i0, hi, hz0, hz1, hz2⟩ := infoS_parts
  obtain ⟨v', w', hr, h2, h3, h4, h5⟩ := run_append_own_at (P := Try.prog) w base 29 o.type 22 i0 (.slice none 0 0) 1 24 Try.underlying29 hi hz0 hz1 hz2 rfl (by decide) v k vs hown ⟨g, 0, none⟩ 1 1 [u] rfl
    (fun j y hj => by
      match j, hj with
      | 0, hj =>
        simp at hj
        subst hj
        simp [World.cell?, Addr.add, hg])
    (fun y hy => by simp at hy; subst hy; exact hu) (by unfold maxLen; omega) (by omega) hbase
  obtain ⟨g', cap, rfl, _⟩ := ownsRow_head h2 (by omega)
  unfold Oper.wpIn
  refine ⟨by simp [Oper.about, ho, resolve, Target.leads, Sem.run_pure], ?_⟩
  rw [Oper.semAt_plain F _ _ (by rw [ho]; intro c hc'; cases hc')]
  simp [execOp, ho, resolve, invoke, builtin, hs, hx, hr, Result.andThen]
  exact h g' cap w' h2 h3

theorem split_round {s : Nat} {w W W2 w1 : World} {vb v' u : Value} {vs : List Value} {ls : List (List Nat)} {l : List Nat} {n0 e0 : Value}
    (hs : s ≤ w.heap.size) (hq0 : Boxed W s 29 vb) (h1 : vs.length = ls.length) (h2 : W.ownsRow (s + 4) 22 1 vb ls.length vs) (h3 : ∀ i, i < ls.length → ∃ u, vs[i]? = some u ∧ Buf8 W (s + 4) u (ls.getD i []))
    (q1 : Boxed W (s + 1) 3 n0) (q2 : Boxed W (s + 1 + 1) 23 e0) (hBW : Below s w W) (hsz : s + 4 ≤ W.heap.size)
    (hg2 : Below W.heap.size W W2) (hu : Buf8 W2 W.heap.size u l) (hown : w1.ownsRow (s + 4) 22 1 v' (ls.length + 1) (vs ++ [u])) (hgr : (W2.alloc (.cells #[u] 22)).grownBy w1 vb.ownBlock) :
    (Boxed w1 s 29 vb ∧ Boxed w1 (s + 1) 3 n0) ∧ ∀ n1 : Value,
      KeepsFrom (s + 4) W ((w1.setCell ⟨s, 0, none⟩ v').setCell ⟨s + 1, 0, none⟩ n1) ∧ KpF s (s + 1 + 1 + 1) W ((w1.setCell ⟨s, 0, none⟩ v').setCell ⟨s + 1, 0, none⟩ n1) ∧
      (∃ v, Boxed ((w1.setCell ⟨s, 0, none⟩ v').setCell ⟨s + 1, 0, none⟩ n1) s 29 v ∧ Bods ((w1.setCell ⟨s, 0, none⟩ v').setCell ⟨s + 1, 0, none⟩ n1) (s + 4) v (ls ++ [l])) ∧
      Boxed ((w1.setCell ⟨s, 0, none⟩ v').setCell ⟨s + 1, 0, none⟩ n1) (s + 1) 3 n1 ∧ Boxed ((w1.setCell ⟨s, 0, none⟩ v').setCell ⟨s + 1, 0, none⟩ n1) (s + 1 + 1) 23 e0 ∧
      Below s w ((w1.setCell ⟨s, 0, none⟩ v').setCell ⟨s + 1, 0, none⟩ n1) ∧ s + 4 ≤ ((w1.setCell ⟨s, 0, none⟩ v').setCell ⟨s + 1, 0, none⟩ n1).heap.size := by
  have hrow : ∀ k, vb.ownBlock = some k → s + 4 ≤ k ∧ ∃ cur fr, W.heap[k]? = some (.cells cur 22 fr) := fun k hk => by
    rcases h2.2 with ⟨hv, _⟩ | ⟨g, cap, cur, hv, hb, hg, _⟩
    · rw [hv] at hk; cases hk
    · rw [hv] at hk
      have e : k = g := by simpa [Value.ownBlock] using hk.symm
      subst e
      exact ⟨hb, _, _, hg⟩
  have hsz2 := hg2.size
  have hsz1 : W2.heap.size + 1 ≤ w1.heap.size := by simpa using hgr.size
  have hkeep : ∀ k, k < W.heap.size → vb.ownBlock ≠ some k → w1.heap[k]? = W.heap[k]? := fun k hk hne =>
    (hgr.block k (by simp; omega) (fun e => hne e.symm)).trans ((Below.heap_alloc _ _ _ (by omega)).trans (hg2.block k hk))
  have hlow : ∀ k, k < s + 4 → w1.heap[k]? = W.heap[k]? := fun k hk => hkeep k (by omega) (fun e => by have := (hrow k e).1; omega)
  have hb0 : Boxed w1 s 29 vb := (hlow s (by omega)).trans hq0
  have hb1 : Boxed w1 (s + 1) 3 n0 := (hlow (s + 1) (by omega)).trans q1
  have hb2 : Boxed w1 (s + 1 + 1) 23 e0 := (hlow (s + 1 + 1) (by omega)).trans q2
  refine ⟨⟨hb0, hb1⟩, fun n1 => ?_⟩
  have hBel : Below s W w1 := ⟨hgr.os.trans hg2.os, hgr.tape.trans hg2.tape, hgr.output.trans hg2.output, by omega, fun k hk => hlow k (by omega)⟩
  have hKO : KeepsOthers W w1 := ⟨by omega, fun k o hk ho => by
    refine (hkeep k (Array.getElem?_eq_some_iff.1 hk).1 ?_).trans hk
    intro e
    obtain ⟨_, cur, fr, hc⟩ := hrow k e
    rw [hc] at hk
    cases hk
    cases ho⟩
  have hB : Bods w1 (s + 4) v' (ls ++ [l]) := by
    have h2' := ownsRow_kept h2 (cellsKept_below hg2)
    exact Bods.snoc h1 h2' (fun i hi => by
      obtain ⟨x, hx, hBx⟩ := h3 i hi
      exact ⟨x, hx, ownsRow_kept hBx (cellsKept_below hg2)⟩) (hu.lift (fun q hq => by have := (hu.base_ q hq).1; omega)) hown hgr
  refine ⟨((hKO.trans (KeepsOthers.setCell _ _ _)).trans (KeepsOthers.setCell _ _ _)).from _, ⟨(hBel.setCell (p := ⟨s, 0, none⟩) (Nat.le_refl _) _).setCell (p := ⟨s + 1, 0, none⟩) (by show s ≤ s + 1; omega) _, ?_⟩,
    ⟨v', (hb0.set v').other (by omega) _, (hB.kept (cellsKept_set (by omega))).kept (cellsKept_set (by omega))⟩, (hb1.other (by omega) _).set n1, (hb2.other (by omega) _).other (by omega) _, ?_, ?_⟩
  · exact (Below.heap_setCell _ _ _ _ (by show s + 1 + 1 + 1 ≠ s + 1; omega)).trans ((Below.heap_setCell _ _ _ _ (by show s + 1 + 1 + 1 ≠ s; omega)).trans (hlow _ (by omega)))
  · exact ((hBW.trans hBel).setCell (p := ⟨s, 0, none⟩) (Nat.le_refl _) _).setCell (p := ⟨s + 1, 0, none⟩) (by show s ≤ s + 1; omega) _
  · simp [World.setCell]; omega
end Go.Proofs.Ytdeloaknoadpiaa
