/- What taking a thing away comes to in memory. -/
import Derived.Test.YtlhabgfgoainlaaDoorJHSink
namespace Go.Proofs.YtlhabgfgoainlaaDoor.HI
open Go.RowKit

section
variable {b bm p s g n cap : Nat} {d : List T} {w w1 w2 : World}
/-- Taken away: the thing at s, the last one in its place. -/
def cutAt (d : List T) (s n : Nat) : List T := (swp d s n).take n

theorem cutAt_perm (hn : n + 1 = d.length) (hs : s < d.length) : (at_ d s :: cutAt d s n).Perm d := by
  have hll := swp_length d s n
  have e : swp d s n = cutAt d s n ++ [at_ d s] := by
    apply ext_at (by unfold cutAt; rw [hll, List.length_append, List.length_take, hll]; simp; omega)
    intro i hi
    rw [hll] at hi
    have hc : (cutAt d s n).length = n := by unfold cutAt; rw [List.length_take, hll]; omega
    by_cases h : i < n
    · rw [at_snoc _ _ _ (by omega)]; unfold cutAt; rw [at_take _ _ _ h]
    · have : i = (cutAt d s n).length := by omega
      rw [this, at_last, hc, swp_at d s n n hs (by omega), if_pos rfl]
  have h1 := swp_perm d s n hs (by omega)
  rw [e] at h1
  exact (List.perm_append_comm (l₁ := [at_ d s])).trans h1
theorem cutAt_length (hn : n + 1 = d.length) : (cutAt d s n).length = n := by unfold cutAt; rw [List.length_take, swp_length]; omega

/-- The heap behind the cut. -/
theorem take_fin (h : HeapAt w1 b bm (.slice (some ⟨g, 0, none⟩) (n + 1) cap) (swp d s n) p) (hn : n + 1 = d.length) (_hs : s < d.length)
    {f : Int → Option Nat} (_hM : MapIs Tryd.prog 3 3 w1 bm f (swp d s n).length) (hpl : Pl T.num f (swp d s n))
    (M2 : MapIs Tryd.prog 3 3 w2 bm (fun y => if y = (at_ (swp d s n) n).num then none else f y) (n + 1 - if (f (at_ (swp d s n) n).num).isSome = true then 1 else 0)) (gr2 : w1.drew.grownBy w2 (some bm)) :
    (w2.heap[b]? = some (.cells #[.slice (some ⟨g, 0, none⟩) (n + 1) cap, .map (some bm), .int .i64 p] 113 (0, 0)) ∧ w2.ownsRow 0 139 3 (.slice (some ⟨g, 0, none⟩) (n + 1) cap) (n + 1) (rowOf enc (swp d s n))) ∧
    (HeapAt ((((w2.setCell ⟨g, n * 3, none⟩ (.int .i64 0)).setCell ⟨g, n * 3 + 1, none⟩ (.int .i64 0)).setCell ⟨g, n * 3 + 2, none⟩ (.int .i64 0)).setCell ⟨b, 0, none⟩ (.slice (some ⟨g, 0, none⟩) n cap)) b bm (.slice (some ⟨g, 0, none⟩) n cap) (cutAt d s n) p ∧
    Only (fun k => k = b ∨ k = bm ∨ k = g) w1 ((((w2.setCell ⟨g, n * 3, none⟩ (.int .i64 0)).setCell ⟨g, n * 3 + 1, none⟩ (.int .i64 0)).setCell ⟨g, n * 3 + 2, none⟩ (.int .i64 0)).setCell ⟨b, 0, none⟩ (.slice (some ⟨g, 0, none⟩) n cap))) := by
  obtain ⟨hgb, hgm⟩ := h.g_ne (g := g) rfl
  have hbm := h.bm_ne
  have hll : (swp d s n).length = n + 1 := by rw [swp_length, hn]
  have O2 := only_map gr2
  have st2 := (O2.block b h.lt (fun e => hbm e.symm)).trans h.st
  have hrow := h.row
  rw [hll] at hrow
  have row2 := ownsRow_only hrow O2 (fun g' hg' e => by injection hg' with hg'; exact hgm (hg'.trans e))
  refine ⟨⟨st2, row2⟩, ?_, ?_⟩
  · have r1 := row_store row2 (i := n) (by omega) ⟨0, 0, 0⟩
    dsimp only at r1
    have r2 := ownsRow_cut r1 (m := n) (by omega)
    rw [rowOf_take enc_len _ n (by simp; omega)] at r2
    have e1 : ((swp d s n).set n ⟨0, 0, 0⟩).take n = cutAt d s n := by
      unfold cutAt
      apply ext_at (by simp)
      intro i hi
      have hi' : i < n := by simp at hi; omega
      rw [at_take _ _ _ hi', at_take _ _ _ hi', at_set _ _ _ _ (by omega), if_neg (by omega)]
    rw [e1] at r2
    have hcl := cutAt_length (s := s) hn
    have key : ∀ (W : World) (j : Nat) (u : Value) (k : Nat), k ≠ g → (W.setCell ⟨g, j, none⟩ u).heap[k]? = W.heap[k]? := fun W j u k hk => Below.heap_setCell W ⟨g, j, none⟩ u k hk
    generalize hW : ((w2.setCell ⟨g, n * 3, none⟩ (.int .i64 0)).setCell ⟨g, n * 3 + 1, none⟩ (.int .i64 0)).setCell ⟨g, n * 3 + 2, none⟩ (.int .i64 0) = W at r2 ⊢
    have hWk : ∀ k, k ≠ g → W.heap[k]? = w2.heap[k]? := fun k hk => by rw [← hW, key _ _ _ _ hk, key _ _ _ _ hk, key _ _ _ _ hk]
    have stW := (hWk b (fun e => hgb e.symm)).trans st2
    refine ⟨?_, ?_, ⟨_, ?_, hpl.cut (by omega)⟩, ?_, ?_, h.lim⟩
    · have := heap_setCell_same W b 0 _ _ (.slice (some ⟨g, 0, none⟩) n cap) stW
      simpa using this
    · rw [hcl]
      refine ⟨r2.1, ?_⟩
      rcases r2.2 with h' | ⟨g', cap', cur, hv, hb0, hg', rest⟩
      · exact .inl h'
      · refine .inr ⟨g', cap', cur, hv, hb0, ?_, rest⟩
        have : g' = g := by simp at hv; exact hv.1.symm
        rw [Below.heap_setCell _ _ _ _ (by rw [this]; exact hgb)]
        exact hg'
    · have hfs : (f (at_ (swp d s n) n).num).isSome = true := by rw [hpl.1 n (by omega)]; rfl
      rw [hfs] at M2
      show MapIs _ _ _ _ _ _ (cutAt d s n).length
      rw [hcl]
      refine MapIs.kept (F := fun k => k = g ∨ k = b) M2 ⟨?_, ?_, ?_, ?_, fun k _ hk => ?_⟩ (by rintro (e | e); exact hgm e.symm; exact hbm e)
      · rw [← hW]; rfl
      · rw [← hW]; rfl
      · rw [← hW]; rfl
      · rw [← hW]; simp [World.setCell]
      · rw [Below.heap_setCell _ _ _ _ (fun e => hk (.inr e)), hWk k (fun e => hk (.inl e))]
    · intro i hi
      rw [hcl] at hi
      unfold cutAt
      rw [at_take _ _ _ hi]
      exact h.num i (by omega)
    · rw [hcl]; have := h.len; omega
  · have O2' : Only (fun k => k = b ∨ k = bm ∨ k = g) w1 w2 := O2.mono (fun k _ e => .inr (.inl e))
    have key : ∀ (W : World) (j : Nat) (u : Value), Only (fun k => k = b ∨ k = bm ∨ k = g) w1 W → Only (fun k => k = b ∨ k = bm ∨ k = g) w1 (W.setCell ⟨g, j, none⟩ u) := fun W j u ho => ho.setCell (p := ⟨g, j, none⟩) (.inl (.inr (.inr rfl))) u
    have key2 : ∀ (W : World) (j : Nat) (u : Value), Only (fun k => k = b ∨ k = bm ∨ k = g) w1 W → Only (fun k => k = b ∨ k = bm ∨ k = g) w1 (W.setCell ⟨b, j, none⟩ u) := fun W j u ho => ho.setCell (p := ⟨b, j, none⟩) (.inl (.inl rfl)) u
    exact key2 _ _ _ (key _ _ _ (key _ _ _ (key _ _ _ O2')))
end
end Go.Proofs.YtlhabgfgoainlaaDoor.HI
