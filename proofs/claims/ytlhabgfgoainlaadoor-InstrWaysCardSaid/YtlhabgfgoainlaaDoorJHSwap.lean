/- The contract of a heap's swap: two things change their places, and the map tells it. -/
import Derived.Test.YtlhabgfgoainlaaDoorJHSwap0
namespace Go.Proofs.YtlhabgfgoainlaaDoor.HI
open Go.RowKit

set_option maxHeartbeats 2000000 in
theorem swap_any {b bm p a c : Nat} {sv : Value} {d : List T} {w : World} (h : HeapAt w b bm sv d p) (ha : a < d.length) (hc : c < d.length) :
    Calls Tryd.prog 83 #[.pointer (some ⟨b, 0, none⟩), .int .i64 a, .int .i64 c] w fun e w' => e = .returned (.tuple #[]) ∧ HeapAt w' b bm sv (swp d a c) p ∧ Only (fun k => k = bm ∨ sv.ownBlock = some k) w w' := by
  obtain ⟨g, cap, rfl, _, hgl, hn, hcm, _⟩ := ownsRow_head h.row (by omega)
  obtain ⟨n, hlen⟩ : ∃ n, n = d.length := ⟨_, rfl⟩
  have hrow := h.row
  rw [← hlen] at hrow h hn ⊢
  have c0 := h.c0
  have c1 := h.c1
  have han : a < n := by omega
  have hcn : c < n := by omega
  obtain ⟨⟨k1, n1, v1⟩, hx⟩ : ∃ x, at_ d a = x := ⟨_, rfl⟩
  obtain ⟨⟨k2, n2, v2⟩, hy⟩ : ∃ x, at_ d c = x := ⟨_, rfl⟩
  obtain ⟨a0, a1, a2⟩ := row_cells hrow hlen ha
  obtain ⟨e0, e1, e2⟩ := row_cells hrow hlen hc
  rw [hx] at a0 a1 a2
  rw [hy] at e0 e1 e2
  dsimp only at a0 a1 a2 e0 e1 e2
  have f0 := hrow.frozenAt (a * 3)
  have f1 := hrow.frozenAt (a * 3 + 1)
  have f2 := hrow.frozenAt (a * 3 + 2)
  have g0 := hrow.frozenAt (c * 3)
  have g1 := hrow.frozenAt (c * 3 + 1)
  have g2 := hrow.frozenAt (c * 3 + 2)
  have S := Lib.hid (row_swap hrow ha hc hx hy)
  have mid := fun w1 => swap_mid (w1 := w1) h hlen ha hc hx hy
  replace mid := Lib.hid mid
  clear h hrow hx hy hlen ha hc
  by_cases hac : a = c
  · subst hac
    obtain rfl : k1 = k2 := by rw [a0] at e0; simpa using e0
    obtain rfl : n1 = n2 := by rw [a1] at e1; simpa using e1
    obtain rfl : v1 = v2 := by rw [a2] at e2; simpa using e2
    clear e0 e1 e2 g0 g1 g2
    go_enter Tryd.func83, Tryd.ntmps83
    go_wp2
    go_region
    go_wp2
    have G1 : ((((((w.setCell ⟨g, a * 3, none⟩ (.int .i64 k1)).setCell ⟨g, a * 3 + 1, none⟩ (.int .i64 n1)).setCell ⟨g, a * 3 + 2, none⟩ (.int .i64 v1)).setCell ⟨g, a * 3, none⟩ (.int .i64 k1)).setCell ⟨g, a * 3 + 1, none⟩ (.int .i64 n1)).setCell ⟨g, a * 3 + 2, none⟩ (.int .i64 v1)).drew.ownsRow 0 139 3 (.slice (some ⟨g, 0, none⟩) n cap) n (rowOf enc (swp d a a)) := ownsRow_drew S.out.1
    have G2 := S.out.2.drew
    clear c0 c1 a0 a1 a2 f0 f1 f2
    generalize ((((((w.setCell ⟨g, a * 3, none⟩ (.int .i64 k1)).setCell ⟨g, a * 3 + 1, none⟩ (.int .i64 n1)).setCell ⟨g, a * 3 + 2, none⟩ (.int .i64 v1)).setCell ⟨g, a * 3, none⟩ (.int .i64 k1)).setCell ⟨g, a * 3 + 1, none⟩ (.int .i64 n1)).setCell ⟨g, a * 3 + 2, none⟩ (.int .i64 v1)).drew = w1 at G1 G2 ⊢
    obtain ⟨q0, q1, q2, w2, hr2, q3, q4, q5, w3, hr3, F⟩ := mid.out w1 G1 G2
    replace F := Lib.hid F
    clear G1 G2
    go_region
    go_wp2
    go_region
    go_wp2
    go_end0
    exact ⟨rfl, F.out⟩
  · have hca : ¬ c = a := fun e => hac e.symm
    go_enter Tryd.func83, Tryd.ntmps83
    go_wp2
    go_region
    go_wp2
    have G1 : ((((((w.setCell ⟨g, a * 3, none⟩ (.int .i64 k2)).setCell ⟨g, a * 3 + 1, none⟩ (.int .i64 n2)).setCell ⟨g, a * 3 + 2, none⟩ (.int .i64 v2)).setCell ⟨g, c * 3, none⟩ (.int .i64 k1)).setCell ⟨g, c * 3 + 1, none⟩ (.int .i64 n1)).setCell ⟨g, c * 3 + 2, none⟩ (.int .i64 v1)).drew.ownsRow 0 139 3 (.slice (some ⟨g, 0, none⟩) n cap) n (rowOf enc (swp d a c)) := ownsRow_drew S.out.1
    have G2 := S.out.2.drew
    clear c0 c1 a0 a1 a2 e0 e1 e2 f0 f1 f2 g0 g1 g2
    generalize ((((((w.setCell ⟨g, a * 3, none⟩ (.int .i64 k2)).setCell ⟨g, a * 3 + 1, none⟩ (.int .i64 n2)).setCell ⟨g, a * 3 + 2, none⟩ (.int .i64 v2)).setCell ⟨g, c * 3, none⟩ (.int .i64 k1)).setCell ⟨g, c * 3 + 1, none⟩ (.int .i64 n1)).setCell ⟨g, c * 3 + 2, none⟩ (.int .i64 v1)).drew = w1 at G1 G2 ⊢
    obtain ⟨q0, q1, q2, w2, hr2, q3, q4, q5, w3, hr3, F⟩ := mid.out w1 G1 G2
    replace F := Lib.hid F
    clear G1 G2
    go_region
    go_wp2
    go_region
    go_wp2
    go_end0
    exact ⟨rfl, F.out⟩
end Go.Proofs.YtlhabgfgoainlaaDoor.HI
