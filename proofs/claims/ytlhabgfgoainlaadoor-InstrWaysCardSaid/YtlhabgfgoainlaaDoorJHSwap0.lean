/- What two exchanges in memory come to: facts for the contract of a heap's swap. -/
import Derived.Test.YtlhabgfgoainlaaDoorJHMem
namespace Go.Proofs.YtlhabgfgoainlaaDoor.HI
open Go.RowKit

theorem zeroInt (w : World) : (zeroValue 3).run Tryd.prog w = .ok (.int .i64 0) w := by kernel_rfl

/-- The map is told anew where two things stand. -/
theorem swap_map {w : World} {bm n a c : Nat} {f : Int → Option Nat} {d : List T} (h : MapIs Tryd.prog 3 3 w bm f n) (hpl : Pl T.num f d) (ha : a < d.length) (hn : n = d.length) (hc : c < d.length) (hlim : d.length ≤ 1099511627776) {n2 : Int} (h2 : n2 = (at_ d c).num) (hi2 : I64 n2) :
    ∃ w', (Instr.mapUpdate 110 (.map (some bm)) (.int .i64 n2) (.int .i64 a)).run Tryd.prog w = .ok () w' ∧ MapIs Tryd.prog 3 3 w' bm (fun y => if y = n2 then some a else f y) n ∧ w.grownBy w' (some bm) := by
  obtain ⟨w', h1, r1, r2⟩ := h.put Tryd.underlying3 Tryd.underlying3 Tryd.underlying110 (v := a) hi2 (by omega) (by omega)
  refine ⟨w', h1, ?_, r2⟩
  rw [h2] at r1 ⊢
  rw [hpl.1 c hc] at r1
  exact r1

theorem only_map {w w' : World} {bm : Nat} (h : w.drew.grownBy w' (some bm)) : Only (fun k => k = bm) w w' :=
  (Only.of_grown h (fun k e => by injection e with e; exact e.symm)).drew0

section
variable {b bm p a c g n cap : Nat} {d : List T} {w : World} {k1 n1 v1 k2 n2 v2 : Int}
theorem swap_second (ha : a < d.length) (hc : c < d.length) (hx : at_ d a = (⟨k1, n1, v1⟩ : T)) (hy : at_ d c = (⟨k2, n2, v2⟩ : T)) : at_ (swp d a c) a = (⟨k2, n2, v2⟩ : T) := by
  rw [swp_at d a c a ha hc, hx, hy]
  by_cases e : a = c
  · rw [if_pos e, ← hy, ← e, hx]
  · rw [if_neg e, if_pos rfl]
theorem swap_first (ha : a < d.length) (hc : c < d.length) (hx : at_ d a = (⟨k1, n1, v1⟩ : T)) : at_ (swp d a c) c = (⟨k1, n1, v1⟩ : T) := by
  rw [swp_at d a c c ha hc, if_pos rfl, hx]

/-- The heap behind the exchange and the two stores into the map. -/
theorem swap_fin (h : HeapAt w b bm (.slice (some ⟨g, 0, none⟩) n cap) d p) (hn : n = d.length) (ha : a < d.length) (hc : c < d.length) (hx : at_ d a = ⟨k1, n1, v1⟩) (hy : at_ d c = ⟨k2, n2, v2⟩) {f : Int → Option Nat} (hpl : Pl T.num f d)
    {w1 w2 w3 : World} (r1 : w1.ownsRow 0 139 3 (.slice (some ⟨g, 0, none⟩) n cap) n (rowOf enc (swp d a c))) (o1 : Only (fun k => k = g) w w1) (o2 : w1.drew.grownBy w2 (some bm)) (o3 : w2.drew.grownBy w3 (some bm)) (m3 : MapIs Tryd.prog 3 3 w3 bm (fun y => if y = n1 then some c else if y = n2 then some a else f y) n) :
    HeapAt w3 b bm (.slice (some ⟨g, 0, none⟩) n cap) (swp d a c) p ∧ Only (fun k => k = bm ∨ (Value.slice (some ⟨g, 0, none⟩) n cap).ownBlock = some k) w w3 := by
  obtain ⟨hgb, hgm⟩ := h.g_ne (g := g) rfl
  have hbm := h.bm_ne
  have O23 := (only_map o2).then (only_map o3)
  have O : Only (fun k => k = bm ∨ (Value.slice (some ⟨g, 0, none⟩) n cap).ownBlock = some k) w w3 := o1.trans O23 (fun k _ e => .inr (by rw [e]; rfl)) (fun k _ e => .inl e)
  have hll := swp_length d a c
  refine ⟨⟨?_, ?_, ⟨fun y => if y = n1 then some c else if y = n2 then some a else f y, ?_, ?_⟩, ?_, by rw [hll]; exact h.len, h.lim⟩, O⟩
  · rw [O.block b h.lt (by rintro (e | e); exact hbm e.symm; injection e with e; exact hgb e), h.st]
  · rw [hll, ← hn]
    exact ownsRow_only r1 O23 (fun g' hg' e => by injection hg' with hg'; exact hgm (hg'.trans e))
  · rw [hll, ← hn]; exact m3
  · have := hpl.swp ha hc
    rw [swap_first ha hc hx, swap_second ha hc hx hy] at this
    exact this
  · intro i hi
    rw [hll] at hi
    rw [swp_at d a c i ha hc]
    split
    · exact h.num a ha
    · split
      · exact h.num c hc
      · exact h.num i hi

/-- What the walk meets behind the exchange. -/
theorem swap_mid (h : HeapAt w b bm (.slice (some ⟨g, 0, none⟩) n cap) d p) (hn : n = d.length) (ha : a < d.length) (hc : c < d.length) (hx : at_ d a = ⟨k1, n1, v1⟩) (hy : at_ d c = ⟨k2, n2, v2⟩)
    {w1 : World} (r1 : w1.ownsRow 0 139 3 (.slice (some ⟨g, 0, none⟩) n cap) n (rowOf enc (swp d a c))) (o1 : Only (fun k => k = g) w w1) :
    w1.cell? ⟨b, 0, none⟩ = some (.slice (some ⟨g, 0, none⟩) n cap) ∧ w1.cell? ⟨b, 1, none⟩ = some (.map (some bm)) ∧ w1.cell? ⟨g, a * 3 + 1, none⟩ = some (.int .i64 n2) ∧
    ∃ w2, (Instr.mapUpdate 110 (.map (some bm)) (.int .i64 n2) (.int .i64 a)).run Tryd.prog w1.drew = .ok () w2 ∧ w2.cell? ⟨b, 0, none⟩ = some (.slice (some ⟨g, 0, none⟩) n cap) ∧ w2.cell? ⟨b, 1, none⟩ = some (.map (some bm)) ∧ w2.cell? ⟨g, c * 3 + 1, none⟩ = some (.int .i64 n1) ∧
    ∃ w3, (Instr.mapUpdate 110 (.map (some bm)) (.int .i64 n1) (.int .i64 c)).run Tryd.prog w2.drew = .ok () w3 ∧ (HeapAt w3 b bm (.slice (some ⟨g, 0, none⟩) n cap) (swp d a c) p ∧ Only (fun k => k = bm ∨ (Value.slice (some ⟨g, 0, none⟩) n cap).ownBlock = some k) w w3) := by
  obtain ⟨hgb, hgm⟩ := h.g_ne (g := g) rfl
  have hbm := h.bm_ne
  have hgl := h.ltg (g := g) rfl
  have hlim : d.length ≤ 1099511627776 := Nat.le_trans h.len h.lim
  obtain ⟨f, M0, hpl⟩ := h.map
  rw [← hn] at M0
  have i1 : I64 n1 := by have := h.i64n a ha; rw [hx] at this; exact this
  have i2 : I64 n2 := by have := h.i64n c hc; rw [hy] at this; exact this
  have hll := swp_length d a c
  have q0 : w1.cell? ⟨b, 0, none⟩ = some (.slice (some ⟨g, 0, none⟩) n cap) := (o1.cell (p := ⟨b, 0, none⟩) h.lt (fun e => hgb e.symm)).trans h.c0
  have q1 : w1.cell? ⟨b, 1, none⟩ = some (.map (some bm)) := (o1.cell (p := ⟨b, 1, none⟩) h.lt (fun e => hgb e.symm)).trans h.c1
  have ra := (row_cells r1 (by rw [hll]; exact hn) (i := a) (by rw [hll]; exact ha)).2.1
  have rc := (row_cells r1 (by rw [hll]; exact hn) (i := c) (by rw [hll]; exact hc)).2.1
  rw [swap_second ha hc hx hy] at ra
  rw [swap_first ha hc hx] at rc
  have M1 : MapIs Tryd.prog 3 3 w1.drew bm f n := (M0.kept o1 (fun e => hgm e.symm)).drew
  obtain ⟨w2, hr2, m2, gr2⟩ := swap_map M1 hpl ha hn hc hlim (n2 := n2) (by rw [hy]) i2
  have O2 := only_map gr2
  have hb1 : b < w1.heap.size := Nat.lt_of_lt_of_le h.lt o1.size
  have hg1 : g < w1.heap.size := Nat.lt_of_lt_of_le hgl o1.size
  refine ⟨q0, q1, ra, w2, hr2, (O2.cell (p := ⟨b, 0, none⟩) hb1 (fun e => hbm e.symm)).trans q0, (O2.cell (p := ⟨b, 1, none⟩) hb1 (fun e => hbm e.symm)).trans q1, (O2.cell (p := ⟨g, c * 3 + 1, none⟩) hg1 (fun e => hgm e)).trans rc, ?_⟩
  obtain ⟨w3, hr3, m3, gr3⟩ := m2.drew.put Tryd.underlying3 Tryd.underlying3 Tryd.underlying110 (v := c) i1 (by omega) (by omega)
  refine ⟨w3, hr3, ?_⟩
  have : (if n1 = n2 then some a else f n1).isSome = true := by
    split
    · rfl
    · have := hpl.1 a ha
      rw [hx] at this
      simp only at this
      rw [this]; rfl
  rw [this, if_pos rfl] at m3
  exact swap_fin h hn ha hc hx hy hpl r1 o1 gr2 gr3 m3
end
end Go.Proofs.YtlhabgfgoainlaaDoor.HI
