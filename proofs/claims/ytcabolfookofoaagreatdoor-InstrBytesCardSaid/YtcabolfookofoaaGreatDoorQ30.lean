/- A part of the proof: JHSwap0, JHSwap, JHAhead. No condition. -/
import Derived.Test.YtcabolfookofoaaGreatDoorQ29
set_option linter.unusedVariables false
set_option linter.unusedSimpArgs false
namespace Go.Proofs.YtcabolfookofoaaGreatDoor.HI
open Go.RowKit
theorem swap_map {w : World} {bm n a c : Nat} {f : Int → Option Nat} {d : List T} (h : MapIs Tryz.prog 3 3 w bm f n) (hpl : Pl T.num f d) (ha : a < d.length) (hn : n = d.length) (hc : c < d.length) (hlim : d.length ≤ 1099511627776) {n2 : Int} (h2 : n2 = (at_ d c).num) (hi2 : I64 n2) :
   ∃ w', (Instr.mapUpdate 137 (.map (some bm)) (.int .i64 n2) (.int .i64 a)).run Tryz.prog w = .ok () w' ∧ MapIs Tryz.prog 3 3 w' bm (fun y => if y = n2 then some a else f y) n ∧ w.grownBy w' (some bm) := by
 obtain ⟨w', h1, r1, r2⟩ := h.put Tryz.underlying3 Tryz.underlying3 Tryz.underlying137 (v := a) hi2 (by omega) (by omega);refine ⟨w', h1, ?_, r2⟩;rw [h2] at r1 ⊢;rw [hpl.1 c hc] at r1;exact r1
theorem only_map {w w' : World} {bm : Nat} (h : w.drew.grownBy w' (some bm)) : Only (fun k => k = bm) w w' :=
 (Only.of_grown h (fun k e => by injection e with e; exact e.symm)).drew0
section
variable {b bm p a c g n cap : Nat} {d : List T} {w : World} {k1 n1 v1 k2 n2 v2 : Int}
theorem swap_second (ha : a < d.length) (hc : c < d.length) (hx : at_ d a = (⟨k1, n1, v1⟩ : T)) (hy : at_ d c = (⟨k2, n2, v2⟩ : T)) : at_ (swp d a c) a = (⟨k2, n2, v2⟩ : T) := by
 rw [swp_at d a c a ha hc, hx, hy];by_cases e : a = c
 · rw [if_pos e, ← hy, ← e, hx]
 · rw [if_neg e, if_pos rfl]
theorem swap_first (ha : a < d.length) (hc : c < d.length) (hx : at_ d a = (⟨k1, n1, v1⟩ : T)) : at_ (swp d a c) c = (⟨k1, n1, v1⟩ : T) := by
 rw [swp_at d a c c ha hc, if_pos rfl, hx]
theorem swap_fin (h : HeapAt w b bm (.slice (some ⟨g, 0, none⟩) n cap) d p) (hn : n = d.length) (ha : a < d.length) (hc : c < d.length) (hx : at_ d a = ⟨k1, n1, v1⟩) (hy : at_ d c = ⟨k2, n2, v2⟩) {f : Int → Option Nat} (hpl : Pl T.num f d)
   {w1 w2 w3 : World} (r1 : w1.ownsRow 0 176 3 (.slice (some ⟨g, 0, none⟩) n cap) n (rowOf enc (swp d a c))) (o1 : Only (fun k => k = g) w w1) (o2 : w1.drew.grownBy w2 (some bm)) (o3 : w2.drew.grownBy w3 (some bm)) (m3 : MapIs Tryz.prog 3 3 w3 bm (fun y => if y = n1 then some c else if y = n2 then some a else f y) n) :
   HeapAt w3 b bm (.slice (some ⟨g, 0, none⟩) n cap) (swp d a c) p ∧ Only (fun k => k = bm ∨ (Value.slice (some ⟨g, 0, none⟩) n cap).ownBlock = some k) w w3 := by
 obtain ⟨hgb, hgm⟩ := h.g_ne (g := g) rfl;have hbm := h.bm_ne;have O23 := (only_map o2).then (only_map o3);have O : Only (fun k => k = bm ∨ (Value.slice (some ⟨g, 0, none⟩) n cap).ownBlock = some k) w w3 := o1.trans O23 (fun k _ e => .inr (by rw [e]; rfl)) (fun k _ e => .inl e);have hll := swp_length d a c;refine ⟨⟨?_, ?_, ⟨fun y => if y = n1 then some c else if y = n2 then some a else f y, ?_, ?_⟩, ?_, by rw [hll]; exact h.len, h.lim⟩, O⟩
 · rw [O.block b h.lt (by rintro (e | e); exact hbm e.symm; injection e with e; exact hgb e), h.st]
 · rw [hll, ← hn]
   exact ownsRow_only r1 O23 (fun g' hg' e => by injection hg' with hg'; exact hgm (hg'.trans e))
 · rw [hll, ← hn]; exact m3
 · have := hpl.swp ha hc
   rw [swap_first ha hc hx, swap_second ha hc hx hy] at this;exact this
 · intro i hi
   rw [hll] at hi;rw [swp_at d a c i ha hc];split
   · exact h.num a ha
   · split
     · exact h.num c hc
     · exact h.num i hi
theorem swap_mid (h : HeapAt w b bm (.slice (some ⟨g, 0, none⟩) n cap) d p) (hn : n = d.length) (ha : a < d.length) (hc : c < d.length) (hx : at_ d a = ⟨k1, n1, v1⟩) (hy : at_ d c = ⟨k2, n2, v2⟩)
   {w1 : World} (r1 : w1.ownsRow 0 176 3 (.slice (some ⟨g, 0, none⟩) n cap) n (rowOf enc (swp d a c))) (o1 : Only (fun k => k = g) w w1) :
   w1.cell? ⟨b, 0, none⟩ = some (.slice (some ⟨g, 0, none⟩) n cap) ∧ w1.cell? ⟨b, 1, none⟩ = some (.map (some bm)) ∧ w1.cell? ⟨g, a * 3 + 1, none⟩ = some (.int .i64 n2) ∧
   ∃ w2, (Instr.mapUpdate 137 (.map (some bm)) (.int .i64 n2) (.int .i64 a)).run Tryz.prog w1.drew = .ok () w2 ∧ w2.cell? ⟨b, 0, none⟩ = some (.slice (some ⟨g, 0, none⟩) n cap) ∧ w2.cell? ⟨b, 1, none⟩ = some (.map (some bm)) ∧ w2.cell? ⟨g, c * 3 + 1, none⟩ = some (.int .i64 n1) ∧
   ∃ w3, (Instr.mapUpdate 137 (.map (some bm)) (.int .i64 n1) (.int .i64 c)).run Tryz.prog w2.drew = .ok () w3 ∧ (HeapAt w3 b bm (.slice (some ⟨g, 0, none⟩) n cap) (swp d a c) p ∧ Only (fun k => k = bm ∨ (Value.slice (some ⟨g, 0, none⟩) n cap).ownBlock = some k) w w3) := by
 obtain ⟨hgb, hgm⟩ := h.g_ne (g := g) rfl;have hbm := h.bm_ne;have hgl := h.ltg (g := g) rfl;have hlim : d.length ≤ 1099511627776 := Nat.le_trans h.len h.lim;obtain ⟨f, M0, hpl⟩ := h.map;rw [← hn] at M0;have i1 : I64 n1 := by have := h.i64n a ha; rw [hx] at this; exact this
 have i2 : I64 n2 := by have := h.i64n c hc; rw [hy] at this; exact this
 have hll := swp_length d a c;have q0 : w1.cell? ⟨b, 0, none⟩ = some (.slice (some ⟨g, 0, none⟩) n cap) := (o1.cell (p := ⟨b, 0, none⟩) h.lt (fun e => hgb e.symm)).trans h.c0;have q1 : w1.cell? ⟨b, 1, none⟩ = some (.map (some bm)) := (o1.cell (p := ⟨b, 1, none⟩) h.lt (fun e => hgb e.symm)).trans h.c1;have ra := (row_cells r1 (by rw [hll]; exact hn) (i := a) (by rw [hll]; exact ha)).2.1;have rc := (row_cells r1 (by rw [hll]; exact hn) (i := c) (by rw [hll]; exact hc)).2.1;rw [swap_second ha hc hx hy] at ra;rw [swap_first ha hc hx] at rc;have M1 : MapIs Tryz.prog 3 3 w1.drew bm f n := (M0.kept o1 (fun e => hgm e.symm)).drew;obtain ⟨w2, hr2, m2, gr2⟩ := swap_map M1 hpl ha hn hc hlim (n2 := n2) (by rw [hy]) i2;have O2 := only_map gr2;have hb1 : b < w1.heap.size := Nat.lt_of_lt_of_le h.lt o1.size;have hg1 : g < w1.heap.size := Nat.lt_of_lt_of_le hgl o1.size;refine ⟨q0, q1, ra, w2, hr2, (O2.cell (p := ⟨b, 0, none⟩) hb1 (fun e => hbm e.symm)).trans q0, (O2.cell (p := ⟨b, 1, none⟩) hb1 (fun e => hbm e.symm)).trans q1, (O2.cell (p := ⟨g, c * 3 + 1, none⟩) hg1 (fun e => hgm e)).trans rc, ?_⟩;obtain ⟨w3, hr3, m3, gr3⟩ := m2.drew.put Tryz.underlying3 Tryz.underlying3 Tryz.underlying137 (v := c) i1 (by omega) (by omega);refine ⟨w3, hr3, ?_⟩;have : (if n1 = n2 then some a else f n1).isSome = true := by
   split
   · rfl
   · have := hpl.1 a ha
     rw [hx] at this;simp only at this;rw [this]; rfl
 rw [this, if_pos rfl] at m3;exact swap_fin h hn ha hc hx hy hpl r1 o1 gr2 gr3 m3
end
end Go.Proofs.YtcabolfookofoaaGreatDoor.HI
namespace Go.Proofs.YtcabolfookofoaaGreatDoor.HI
open Go.RowKit
set_option maxHeartbeats 2000000 in
theorem swap_any {b bm p a c : Nat} {sv : Value} {d : List T} {w : World} (h : HeapAt w b bm sv d p) (ha : a < d.length) (hc : c < d.length) :
   Calls Tryz.prog 126 #[.pointer (some ⟨b, 0, none⟩), .int .i64 a, .int .i64 c] w fun e w' => e = .returned (.tuple #[]) ∧ HeapAt w' b bm sv (swp d a c) p ∧ Only (fun k => k = bm ∨ sv.ownBlock = some k) w w' := by
 obtain ⟨g, cap, rfl, _, hgl, hn, hcm, _⟩ := ownsRow_head h.row (by omega);obtain ⟨n, hlen⟩ : ∃ n, n = d.length := ⟨_, rfl⟩;have hrow := h.row;rw [← hlen] at hrow h hn ⊢;have c0 := h.c0;have c1 := h.c1;have han : a < n := by omega
 have hcn : c < n := by omega
 obtain ⟨⟨k1, n1, v1⟩, hx⟩ : ∃ x, at_ d a = x := ⟨_, rfl⟩;obtain ⟨⟨k2, n2, v2⟩, hy⟩ : ∃ x, at_ d c = x := ⟨_, rfl⟩;obtain ⟨a0, a1, a2⟩ := row_cells hrow hlen ha;obtain ⟨e0, e1, e2⟩ := row_cells hrow hlen hc;rw [hx] at a0 a1 a2;rw [hy] at e0 e1 e2;dsimp only at a0 a1 a2 e0 e1 e2;have f0 := hrow.frozenAt (a * 3);have f1 := hrow.frozenAt (a * 3 + 1);have f2 := hrow.frozenAt (a * 3 + 2);have g0 := hrow.frozenAt (c * 3);have g1 := hrow.frozenAt (c * 3 + 1);have g2 := hrow.frozenAt (c * 3 + 2);have S := Lib.hid (row_swap hrow ha hc hx hy);have mid := fun w1 => swap_mid (w1 := w1) h hlen ha hc hx hy
 replace mid := Lib.hid mid;clear h hrow hx hy hlen ha hc;by_cases hac : a = c
 · subst hac
   obtain rfl : k1 = k2 := by rw [a0] at e0; simpa using e0
   obtain rfl : n1 = n2 := by rw [a1] at e1; simpa using e1
   obtain rfl : v1 = v2 := by rw [a2] at e2; simpa using e2
   clear e0 e1 e2 g0 g1 g2;go_enter Tryz.func126, Tryz.ntmps126
   go_wp2
   go_region
   go_wp2
   have G1 : ((((((w.setCell ⟨g, a * 3, none⟩ (.int .i64 k1)).setCell ⟨g, a * 3 + 1, none⟩ (.int .i64 n1)).setCell ⟨g, a * 3 + 2, none⟩ (.int .i64 v1)).setCell ⟨g, a * 3, none⟩ (.int .i64 k1)).setCell ⟨g, a * 3 + 1, none⟩ (.int .i64 n1)).setCell ⟨g, a * 3 + 2, none⟩ (.int .i64 v1)).drew.ownsRow 0 176 3 (.slice (some ⟨g, 0, none⟩) n cap) n (rowOf enc (swp d a a)) := ownsRow_drew S.out.1;have G2 := S.out.2.drew;clear c0 c1 a0 a1 a2 f0 f1 f2;generalize ((((((w.setCell ⟨g, a * 3, none⟩ (.int .i64 k1)).setCell ⟨g, a * 3 + 1, none⟩ (.int .i64 n1)).setCell ⟨g, a * 3 + 2, none⟩ (.int .i64 v1)).setCell ⟨g, a * 3, none⟩ (.int .i64 k1)).setCell ⟨g, a * 3 + 1, none⟩ (.int .i64 n1)).setCell ⟨g, a * 3 + 2, none⟩ (.int .i64 v1)).drew = w1 at G1 G2 ⊢;obtain ⟨q0, q1, q2, w2, hr2, q3, q4, q5, w3, hr3, F⟩ := mid.out w1 G1 G2;replace F := Lib.hid F;clear G1 G2;go_region
   go_wp2
   go_region
   go_wp2
   go_end0
   exact ⟨rfl, F.out⟩
 · have hca : ¬ c = a := fun e => hac e.symm
   go_enter Tryz.func126, Tryz.ntmps126
   go_wp2
   go_region
   go_wp2
   have G1 : ((((((w.setCell ⟨g, a * 3, none⟩ (.int .i64 k2)).setCell ⟨g, a * 3 + 1, none⟩ (.int .i64 n2)).setCell ⟨g, a * 3 + 2, none⟩ (.int .i64 v2)).setCell ⟨g, c * 3, none⟩ (.int .i64 k1)).setCell ⟨g, c * 3 + 1, none⟩ (.int .i64 n1)).setCell ⟨g, c * 3 + 2, none⟩ (.int .i64 v1)).drew.ownsRow 0 176 3 (.slice (some ⟨g, 0, none⟩) n cap) n (rowOf enc (swp d a c)) := ownsRow_drew S.out.1;have G2 := S.out.2.drew;clear c0 c1 a0 a1 a2 e0 e1 e2 f0 f1 f2 g0 g1 g2;generalize ((((((w.setCell ⟨g, a * 3, none⟩ (.int .i64 k2)).setCell ⟨g, a * 3 + 1, none⟩ (.int .i64 n2)).setCell ⟨g, a * 3 + 2, none⟩ (.int .i64 v2)).setCell ⟨g, c * 3, none⟩ (.int .i64 k1)).setCell ⟨g, c * 3 + 1, none⟩ (.int .i64 n1)).setCell ⟨g, c * 3 + 2, none⟩ (.int .i64 v1)).drew = w1 at G1 G2 ⊢;obtain ⟨q0, q1, q2, w2, hr2, q3, q4, q5, w3, hr3, F⟩ := mid.out w1 G1 G2;replace F := Lib.hid F;clear G1 G2;go_region
   go_wp2
   go_region
   go_wp2
   go_end0
   exact ⟨rfl, F.out⟩
end Go.Proofs.YtcabolfookofoaaGreatDoor.HI
namespace Go.Proofs.YtcabolfookofoaaGreatDoor.HI
open Go.RowKit
def aheadB (x y : T) : Bool := decide (ordI x.key x.num y.key y.num < 0)
theorem aheadB_iff (x y : T) : aheadB x y = true ↔ lt_ T.key T.num x y := by
 unfold aheadB lt_;rw [decide_eq_true_iff];exact ordI_neg _ _ _ _
theorem aheadB_false (x y : T) : aheadB x y = false ↔ ¬ lt_ T.key T.num x y := by
 rw [← aheadB_iff]; simp
set_option maxHeartbeats 1000000 in
theorem ahead_any {b bm p a c : Nat} {sv : Value} {d : List T} {w : World} (h : HeapAt w b bm sv d p) (ha : a < d.length) (hc : c < d.length) :
   Calls Tryz.prog 150 #[.pointer (some ⟨b, 0, none⟩), .int .i64 a, .int .i64 c] w fun e w' => e = .returned (.bool (aheadB (at_ d a) (at_ d c))) ∧ Below w.heap.size w w' := by
 obtain ⟨g, cap, rfl, _, hgl, hn, hcm, _⟩ := ownsRow_head h.row (by omega);obtain ⟨n, hlen⟩ : ∃ n, n = d.length := ⟨_, rfl⟩;have hrow := h.row;rw [← hlen] at hrow h hn;have c0 := h.c0;have han : a < n := by omega
 have hcn : c < n := by omega
 obtain ⟨⟨k1, n1, v1⟩, hx⟩ : ∃ x, at_ d a = x := ⟨_, rfl⟩;obtain ⟨⟨k2, n2, v2⟩, hy⟩ : ∃ x, at_ d c = x := ⟨_, rfl⟩;obtain ⟨a0, a1, a2⟩ := row_cells hrow hlen ha;obtain ⟨e0, e1, e2⟩ := row_cells hrow hlen hc;rw [hx] at a0 a1 a2;rw [hy] at e0 e1 e2;dsimp only at a0 a1 a2 e0 e1 e2;obtain ⟨o, ho⟩ := exHid (ordI k1 n1 k2 n2);have C : ∀ w, Calls Tryz.prog 164 #[.agg #[.int .i64 k1, .int .i64 n1, .int .i64 v1], .agg #[.int .i64 k2, .int .i64 n2, .int .i64 v2]] w fun e w' => e = .returned (.int .i64 o) ∧ Below w.heap.size w w' := fun w => by have := order_any k1 n1 v1 k2 n2 v2 w; rw [ho.out] at this; exact this
 replace C := Lib.hid C;have fin : aheadB (at_ d a) (at_ d c) = decide (o < 0) := by rw [hx, hy]; unfold aheadB; dsimp only; rw [ho.out]
 replace fin := Lib.hid fin;clear h hrow hx hy hlen ha hc ho;go_enter Tryz.func150, Tryz.ntmps150
 go_wp2
 go_region_held3 (fun w' => w'.cell? ⟨b, 0, none⟩ = some (.slice (some ⟨g, 0, none⟩) n cap) ∧ w'.cell? ⟨g, a * 3, none⟩ = some (.int .i64 k1) ∧ w'.cell? ⟨g, a * 3 + 1, none⟩ = some (.int .i64 n1) ∧ w'.cell? ⟨g, a * 3 + 2, none⟩ = some (.int .i64 v1) ∧ w'.cell? ⟨g, c * 3, none⟩ = some (.int .i64 k2) ∧ w'.cell? ⟨g, c * 3 + 1, none⟩ = some (.int .i64 n2) ∧ w'.cell? ⟨g, c * 3 + 2, none⟩ = some (.int .i64 v2))
   (first
     | exact ⟨c0, a0, a1, a2, e0, e1, e2⟩
     | exact hold)
   ((go_at_call 164; refine (C.out _).mono ?_; rintro e w' ⟨rfl, hb⟩; have hold : w'.cell? ⟨b, 0, none⟩ = some (.slice (some ⟨g, 0, none⟩) n cap) ∧ w'.cell? ⟨g, a * 3, none⟩ = some (.int .i64 k1) ∧ w'.cell? ⟨g, a * 3 + 1, none⟩ = some (.int .i64 n1) ∧ w'.cell? ⟨g, a * 3 + 2, none⟩ = some (.int .i64 v1) ∧ w'.cell? ⟨g, c * 3, none⟩ = some (.int .i64 k2) ∧ w'.cell? ⟨g, c * 3 + 1, none⟩ = some (.int .i64 n2) ∧ w'.cell? ⟨g, c * 3 + 2, none⟩ = some (.int .i64 v2) := (by refine ⟨?_, ?_, ?_, ?_, ?_, ?_, ?_⟩ <;> exact Below.keeps hb (by assumption))))
 go_wp2
 go_ret
 exact ⟨ret_bool fin.out.symm, below_drew hb⟩
theorem ahead_at {b bm p a c : Nat} {sv : Value} {d : List T} {w : World} (h : HeapAt w b bm sv d p) {x y : Int} {o : Bool} (hx : x = a) (hy : y = c) (ha : a < d.length) (hc : c < d.length) (ho : aheadB (at_ d a) (at_ d c) = o) :
   Calls Tryz.prog 150 #[.pointer (some ⟨b, 0, none⟩), .int .i64 x, .int .i64 y] w fun e w' => e = .returned (.bool o) ∧ HeapAt w' b bm sv d p ∧ Below w.heap.size w w' := by
 subst hx; subst hy; subst ho;exact (ahead_any h ha hc).mono fun e w' ⟨h1, h2⟩ => ⟨h1, h.kept (F := fun _ => False) (Only.of_below h2) (fun _ _ h => h), h2⟩
set_option maxHeartbeats 400000 in
theorem made_any {b bm p : Nat} {sv : Value} {d : List T} {w : World} (h : HeapAt w b bm sv d p) :
   Calls Tryz.prog 123 #[.pointer (some ⟨b, 0, none⟩)] w fun e w' => e = .returned (.bool true) ∧ w = w' := by
 have c1 := h.c1;have hq := fun w => run_neq_map (P := Tryz.prog) w 137 _ _ (some bm) Tryz.underlying137
 clear h;go_enter Tryz.func123, Tryz.ntmps123
 go_wp2
 go_ret
 exact ⟨rfl, rfl⟩
set_option maxHeartbeats 400000 in
theorem len_any {b bm p : Nat} {sv : Value} {d : List T} {w : World} (h : HeapAt w b bm sv d p) :
   Calls Tryz.prog 125 #[.pointer (some ⟨b, 0, none⟩)] w fun e w' => e = .returned (.int .i64 d.length) ∧ w = w' := by
 obtain ⟨a, cap, rfl, _⟩ := ownsRow_shape h.row;have c0 := h.c0;have M := Lib.hid (made_any h);clear h;go_enter Tryz.func125, Tryz.ntmps125
 go_wp2_with (go_at_call 123; refine M.out.mono ?_; rintro e w' ⟨rfl, rfl⟩)
 go_ret
 exact ⟨rfl, rfl⟩
end Go.Proofs.YtcabolfookofoaaGreatDoor.HI
