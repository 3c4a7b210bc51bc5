/- A part of the proof: JIns. No condition. -/
import Derived.Test.YtfajfflbplnagaaDoorQ28
import Derived.Test.YtfajfflbplnagaaDoorQ39
set_option linter.unusedVariables false
set_option linter.unusedSimpArgs false
namespace Go.Proofs.YtfajfflbplnagaaDoor
open Go.RowKit Go.Shelf
def sA (f : Nat → Nat) (L op : Nat) (s : PE) : PE := if akI op = 0 then s else numS f L s
def sN (f : Nat → Nat) (L op : Nat) (s : PE) : PE := if op = 23 then numS f L s else s
def sT (f : Nat → Nat) (L op : Nat) (s : PE) : PE := if hasText op = true then txtS f L s else s
def vA (f : Nat → Nat) (L op : Nat) (s : PE) : Int := if akI op = 0 then 0 else ((min (numVal f L s) 8192 : Nat) : Int)
def vN (f : Nat → Nat) (L op : Nat) (s : PE) : Int := if op = 23 then unfN (numVal f L s) else 0
def vT (f : Nat → Nat) (L op : Nat) (s : PE) : List UInt8 := if hasText op = true then txtVal f L s else []
def insX (f : Nat → Nat) (L : Nat) (s : PE) : Ins := ⟨bytVal f L s, vA f L (bytVal f L s) (bytS L s), vN f L (bytVal f L s) (sA f L (bytVal f L s) (bytS L s)), vT f L (bytVal f L s) (sN f L (bytVal f L s) (sA f L (bytVal f L s) (bytS L s)))⟩
def insS (f : Nat → Nat) (L : Nat) (n : Int) (s : PE) : PE :=
 if rightI (insX f L s) n = true then sT f L (bytVal f L s) (sN f L (bytVal f L s) (sA f L (bytVal f L s) (bytS L s))) else refS (sT f L (bytVal f L s) (sN f L (bytVal f L s) (sA f L (bytVal f L s) (bytS L s)))) s.p 3
section
variable {w0 w W : World} {R L cap : Nat} {a : Option Addr} {f : Nat → Nat}
theorem numVal_lt {s : PE} (h : RS w R a L cap f s) : numVal f L s < 18446744073709551616 := by
 unfold numVal;split
 · exact (numR_range h.le (fun j _ hj => h.by_.lt j hj)).1
 · decide
theorem unf_range {u : Nat} (h : u < 18446744073709551616) : I64 (unfN u) := by
 unfold unfN I64;split <;> omega
theorem txtVal_len {s : PE} (h : RS w R a L cap f s) : (txtVal f L s).length ≤ 9223372036854775807 := by
 have h1 := h.lc;have h2 := h.cm;unfold txtVal;split
 · rename_i c
   rw [textL_length];have := c.2;unfold textCode at this;split at this
   · split at this
     · cases this
     · omega
   · rename_i c0; exact absurd this c0
 · decide
theorem bytVal_lt {s : PE} (h : RS w R a L cap f s) : bytVal f L s < 256 := by
 unfold bytVal;split
 · rename_i c
   exact h.by_.lt _ c.2
 · decide
theorem words_only (hW : WordsOK w) {s : PE} (h : RS w R a L cap f s) (ho : Only (fun k => k = R) w W) : WordsOK W := by
 intro i hi;have h0 := hW i hi;have hne : 0 ≠ R := by
   intro e;have h1 := hW 0 (by decide);subst e;have h2 := cellJ h.st 0;rw [h2] at h1;simp only [List.getElem?_toArray, List.getElem?_cons_zero] at h1;cases h1
 exact (ho.cell (p := ⟨0, i, none⟩) (World.block_lt_of_cell? w _ h0) hne).trans h0
structure IM (w0 W : World) (R : Nat) (a : Option Addr) (L cap : Nat) (f : Nat → Nat) (b4 b6 b7 : Nat) (op : Nat) (s : PE) (x : Ins) : Prop where
 s : RS W R a L cap f s
 r : R < w0.heap.size
 o : Only (fun k => k = R) w0 W
 k4 : W.heap[b4]? = some (.cells #[.int .u8 0, .int .i64 0, .int .i64 0, .string ⟨#[]⟩] 40 (0, 0))
 k6 : W.heap[b6]? = some (.cells #[.int .u8 x.op, .int .i64 x.a, .int .i64 x.num, .string ⟨x.text.toArray⟩] 40 (0, 0))
 k7 : W.heap[b7]? = some (.cells #[.int .i64 (akI op), .int .i64 (nkI op), .int .i64 (tkI op)] 68 (0, 0))
 n4 : w0.heap.size ≤ b4
 n6 : w0.heap.size ≤ b6
 n7 : w0.heap.size ≤ b7
 ne46 : b4 ≠ b6
 ne76 : b7 ≠ b6
 by0 : ∀ q, a = some q → 0 < L → q.block < w0.heap.size
theorem heldJ {F : Nat → Prop} {W W' : World} (ho : Only F W W') {B : Nat} {o : Obj} (h : W.heap[B]? = some o) (hB : ¬ F B) : W'.heap[B]? = some o := (ho.block B (Array.getElem?_eq_some_iff.1 h).1 hB).trans h
variable {b4 b6 b7 op : Nat} {s s' : PE} {x : Ins}
theorem IM.field (h : IM w0 w R a L cap f b4 b6 b7 op s x) (hs : RS W R a L cap f s') (ho : Only (fun k => k = R) w W) : IM w0 W R a L cap f b4 b6 b7 op s' x := by
 have hr := h.r;have h4 := h.n4;have h6 := h.n6;have h7 := h.n7;exact ⟨hs, h.r, h.o.then ho, heldJ ho h.k4 (by omega), heldJ ho h.k6 (by omega), heldJ ho h.k7 (by omega), h.n4, h.n6, h.n7, h.ne46, h.ne76, h.by0⟩
theorem IM.stored {x' : Ins} (h : IM w0 w R a L cap f b4 b6 b7 op s x) (hW : W.heap[b6]? = some (.cells #[.int .u8 x'.op, .int .i64 x'.a, .int .i64 x'.num, .string ⟨x'.text.toArray⟩] 40 (0, 0))) (ho : Only (fun k => k = b6) w W) : IM w0 W R a L cap f b4 b6 b7 op s x' := by
 have hr := h.r;have h6 := h.n6;have hab : ∀ q, a = some q → 0 < L → ¬ q.block = b6 := fun q hq h0 e => by have := h.by0 q hq h0; omega
 exact ⟨h.s.kept ho (by omega) hab, h.r, h.o.trans (K := fun k => k = R) ho (fun _ _ h => h) (fun k hk e => by omega), heldJ ho h.k4 h.ne46, hW, heldJ ho h.k7 h.ne76, h.n4, h.n6, h.n7, h.ne46, h.ne76, h.by0⟩
theorem IM.setA (h : IM w0 w R a L cap f b4 b6 b7 op s x) (v : Int) : IM w0 (w.setCell ⟨b6, 1, none⟩ (.int .i64 v)) R a L cap f b4 b6 b7 op s ⟨x.op, v, x.num, x.text⟩ := by
 refine h.stored ?_ ((Only.refl (fun k => k = b6) w).setCell (p := ⟨b6, 1, none⟩) (.inl rfl) _);have := heap_setCell_same w b6 1 _ _ (.int .i64 v) h.k6
 simpa using this
theorem IM.setN (h : IM w0 w R a L cap f b4 b6 b7 op s x) (v : Int) : IM w0 (w.setCell ⟨b6, 2, none⟩ (.int .i64 v)) R a L cap f b4 b6 b7 op s ⟨x.op, x.a, v, x.text⟩ := by
 refine h.stored ?_ ((Only.refl (fun k => k = b6) w).setCell (p := ⟨b6, 2, none⟩) (.inl rfl) _);have := heap_setCell_same w b6 2 _ _ (.int .i64 v) h.k6
 simpa using this
theorem IM.setT (h : IM w0 w R a L cap f b4 b6 b7 op s x) (v : List UInt8) : IM w0 (w.setCell ⟨b6, 3, none⟩ (.string ⟨v.toArray⟩)) R a L cap f b4 b6 b7 op s ⟨x.op, x.a, x.num, v⟩ := by
 refine h.stored ?_ ((Only.refl (fun k => k = b6) w).setCell (p := ⟨b6, 3, none⟩) (.inl rfl) _);have := heap_setCell_same w b6 3 _ _ (.string ⟨v.toArray⟩) h.k6
 simpa using this
theorem min_range (v : Nat) : I64 ((min v 8192 : Nat) : Int) := by
 have := Nat.min_le_right v 8192;exact ⟨by omega, by omega⟩
theorem IM.below (h : IM w0 w R a L cap f b4 b6 b7 op s x) (hb : Below w.heap.size w W) : IM w0 W R a L cap f b4 b6 b7 op s x :=
 h.field (RM.below h.s hb) (Only.of_below hb)
theorem stored4J {W : World} {b : Nat} {x0 x1 x2 x3 : Value} {t : TypeId} (h : W.heap[b]? = some (.cells #[x0, x1, x2, x3] t (0, 0))) (a c d e : Value) :
   ((((W.setCell ⟨b, 0, none⟩ a).setCell ⟨b, 1, none⟩ c).setCell ⟨b, 2, none⟩ d).setCell ⟨b, 3, none⟩ e).heap[b]? = some (.cells #[a, c, d, e] t (0, 0)) ∧ Only (fun k => k = b) W ((((W.setCell ⟨b, 0, none⟩ a).setCell ⟨b, 1, none⟩ c).setCell ⟨b, 2, none⟩ d).setCell ⟨b, 3, none⟩ e) := by
 constructor
 · have a1 := heap_setCell_same W b 0 _ _ a h
   have a2 := heap_setCell_same _ b 1 _ _ c a1;have a3 := heap_setCell_same _ b 2 _ _ d a2;have a4 := heap_setCell_same _ b 3 _ _ e a3
   simpa using a4
 · exact ((((Only.refl (fun k => k = b) W).setCell (p := ⟨b, 0, none⟩) (.inl rfl) a).setCell (p := ⟨b, 1, none⟩) (.inl rfl) c).setCell (p := ⟨b, 2, none⟩) (.inl rfl) d).setCell (p := ⟨b, 3, none⟩) (.inl rfl) e
theorem IM.out (h : IM w0 w R a L cap f b4 b6 b7 op s x) (q0 q1 q2 q3 : Value) : ((((w.setCell ⟨b4, 0, none⟩ q0).setCell ⟨b4, 1, none⟩ q1).setCell ⟨b4, 2, none⟩ q2).setCell ⟨b4, 3, none⟩ q3).heap[b4]? = some (.cells #[q0, q1, q2, q3] 40 (0, 0)) ∧
   RS ((((w.setCell ⟨b4, 0, none⟩ q0).setCell ⟨b4, 1, none⟩ q1).setCell ⟨b4, 2, none⟩ q2).setCell ⟨b4, 3, none⟩ q3) R a L cap f s ∧ Only (fun k => k = R) w0 ((((w.setCell ⟨b4, 0, none⟩ q0).setCell ⟨b4, 1, none⟩ q1).setCell ⟨b4, 2, none⟩ q2).setCell ⟨b4, 3, none⟩ q3) := by
 obtain ⟨h1, ho⟩ := stored4J h.k4 q0 q1 q2 q3;have hr := h.r;have h4 := h.n4;refine ⟨h1, h.s.kept ho (by omega) (fun q hq h0 e => by have := h.by0 q hq h0; omega), h.o.trans (K := fun k => k = R) ho (fun _ _ h => h) (fun k hk e => by omega)⟩
theorem IM.cells (h : IM w0 w R a L cap f b4 b6 b7 op s x) : w.cell? ⟨b7, 0, none⟩ = some (.int .i64 (akI op)) ∧ w.cell? ⟨b7, 1, none⟩ = some (.int .i64 (nkI op)) ∧ w.cell? ⟨b7, 2, none⟩ = some (.int .i64 (tkI op)) ∧
   w.cell? ⟨b6, 0, none⟩ = some (.int .u8 x.op) ∧ w.cell? ⟨b6, 1, none⟩ = some (.int .i64 x.a) ∧ w.cell? ⟨b6, 2, none⟩ = some (.int .i64 x.num) ∧ w.cell? ⟨b6, 3, none⟩ = some (.string ⟨x.text.toArray⟩) :=
 ⟨cellJ h.k7 0, cellJ h.k7 1, cellJ h.k7 2, cellJ h.k6 0, cellJ h.k6 1, cellJ h.k6 2, cellJ h.k6 3⟩
theorem IM.free6 (h : IM w0 w R a L cap f b4 b6 b7 op s x) : w.frozen? ⟨b6, 1, none⟩ = false ∧ w.frozen? ⟨b6, 2, none⟩ = false ∧ w.frozen? ⟨b6, 3, none⟩ = false := ⟨fzJ h.k6 1, fzJ h.k6 2, fzJ h.k6 3⟩
theorem IM.free4 (h : IM w0 w R a L cap f b4 b6 b7 op s x) : w.cell? ⟨b4, 0, none⟩ = some (.int .u8 0) ∧ w.cell? ⟨b4, 1, none⟩ = some (.int .i64 0) ∧ w.cell? ⟨b4, 2, none⟩ = some (.int .i64 0) ∧ w.cell? ⟨b4, 3, none⟩ = some (.string ⟨#[]⟩) ∧ w.frozen? ⟨b4, 0, none⟩ = false ∧ w.frozen? ⟨b4, 1, none⟩ = false ∧ w.frozen? ⟨b4, 2, none⟩ = false ∧ w.frozen? ⟨b4, 3, none⟩ = false :=
 ⟨cellJ h.k4 0, cellJ h.k4 1, cellJ h.k4 2, cellJ h.k4 3, fzJ h.k4 0, fzJ h.k4 1, fzJ h.k4 2, fzJ h.k4 3⟩
set_option maxRecDepth 20000 in
set_option maxHeartbeats 4000000 in
theorem instr_any {s : PE} (h : RS w R a L cap f s) (hW : WordsOK w) (n : Int) : Calls Tryd.prog 19 #[.pointer (some ⟨R, 0, none⟩), .int .i64 n] w fun e w' => e = .returned (insV (insX f L s)) ∧ RS w' R a L cap f (insS f L n s) ∧ Only (fun k => k = R) w w' := by
 have hRw := (Array.getElem?_eq_some_iff.1 h.st).1;have hby0 : ∀ q, a = some q → 0 < L → q.block < w.heap.size := fun q hq h0 => by
   obtain ⟨b, off, e1, e2, _⟩ := h.by_ h0;rw [hq] at e1;cases e1
   exact e2
 have B4 := (Below.refl w.heap.size w).alloc (Nat.le_refl _) (.cells #[.int .u8 0, .int .i64 0, .int .i64 0, .string ⟨#[]⟩] 40);have N4 : (w.alloc (.cells #[.int .u8 0, .int .i64 0, .int .i64 0, .string ⟨#[]⟩] 40)).heap[w.heap.size]? = some (.cells #[.int .u8 0, .int .i64 0, .int .i64 0, .string ⟨#[]⟩] 40 (0, 0)) := heap_alloc_new w _;have h1 : RS (w.alloc (.cells #[.int .u8 0, .int .i64 0, .int .i64 0, .string ⟨#[]⟩] 40)) R a L cap f s := RM.below h B4;have c1 := cellJ h1.st 1;simp only [List.getElem?_toArray, List.getElem?_cons_succ, List.getElem?_cons_zero] at c1;have kB := Lib.hid (fld_byte h1);have hlt := bytVal_lt h;obtain ⟨op, hop⟩ := exHid (bytVal f L s);obtain ⟨s1, hs1⟩ := exHid (bytS L s);rw [hop.out, hs1.out] at kB;rw [hop.out] at hlt;unfold FldP at kB;have hXX : Hid (insX f L s = ⟨op, vA f L op s1, vN f L op (sA f L op s1), vT f L op (sN f L op (sA f L op s1))⟩) := Lib.hid (by unfold insX; rw [hop.out, hs1.out]);have hSS : Hid (insS f L n s = if rightI (insX f L s) n = true then sT f L op (sN f L op (sA f L op s1)) else refS (sT f L op (sN f L op (sA f L op s1))) s.p 3) := Lib.hid (by unfold insS; rw [hop.out, hs1.out]);rw [hXX.out] at hSS;rw [hXX.out];obtain ⟨X, hX⟩ := exHid (⟨op, vA f L op s1, vN f L op (sA f L op s1), vT f L op (sN f L op (sA f L op s1))⟩ : Ins);rw [hX.out] at hSS ⊢;have hple : s.p ≤ L := h.le;have hh := Lib.hid h;have hWW := Lib.hid hW;replace hby0 := Lib.hid hby0;have hB4 := Lib.hid B4;replace N4 := Lib.hid N4;clear h h1 hW B4;go_enter Tryd.func19, Tryd.ntmps19
 go_wp2_with fail
 refine kB.out.mono ?_;rintro e w2 ⟨rfl, hS2, ho2⟩;have N4b := heldJ ho2 N4.out (show ¬ w.heap.size = R by omega);have B6 := (Below.refl w2.heap.size w2).alloc (Nat.le_refl _) (.cells #[.int .u8 op, .int .i64 0, .int .i64 0, .string ⟨#[]⟩] 40);have N6 : (w2.alloc (.cells #[.int .u8 op, .int .i64 0, .int .i64 0, .string ⟨#[]⟩] 40)).heap[w2.heap.size]? = some (.cells #[.int .u8 op, .int .i64 0, .int .i64 0, .string ⟨#[]⟩] 40 (0, 0)) := heap_alloc_new w2 _;have N4c := heldJ (F := fun _ => False) (Only.of_below B6) N4b (fun e => e);have kF := Lib.hid (fieldsOf_any op (w2.alloc (.cells #[.int .u8 op, .int .i64 0, .int .i64 0, .string ⟨#[]⟩] 40)));have hs2z : w.heap.size < w2.heap.size := (Array.getElem?_eq_some_iff.1 N4b).1;have ho3 : Only (fun k => k = R) w (w2.alloc (.cells #[.int .u8 op, .int .i64 0, .int .i64 0, .string ⟨#[]⟩] 40)) := ((Only.of_below (F := fun k => k = R) hB4.out).then ho2).then (Only.of_below B6);have hS3 := RM.below hS2 B6;replace N6 := Lib.hid N6;replace N4c := Lib.hid N4c;replace hS3 := Lib.hid hS3;replace ho3 := Lib.hid ho3;clear kB N4b N4 B6 hS2 ho2 c1 hB4;unfold fldV at kF;go_wp2_with fail
 refine kF.out.mono ?_;rintro e w4 ⟨rfl, hb4⟩;have B7 := hb4.trans (((Below.refl w4.heap.size w4).alloc (Nat.le_refl _) (.cells #[.int .i64 (akI op), .int .i64 (nkI op), .int .i64 (tkI op)] 68)).mono hb4.size);have hI : Hid (IM w (w4.alloc (.cells #[.int .i64 (akI op), .int .i64 (nkI op), .int .i64 (tkI op)] 68)) R a L cap f w.heap.size w2.heap.size w4.heap.size op s1 ⟨op, 0, 0, []⟩) := Lib.hid (by
   have hz6 := (Array.getElem?_eq_some_iff.1 N6.out).1;have hz := hb4.size;exact ⟨RM.below hS3.out B7, hRw, ho3.out.then (Only.of_below B7), heldJ (F := fun _ => False) (Only.of_below B7) N4c.out (fun e => e), heldJ (F := fun _ => False) (Only.of_below B7) N6.out (fun e => e), heap_alloc_new w4 _, Nat.le_refl _, by omega, by omega, by omega, by omega, hby0.out⟩)
 obtain ⟨z0, z1, z2, y0, y1, y2, y3⟩ := hI.out.cells;obtain ⟨g1, g2, g3⟩ := hI.out.free6;have fin : Hid (∀ (W : World) (sE : PE), IM w W R a L cap f w.heap.size w2.heap.size w4.heap.size op sE X → ((((W.setCell ⟨w.heap.size, 0, none⟩ (.int .u8 X.op)).setCell ⟨w.heap.size, 1, none⟩ (.int .i64 X.a)).setCell ⟨w.heap.size, 2, none⟩ (.int .i64 X.num)).setCell ⟨w.heap.size, 3, none⟩ (.string ⟨X.text.toArray⟩)).heap[w.heap.size]? = some (.cells (insC X).toArray 40 (0, 0)) ∧ RS ((((W.setCell ⟨w.heap.size, 0, none⟩ (.int .u8 X.op)).setCell ⟨w.heap.size, 1, none⟩ (.int .i64 X.a)).setCell ⟨w.heap.size, 2, none⟩ (.int .i64 X.num)).setCell ⟨w.heap.size, 3, none⟩ (.string ⟨X.text.toArray⟩)) R a L cap f sE ∧ Only (fun k => k = R) w ((((W.setCell ⟨w.heap.size, 0, none⟩ (.int .u8 X.op)).setCell ⟨w.heap.size, 1, none⟩ (.int .i64 X.a)).setCell ⟨w.heap.size, 2, none⟩ (.int .i64 X.num)).setCell ⟨w.heap.size, 3, none⟩ (.string ⟨X.text.toArray⟩))) := Lib.hid (fun W sE h => h.out _ _ _ _);generalize hg4 : w.heap.size = b4 at *;generalize hg6 : w2.heap.size = b6 at *;generalize hg7 : w4.heap.size = b7 at *;clear kF hS3 ho3 N4c N6 hb4 B7;have hn23 : op = 23 → akI op = 0 ∧ hasText op = false := fun e => by subst e; exact ⟨rfl, rfl⟩
 have hnk : nkI op = if op = 23 then 4 else 0 := rfl;have htk : tkI op = 0 ↔ hasText op = false := by
   unfold tkI hasText nameI;simp only [Bool.or_eq_false_iff, beq_eq_false_iff_ne];split
   · omega
   · split <;> omega
 by_cases hA : akI op = 0
 · by_cases hN : op = 23
   · have hT := (hn23 hN).2
     have qa : ((akI op : Int) != 0) = false := by rw [hA]; rfl
     have qn : ((nkI op : Int) != 0) = true := by rw [hnk, if_pos hN]; rfl
     have qt : ((tkI op : Int) != 0) = false := by rw [htk.2 hT]; rfl
     replace hX := hX.out;replace hSS := hSS.out;simp only [vA, vN, vT, sA, sN, sT, if_pos hA, if_pos hN, hT, ↓reduceIte, Bool.false_eq_true] at hX hSS;replace hA := Lib.hid hA;replace hN := Lib.hid hN;replace hT := Lib.hid hT;replace hX := Lib.hid hX;replace hSS := Lib.hid hSS;clear hn23 hnk htk;have hsn := Lib.hid hI.out.s;have k_n := Lib.hid (fld_num hI.out.s);unfold FldP at k_n;obtain ⟨Vn, hVn⟩ := exHid (unfN (numVal f L s1));rw [hVn.out] at k_n;go_wp2_with fail
     refine k_n.out.mono ?_;rintro e w10 ⟨rfl, hSq, hoq⟩;have hhI := Lib.hid (hI.out.field hSq hoq);have hIn := Lib.hid (hhI.out.setN Vn);clear z0 z1 z2 y0 y1 y2 y3 g1 g2 g3 hSq hoq k_n;obtain ⟨z0, z1, z2, y0, y1, y2, y3⟩ := hhI.out.cells;obtain ⟨g1, g2, g3⟩ := hhI.out.free6;have zz := hIn.out.cells;dsimp only at zz;obtain ⟨z0', z1', z2', y0', y1', y2', y3'⟩ := zz;clear hI hhI;have hXe : (⟨op, 0, Vn, []⟩ : Ins) = X := by rw [← hX.out]; rw [← hVn.out]
     have hIX := hIn.out;rw [hXe] at hIX;have hfit : FitIns X := by
       rw [← hXe];exact ⟨by show ([] : List UInt8).length ≤ _; decide, ⟨by show (-9223372036854775808 : Int) ≤ 0; decide, by show (0 : Int) ≤ 9223372036854775807; decide⟩, by rw [← hVn.out]; exact unf_range (numVal_lt hsn.out), hlt⟩
     have hWx := words_only hWW.out hh.out hIX.o;have kR := Lib.hid (isRight_any X hfit n _ hWx);have hIXh := Lib.hid hIX;obtain ⟨B, hB⟩ := exHid (rightI X n);have hSq := hSS.out;rw [hB.out] at kR hSq;replace hSq := Lib.hid hSq;obtain ⟨XO, XA, XN, XT⟩ := X;injection hXe with e1 e2 e3 e4;subst e1 e2 e3 e4;unfold insV at kR;dsimp only at kR fin;clear hIX hWx hfit hSS;cases B with
     | true =>
       have hSe := hSq.out;simp only [↓reduceIte] at hSe;replace hSe := Lib.hid hSe;go_wp2_with fail
       refine kR.out.mono ?_;rintro e w20 ⟨rfl, hb20⟩;have hI20 := Lib.hid (hIXh.out.below hb20);clear z0 z1 z2 y0 y1 y2 y3 g1 g2 g3;obtain ⟨z0, z1, z2, y0, y1, y2, y3⟩ := hI20.out.cells;obtain ⟨x0, x1, x2, x3, h0, h1, h2, h3⟩ := hI20.out.free4;have E := Lib.hid (fin.out _ _ hI20.out);clear kR hb20 hIXh;go_wp2_with fail
       refine bodyPost_ret (results_cell_row rfl _ _ b4 _ _ (0, 0) _ rfl E.out.1 Tryd.underlying40 rfl (by kernel_rfl)) rfl ⟨rfl, ?_, E.out.2.2⟩;rw [hSe.out];exact E.out.2.1
     | false =>
       have hSe := hSq.out;simp only [Bool.false_eq_true, ↓reduceIte] at hSe;replace hSe := Lib.hid hSe;go_wp2_with fail
       refine kR.out.mono ?_;rintro e w20 ⟨rfl, hb20⟩;have hI20 := Lib.hid (hIXh.out.below hb20);have kQ := Lib.hid (refuse_any hI20.out.s (q := s.p) (c := 3) hple);clear kR hb20 hIXh z0 z1 z2 y0 y1 y2 y3 g1 g2 g3;go_wp2_with fail
       refine kQ.out.mono ?_;rintro e w21 ⟨rfl, hS21, ho21⟩;have hI21 := Lib.hid (hI20.out.field hS21 ho21);obtain ⟨z0, z1, z2, y0, y1, y2, y3⟩ := hI21.out.cells;obtain ⟨x0, x1, x2, x3, h0, h1, h2, h3⟩ := hI21.out.free4;have E := Lib.hid (fin.out _ _ hI21.out);clear kQ hS21 ho21;go_wp2_with fail
       refine bodyPost_ret (results_cell_row rfl _ _ b4 _ _ (0, 0) _ rfl E.out.1 Tryd.underlying40 rfl (by kernel_rfl)) rfl ⟨rfl, ?_, E.out.2.2⟩;rw [hSe.out];exact E.out.2.1
   · cases hT : hasText op with
     | false =>
       have qa : ((akI op : Int) != 0) = false := by rw [hA]; rfl
       have qn : ((nkI op : Int) != 0) = false := by rw [hnk, if_neg hN]; rfl
       have qt : ((tkI op : Int) != 0) = false := by rw [htk.2 hT]; rfl
       replace hX := hX.out;replace hSS := hSS.out;simp only [vA, vN, vT, sA, sN, sT, if_pos hA, if_neg hN, hT, ↓reduceIte, Bool.false_eq_true] at hX hSS;replace hA := Lib.hid hA;replace hN := Lib.hid hN;replace hT := Lib.hid hT;replace hX := Lib.hid hX;replace hSS := Lib.hid hSS;clear hn23 hnk htk;have hXe : (⟨op, 0, 0, []⟩ : Ins) = X := by rw [← hX.out]
       have hIX := hI.out;rw [hXe] at hIX;have hfit : FitIns X := by
         rw [← hXe];exact ⟨by show ([] : List UInt8).length ≤ _; decide, ⟨by show (-9223372036854775808 : Int) ≤ 0; decide, by show (0 : Int) ≤ 9223372036854775807; decide⟩, ⟨by show (-9223372036854775808 : Int) ≤ 0; decide, by show (0 : Int) ≤ 9223372036854775807; decide⟩, hlt⟩
       have hWx := words_only hWW.out hh.out hIX.o;have kR := Lib.hid (isRight_any X hfit n _ hWx);have hIXh := Lib.hid hIX;obtain ⟨B, hB⟩ := exHid (rightI X n);have hSq := hSS.out;rw [hB.out] at kR hSq;replace hSq := Lib.hid hSq;obtain ⟨XO, XA, XN, XT⟩ := X;injection hXe with e1 e2 e3 e4;subst e1 e2 e3 e4;unfold insV at kR;dsimp only at kR fin;clear hIX hWx hfit hSS;cases B with
       | true =>
         have hSe := hSq.out;simp only [↓reduceIte] at hSe;replace hSe := Lib.hid hSe;go_wp2_with fail
         refine kR.out.mono ?_;rintro e w20 ⟨rfl, hb20⟩;have hI20 := Lib.hid (hIXh.out.below hb20);clear z0 z1 z2 y0 y1 y2 y3 g1 g2 g3;obtain ⟨z0, z1, z2, y0, y1, y2, y3⟩ := hI20.out.cells;obtain ⟨x0, x1, x2, x3, h0, h1, h2, h3⟩ := hI20.out.free4;have E := Lib.hid (fin.out _ _ hI20.out);clear kR hb20 hIXh;go_wp2_with fail
         refine bodyPost_ret (results_cell_row rfl _ _ b4 _ _ (0, 0) _ rfl E.out.1 Tryd.underlying40 rfl (by kernel_rfl)) rfl ⟨rfl, ?_, E.out.2.2⟩;rw [hSe.out];exact E.out.2.1
       | false =>
         have hSe := hSq.out;simp only [Bool.false_eq_true, ↓reduceIte] at hSe;replace hSe := Lib.hid hSe;go_wp2_with fail
         refine kR.out.mono ?_;rintro e w20 ⟨rfl, hb20⟩;have hI20 := Lib.hid (hIXh.out.below hb20);have kQ := Lib.hid (refuse_any hI20.out.s (q := s.p) (c := 3) hple);clear kR hb20 hIXh z0 z1 z2 y0 y1 y2 y3 g1 g2 g3;go_wp2_with fail
         refine kQ.out.mono ?_;rintro e w21 ⟨rfl, hS21, ho21⟩;have hI21 := Lib.hid (hI20.out.field hS21 ho21);obtain ⟨z0, z1, z2, y0, y1, y2, y3⟩ := hI21.out.cells;obtain ⟨x0, x1, x2, x3, h0, h1, h2, h3⟩ := hI21.out.free4;have E := Lib.hid (fin.out _ _ hI21.out);clear kQ hS21 ho21;go_wp2_with fail
         refine bodyPost_ret (results_cell_row rfl _ _ b4 _ _ (0, 0) _ rfl E.out.1 Tryd.underlying40 rfl (by kernel_rfl)) rfl ⟨rfl, ?_, E.out.2.2⟩;rw [hSe.out];exact E.out.2.1
     | true =>
       have qa : ((akI op : Int) != 0) = false := by rw [hA]; rfl
       have qn : ((nkI op : Int) != 0) = false := by rw [hnk, if_neg hN]; rfl
       have qt : ((tkI op : Int) != 0) = true := bne_iff_ne.2 (by have := mt htk.1 (by rw [hT]; decide); omega);replace hX := hX.out;replace hSS := hSS.out;simp only [vA, vN, vT, sA, sN, sT, if_pos hA, if_neg hN, hT, ↓reduceIte, Bool.false_eq_true] at hX hSS;replace hA := Lib.hid hA;replace hN := Lib.hid hN;replace hT := Lib.hid hT;replace hX := Lib.hid hX;replace hSS := Lib.hid hSS;clear hn23 hnk htk;have hst := Lib.hid hI.out.s;have k_t := Lib.hid (fld_text hI.out.s);unfold FldP at k_t;obtain ⟨Vt, hVt⟩ := exHid (txtVal f L s1);rw [hVt.out] at k_t;go_wp2_with fail
       refine k_t.out.mono ?_;rintro e w10 ⟨rfl, hSq, hoq⟩;have hhI := Lib.hid (hI.out.field hSq hoq);have hIt := Lib.hid (hhI.out.setT Vt);clear z0 z1 z2 y0 y1 y2 y3 g1 g2 g3 hSq hoq k_t;obtain ⟨z0, z1, z2, y0, y1, y2, y3⟩ := hhI.out.cells;obtain ⟨g1, g2, g3⟩ := hhI.out.free6;have zz := hIt.out.cells;dsimp only at zz;obtain ⟨z0', z1', z2', y0', y1', y2', y3'⟩ := zz;clear hI hhI;have hXe : (⟨op, 0, 0, Vt⟩ : Ins) = X := by rw [← hX.out]; rw [← hVt.out]
       have hIX := hIt.out;rw [hXe] at hIX;have hfit : FitIns X := by
         rw [← hXe];exact ⟨by rw [← hVt.out]; exact txtVal_len hst.out, ⟨by show (-9223372036854775808 : Int) ≤ 0; decide, by show (0 : Int) ≤ 9223372036854775807; decide⟩, ⟨by show (-9223372036854775808 : Int) ≤ 0; decide, by show (0 : Int) ≤ 9223372036854775807; decide⟩, hlt⟩
       have hWx := words_only hWW.out hh.out hIX.o;have kR := Lib.hid (isRight_any X hfit n _ hWx);have hIXh := Lib.hid hIX;obtain ⟨B, hB⟩ := exHid (rightI X n);have hSq := hSS.out;rw [hB.out] at kR hSq;replace hSq := Lib.hid hSq;obtain ⟨XO, XA, XN, XT⟩ := X;injection hXe with e1 e2 e3 e4;subst e1 e2 e3 e4;unfold insV at kR;dsimp only at kR fin;clear hIX hWx hfit hSS;cases B with
       | true =>
         have hSe := hSq.out;simp only [↓reduceIte] at hSe;replace hSe := Lib.hid hSe;go_wp2_with fail
         refine kR.out.mono ?_;rintro e w20 ⟨rfl, hb20⟩;have hI20 := Lib.hid (hIXh.out.below hb20);clear z0 z1 z2 y0 y1 y2 y3 g1 g2 g3;obtain ⟨z0, z1, z2, y0, y1, y2, y3⟩ := hI20.out.cells;obtain ⟨x0, x1, x2, x3, h0, h1, h2, h3⟩ := hI20.out.free4;have E := Lib.hid (fin.out _ _ hI20.out);clear kR hb20 hIXh;go_wp2_with fail
         refine bodyPost_ret (results_cell_row rfl _ _ b4 _ _ (0, 0) _ rfl E.out.1 Tryd.underlying40 rfl (by kernel_rfl)) rfl ⟨rfl, ?_, E.out.2.2⟩;rw [hSe.out];exact E.out.2.1
       | false =>
         have hSe := hSq.out;simp only [Bool.false_eq_true, ↓reduceIte] at hSe;replace hSe := Lib.hid hSe;go_wp2_with fail
         refine kR.out.mono ?_;rintro e w20 ⟨rfl, hb20⟩;have hI20 := Lib.hid (hIXh.out.below hb20);have kQ := Lib.hid (refuse_any hI20.out.s (q := s.p) (c := 3) hple);clear kR hb20 hIXh z0 z1 z2 y0 y1 y2 y3 g1 g2 g3;go_wp2_with fail
         refine kQ.out.mono ?_;rintro e w21 ⟨rfl, hS21, ho21⟩;have hI21 := Lib.hid (hI20.out.field hS21 ho21);obtain ⟨z0, z1, z2, y0, y1, y2, y3⟩ := hI21.out.cells;obtain ⟨x0, x1, x2, x3, h0, h1, h2, h3⟩ := hI21.out.free4;have E := Lib.hid (fin.out _ _ hI21.out);clear kQ hS21 ho21;go_wp2_with fail
         refine bodyPost_ret (results_cell_row rfl _ _ b4 _ _ (0, 0) _ rfl E.out.1 Tryd.underlying40 rfl (by kernel_rfl)) rfl ⟨rfl, ?_, E.out.2.2⟩;rw [hSe.out];exact E.out.2.1
 · have hN : ¬ op = 23 := fun e => hA (hn23 e).1
   cases hT : hasText op with
   | false =>
     have qa : ((akI op : Int) != 0) = true := bne_iff_ne.2 (by omega);have qn : ((nkI op : Int) != 0) = false := by rw [hnk, if_neg hN]; rfl
     have qt : ((tkI op : Int) != 0) = false := by rw [htk.2 hT]; rfl
     replace hX := hX.out;replace hSS := hSS.out;simp only [vA, vN, vT, sA, sN, sT, if_neg hA, if_neg hN, hT, ↓reduceIte, Bool.false_eq_true] at hX hSS;replace hA := Lib.hid hA;replace hN := Lib.hid hN;replace hT := Lib.hid hT;replace hX := Lib.hid hX;replace hSS := Lib.hid hSS;clear hn23 hnk htk;have k_a := Lib.hid (fld_a hI.out.s);unfold FldP at k_a;obtain ⟨Va, hVa⟩ := exHid ((min (numVal f L s1) 8192 : Nat) : Int);rw [hVa.out] at k_a;go_wp2_with fail
     refine k_a.out.mono ?_;rintro e w10 ⟨rfl, hSq, hoq⟩;have hhI := Lib.hid (hI.out.field hSq hoq);have hIa := Lib.hid (hhI.out.setA Va);clear z0 z1 z2 y0 y1 y2 y3 g1 g2 g3 hSq hoq k_a;obtain ⟨z0, z1, z2, y0, y1, y2, y3⟩ := hhI.out.cells;obtain ⟨g1, g2, g3⟩ := hhI.out.free6;have zz := hIa.out.cells;dsimp only at zz;obtain ⟨z0', z1', z2', y0', y1', y2', y3'⟩ := zz;clear hI hhI;have hXe : (⟨op, Va, 0, []⟩ : Ins) = X := by rw [← hX.out]; rw [← hVa.out]
     have hIX := hIa.out;rw [hXe] at hIX;have hfit : FitIns X := by
       rw [← hXe];exact ⟨by show ([] : List UInt8).length ≤ _; decide, by rw [← hVa.out]; exact min_range _, ⟨by show (-9223372036854775808 : Int) ≤ 0; decide, by show (0 : Int) ≤ 9223372036854775807; decide⟩, hlt⟩
     have hWx := words_only hWW.out hh.out hIX.o;have kR := Lib.hid (isRight_any X hfit n _ hWx);have hIXh := Lib.hid hIX;obtain ⟨B, hB⟩ := exHid (rightI X n);have hSq := hSS.out;rw [hB.out] at kR hSq;replace hSq := Lib.hid hSq;obtain ⟨XO, XA, XN, XT⟩ := X;injection hXe with e1 e2 e3 e4;subst e1 e2 e3 e4;unfold insV at kR;dsimp only at kR fin;clear hIX hWx hfit hSS;cases B with
     | true =>
       have hSe := hSq.out;simp only [↓reduceIte] at hSe;replace hSe := Lib.hid hSe;go_wp2_with fail
       refine kR.out.mono ?_;rintro e w20 ⟨rfl, hb20⟩;have hI20 := Lib.hid (hIXh.out.below hb20);clear z0 z1 z2 y0 y1 y2 y3 g1 g2 g3;obtain ⟨z0, z1, z2, y0, y1, y2, y3⟩ := hI20.out.cells;obtain ⟨x0, x1, x2, x3, h0, h1, h2, h3⟩ := hI20.out.free4;have E := Lib.hid (fin.out _ _ hI20.out);clear kR hb20 hIXh;go_wp2_with fail
       refine bodyPost_ret (results_cell_row rfl _ _ b4 _ _ (0, 0) _ rfl E.out.1 Tryd.underlying40 rfl (by kernel_rfl)) rfl ⟨rfl, ?_, E.out.2.2⟩;rw [hSe.out];exact E.out.2.1
     | false =>
       have hSe := hSq.out;simp only [Bool.false_eq_true, ↓reduceIte] at hSe;replace hSe := Lib.hid hSe;go_wp2_with fail
       refine kR.out.mono ?_;rintro e w20 ⟨rfl, hb20⟩;have hI20 := Lib.hid (hIXh.out.below hb20);have kQ := Lib.hid (refuse_any hI20.out.s (q := s.p) (c := 3) hple);clear kR hb20 hIXh z0 z1 z2 y0 y1 y2 y3 g1 g2 g3;go_wp2_with fail
       refine kQ.out.mono ?_;rintro e w21 ⟨rfl, hS21, ho21⟩;have hI21 := Lib.hid (hI20.out.field hS21 ho21);obtain ⟨z0, z1, z2, y0, y1, y2, y3⟩ := hI21.out.cells;obtain ⟨x0, x1, x2, x3, h0, h1, h2, h3⟩ := hI21.out.free4;have E := Lib.hid (fin.out _ _ hI21.out);clear kQ hS21 ho21;go_wp2_with fail
       refine bodyPost_ret (results_cell_row rfl _ _ b4 _ _ (0, 0) _ rfl E.out.1 Tryd.underlying40 rfl (by kernel_rfl)) rfl ⟨rfl, ?_, E.out.2.2⟩;rw [hSe.out];exact E.out.2.1
   | true =>
     have qa : ((akI op : Int) != 0) = true := bne_iff_ne.2 (by omega);have qn : ((nkI op : Int) != 0) = false := by rw [hnk, if_neg hN]; rfl
     have qt : ((tkI op : Int) != 0) = true := bne_iff_ne.2 (by have := mt htk.1 (by rw [hT]; decide); omega);replace hX := hX.out;replace hSS := hSS.out;simp only [vA, vN, vT, sA, sN, sT, if_neg hA, if_neg hN, hT, ↓reduceIte, Bool.false_eq_true] at hX hSS;replace hA := Lib.hid hA;replace hN := Lib.hid hN;replace hT := Lib.hid hT;replace hX := Lib.hid hX;replace hSS := Lib.hid hSS;clear hn23 hnk htk;have k_a := Lib.hid (fld_a hI.out.s);unfold FldP at k_a;obtain ⟨Va, hVa⟩ := exHid ((min (numVal f L s1) 8192 : Nat) : Int);rw [hVa.out] at k_a;go_wp2_with fail
     refine k_a.out.mono ?_;rintro e w10 ⟨rfl, hSq, hoq⟩;have hhI := Lib.hid (hI.out.field hSq hoq);have hIa := Lib.hid (hhI.out.setA Va);clear z0 z1 z2 y0 y1 y2 y3 g1 g2 g3 hSq hoq k_a;obtain ⟨z0, z1, z2, y0, y1, y2, y3⟩ := hhI.out.cells;obtain ⟨g1, g2, g3⟩ := hhI.out.free6;have zz := hIa.out.cells;dsimp only at zz;obtain ⟨z0', z1', z2', y0', y1', y2', y3'⟩ := zz;clear hI hhI;have hst := Lib.hid hIa.out.s;have k_t := Lib.hid (fld_text hIa.out.s);unfold FldP at k_t;obtain ⟨Vt, hVt⟩ := exHid (txtVal f L (numS f L s1));rw [hVt.out] at k_t;go_wp2_with fail
     refine k_t.out.mono ?_;rintro e w11 ⟨rfl, hSq, hoq⟩;have hhIa := Lib.hid (hIa.out.field hSq hoq);have hIt := Lib.hid (hhIa.out.setT Vt);clear z0 z1 z2 y0 y1 y2 y3 g1 g2 g3 hSq hoq k_t;obtain ⟨z0, z1, z2, y0, y1, y2, y3⟩ := hhIa.out.cells;obtain ⟨g1, g2, g3⟩ := hhIa.out.free6;have zz := hIt.out.cells;dsimp only at zz;obtain ⟨z0', z1', z2', y0', y1', y2', y3'⟩ := zz;clear hIa hhIa;have hXe : (⟨op, Va, 0, Vt⟩ : Ins) = X := by rw [← hX.out]; rw [← hVa.out]; rw [← hVt.out]
     have hIX := hIt.out;rw [hXe] at hIX;have hfit : FitIns X := by
       rw [← hXe];exact ⟨by rw [← hVt.out]; exact txtVal_len hst.out, by rw [← hVa.out]; exact min_range _, ⟨by show (-9223372036854775808 : Int) ≤ 0; decide, by show (0 : Int) ≤ 9223372036854775807; decide⟩, hlt⟩
     have hWx := words_only hWW.out hh.out hIX.o;have kR := Lib.hid (isRight_any X hfit n _ hWx);have hIXh := Lib.hid hIX;obtain ⟨B, hB⟩ := exHid (rightI X n);have hSq := hSS.out;rw [hB.out] at kR hSq;replace hSq := Lib.hid hSq;obtain ⟨XO, XA, XN, XT⟩ := X;injection hXe with e1 e2 e3 e4;subst e1 e2 e3 e4;unfold insV at kR;dsimp only at kR fin;clear hIX hWx hfit hSS;cases B with
     | true =>
       have hSe := hSq.out;simp only [↓reduceIte] at hSe;replace hSe := Lib.hid hSe;go_wp2_with fail
       refine kR.out.mono ?_;rintro e w20 ⟨rfl, hb20⟩;have hI20 := Lib.hid (hIXh.out.below hb20);clear z0 z1 z2 y0 y1 y2 y3 g1 g2 g3;obtain ⟨z0, z1, z2, y0, y1, y2, y3⟩ := hI20.out.cells;obtain ⟨x0, x1, x2, x3, h0, h1, h2, h3⟩ := hI20.out.free4;have E := Lib.hid (fin.out _ _ hI20.out);clear kR hb20 hIXh;go_wp2_with fail
       refine bodyPost_ret (results_cell_row rfl _ _ b4 _ _ (0, 0) _ rfl E.out.1 Tryd.underlying40 rfl (by kernel_rfl)) rfl ⟨rfl, ?_, E.out.2.2⟩;rw [hSe.out];exact E.out.2.1
     | false =>
       have hSe := hSq.out;simp only [Bool.false_eq_true, ↓reduceIte] at hSe;replace hSe := Lib.hid hSe;go_wp2_with fail
       refine kR.out.mono ?_;rintro e w20 ⟨rfl, hb20⟩;have hI20 := Lib.hid (hIXh.out.below hb20);have kQ := Lib.hid (refuse_any hI20.out.s (q := s.p) (c := 3) hple);clear kR hb20 hIXh z0 z1 z2 y0 y1 y2 y3 g1 g2 g3;go_wp2_with fail
       refine kQ.out.mono ?_;rintro e w21 ⟨rfl, hS21, ho21⟩;have hI21 := Lib.hid (hI20.out.field hS21 ho21);obtain ⟨z0, z1, z2, y0, y1, y2, y3⟩ := hI21.out.cells;obtain ⟨x0, x1, x2, x3, h0, h1, h2, h3⟩ := hI21.out.free4;have E := Lib.hid (fin.out _ _ hI21.out);clear kQ hS21 ho21;go_wp2_with fail
       refine bodyPost_ret (results_cell_row rfl _ _ b4 _ _ (0, 0) _ rfl E.out.1 Tryd.underlying40 rfl (by kernel_rfl)) rfl ⟨rfl, ?_, E.out.2.2⟩;rw [hSe.out];exact E.out.2.1
end
end Go.Proofs.YtfajfflbplnagaaDoor
