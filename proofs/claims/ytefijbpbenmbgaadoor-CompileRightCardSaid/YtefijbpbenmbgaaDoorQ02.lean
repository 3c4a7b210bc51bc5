/- A part of the proof: RTab, Nm, Kw. No condition. -/
import Derived.Test.YtefijbpbenmbgaaDoorRows
import Derived.WalkKit
import Derived.WalkSpells
import Derived.WalkLawsBesides
import Derived.Handy
import Derived.Lib.Hide
import Derived.LoopTactic
import Derived.Lib.IndexBytes
import Derived.Test.YtefijbpbenmbgaaDoorQ01
set_option linter.unusedVariables false
set_option linter.unusedSimpArgs false
namespace Go.Proofs.YtefijbpbenmbgaaDoor
open Go.RowKit
theorem sf_any (a : Addr) (f : Fn) (m : Mode) (w : World) : (store a (.func f #[] #[]) m).run Tryd.prog w = stored Tryd.prog w a (.func f #[] #[]) m := run_store _ _ _ _ _ rfl
theorem sn_any (a : Addr) (m : Mode) (w : World) : (store a .nilFunc m).run Tryd.prog w = stored Tryd.prog w a .nilFunc m := run_store _ _ _ _ _ rfl
theorem mk_any (w : World) : (Instr.makeMap 69 none).run Tryd.prog w = .ok (.map (some w.heap.size)) (w.alloc (.map #[] 0)) := by
 simp [Instr.makeMap, Result.andThen]
abbrev k_leaf : Array Value := #[Value.func (Fn.func 51) #[] #[], .int .i64 0, .int .i64 0, .nilFunc]
abbrev k_name : Array Value := #[Value.func (Fn.func 52) #[] #[], .int .i64 0, .int .i64 0, .nilFunc]
abbrev k_one : Array Value := #[Value.func (Fn.func 51) #[] #[], .int .i64 1, .int .i64 1, Value.func (Fn.func 53) #[] #[]]
abbrev k_two : Array Value := #[Value.func (Fn.func 51) #[] #[], .int .i64 2, .int .i64 2, Value.func (Fn.func 53) #[] #[]]
abbrev k_asked : Array Value := #[Value.func (Fn.func 52) #[] #[], .int .i64 0, .int .i64 2048, Value.func (Fn.func 53) #[] #[]]
def tabA : List (Nat × Value) := [(1, .agg #[Value.func (Fn.func 52) #[] #[], .int .i64 1, .int .i64 2048, Value.func (Fn.func 54) #[] #[]]), (2, .agg k_name), (3, .agg #[Value.func (Fn.func 51) #[] #[], .int .i64 0, .int .i64 2048, Value.func (Fn.func 55) #[] #[]]), (4, .agg #[Value.func (Fn.func 52) #[] #[], .int .i64 1, .int .i64 1, Value.func (Fn.func 53) #[] #[]]), (5, .agg #[Value.func (Fn.func 52) #[] #[], .int .i64 1, .int .i64 1, Value.func (Fn.func 53) #[] #[]]), (6, .agg #[Value.func (Fn.func 51) #[] #[], .int .i64 2, .int .i64 3, Value.func (Fn.func 56) #[] #[]]), (7, .agg #[Value.func (Fn.func 51) #[] #[], .int .i64 2, .int .i64 2, Value.func (Fn.func 56) #[] #[]]), (8, .agg k_one), (9, .agg k_one), (10, .agg k_one), (11, .agg k_one), (20, .agg k_leaf), (21, .agg k_leaf), (22, .agg k_leaf), (23, .agg k_leaf), (24, .agg #[Value.func (Fn.func 57) #[] #[], .int .i64 0, .int .i64 0, .nilFunc]), (25, .agg #[Value.func (Fn.func 51) #[] #[], .int .i64 0, .int .i64 2048, Value.func (Fn.func 53) #[] #[]]), (26, .agg k_name), (50, .agg k_asked), (51, .agg k_asked), (52, .agg k_one), (53, .agg #[Value.func (Fn.func 51) #[] #[], .int .i64 1, .int .i64 1, Value.func (Fn.func 58) #[] #[]]), (54, .agg k_one), (55, .agg k_one), (56, .agg k_name), (57, .agg k_leaf)]
def Five (w : World) (g : Nat) : Prop := w.heap[g + 0]? = some (.cells k_leaf 99 (0, 0)) ∧ w.heap[g + 1]? = some (.cells k_name 99 (0, 0)) ∧ w.heap[g + 2]? = some (.cells k_one 99 (0, 0)) ∧ w.heap[g + 3]? = some (.cells k_two 99 (0, 0)) ∧ w.heap[g + 4]? = some (.cells k_asked 99 (0, 0))
theorem Five.only {w W : World} {g b : Nat} (h : Five w g) (ho : Only (fun k => k = b) w W) (hb : g + 5 ≤ b) : Five W g := by
 obtain ⟨h0, h1, h2, h3, h4⟩ := h;refine ⟨?_, ?_, ?_, ?_, ?_⟩
 · exact (ho.block _ (Array.getElem?_eq_some_iff.1 h0).1 (by omega)).trans h0
 · exact (ho.block _ (Array.getElem?_eq_some_iff.1 h1).1 (by omega)).trans h1
 · exact (ho.block _ (Array.getElem?_eq_some_iff.1 h2).1 (by omega)).trans h2
 · exact (ho.block _ (Array.getElem?_eq_some_iff.1 h3).1 (by omega)).trans h3
 · exact (ho.block _ (Array.getElem?_eq_some_iff.1 h4).1 (by omega)).trans h4
theorem Five.cells {w : World} {g : Nat} (h : Five w g) : ∀ i (hi : i < 5) (j : Nat), w.cell? ⟨g + i, j, none⟩ = ((#[k_leaf, k_name, k_one, k_two, k_asked] : Array (Array Value))[i])[j]? := by
 obtain ⟨h0, h1, h2, h3, h4⟩ := h;intro i hi j
 match i, hi with
 | 0, _ => simp only [World.cell?, h0]; rfl
 | 1, _ => simp only [World.cell?, h1]; rfl
 | 2, _ => simp only [World.cell?, h2]; rfl
 | 3, _ => simp only [World.cell?, h3]; rfl
 | 4, _ => simp only [World.cell?, h4]; rfl
def more (lo n : Nat) (v : Value) : List (Nat × Value) := (List.range n).map fun i => (lo + i, v)
theorem more_succ (lo n : Nat) (v : Value) : more lo (n + 1) v = more lo n v ++ [(lo + n, v)] := by simp [more, List.range_succ]
theorem lookL_app : ∀ (a b : List (Nat × Value)) (k : Nat), lookL (a ++ b) k = (lookL a k).or (lookL b k)
 | [], _, _ => rfl
 | p :: a, b, k => by
   show (if p.1 = k then some p.2 else lookL (a ++ b) k) = _
   rw [lookL_app a b k];unfold lookL;by_cases h : p.1 = k
   · rw [if_pos h, if_pos h]; rfl
   · rw [if_neg h, if_neg h]; cases a <;> rfl
theorem look_none {lo : Nat} {v : Value} : ∀ n k, lo + n ≤ k → lookL (more lo n v) k = none
 | 0, _, _ => rfl
 | n + 1, k, h => by
   rw [more_succ, lookL_app, look_none n k (by omega)];show (if lo + n = k then some v else none) = none
   rw [if_neg (by omega)]
theorem look_more {L : List (Nat × Value)} {lo n : Nat} {v : Value} (h : lookL L (lo + n) = none) : lookL (L ++ more lo n v) (lo + n) = none := by
 rw [lookL_app, h, look_none n _ (Nat.le_refl _)]; rfl
theorem kept_alloc {w : World} {o x : Obj} {i : Nat} (h : w.heap[i]? = some x) : (w.alloc o).heap[i]? = some x :=
 (Below.heap_alloc w o i (Array.getElem?_eq_some_iff.1 h).1).trans h
theorem new_alloc {w : World} {n : Nat} {o : Obj} (hn : w.heap.size = n) : (w.alloc o).heap[n]? = some o := by subst hn; exact heap_alloc_new w o
def tabL : List (Nat × Value) := tabA ++ more 30 13 (.agg k_two) ++ more 43 6 (.agg k_one)
theorem tabB_43 : ∀ n, n < 6 → lookL (tabA ++ more 30 13 (.agg k_two)) (43 + n) = none := by
 intro n hn;rw [lookL_app, look_none 13 _ (by omega)]
 match n, hn with
 | 0, _ | 1, _ | 2, _ | 3, _ | 4, _ | 5, _ => rfl
 | n + 6, h => omega
theorem tabA_30 : ∀ n, n < 13 → lookL tabA (30 + n) = none := by
 intro n hn
 match n, hn with
 | 0, _ | 1, _ | 2, _ | 3, _ | 4, _ | 5, _ | 6, _ | 7, _ | 8, _ | 9, _ | 10, _ | 11, _ | 12, _ => rfl
 | n + 13, h => omega
theorem KMap.lit {P : Program} {w : World} {b : Nat} {L : List (Nat × Value)} {k e t : TypeId} (h : KMap w b L) (hk : P.underlying k = some (.int .u8)) (ht : P.underlying t = some (.map k e)) (x : Nat) (y : Int) (hy : y = (x : Int)) (v : Value) (hn : lookL L x = none) :
   ∃ w', (Instr.mapUpdate t (.map (some b)) (.int .u8 y) v).run P w = .ok () w' ∧ KMap w' b (L ++ [(x, v)]) ∧ Only (fun k => k = b) w w' := by
 subst hy;exact h.put hk ht x v hn
set_option maxRecDepth 20000 in
set_option maxHeartbeats 4000000 in
theorem table_any (w : World) :
   Calls Tryd.prog 31 #[] w fun e w' => ∃ b, e = .returned (.map (some b)) ∧ KMap w' b tabL ∧ Below w.heap.size w w' := by
 have hsf := sf_any;have hsn := sn_any;have hBW := Lib.hid ((((((Below.refl w.heap.size w).alloc (Nat.le_refl _) (.cells k_leaf 99)).alloc (by simp) (.cells k_name 99)).alloc (by simp; omega) (.cells k_one 99)).alloc (by simp; omega) (.cells k_two 99)).alloc (by simp; omega) (.cells k_asked 99) |>.alloc (by simp; omega) (.map #[] 0));have hsz := Lib.hid hBW.out.size;have F0 : Five ((((((w.alloc (.cells k_leaf 99)).alloc (.cells k_name 99)).alloc (.cells k_one 99)).alloc (.cells k_two 99)).alloc (.cells k_asked 99)).alloc (.map #[] 0)) w.heap.size :=
   ⟨kept_alloc (kept_alloc (kept_alloc (kept_alloc (kept_alloc (new_alloc rfl))))), kept_alloc (kept_alloc (kept_alloc (kept_alloc (new_alloc (by simp))))), kept_alloc (kept_alloc (kept_alloc (new_alloc (by simp)))), kept_alloc (kept_alloc (new_alloc (by simp))), kept_alloc (new_alloc (by simp))⟩
 have M0 : KMap ((((((w.alloc (.cells k_leaf 99)).alloc (.cells k_name 99)).alloc (.cells k_one 99)).alloc (.cells k_two 99)).alloc (.cells k_asked 99)).alloc (.map #[] 0)) (w.heap.size + 1 + 1 + 1 + 1 + 1) [] := by
   have := KMap.made (((((w.alloc (.cells k_leaf 99)).alloc (.cells k_name 99)).alloc (.cells k_one 99)).alloc (.cells k_two 99)).alloc (.cells k_asked 99))
   simpa using this
 have hmk := mk_any;obtain ⟨w1, r1, M1, O1⟩ := M0.lit (P := Tryd.prog) (e := 99) Tryd.underlying5 Tryd.underlying69 1 1 rfl (.agg #[Value.func (Fn.func 52) #[] #[], .int .i64 1, .int .i64 2048, Value.func (Fn.func 54) #[] #[]]) (by rfl);have F1 := F0.only O1 (Nat.le_refl _);obtain ⟨w2, r2, M2, O2⟩ := M1.lit (P := Tryd.prog) (e := 99) Tryd.underlying5 Tryd.underlying69 2 2 rfl (.agg #[Value.func (Fn.func 52) #[] #[], .int .i64 0, .int .i64 0, .nilFunc]) (by rfl);have c1_0 : w1.cell? ⟨w.heap.size + 1, 0, none⟩ = some (Value.func (Fn.func 52) #[] #[]) := F1.cells 1 (by decide) 0;have c1_1 : w1.cell? ⟨w.heap.size + 1, 1, none⟩ = some (.int .i64 0) := F1.cells 1 (by decide) 1;have c1_2 : w1.cell? ⟨w.heap.size + 1, 2, none⟩ = some (.int .i64 0) := F1.cells 1 (by decide) 2;have c1_3 : w1.cell? ⟨w.heap.size + 1, 3, none⟩ = some (.nilFunc) := F1.cells 1 (by decide) 3;have F2 := F1.only O2 (Nat.le_refl _);obtain ⟨w3, r3, M3, O3⟩ := M2.lit (P := Tryd.prog) (e := 99) Tryd.underlying5 Tryd.underlying69 3 3 rfl (.agg #[Value.func (Fn.func 51) #[] #[], .int .i64 0, .int .i64 2048, Value.func (Fn.func 55) #[] #[]]) (by rfl);have F3 := F2.only O3 (Nat.le_refl _);obtain ⟨w4, r4, M4, O4⟩ := M3.lit (P := Tryd.prog) (e := 99) Tryd.underlying5 Tryd.underlying69 4 4 rfl (.agg #[Value.func (Fn.func 52) #[] #[], .int .i64 1, .int .i64 1, Value.func (Fn.func 53) #[] #[]]) (by rfl);have F4 := F3.only O4 (Nat.le_refl _);obtain ⟨w5, r5, M5, O5⟩ := M4.lit (P := Tryd.prog) (e := 99) Tryd.underlying5 Tryd.underlying69 5 5 rfl (.agg #[Value.func (Fn.func 52) #[] #[], .int .i64 1, .int .i64 1, Value.func (Fn.func 53) #[] #[]]) (by rfl);have F5 := F4.only O5 (Nat.le_refl _);obtain ⟨w6, r6, M6, O6⟩ := M5.lit (P := Tryd.prog) (e := 99) Tryd.underlying5 Tryd.underlying69 6 6 rfl (.agg #[Value.func (Fn.func 51) #[] #[], .int .i64 2, .int .i64 3, Value.func (Fn.func 56) #[] #[]]) (by rfl);have F6 := F5.only O6 (Nat.le_refl _);obtain ⟨w7, r7, M7, O7⟩ := M6.lit (P := Tryd.prog) (e := 99) Tryd.underlying5 Tryd.underlying69 7 7 rfl (.agg #[Value.func (Fn.func 51) #[] #[], .int .i64 2, .int .i64 2, Value.func (Fn.func 56) #[] #[]]) (by rfl);have F7 := F6.only O7 (Nat.le_refl _);obtain ⟨w8, r8, M8, O8⟩ := M7.lit (P := Tryd.prog) (e := 99) Tryd.underlying5 Tryd.underlying69 8 8 rfl (.agg #[Value.func (Fn.func 51) #[] #[], .int .i64 1, .int .i64 1, Value.func (Fn.func 53) #[] #[]]) (by rfl);have c7_0 : w7.cell? ⟨w.heap.size + 1 + 1, 0, none⟩ = some (Value.func (Fn.func 51) #[] #[]) := F7.cells 2 (by decide) 0;have c7_1 : w7.cell? ⟨w.heap.size + 1 + 1, 1, none⟩ = some (.int .i64 1) := F7.cells 2 (by decide) 1;have c7_2 : w7.cell? ⟨w.heap.size + 1 + 1, 2, none⟩ = some (.int .i64 1) := F7.cells 2 (by decide) 2;have c7_3 : w7.cell? ⟨w.heap.size + 1 + 1, 3, none⟩ = some (Value.func (Fn.func 53) #[] #[]) := F7.cells 2 (by decide) 3;have F8 := F7.only O8 (Nat.le_refl _);obtain ⟨w9, r9, M9, O9⟩ := M8.lit (P := Tryd.prog) (e := 99) Tryd.underlying5 Tryd.underlying69 9 9 rfl (.agg #[Value.func (Fn.func 51) #[] #[], .int .i64 1, .int .i64 1, Value.func (Fn.func 53) #[] #[]]) (by rfl)
 have c8_0 : w8.cell? ⟨w.heap.size + 1 + 1, 0, none⟩ = some (Value.func (Fn.func 51) #[] #[]) := F8.cells 2 (by decide) 0;have c8_1 : w8.cell? ⟨w.heap.size + 1 + 1, 1, none⟩ = some (.int .i64 1) := F8.cells 2 (by decide) 1;have c8_2 : w8.cell? ⟨w.heap.size + 1 + 1, 2, none⟩ = some (.int .i64 1) := F8.cells 2 (by decide) 2;have c8_3 : w8.cell? ⟨w.heap.size + 1 + 1, 3, none⟩ = some (Value.func (Fn.func 53) #[] #[]) := F8.cells 2 (by decide) 3;have F9 := F8.only O9 (Nat.le_refl _);obtain ⟨w10, r10, M10, O10⟩ := M9.lit (P := Tryd.prog) (e := 99) Tryd.underlying5 Tryd.underlying69 10 10 rfl (.agg #[Value.func (Fn.func 51) #[] #[], .int .i64 1, .int .i64 1, Value.func (Fn.func 53) #[] #[]]) (by rfl);have c9_0 : w9.cell? ⟨w.heap.size + 1 + 1, 0, none⟩ = some (Value.func (Fn.func 51) #[] #[]) := F9.cells 2 (by decide) 0;have c9_1 : w9.cell? ⟨w.heap.size + 1 + 1, 1, none⟩ = some (.int .i64 1) := F9.cells 2 (by decide) 1;have c9_2 : w9.cell? ⟨w.heap.size + 1 + 1, 2, none⟩ = some (.int .i64 1) := F9.cells 2 (by decide) 2;have c9_3 : w9.cell? ⟨w.heap.size + 1 + 1, 3, none⟩ = some (Value.func (Fn.func 53) #[] #[]) := F9.cells 2 (by decide) 3;have F10 := F9.only O10 (Nat.le_refl _);obtain ⟨w11, r11, M11, O11⟩ := M10.lit (P := Tryd.prog) (e := 99) Tryd.underlying5 Tryd.underlying69 11 11 rfl (.agg #[Value.func (Fn.func 51) #[] #[], .int .i64 1, .int .i64 1, Value.func (Fn.func 53) #[] #[]]) (by rfl);have c10_0 : w10.cell? ⟨w.heap.size + 1 + 1, 0, none⟩ = some (Value.func (Fn.func 51) #[] #[]) := F10.cells 2 (by decide) 0;have c10_1 : w10.cell? ⟨w.heap.size + 1 + 1, 1, none⟩ = some (.int .i64 1) := F10.cells 2 (by decide) 1;have c10_2 : w10.cell? ⟨w.heap.size + 1 + 1, 2, none⟩ = some (.int .i64 1) := F10.cells 2 (by decide) 2;have c10_3 : w10.cell? ⟨w.heap.size + 1 + 1, 3, none⟩ = some (Value.func (Fn.func 53) #[] #[]) := F10.cells 2 (by decide) 3;have F11 := F10.only O11 (Nat.le_refl _);obtain ⟨w12, r12, M12, O12⟩ := M11.lit (P := Tryd.prog) (e := 99) Tryd.underlying5 Tryd.underlying69 20 20 rfl (.agg #[Value.func (Fn.func 51) #[] #[], .int .i64 0, .int .i64 0, .nilFunc]) (by rfl);have c11_0 : w11.cell? ⟨w.heap.size, 0, none⟩ = some (Value.func (Fn.func 51) #[] #[]) := F11.cells 0 (by decide) 0;have c11_1 : w11.cell? ⟨w.heap.size, 1, none⟩ = some (.int .i64 0) := F11.cells 0 (by decide) 1;have c11_2 : w11.cell? ⟨w.heap.size, 2, none⟩ = some (.int .i64 0) := F11.cells 0 (by decide) 2;have c11_3 : w11.cell? ⟨w.heap.size, 3, none⟩ = some (.nilFunc) := F11.cells 0 (by decide) 3;have F12 := F11.only O12 (Nat.le_refl _);obtain ⟨w13, r13, M13, O13⟩ := M12.lit (P := Tryd.prog) (e := 99) Tryd.underlying5 Tryd.underlying69 21 21 rfl (.agg #[Value.func (Fn.func 51) #[] #[], .int .i64 0, .int .i64 0, .nilFunc]) (by rfl);have c12_0 : w12.cell? ⟨w.heap.size, 0, none⟩ = some (Value.func (Fn.func 51) #[] #[]) := F12.cells 0 (by decide) 0;have c12_1 : w12.cell? ⟨w.heap.size, 1, none⟩ = some (.int .i64 0) := F12.cells 0 (by decide) 1;have c12_2 : w12.cell? ⟨w.heap.size, 2, none⟩ = some (.int .i64 0) := F12.cells 0 (by decide) 2
 have c12_3 : w12.cell? ⟨w.heap.size, 3, none⟩ = some (.nilFunc) := F12.cells 0 (by decide) 3;have F13 := F12.only O13 (Nat.le_refl _);obtain ⟨w14, r14, M14, O14⟩ := M13.lit (P := Tryd.prog) (e := 99) Tryd.underlying5 Tryd.underlying69 22 22 rfl (.agg #[Value.func (Fn.func 51) #[] #[], .int .i64 0, .int .i64 0, .nilFunc]) (by rfl);have c13_0 : w13.cell? ⟨w.heap.size, 0, none⟩ = some (Value.func (Fn.func 51) #[] #[]) := F13.cells 0 (by decide) 0;have c13_1 : w13.cell? ⟨w.heap.size, 1, none⟩ = some (.int .i64 0) := F13.cells 0 (by decide) 1;have c13_2 : w13.cell? ⟨w.heap.size, 2, none⟩ = some (.int .i64 0) := F13.cells 0 (by decide) 2;have c13_3 : w13.cell? ⟨w.heap.size, 3, none⟩ = some (.nilFunc) := F13.cells 0 (by decide) 3;have F14 := F13.only O14 (Nat.le_refl _);obtain ⟨w15, r15, M15, O15⟩ := M14.lit (P := Tryd.prog) (e := 99) Tryd.underlying5 Tryd.underlying69 23 23 rfl (.agg #[Value.func (Fn.func 51) #[] #[], .int .i64 0, .int .i64 0, .nilFunc]) (by rfl);have c14_0 : w14.cell? ⟨w.heap.size, 0, none⟩ = some (Value.func (Fn.func 51) #[] #[]) := F14.cells 0 (by decide) 0;have c14_1 : w14.cell? ⟨w.heap.size, 1, none⟩ = some (.int .i64 0) := F14.cells 0 (by decide) 1;have c14_2 : w14.cell? ⟨w.heap.size, 2, none⟩ = some (.int .i64 0) := F14.cells 0 (by decide) 2;have c14_3 : w14.cell? ⟨w.heap.size, 3, none⟩ = some (.nilFunc) := F14.cells 0 (by decide) 3;have F15 := F14.only O15 (Nat.le_refl _);obtain ⟨w16, r16, M16, O16⟩ := M15.lit (P := Tryd.prog) (e := 99) Tryd.underlying5 Tryd.underlying69 24 24 rfl (.agg #[Value.func (Fn.func 57) #[] #[], .int .i64 0, .int .i64 0, .nilFunc]) (by rfl);have F16 := F15.only O16 (Nat.le_refl _);obtain ⟨w17, r17, M17, O17⟩ := M16.lit (P := Tryd.prog) (e := 99) Tryd.underlying5 Tryd.underlying69 25 25 rfl (.agg #[Value.func (Fn.func 51) #[] #[], .int .i64 0, .int .i64 2048, Value.func (Fn.func 53) #[] #[]]) (by rfl);have F17 := F16.only O17 (Nat.le_refl _);obtain ⟨w18, r18, M18, O18⟩ := M17.lit (P := Tryd.prog) (e := 99) Tryd.underlying5 Tryd.underlying69 26 26 rfl (.agg #[Value.func (Fn.func 52) #[] #[], .int .i64 0, .int .i64 0, .nilFunc]) (by rfl);have c17_0 : w17.cell? ⟨w.heap.size + 1, 0, none⟩ = some (Value.func (Fn.func 52) #[] #[]) := F17.cells 1 (by decide) 0;have c17_1 : w17.cell? ⟨w.heap.size + 1, 1, none⟩ = some (.int .i64 0) := F17.cells 1 (by decide) 1;have c17_2 : w17.cell? ⟨w.heap.size + 1, 2, none⟩ = some (.int .i64 0) := F17.cells 1 (by decide) 2;have c17_3 : w17.cell? ⟨w.heap.size + 1, 3, none⟩ = some (.nilFunc) := F17.cells 1 (by decide) 3;have F18 := F17.only O18 (Nat.le_refl _);obtain ⟨w19, r19, M19, O19⟩ := M18.lit (P := Tryd.prog) (e := 99) Tryd.underlying5 Tryd.underlying69 50 50 rfl (.agg #[Value.func (Fn.func 52) #[] #[], .int .i64 0, .int .i64 2048, Value.func (Fn.func 53) #[] #[]]) (by rfl);have c18_0 : w18.cell? ⟨w.heap.size + 1 + 1 + 1 + 1, 0, none⟩ = some (Value.func (Fn.func 52) #[] #[]) := F18.cells 4 (by decide) 0;have c18_1 : w18.cell? ⟨w.heap.size + 1 + 1 + 1 + 1, 1, none⟩ = some (.int .i64 0) := F18.cells 4 (by decide) 1
 have c18_2 : w18.cell? ⟨w.heap.size + 1 + 1 + 1 + 1, 2, none⟩ = some (.int .i64 2048) := F18.cells 4 (by decide) 2;have c18_3 : w18.cell? ⟨w.heap.size + 1 + 1 + 1 + 1, 3, none⟩ = some (Value.func (Fn.func 53) #[] #[]) := F18.cells 4 (by decide) 3;have F19 := F18.only O19 (Nat.le_refl _);obtain ⟨w20, r20, M20, O20⟩ := M19.lit (P := Tryd.prog) (e := 99) Tryd.underlying5 Tryd.underlying69 51 51 rfl (.agg #[Value.func (Fn.func 52) #[] #[], .int .i64 0, .int .i64 2048, Value.func (Fn.func 53) #[] #[]]) (by rfl);have c19_0 : w19.cell? ⟨w.heap.size + 1 + 1 + 1 + 1, 0, none⟩ = some (Value.func (Fn.func 52) #[] #[]) := F19.cells 4 (by decide) 0;have c19_1 : w19.cell? ⟨w.heap.size + 1 + 1 + 1 + 1, 1, none⟩ = some (.int .i64 0) := F19.cells 4 (by decide) 1;have c19_2 : w19.cell? ⟨w.heap.size + 1 + 1 + 1 + 1, 2, none⟩ = some (.int .i64 2048) := F19.cells 4 (by decide) 2;have c19_3 : w19.cell? ⟨w.heap.size + 1 + 1 + 1 + 1, 3, none⟩ = some (Value.func (Fn.func 53) #[] #[]) := F19.cells 4 (by decide) 3;have F20 := F19.only O20 (Nat.le_refl _);obtain ⟨w21, r21, M21, O21⟩ := M20.lit (P := Tryd.prog) (e := 99) Tryd.underlying5 Tryd.underlying69 52 52 rfl (.agg #[Value.func (Fn.func 51) #[] #[], .int .i64 1, .int .i64 1, Value.func (Fn.func 53) #[] #[]]) (by rfl);have c20_0 : w20.cell? ⟨w.heap.size + 1 + 1, 0, none⟩ = some (Value.func (Fn.func 51) #[] #[]) := F20.cells 2 (by decide) 0;have c20_1 : w20.cell? ⟨w.heap.size + 1 + 1, 1, none⟩ = some (.int .i64 1) := F20.cells 2 (by decide) 1;have c20_2 : w20.cell? ⟨w.heap.size + 1 + 1, 2, none⟩ = some (.int .i64 1) := F20.cells 2 (by decide) 2;have c20_3 : w20.cell? ⟨w.heap.size + 1 + 1, 3, none⟩ = some (Value.func (Fn.func 53) #[] #[]) := F20.cells 2 (by decide) 3;have F21 := F20.only O21 (Nat.le_refl _);obtain ⟨w22, r22, M22, O22⟩ := M21.lit (P := Tryd.prog) (e := 99) Tryd.underlying5 Tryd.underlying69 53 53 rfl (.agg #[Value.func (Fn.func 51) #[] #[], .int .i64 1, .int .i64 1, Value.func (Fn.func 58) #[] #[]]) (by rfl);have F22 := F21.only O22 (Nat.le_refl _);obtain ⟨w23, r23, M23, O23⟩ := M22.lit (P := Tryd.prog) (e := 99) Tryd.underlying5 Tryd.underlying69 54 54 rfl (.agg #[Value.func (Fn.func 51) #[] #[], .int .i64 1, .int .i64 1, Value.func (Fn.func 53) #[] #[]]) (by rfl);have c22_0 : w22.cell? ⟨w.heap.size + 1 + 1, 0, none⟩ = some (Value.func (Fn.func 51) #[] #[]) := F22.cells 2 (by decide) 0;have c22_1 : w22.cell? ⟨w.heap.size + 1 + 1, 1, none⟩ = some (.int .i64 1) := F22.cells 2 (by decide) 1;have c22_2 : w22.cell? ⟨w.heap.size + 1 + 1, 2, none⟩ = some (.int .i64 1) := F22.cells 2 (by decide) 2;have c22_3 : w22.cell? ⟨w.heap.size + 1 + 1, 3, none⟩ = some (Value.func (Fn.func 53) #[] #[]) := F22.cells 2 (by decide) 3;have F23 := F22.only O23 (Nat.le_refl _);obtain ⟨w24, r24, M24, O24⟩ := M23.lit (P := Tryd.prog) (e := 99) Tryd.underlying5 Tryd.underlying69 55 55 rfl (.agg #[Value.func (Fn.func 51) #[] #[], .int .i64 1, .int .i64 1, Value.func (Fn.func 53) #[] #[]]) (by rfl);have c23_0 : w23.cell? ⟨w.heap.size + 1 + 1, 0, none⟩ = some (Value.func (Fn.func 51) #[] #[]) := F23.cells 2 (by decide) 0
 have c23_1 : w23.cell? ⟨w.heap.size + 1 + 1, 1, none⟩ = some (.int .i64 1) := F23.cells 2 (by decide) 1;have c23_2 : w23.cell? ⟨w.heap.size + 1 + 1, 2, none⟩ = some (.int .i64 1) := F23.cells 2 (by decide) 2;have c23_3 : w23.cell? ⟨w.heap.size + 1 + 1, 3, none⟩ = some (Value.func (Fn.func 53) #[] #[]) := F23.cells 2 (by decide) 3;have F24 := F23.only O24 (Nat.le_refl _);obtain ⟨w25, r25, M25, O25⟩ := M24.lit (P := Tryd.prog) (e := 99) Tryd.underlying5 Tryd.underlying69 56 56 rfl (.agg #[Value.func (Fn.func 52) #[] #[], .int .i64 0, .int .i64 0, .nilFunc]) (by rfl);have c24_0 : w24.cell? ⟨w.heap.size + 1, 0, none⟩ = some (Value.func (Fn.func 52) #[] #[]) := F24.cells 1 (by decide) 0;have c24_1 : w24.cell? ⟨w.heap.size + 1, 1, none⟩ = some (.int .i64 0) := F24.cells 1 (by decide) 1;have c24_2 : w24.cell? ⟨w.heap.size + 1, 2, none⟩ = some (.int .i64 0) := F24.cells 1 (by decide) 2;have c24_3 : w24.cell? ⟨w.heap.size + 1, 3, none⟩ = some (.nilFunc) := F24.cells 1 (by decide) 3;have F25 := F24.only O25 (Nat.le_refl _);obtain ⟨w26, r26, M26, O26⟩ := M25.lit (P := Tryd.prog) (e := 99) Tryd.underlying5 Tryd.underlying69 57 57 rfl (.agg #[Value.func (Fn.func 51) #[] #[], .int .i64 0, .int .i64 0, .nilFunc]) (by rfl);have c25_0 : w25.cell? ⟨w.heap.size, 0, none⟩ = some (Value.func (Fn.func 51) #[] #[]) := F25.cells 0 (by decide) 0;have c25_1 : w25.cell? ⟨w.heap.size, 1, none⟩ = some (.int .i64 0) := F25.cells 0 (by decide) 1;have c25_2 : w25.cell? ⟨w.heap.size, 2, none⟩ = some (.int .i64 0) := F25.cells 0 (by decide) 2;have c25_3 : w25.cell? ⟨w.heap.size, 3, none⟩ = some (.nilFunc) := F25.cells 0 (by decide) 3;have F26 := F25.only O26 (Nat.le_refl _);clear M0 F0;clear M1 F1;clear M2 F2;clear M3 F3;clear M4 F4;clear M5 F5;clear M6 F6;clear M7 F7;clear M8 F8;clear M9 F9;clear M10 F10;clear M11 F11;clear M12 F12;clear M13 F13;clear M14 F14;clear M15 F15;clear M16 F16;clear M17 F17;clear M18 F18;clear M19 F19;clear M20 F20;clear M21 F21;clear M22 F22;clear M23 F23;clear M24 F24;clear M25 F25;replace O1 := Lib.hid O1;replace O1 := Lib.hid (O1.out.then O2); clear O2;replace O1 := Lib.hid (O1.out.then O3); clear O3;replace O1 := Lib.hid (O1.out.then O4); clear O4;replace O1 := Lib.hid (O1.out.then O5); clear O5;replace O1 := Lib.hid (O1.out.then O6); clear O6;replace O1 := Lib.hid (O1.out.then O7); clear O7;replace O1 := Lib.hid (O1.out.then O8); clear O8;replace O1 := Lib.hid (O1.out.then O9); clear O9;replace O1 := Lib.hid (O1.out.then O10); clear O10;replace O1 := Lib.hid (O1.out.then O11); clear O11;replace O1 := Lib.hid (O1.out.then O12); clear O12;replace O1 := Lib.hid (O1.out.then O13); clear O13;replace O1 := Lib.hid (O1.out.then O14); clear O14;replace O1 := Lib.hid (O1.out.then O15); clear O15;replace O1 := Lib.hid (O1.out.then O16); clear O16;replace O1 := Lib.hid (O1.out.then O17); clear O17;replace O1 := Lib.hid (O1.out.then O18); clear O18;replace O1 := Lib.hid (O1.out.then O19); clear O19
 replace O1 := Lib.hid (O1.out.then O20); clear O20;replace O1 := Lib.hid (O1.out.then O21); clear O21;replace O1 := Lib.hid (O1.out.then O22); clear O22;replace O1 := Lib.hid (O1.out.then O23); clear O23;replace O1 := Lib.hid (O1.out.then O24); clear O24;replace O1 := Lib.hid (O1.out.then O25); clear O25;replace O1 := Lib.hid (O1.out.then O26); clear O26;replace M26 := Lib.hid M26;replace F26 := Lib.hid F26;go_enter Tryd.func31, Tryd.ntmps31
 go_wp2_with fail
 replace M26 := Lib.hid (show KMap w26 (w.heap.size + 1 + 1 + 1 + 1 + 1) tabA from M26.out);go_loopw [7] (fun tk wr => ∃ n : Nat, n ≤ 13 ∧ tk = .int .u8 ((30 + n : Nat) : Int) ∧ Hid (KMap wr (w.heap.size + 1 + 1 + 1 + 1 + 1) (tabA ++ more 30 n (.agg k_two))) ∧ Hid (Only (fun k => k = w.heap.size + 1 + 1 + 1 + 1 + 1) w26 wr)) (fun tk _ => 256 - (intOf tk).toNat)
 case atStart => exact ⟨0, by omega, rfl, Lib.hid (by simpa [more] using M26.out), Only.refl _ _⟩
 case round =>
   obtain ⟨n, hn, rfl, hM, hO⟩ := hrel;have hF := F26.out.only hO.out (Nat.le_refl _);rcases Nat.lt_or_ge n 13 with hlt | hge
   · have hi : ((30 + n : Nat) : Int) ≤ 42 := by omega
     have c0 : wr.cell? ⟨w.heap.size + 1 + 1 + 1, 0, none⟩ = some (Value.func (Fn.func 51) #[] #[]) := hF.cells 3 (by decide) 0;have c1 : wr.cell? ⟨w.heap.size + 1 + 1 + 1, 1, none⟩ = some (.int .i64 2) := hF.cells 3 (by decide) 1;have c2 : wr.cell? ⟨w.heap.size + 1 + 1 + 1, 2, none⟩ = some (.int .i64 2) := hF.cells 3 (by decide) 2;have c3 : wr.cell? ⟨w.heap.size + 1 + 1 + 1, 3, none⟩ = some (Value.func (Fn.func 53) #[] #[]) := hF.cells 3 (by decide) 3;have hnew := Lib.hid (look_more (lo := 30) (v := .agg k_two) (tabA_30 n hlt));replace hF := Lib.hid hF;generalize hq : 30 + n = q at *;go_wp2_with (at_mapUpdate; (refine wpList_put_k rfl _ _ _ 69 5 99 (.inl rfl) Tryd.underlying5 Tryd.underlying69 hM.out q _ rfl rfl rfl hnew.out ?_; intro w' hM' hO'))
     go_roundw
     case rel => exact ⟨n + 1, by omega, by rw [show 30 + (n + 1) = q + 1 by omega]; go_num, Lib.hid (by rw [more_succ 30 n, hq, ← List.append_assoc]; exact hM'), Lib.hid (hO.out.then hO')⟩
     case measure => simp [intOf]; omega
   · obtain rfl : n = 13 := by omega
     have hi : ¬ ((30 + 13 : Nat) : Int) ≤ 42 := by omega
     go_wp2_with fail
     generalize hq0 : wr = wq0 at *;replace hq0 := Lib.hid hq0;go_loopw [8] (fun tk wr => ∃ n : Nat, n ≤ 6 ∧ tk = .int .u8 ((43 + n : Nat) : Int) ∧ Hid (KMap wr (w.heap.size + 1 + 1 + 1 + 1 + 1) (tabA ++ more 30 13 (.agg k_two) ++ more 43 n (.agg k_one))) ∧ Hid (Only (fun k => k = w.heap.size + 1 + 1 + 1 + 1 + 1) w26 wr)) (fun tk _ => 256 - (intOf tk).toNat)
     case atStart => exact ⟨0, by omega, rfl, Lib.hid (by simpa [more] using hM.out), hO⟩
     case round =>
       obtain ⟨n, hn, rfl, hM, hO⟩ := hrel;have hF := F26.out.only hO.out (Nat.le_refl _);rcases Nat.lt_or_ge n 6 with hlt | hge
       · have hi : ((43 + n : Nat) : Int) ≤ 48 := by omega
         have c0 : wr.cell? ⟨w.heap.size + 1 + 1, 0, none⟩ = some (Value.func (Fn.func 51) #[] #[]) := hF.cells 2 (by decide) 0;have c1 : wr.cell? ⟨w.heap.size + 1 + 1, 1, none⟩ = some (.int .i64 1) := hF.cells 2 (by decide) 1;have c2 : wr.cell? ⟨w.heap.size + 1 + 1, 2, none⟩ = some (.int .i64 1) := hF.cells 2 (by decide) 2;have c3 : wr.cell? ⟨w.heap.size + 1 + 1, 3, none⟩ = some (Value.func (Fn.func 53) #[] #[]) := hF.cells 2 (by decide) 3;have hnew := Lib.hid (look_more (lo := 43) (v := .agg k_one) (tabB_43 n hlt));replace hF := Lib.hid hF;generalize hq : 43 + n = q at *;go_wp2_with (at_mapUpdate; (refine wpList_put_k rfl _ _ _ 69 5 99 (.inl rfl) Tryd.underlying5 Tryd.underlying69 hM.out q _ rfl rfl rfl hnew.out ?_; intro w' hM' hO'))
         go_roundw
         case rel => exact ⟨n + 1, by omega, by rw [show 43 + (n + 1) = q + 1 by omega]; go_num, Lib.hid (by rw [more_succ 43 n, hq, ← List.append_assoc]; exact hM'), Lib.hid (hO.out.then hO')⟩
         case measure => simp [intOf]; omega
       · obtain rfl : n = 6 := by omega
         have hi : ¬ ((43 + 6 : Nat) : Int) ≤ 48 := by omega
         go_wp2_with fail
         go_ret
         exact ⟨_, rfl, hM.out, hBW.out.trans (O1.out.below hsz.out (fun k hk e => by omega)) |>.trans (hO.out.below (Nat.le_trans hsz.out O1.out.size) (fun k hk e => by omega))⟩
end Go.Proofs.YtefijbpbenmbgaaDoor
namespace Go.Proofs.YtefijbpbenmbgaaDoor
open Go.RowKit
def letC (c : UInt8) : Bool := decide (97 ≤ c.toNat ∧ c.toNat ≤ 122)
def restC (c : UInt8) : Bool := letC c || decide (48 ≤ c.toNat ∧ c.toNat ≤ 57) || decide (c.toNat = 95)
def nameL (l : List UInt8) : Bool := match l with
 | [] => false
 | c :: r => decide (r.length < 24) && letC c && r.all restC
theorem bytes_len (s : ByteArray) : s.data.toList.length = s.size := Array.length_toList
theorem list_head (s : ByteArray) (h : 0 < s.size) : s.data.toList = s[0] :: s.data.toList.drop 1 := by
 have h' : 0 < s.data.toList.length := by rw [bytes_len]; exact h
 have := List.drop_eq_getElem_cons h';rw [List.drop_zero] at this;exact this
theorem list_none (s : ByteArray) (h : ¬ 0 < s.size) : s.data.toList = [] := by
 apply List.eq_nil_of_length_eq_zero
 rw [bytes_len];omega
theorem letC_rest {c : UInt8} (h : letC c = true) : restC c = true := by simp [restC, h]
def AllR (l : List UInt8) : Prop := l.all restC = true
theorem AllR.more {s : ByteArray} {k : Nat} (h : AllR (s.data.toList.take k)) (hk : k < s.size) (hc : restC s[k] = true) : AllR (s.data.toList.take (k + 1)) := by
 have hk' : k < s.data.toList.length := by rw [bytes_len]; exact hk
 unfold AllR at h ⊢;rw [List.take_succ_eq_append_getElem hk', List.all_append, h];have : s.data.toList[k] = s[k] := rfl;simp [this, hc]
theorem AllR.all {s : ByteArray} {k : Nat} (h : AllR (s.data.toList.take k)) (hk : s.size ≤ k) : AllR s.data.toList := by
 rw [List.take_of_length_le (by rw [bytes_len]; exact hk)] at h;exact h
theorem nameL_of {s : ByteArray} (h0 : 0 < s.size) (h1 : s.size ≤ 24) (h2 : letC s[0] = true) (h : AllR s.data.toList) : nameL s.data.toList = true := by
 have hl := bytes_len s;have hh := list_head s h0;unfold AllR at h;rw [hh] at h ⊢;rw [hh] at hl;simp only [List.length_cons] at hl;simp only [List.all_cons, Bool.and_eq_true] at h;unfold nameL;simp only
 rw [h.2, h2];simp
 simp at hl
 omega
theorem nameL_first {s : ByteArray} (h0 : 0 < s.size) (h2 : letC s[0] = false) : nameL s.data.toList = false := by
 rw [list_head s h0];unfold nameL;simp only
 rw [h2];simp
theorem nameL_none {s : ByteArray} (h0 : ¬ 0 < s.size) : nameL s.data.toList = false := by
 rw [list_none s h0]; rfl
theorem nameL_long {s : ByteArray} (h0 : 24 < s.size) : nameL s.data.toList = false := by
 have hl := bytes_len s;have hh := list_head s (by omega);rw [hh] at hl ⊢;simp only [List.length_cons] at hl;unfold nameL;simp only
 rw [show decide ((List.drop 1 s.data.toList).length < 24) = false by simp at hl ⊢; omega];rfl
theorem nameL_wrong {s : ByteArray} {k : Nat} (hk : k < s.size) (hc : restC s[k] = false) : nameL s.data.toList = false := by
 by_cases h0 : k = 0
 · subst h0
   refine nameL_first hk ?_;cases h : letC s[0] with
   | false => rfl
   | true => rw [letC_rest h] at hc; cases hc
 · have hh := list_head s (by omega)
   rw [hh];unfold nameL;simp only
   have hm : s[k] ∈ s.data.toList.drop 1 := by
     have hk' : k - 1 < (s.data.toList.drop 1).length := by rw [List.length_drop, bytes_len]; omega
     have : (s.data.toList.drop 1)[k - 1] = s[k] := by
       rw [List.getElem_drop];have e : s.data.toList[1 + (k - 1)]'(by rw [bytes_len]; omega) = s.data.toList[k]'(by rw [bytes_len]; omega) := by congr 1; omega
       rw [e]; rfl
     rw [← this];exact List.getElem_mem hk'
   have : (s.data.toList.drop 1).all restC = false := by
     rw [List.all_eq_false];exact ⟨_, hm, by rw [hc]; decide⟩
   rw [this];simp
set_option maxHeartbeats 400000 in
theorem letter_any (c : UInt8) (w : World) :
   Calls Tryd.prog 83 #[.int .u8 (c.toNat : Int)] w fun e w' => e = .returned (.bool (letC c)) ∧ w = w' := by
 by_cases h1 : 97 ≤ c.toNat
 · have H : Hid (letC c = decide ((c.toNat : Int) ≤ 122)) := by
     show letC c = _
     rw [Bool.eq_iff_iff]; simp only [letC, decide_eq_true_eq]; omega
   go_enter Tryd.func83, Tryd.ntmps83
   go_wp2
   go_ret
   exact ⟨ret_bool H.out.symm, rfl⟩
 · have H : Hid (letC c = false) := by show letC c = false; simp [letC, h1]
   go_enter Tryd.func83, Tryd.ntmps83
   go_wp2
   go_ret
   exact ⟨ret_bool (by rw [H.out]), rfl⟩
theorem letter_yes {c : UInt8} (h : letC c = true) (w : World) :
   Calls Tryd.prog 83 #[.int .u8 (c.toNat : Int)] w fun e w' => e = .returned (.bool true) ∧ w = w' := by
 have := letter_any c w;rw [h] at this;exact this
theorem letter_no {c : UInt8} (h : letC c = false) (w : World) :
   Calls Tryd.prog 83 #[.int .u8 (c.toNat : Int)] w fun e w' => e = .returned (.bool false) ∧ w = w' := by
 have := letter_any c w;rw [h] at this;exact this
set_option maxHeartbeats 1000000 in
theorem name_any (s : ByteArray) (w : World) (hs : s.size ≤ 9223372036854775807) :
   Calls Tryd.prog 69 #[.string s] w fun e w' => e = .returned (.bool (nameL s.data.toList)) ∧ w = w' := by
 by_cases h0 : 0 < s.size
 · by_cases h24 : s.size ≤ 24
   · cases hc0 : letC s[0] with
     | false =>
       have HN := Lib.hid (nameL_first h0 hc0);replace hc0 := Lib.hid hc0;have hz : ((s.size : Int) == 0) = false := beq_eq_false_iff_ne.2 (by omega);have h24' : decide (24 < (s.size : Int)) = false := decide_eq_false (by omega);go_enter Tryd.func69, Tryd.ntmps69
       go_wp2_with (first
         | ((with_reducible refine (letter_no hc0.out _).mono ?_); rintro e w' ⟨rfl, rfl⟩))
       go_ret
       exact ⟨ret_bool (by rw [HN.out]), rfl⟩
     | true =>
       replace hc0 := Lib.hid hc0;have hz : ((s.size : Int) == 0) = false := beq_eq_false_iff_ne.2 (by omega);have h24' : decide (24 < (s.size : Int)) = false := decide_eq_false (by omega);go_enter Tryd.func69, Tryd.ntmps69
       go_wp2_with (first
         | ((with_reducible refine (letter_yes hc0.out _).mono ?_); rintro e w' ⟨rfl, rfl⟩))
       clear hz h24';go_loop [21] (fun i => ∃ k : Nat, k ≤ s.size ∧ i = .int .i64 k ∧ AllR (s.data.toList.take k)) (fun i => s.size - (intOf i).toNat)
       case atStart => exact ⟨0, Nat.zero_le _, rfl, rfl⟩
       case round =>
         obtain ⟨k, hk, rfl, hall⟩ := hrel;replace hall := Lib.hid hall;by_cases hlt : k < s.size
         · cases hl : letC s[k] with
           | true =>
             have hnx := Lib.hid (hall.out.more hlt (letC_rest hl));replace hl := Lib.hid hl;go_wp2_with (first
               | ((with_reducible refine (letter_yes hl.out _).mono ?_); rintro e w' ⟨rfl, rfl⟩))
             go_round
             case rel => exact ⟨k + 1, by omega, by go_num, hnx.out⟩
             case measure => simp [intOf]; omega
           | false =>
             by_cases hd : restC s[k] = true
             · have hnx := Lib.hid (hall.out.more hlt hd)
               by_cases h95 : s[k].toNat = 95
               · have e1 : (((s[k].toNat : Int)) != 95) = false := by rw [h95]; rfl
                 have e2 : decide ((s[k].toNat : Int) ≤ 57) = false := decide_eq_false (by omega);replace hl := Lib.hid hl;replace hd := Lib.hid hd;replace h95 := Lib.hid h95;go_wp2_with (first
                   | ((with_reducible refine (letter_no hl.out _).mono ?_); rintro e w' ⟨rfl, rfl⟩))
                 all_goals
                   go_round
                   case rel => exact ⟨k + 1, by omega, by go_num, hnx.out⟩
                   case measure => simp [intOf]; omega
               · have e0 : 48 ≤ s[k].toNat ∧ s[k].toNat ≤ 57 := by
                   unfold restC at hd; rw [hl] at hd; simp [h95] at hd; exact hd
                 obtain ⟨e1, e2⟩ := e0;replace hl := Lib.hid hl;replace hd := Lib.hid hd;replace h95 := Lib.hid h95;go_wp2_with (first
                   | ((with_reducible refine (letter_no hl.out _).mono ?_); rintro e w' ⟨rfl, rfl⟩))
                 go_round
                 case rel => exact ⟨k + 1, by omega, by go_num, hnx.out⟩
                 case measure => simp [intOf]; omega
             · have hd : restC s[k] = false := by cases h : restC s[k] with
                 | false => rfl
                 | true => exact absurd h hd
               have HN := Lib.hid (nameL_wrong hlt hd);have h95 : ¬ s[k].toNat = 95 := by intro h; unfold restC at hd; simp [h] at hd
               have hdg : ¬ (48 ≤ s[k].toNat ∧ s[k].toNat ≤ 57) := by intro h; unfold restC at hd; simp [h] at hd
               have e1 : (((s[k].toNat : Int)) != 95) = true := bne_iff_ne.2 (by omega);replace hl := Lib.hid hl;replace hd := Lib.hid hd;by_cases h48 : 48 ≤ s[k].toNat
               · have e2 : decide ((s[k].toNat : Int) ≤ 57) = false := decide_eq_false (by omega)
                 clear hdg h95;go_wp2_with (first
                   | ((with_reducible refine (letter_no hl.out _).mono ?_); rintro e w' ⟨rfl, rfl⟩))
                 go_ret
                 exact ⟨ret_bool (by rw [HN.out]), rfl⟩
               · have e2 : decide (48 ≤ (s[k].toNat : Int)) = false := decide_eq_false (by omega)
                 clear hdg h95;go_wp2_with (first
                   | ((with_reducible refine (letter_no hl.out _).mono ?_); rintro e w' ⟨rfl, rfl⟩))
                 go_ret
                 exact ⟨ret_bool (by rw [HN.out]), rfl⟩
         · have HN := Lib.hid (nameL_of h0 h24 hc0.out (hall.out.all (by omega)))
           go_wp2
           go_ret
           exact ⟨ret_bool (by rw [HN.out]), rfl⟩
   · have HN := Lib.hid (nameL_long (Nat.lt_of_not_le h24))
     have hz : ((s.size : Int) == 0) = false := beq_eq_false_iff_ne.2 (by omega);go_enter Tryd.func69, Tryd.ntmps69
     go_wp2
     go_ret
     exact ⟨ret_bool (by rw [HN.out]), rfl⟩
 · have HN := Lib.hid (nameL_none h0)
   have hz : ((s.size : Int) == 0) = true := by
     rw [show s.size = 0 by omega]; rfl
   go_enter Tryd.func69, Tryd.ntmps69
   go_wp2
   go_ret
   exact ⟨ret_bool (by rw [HN.out]), rfl⟩
end Go.Proofs.YtefijbpbenmbgaaDoor
namespace Go.Proofs.YtefijbpbenmbgaaDoor
open Go.RowKit
def kwL : List (List UInt8) := [
 [102, 108, 111, 119],
 [108, 101, 116],
 [105, 102],
 [101, 108, 115, 101],
 [119, 104, 105, 108, 101],
 [114, 101, 116, 117, 114, 110],
 [102, 97, 105, 108],
 [115, 108, 101, 101, 112],
 [100, 111],
 [110, 111, 110, 101],
 [116, 114, 117, 101],
 [102, 97, 108, 115, 101],
 [111, 114],
 [97, 110, 100],
 [110, 111, 116],
 [108, 101, 110],
 [110, 117, 109],
 [114, 101],
 [105, 109],
 [99, 111, 110, 106],
 [99, 97, 108, 108],
 [99, 104, 105, 108, 100],
 [116, 105, 109, 101, 114],
 [102, 111, 114, 107],
 [97, 119, 97, 105, 116],
 [115, 101, 116, 116, 108, 101],
 [116, 97, 107, 101],
 [118, 101, 114, 115, 105, 111, 110]]
def kwB (l : List UInt8) : Bool := kwL.any fun k => l == k
set_option maxRecDepth 20000 in
set_option maxHeartbeats 2000000 in
theorem keyword_any (s : ByteArray) (w : World) :
   Calls Tryd.prog 70 #[.string s] w fun e w' => e = .returned (.bool (kwB s.toList)) ∧ w = w' := by
 go_enter Tryd.func70, Tryd.ntmps70
 go_wp2
 all_goals first
   | (exfalso; simp_all; done)
   | (go_ret; exact ⟨ret_bool (by simp [kwB, kwL, *]), rfl⟩)
end Go.Proofs.YtefijbpbenmbgaaDoor
