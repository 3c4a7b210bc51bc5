/- A part of the proof: Shelf, Num, CFoot, RMap. No condition. -/
import Derived.Shelf.Bits.Mul64
import Derived.Ground.Names2Prog
import Derived.Shelf.Slices.SearchI
import Derived.Test.YtefijbpbenmbgaaDoorProg
import Derived.WalkKit
import Derived.Laws.OwnMore
import Derived.Below
import Derived.OwnWalk
import Derived.Maps.OwnSet
import Derived.MapKept
set_option linter.unusedVariables false
set_option linter.unusedSimpArgs false
namespace Go.Proofs
open Go.Shelf
def Tryd.lays212_ren : Go.Shelf.Ren := ⟨fun | 212 => 64 | 263 => 76 | 264 => 77 | n => n, fun | 46 => 104 | 51 => 116 | 146 => 117 | 53 => 119 | 148 => 120 | n => n, fun | n => n⟩
theorem Tryd.lays212 : Go.Proofs.Lays.n212 Tryd.prog Tryd.lays212_ren := {
 mixed := by kernel_rfl
 f212 := Tryd.func64.trans (congrArg some (by kernel_rfl))
 f263 := Tryd.func76.trans (congrArg some (by kernel_rfl))
 f264 := Tryd.func77.trans (congrArg some (by kernel_rfl))
 t46 := Tryd.underlying104
 a46 := Tryd.isAgg104
 z46 := Tryd.sizeOf104
 v46 := Tryd.zeroValue104
 t51 := Tryd.underlying116
 a51 := Tryd.isAgg116
 z51 := Tryd.sizeOf116
 v51 := Tryd.zeroValue116
 t53 := Tryd.underlying119
 a53 := Tryd.isAgg119
 z53 := Tryd.sizeOf119
 v53 := Tryd.zeroValue119
 t146 := Tryd.underlying117
 a146 := Tryd.isAgg117
 z146 := Tryd.sizeOf117
 v146 := Tryd.zeroValue117
 t148 := Tryd.underlying120
 a148 := Tryd.isAgg120
 z148 := Tryd.sizeOf120
 v148 := Tryd.zeroValue120 }
open Go.RowKit Go.Lib in
theorem Tryd.bits_Mul (x y : Nat) (hx : x < 18446744073709551616) (hy : y < 18446744073709551616) (w : World) :
   Calls Tryd.prog 64 #[.int .u64 x, .int .u64 y] w fun e w' => e = .returned (.tuple #[.int .u64 ((x * y / 18446744073709551616 : Nat) : Int), .int .u64 ((x * y % 18446744073709551616 : Nat) : Int)]) ∧ w' = w := Any.bits_Mul Tryd.lays212 x y hx hy w
end Go.Proofs
namespace Go.Proofs.YtefijbpbenmbgaaDoor
open Go.RowKit
def held (x : Int) : Int := if x < -9223372036854775808 then -9223372036854775808 else if 9223372036854775807 < x then 9223372036854775807 else x
def I64 (x : Int) : Prop := -9223372036854775808 ≤ x ∧ x ≤ 9223372036854775807
theorem ret_int {k : IntKind} {a b : Int} (h : a = b) : Ending.returned (.int k a) = .returned (.int k b) := by rw [h]
theorem ret_bool {a b : Bool} (h : a = b) : Ending.returned (.bool a) = .returned (.bool b) := by rw [h]
theorem exHid {α : Sort _} (x : α) : ∃ s, Hid (x = s) := ⟨x, rfl⟩
theorem below_next {w W w' : World} (h : Below w.heap.size w W) (hb : Below W.heap.size W w') : Below w.heap.size w w' := h.trans (hb.mono h.size)
theorem cell_kept {w1 w2 : World} {c : Array Value} {t : TypeId} (hb : Below (w1.alloc (.cells c t)).heap.size (w1.alloc (.cells c t)) w2) (o2 : Obj) (j : Nat) :
   (w2.alloc o2).cell? ⟨w1.heap.size, j, none⟩ = c[j]? := by
 have h0 : w1.heap.size < (w1.alloc (.cells c t)).heap.size := by simp
 have h1 : (w2.alloc o2).heap[w1.heap.size]? = w2.heap[w1.heap.size]? := Below.heap_alloc w2 o2 _ (Nat.lt_of_lt_of_le h0 hb.size);have h2 : (w2.alloc o2).heap[w1.heap.size]? = (w1.alloc (.cells c t)).heap[w1.heap.size]? := h1.trans (hb.block _ h0);rw [World.cell?_of_block (w := w1.alloc (.cells c t)) (a := ⟨w1.heap.size, j, none⟩) h2, World.cell?_alloc_new]
end Go.Proofs.YtefijbpbenmbgaaDoor
namespace Go.Proofs.YtefijbpbenmbgaaDoor
open Go.RowKit
structure Only (F : Nat → Prop) (w w' : World) : Prop where
 os : w'.os = w.os
 tape : w'.tape = w.tape
 output : w'.output = w.output
 size : w.heap.size ≤ w'.heap.size
 block : ∀ k, k < w.heap.size → ¬ F k → w'.heap[k]? = w.heap[k]?
theorem Only.refl (F : Nat → Prop) (w : World) : Only F w w := ⟨rfl, rfl, rfl, Nat.le_refl _, fun _ _ _ => rfl⟩
theorem Only.mono {F G : Nat → Prop} {w w' : World} (h : Only F w w') (hFG : ∀ k, k < w.heap.size → F k → G k) : Only G w w' :=
 ⟨h.os, h.tape, h.output, h.size, fun k hk hn => h.block k hk (fun hf => hn (hFG k hk hf))⟩
theorem Only.trans {F G K : Nat → Prop} {a b c : World} (h : Only F a b) (g : Only G b c) (hF : ∀ k, k < a.heap.size → F k → K k) (hG : ∀ k, k < a.heap.size → G k → K k) : Only K a c :=
 ⟨g.os.trans h.os, g.tape.trans h.tape, g.output.trans h.output, Nat.le_trans h.size g.size, fun k hk hn =>
   (g.block k (Nat.lt_of_lt_of_le hk h.size) (fun e => hn (hG k hk e))).trans (h.block k hk (fun e => hn (hF k hk e)))⟩
theorem Only.then {F : Nat → Prop} {a b c : World} (h : Only F a b) (g : Only F b c) : Only F a c := h.trans g (fun _ _ e => e) (fun _ _ e => e)
theorem Only.drew {F : Nat → Prop} {a w : World} (h : Only F a w) : Only F a w.drew := ⟨h.os, h.tape, h.output, h.size, h.block⟩
theorem Only.drew0 {F : Nat → Prop} {a w : World} (h : Only F a.drew w) : Only F a w := ⟨h.os, h.tape, h.output, h.size, h.block⟩
theorem Only.of_below {F : Nat → Prop} {w w' : World} (h : Below w.heap.size w w') : Only F w w' := ⟨h.os, h.tape, h.output, h.size, fun k hk _ => h.block k hk⟩
theorem Only.of_grown {F : Nat → Prop} {w w' : World} {row : Option Nat} (h : w.grownBy w' row) (hr : ∀ k, row = some k → F k) : Only F w w' :=
 ⟨h.os, h.tape, h.output, h.size, fun k hk hn => h.block k hk (fun e => hn (hr k e.symm))⟩
theorem Only.alloc {F : Nat → Prop} {a w : World} (h : Only F a w) (o : Obj) : Only F a (w.alloc o) :=
 h.then ⟨rfl, rfl, rfl, by simp, fun k hk _ => Below.heap_alloc _ _ _ hk⟩
theorem Only.setCell {F : Nat → Prop} {a w : World} (h : Only F a w) {p : Addr} (hp : F p.block ∨ a.heap.size ≤ p.block) (u : Value) : Only F a (w.setCell p u) :=
 ⟨h.os, h.tape, h.output, Nat.le_trans h.size (by simp [World.setCell]), fun k hk hn => (Below.heap_setCell _ _ _ _ (by intro e; subst e; rcases hp with hp | hp; exact hn hp; omega)).trans (h.block k hk hn)⟩
theorem Only.below {F : Nat → Prop} {B : Nat} {w w' : World} (h : Only F w w') (hB : B ≤ w.heap.size) (hF : ∀ k, k < B → ¬ F k) : Below B w w' :=
 ⟨h.os, h.tape, h.output, h.size, fun k hk => h.block k (by omega) (hF k hk)⟩
theorem Only.cell {F : Nat → Prop} {w w' : World} (h : Only F w w') {p : Addr} (hp : p.block < w.heap.size) (hn : ¬ F p.block) : w'.cell? p = w.cell? p := World.cell?_of_block (w := w) (h.block p.block hp hn)
theorem below_drew {w w' : World} (hb : Below w.drew.heap.size w.drew w') : Below w.heap.size w w' := ⟨hb.os, hb.tape, hb.output, hb.size, hb.block⟩
theorem Below.keeps {w w' : World} (h : Below w.heap.size w w') {p : Addr} {v : Value} (hc : w.cell? p = some v) : w'.cell? p = some v :=
 (h.cell (World.block_lt_of_cell? w p hc)).trans hc
section
variable {α : Type}
def rowOf (enc : α → List Value) : List α → List Value
 | [] => []
 | x :: r => enc x ++ rowOf enc r
theorem rowOf_append (enc : α → List Value) : ∀ (a b : List α), rowOf enc (a ++ b) = rowOf enc a ++ rowOf enc b
 | [], _ => rfl
 | x :: r, b => by show enc x ++ rowOf enc (r ++ b) = (enc x ++ rowOf enc r) ++ rowOf enc b; rw [rowOf_append enc r b, List.append_assoc]
theorem rowOf_snoc (enc : α → List Value) (a : List α) (x : α) : rowOf enc (a ++ [x]) = rowOf enc a ++ enc x := by
 rw [rowOf_append]; show _ ++ (enc x ++ []) = _; rw [List.append_nil]
theorem rowOf_length {enc : α → List Value} {k : Nat} (hk : ∀ x, (enc x).length = k) : ∀ d : List α, (rowOf enc d).length = d.length * k
 | [] => by simp [rowOf]
 | x :: r => by show (enc x ++ rowOf enc r).length = _; rw [List.length_append, hk, rowOf_length hk r, List.length_cons, Nat.add_mul]; omega
theorem rowOf_get {enc : α → List Value} {k : Nat} (hk : ∀ x, (enc x).length = k) : ∀ (d : List α) (i j : Nat) (hi : i < d.length), j < k → (rowOf enc d)[i * k + j]? = (enc d[i])[j]?
 | [], i, _, hi, _ => by simp at hi
 | x :: r, 0, j, _, hj => by
   show (enc x ++ rowOf enc r)[0 * k + j]? = _
   rw [List.getElem?_append_left (by rw [hk]; omega)];simp
 | x :: r, i + 1, j, hi, hj => by
   show (enc x ++ rowOf enc r)[(i + 1) * k + j]? = _
   rw [List.getElem?_append_right (by rw [hk, Nat.add_mul]; omega), hk];have := rowOf_get hk r i j (by simpa using hi) hj;rw [show (i + 1) * k + j - k = i * k + j by rw [Nat.add_mul]; omega, this];simp
theorem rowOf_take {enc : α → List Value} {k : Nat} (hk : ∀ x, (enc x).length = k) : ∀ (d : List α) (n : Nat), n ≤ d.length → (rowOf enc d).take (n * k) = rowOf enc (d.take n)
 | [], n, hn => by simp [rowOf]
 | x :: r, 0, _ => by simp [rowOf]
 | x :: r, n + 1, hn => by
   show (enc x ++ rowOf enc r).take ((n + 1) * k) = enc x ++ rowOf enc (r.take n)
   have h1 : (enc x).length = k := hk x;rw [List.take_append, h1, List.take_of_length_le (by rw [h1, Nat.add_mul]; omega), show (n + 1) * k - k = n * k by rw [Nat.add_mul]; omega, rowOf_take hk r n (by simpa using hn)]
theorem rowOf_set3 {enc : α → List Value} (hk : ∀ x, (enc x).length = 3) (d : List α) (i : Nat) (hi : i < d.length) (x : α) {a b c : Value} (he : enc x = [a, b, c]) :
   (((rowOf enc d).set (i * 3) a).set (i * 3 + 1) b).set (i * 3 + 2) c = rowOf enc (d.set i x) := by
 apply List.ext_getElem?
 intro p;have hlen : (rowOf enc d).length = d.length * 3 := rowOf_length hk d;have hlen2 : (rowOf enc (d.set i x)).length = d.length * 3 := by rw [rowOf_length hk]; simp
 by_cases hp : p < d.length * 3
 · have hq : p / 3 < d.length := by omega
   have e0 := rowOf_get hk d (p / 3) (p % 3) hq (by omega);have e1 := rowOf_get hk (d.set i x) (p / 3) (p % 3) (by simpa using hq) (by omega);rw [show p / 3 * 3 + p % 3 = p by omega] at e0 e1;rw [e1];simp only [List.getElem?_set, List.length_set, hlen];by_cases hpi : p / 3 = i
   · have : (d.set i x)[p / 3]'(by simpa using hq) = x := by subst hpi; simp
     rw [this, he];by_cases j0 : p = i * 3
     · have h0 : p % 3 = 0 := by omega
       rw [if_neg (by omega), if_neg (by omega), if_pos (by omega), if_pos (by omega), h0]; rfl
     · by_cases j1 : p = i * 3 + 1
       · have h0 : p % 3 = 1 := by omega
         rw [if_neg (by omega), if_pos (by omega), if_pos (by omega), h0]; rfl
       · have h0 : p % 3 = 2 := by omega
         rw [if_pos (by omega), if_pos (by omega), h0]; rfl
   · have : (d.set i x)[p / 3]'(by simpa using hq) = d[p / 3] := by rw [List.getElem_set_ne (fun e => hpi e.symm)]
     rw [this, if_neg (by omega), if_neg (by omega), if_neg (by omega), e0]
 · rw [List.getElem?_eq_none (by simp; omega), List.getElem?_eq_none (by omega)]
end
section
variable {w : World} {base : Nat} {e : TypeId} {k g cap : Nat}
theorem ownsRow_cut {n m : Nat} {xs : List Value} (h : w.ownsRow base e k (.slice (some ⟨g, 0, none⟩) n cap) n xs) (hm : m ≤ n) :
   w.ownsRow base e k (.slice (some ⟨g, 0, none⟩) m cap) m (xs.take (m * k)) := by
 obtain ⟨h1, h2⟩ := h;rcases h2 with ⟨h', _⟩ | ⟨g', cap', cur, h', hb, hg, hnc, hcm, hcs, htake⟩
 · simp at h'
 · simp only [Value.slice.injEq, Option.some.injEq, Addr.mk.injEq, and_true, true_and] at h'
   obtain ⟨rfl, rfl⟩ := h';have hmk : m * k ≤ n * k := Nat.mul_le_mul_right k hm;refine ⟨by rw [List.length_take, h1]; omega, .inr ⟨g, cap, cur, rfl, hb, hg, by omega, hcm, hcs, ?_⟩⟩;rw [← htake, List.take_take, Nat.min_eq_left hmk]
theorem ownsRow_head {n : Nat} {v : Value} {xs : List Value} (h : w.ownsRow base e k v n xs) (hn : 1 ≤ n) :
   ∃ g cap, v = .slice (some ⟨g, 0, none⟩) n cap ∧ base ≤ g ∧ g < w.heap.size ∧ n ≤ cap ∧ cap ≤ 9223372036854775807 ∧ ∃ cur, w.heap[g]? = some (.cells cur e (0, 0)) ∧ cur.size = cap * k := by
 obtain ⟨_, hcase⟩ := h;rcases hcase with ⟨_, h0⟩ | ⟨g, cap, cur, hv, hg, hh, hnc, hcm, hsz, _⟩
 · omega
 · exact ⟨g, cap, hv, hg, (Array.getElem?_eq_some_iff.1 hh).1, hnc, hcm, cur, hh, hsz⟩
theorem ownsRow_shape {n : Nat} {v : Value} {xs : List Value} (h : w.ownsRow base e k v n xs) : ∃ a cap, v = .slice a n cap ∧ n ≤ cap ∧ cap ≤ 9223372036854775807 := by
 obtain ⟨_, hcase⟩ := h;rcases hcase with ⟨hv, h0⟩ | ⟨g, cap, cur, hv, hg, hh, hnc, hcm, hsz, _⟩
 · subst h0; exact ⟨_, _, hv, by omega, by omega⟩
 · exact ⟨_, _, hv, hnc, hcm⟩
theorem ownsRow_only {F : Nat → Prop} {w' : World} {v : Value} {n : Nat} {xs : List Value} (h : w.ownsRow base e k v n xs) (ho : Only F w w') (hne : ∀ g, v.ownBlock = some g → ¬ F g) : w'.ownsRow base e k v n xs := by
 refine ⟨h.1, ?_⟩;rcases h.2 with hn | ⟨g, cap, cur, rfl, hb, hgg, rest⟩
 · exact .inl hn
 · exact .inr ⟨g, cap, cur, rfl, hb, (ho.block g (Array.getElem?_eq_some_iff.1 hgg).1 (hne g rfl)).trans hgg, rest⟩
theorem ownsRow_base {base' : Nat} {v : Value} {n : Nat} {xs : List Value} (h : w.ownsRow base e k v n xs) (hb : ∀ g, v.ownBlock = some g → base' ≤ g) : w.ownsRow base' e k v n xs := by
 refine ⟨h.1, ?_⟩;rcases h.2 with hn | ⟨g, cap, cur, rfl, _, rest⟩
 · exact .inl hn
 · exact .inr ⟨g, cap, cur, rfl, hb g rfl, rest⟩
end
end Go.Proofs.YtefijbpbenmbgaaDoor
namespace Go.Proofs.YtefijbpbenmbgaaDoor
open Go.RowKit Go.MapKept
def lookL : List (Nat × Value) → Nat → Option Value
 | [], _ => none
 | p :: r, k => if p.1 = k then some p.2 else lookL r k
def KMap (w : World) (b : Nat) (L : List (Nat × Value)) : Prop :=
 ∃ es clock, w.heap[b]? = some (.map es clock) ∧ es.toList.map (fun e => (e.key, e.val)) = L.map fun p => (Value.int .u8 (p.1 : Int), p.2)
theorem find_look (k : Nat) : ∀ (es : List MapEntry) (L : List (Nat × Value)) (i : Nat), es.map (fun e => (e.key, e.val)) = L.map (fun p => (Value.int .u8 (p.1 : Int), p.2)) →
   match lookL L k with
   | none => Instr.findNow (.int .u8) (.int .u8 (k : Int)) es i = some none
   | some v => ∃ j, Instr.findNow (.int .u8) (.int .u8 (k : Int)) es i = some (some (j, v))
 | [], [], _, _ => rfl
 | [], _ :: _, _, h => by simp at h
 | _ :: _, [], _, h => by simp at h
 | e :: es, p :: L, i, h => by
   simp only [List.map_cons, List.cons.injEq, Prod.mk.injEq] at h;obtain ⟨⟨hk, hv⟩, hr⟩ := h;have ih := find_look k es L (i + 1) hr;unfold lookL;by_cases hp : p.1 = k
   · rw [if_pos hp]
     refine ⟨i, ?_⟩;simp [Instr.findNow, Instr.sameNow, hk, hv, hp]
   · rw [if_neg hp]
     have hne : ((k : Int) == (p.1 : Int)) = false := beq_eq_false_iff_ne.2 (by omega);simp only [Instr.findNow, Instr.sameNow, hk, hne];exact ih
section
variable {P : Program} {w : World} {b : Nat} {L : List (Nat × Value)}
theorem KMap.made (w : World) : KMap (w.alloc (.map #[] 0)) w.heap.size [] := ⟨#[], 0, heap_alloc_new w _, rfl⟩
theorem KMap.lt (h : KMap w b L) : b < w.heap.size := by obtain ⟨es, c, h, _⟩ := h; exact (Array.getElem?_eq_some_iff.1 h).1
theorem KMap.below {W : World} {B : Nat} (h : KMap w b L) (hb : Below B w W) (hB : b < B) : KMap W b L := by
 obtain ⟨es, c, h1, h2⟩ := h;exact ⟨es, c, (hb.block b hB).trans h1, h2⟩
theorem KMap.only {W : World} {F : Nat → Prop} (h : KMap w b L) (ho : Only F w W) (hF : ¬ F b) : KMap W b L := by
 obtain ⟨es, c, h1, h2⟩ := h;exact ⟨es, c, (ho.block b (Array.getElem?_eq_some_iff.1 h1).1 hF).trans h1, h2⟩
theorem KMap.look {k e t : TypeId} {z : Value} (h : KMap w b L) (hk : P.underlying k = some (.int .u8)) (ht : P.underlying t = some (.map k e)) (hz : (zeroValue e).run P w = .ok z w) (x : Nat) :
   (Instr.lookup t (.map (some b)) (.int .u8 (x : Int)) true).run P w = .ok (.tuple #[(lookL L x).getD z, .bool (lookL L x).isSome]) w := by
 obtain ⟨es, clock, hb, he⟩ := h;have hf := find_look x es.toList L 0 he;have hc := fun e => Go.MapKept.run_checkKey (P := P) (w := w) (k := .int .u8 (x : Int)) hk (by simp [IsKey]) e 9999
 cases hl : lookL L x with
 | none =>
   rw [hl] at hf;have h2 := Go.MapKept.run_findKey (w := w) hk hf;simp [Instr.lookup, run_underlying ht, Go.MapKept.run_getObj_map hb, hc, h2, hz, Result.andThen]
 | some v =>
   rw [hl] at hf;obtain ⟨j, hf⟩ := hf;have h2 := Go.MapKept.run_findKey (w := w) hk hf;simp [Instr.lookup, run_underlying ht, Go.MapKept.run_getObj_map hb, hc, h2, Result.andThen]
theorem KMap.put {k e t : TypeId} (h : KMap w b L) (hk : P.underlying k = some (.int .u8)) (ht : P.underlying t = some (.map k e)) (x : Nat) (v : Value) (hn : lookL L x = none) :
   ∃ w', (Instr.mapUpdate t (.map (some b)) (.int .u8 (x : Int)) v).run P w = .ok () w' ∧ KMap w' b (L ++ [(x, v)]) ∧ Only (fun k => k = b) w w' := by
 obtain ⟨es, clock, hb, he⟩ := h;have hf := find_look x es.toList L 0 he;rw [hn] at hf;have hc := fun e => Go.MapKept.run_checkKey (P := P) (w := w) (k := .int .u8 (x : Int)) hk (by simp [IsKey]) e 9999
 have h2 := Go.MapKept.run_findKey (w := w) hk hf;have hlt := (Array.getElem?_eq_some_iff.1 hb).1;refine ⟨_, by simp [Instr.mapUpdate, run_underlying ht, Go.MapKept.run_getObj_map hb, hc, h2, Go.MapKept.run_setObj_map _ hb, Result.andThen]; rfl, ⟨es.push { key := .int .u8 (x : Int), val := v, born := clock }, clock + 1, ?_, ?_⟩, ?_⟩
 · simp [hlt]
 · simp [he]
 · exact ⟨rfl, rfl, rfl, by simp, fun j hj hne => by simp [Ne.symm hne]⟩
end
section
variable {P : Program} {w : World} {ops : Array Oper} {rest : List Oper} {o : Oper} {a : Act} {Q : Exit → Act → World → Prop} {b : Nat} {L : List (Nat × Value)}
theorem wpList_put_k (hg : o.guard = none) (m x v : Operand) (t k e : TypeId) (hop : o.op = Op.mapUpdate t m x v ∨ o.op = Op.insert t m x v)
   (hk : P.underlying k = some (.int .u8)) (ht : P.underlying t = some (.map k e)) (h : KMap w b L) (key : Nat) (u : Value) (hm : a.eval m = .map (some b)) (hx : a.eval x = .int .u8 (key : Int)) (hv : a.eval v = u) (hn : lookL L key = none)
   (hK : ∀ w', KMap w' b (L ++ [(key, u)]) → Only (fun k => k = b) w w' → wpList P ops Q rest (a.put o.dst undef) w') :
   wpList P ops Q (o :: rest) a w := by
 refine wpList_plain hg fun K' hK' => ?_
 obtain ⟨w', hrun, r1, r2⟩ := h.put hk ht key u hn;unfold Oper.wp;rcases hop with hop | hop
 all_goals
   simp [execOp, hop, hm, hx, hv, hrun, Result.andThen]
   exact hK' _ _ (hK w' r1 r2)
end
end Go.Proofs.YtefijbpbenmbgaaDoor
