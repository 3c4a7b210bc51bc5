/- A part of the proof: CFoot, IIn. No condition. -/
import Derived.Laws.OwnMore
import Derived.Below
import Derived.OwnWalk
import Derived.WalkKit
import Derived.WalkSpells
import Derived.WalkLawsBesides
import Derived.Handy
import Derived.Lib.Hide
import Derived.Test.YtcabolfookofoaaDoorQ02
set_option linter.unusedVariables false
set_option linter.unusedSimpArgs false
namespace Go.Proofs.YtcabolfookofoaaDoor
open Go.RowKit
structure Only (F : Nat → Prop) (w w' : World) : Prop where
 os : w'.os = w.os
 tape : w'.tape = w.tape
 output : w'.output = w.output
 size : w.heap.size ≤ w'.heap.size
 block : ∀ k, k < w.heap.size → ¬ F k → w'.heap[k]? = w.heap[k]?
theorem Only.refl (F : Nat → Prop) (w : World) : Only F w w := ⟨rfl, rfl, rfl, Nat.le_refl _, fun _ _ _ => rfl⟩
theorem Only.mono {F G : Nat → Prop} {w w' : World} (h : Only F w w') (hFG : ∀ k, k < w.heap.size → F k → G k) : Only G w w' :=
 ⟨h.os, h.tape, h.output, h.size, fun k hk hn => h.block k hk (fun hf => hn (hFG k hk hf))⟩
theorem Only.trans {F G K : Nat → Prop} {a b c : World} (h : Only F a b) (g : Only G b c) (hF : ∀ k, k < a.heap.size → F k → K k) (hG : ∀ k, k < a.heap.size → G k → K k) : Only K a c :=
 ⟨g.os.trans h.os, g.tape.trans h.tape, g.output.trans h.output, Nat.le_trans h.size g.size, fun k hk hn =>
   (g.block k (Nat.lt_of_lt_of_le hk h.size) (fun e => hn (hG k hk e))).trans (h.block k hk (fun e => hn (hF k hk e)))⟩
theorem Only.then {F : Nat → Prop} {a b c : World} (h : Only F a b) (g : Only F b c) : Only F a c := h.trans g (fun _ _ e => e) (fun _ _ e => e)
theorem Only.drew {F : Nat → Prop} {a w : World} (h : Only F a w) : Only F a w.drew := ⟨h.os, h.tape, h.output, h.size, h.block⟩
theorem Only.drew0 {F : Nat → Prop} {a w : World} (h : Only F a.drew w) : Only F a w := ⟨h.os, h.tape, h.output, h.size, h.block⟩
theorem Only.of_below {F : Nat → Prop} {w w' : World} (h : Below w.heap.size w w') : Only F w w' := ⟨h.os, h.tape, h.output, h.size, fun k hk _ => h.block k hk⟩
theorem Only.of_grown {F : Nat → Prop} {w w' : World} {row : Option Nat} (h : w.grownBy w' row) (hr : ∀ k, row = some k → F k) : Only F w w' :=
 ⟨h.os, h.tape, h.output, h.size, fun k hk hn => h.block k hk (fun e => hn (hr k e.symm))⟩
theorem Only.alloc {F : Nat → Prop} {a w : World} (h : Only F a w) (o : Obj) : Only F a (w.alloc o) :=
 h.then ⟨rfl, rfl, rfl, by simp, fun k hk _ => Below.heap_alloc _ _ _ hk⟩
theorem Only.setCell {F : Nat → Prop} {a w : World} (h : Only F a w) {p : Addr} (hp : F p.block ∨ a.heap.size ≤ p.block) (u : Value) : Only F a (w.setCell p u) :=
 ⟨h.os, h.tape, h.output, Nat.le_trans h.size (by simp [World.setCell]), fun k hk hn => (Below.heap_setCell _ _ _ _ (by intro e; subst e; rcases hp with hp | hp; exact hn hp; omega)).trans (h.block k hk hn)⟩
theorem Only.below {F : Nat → Prop} {B : Nat} {w w' : World} (h : Only F w w') (hB : B ≤ w.heap.size) (hF : ∀ k, k < B → ¬ F k) : Below B w w' :=
 ⟨h.os, h.tape, h.output, h.size, fun k hk => h.block k (by omega) (hF k hk)⟩
theorem Only.cell {F : Nat → Prop} {w w' : World} (h : Only F w w') {p : Addr} (hp : p.block < w.heap.size) (hn : ¬ F p.block) : w'.cell? p = w.cell? p := World.cell?_of_block (w := w) (h.block p.block hp hn)
theorem below_drew {w w' : World} (hb : Below w.drew.heap.size w.drew w') : Below w.heap.size w w' := ⟨hb.os, hb.tape, hb.output, hb.size, hb.block⟩
theorem Below.keeps {w w' : World} (h : Below w.heap.size w w') {p : Addr} {v : Value} (hc : w.cell? p = some v) : w'.cell? p = some v :=
 (h.cell (World.block_lt_of_cell? w p hc)).trans hc
section
variable {α : Type}
def rowOf (enc : α → List Value) : List α → List Value
 | [] => []
 | x :: r => enc x ++ rowOf enc r
theorem rowOf_append (enc : α → List Value) : ∀ (a b : List α), rowOf enc (a ++ b) = rowOf enc a ++ rowOf enc b
 | [], _ => rfl
 | x :: r, b => by show enc x ++ rowOf enc (r ++ b) = (enc x ++ rowOf enc r) ++ rowOf enc b; rw [rowOf_append enc r b, List.append_assoc]
theorem rowOf_snoc (enc : α → List Value) (a : List α) (x : α) : rowOf enc (a ++ [x]) = rowOf enc a ++ enc x := by
 rw [rowOf_append]; show _ ++ (enc x ++ []) = _; rw [List.append_nil]
theorem rowOf_length {enc : α → List Value} {k : Nat} (hk : ∀ x, (enc x).length = k) : ∀ d : List α, (rowOf enc d).length = d.length * k
 | [] => by simp [rowOf]
 | x :: r => by show (enc x ++ rowOf enc r).length = _; rw [List.length_append, hk, rowOf_length hk r, List.length_cons, Nat.add_mul]; omega
theorem rowOf_get {enc : α → List Value} {k : Nat} (hk : ∀ x, (enc x).length = k) : ∀ (d : List α) (i j : Nat) (hi : i < d.length), j < k → (rowOf enc d)[i * k + j]? = (enc d[i])[j]?
 | [], i, _, hi, _ => by simp at hi
 | x :: r, 0, j, _, hj => by
   show (enc x ++ rowOf enc r)[0 * k + j]? = _
   rw [List.getElem?_append_left (by rw [hk]; omega)];simp
 | x :: r, i + 1, j, hi, hj => by
   show (enc x ++ rowOf enc r)[(i + 1) * k + j]? = _
   rw [List.getElem?_append_right (by rw [hk, Nat.add_mul]; omega), hk];have := rowOf_get hk r i j (by simpa using hi) hj;rw [show (i + 1) * k + j - k = i * k + j by rw [Nat.add_mul]; omega, this];simp
theorem rowOf_take {enc : α → List Value} {k : Nat} (hk : ∀ x, (enc x).length = k) : ∀ (d : List α) (n : Nat), n ≤ d.length → (rowOf enc d).take (n * k) = rowOf enc (d.take n)
 | [], n, hn => by simp [rowOf]
 | x :: r, 0, _ => by simp [rowOf]
 | x :: r, n + 1, hn => by
   show (enc x ++ rowOf enc r).take ((n + 1) * k) = enc x ++ rowOf enc (r.take n)
   have h1 : (enc x).length = k := hk x;rw [List.take_append, h1, List.take_of_length_le (by rw [h1, Nat.add_mul]; omega), show (n + 1) * k - k = n * k by rw [Nat.add_mul]; omega, rowOf_take hk r n (by simpa using hn)]
theorem rowOf_set3 {enc : α → List Value} (hk : ∀ x, (enc x).length = 3) (d : List α) (i : Nat) (hi : i < d.length) (x : α) {a b c : Value} (he : enc x = [a, b, c]) :
   (((rowOf enc d).set (i * 3) a).set (i * 3 + 1) b).set (i * 3 + 2) c = rowOf enc (d.set i x) := by
 apply List.ext_getElem?
 intro p;have hlen : (rowOf enc d).length = d.length * 3 := rowOf_length hk d;have hlen2 : (rowOf enc (d.set i x)).length = d.length * 3 := by rw [rowOf_length hk]; simp
 by_cases hp : p < d.length * 3
 · have hq : p / 3 < d.length := by omega
   have e0 := rowOf_get hk d (p / 3) (p % 3) hq (by omega);have e1 := rowOf_get hk (d.set i x) (p / 3) (p % 3) (by simpa using hq) (by omega);rw [show p / 3 * 3 + p % 3 = p by omega] at e0 e1;rw [e1];simp only [List.getElem?_set, List.length_set, hlen];by_cases hpi : p / 3 = i
   · have : (d.set i x)[p / 3]'(by simpa using hq) = x := by subst hpi; simp
     rw [this, he];by_cases j0 : p = i * 3
     · have h0 : p % 3 = 0 := by omega
       rw [if_neg (by omega), if_neg (by omega), if_pos (by omega), if_pos (by omega), h0]; rfl
     · by_cases j1 : p = i * 3 + 1
       · have h0 : p % 3 = 1 := by omega
         rw [if_neg (by omega), if_pos (by omega), if_pos (by omega), h0]; rfl
       · have h0 : p % 3 = 2 := by omega
         rw [if_pos (by omega), if_pos (by omega), h0]; rfl
   · have : (d.set i x)[p / 3]'(by simpa using hq) = d[p / 3] := by rw [List.getElem_set_ne (fun e => hpi e.symm)]
     rw [this, if_neg (by omega), if_neg (by omega), if_neg (by omega), e0]
 · rw [List.getElem?_eq_none (by simp; omega), List.getElem?_eq_none (by omega)]
end
section
variable {w : World} {base : Nat} {e : TypeId} {k g cap : Nat}
theorem ownsRow_cut {n m : Nat} {xs : List Value} (h : w.ownsRow base e k (.slice (some ⟨g, 0, none⟩) n cap) n xs) (hm : m ≤ n) :
   w.ownsRow base e k (.slice (some ⟨g, 0, none⟩) m cap) m (xs.take (m * k)) := by
 obtain ⟨h1, h2⟩ := h;rcases h2 with ⟨h', _⟩ | ⟨g', cap', cur, h', hb, hg, hnc, hcm, hcs, htake⟩
 · simp at h'
 · simp only [Value.slice.injEq, Option.some.injEq, Addr.mk.injEq, and_true, true_and] at h'
   obtain ⟨rfl, rfl⟩ := h';have hmk : m * k ≤ n * k := Nat.mul_le_mul_right k hm;refine ⟨by rw [List.length_take, h1]; omega, .inr ⟨g, cap, cur, rfl, hb, hg, by omega, hcm, hcs, ?_⟩⟩;rw [← htake, List.take_take, Nat.min_eq_left hmk]
theorem ownsRow_head {n : Nat} {v : Value} {xs : List Value} (h : w.ownsRow base e k v n xs) (hn : 1 ≤ n) :
   ∃ g cap, v = .slice (some ⟨g, 0, none⟩) n cap ∧ base ≤ g ∧ g < w.heap.size ∧ n ≤ cap ∧ cap ≤ 9223372036854775807 ∧ ∃ cur, w.heap[g]? = some (.cells cur e (0, 0)) ∧ cur.size = cap * k := by
 obtain ⟨_, hcase⟩ := h;rcases hcase with ⟨_, h0⟩ | ⟨g, cap, cur, hv, hg, hh, hnc, hcm, hsz, _⟩
 · omega
 · exact ⟨g, cap, hv, hg, (Array.getElem?_eq_some_iff.1 hh).1, hnc, hcm, cur, hh, hsz⟩
theorem ownsRow_shape {n : Nat} {v : Value} {xs : List Value} (h : w.ownsRow base e k v n xs) : ∃ a cap, v = .slice a n cap ∧ n ≤ cap ∧ cap ≤ 9223372036854775807 := by
 obtain ⟨_, hcase⟩ := h;rcases hcase with ⟨hv, h0⟩ | ⟨g, cap, cur, hv, hg, hh, hnc, hcm, hsz, _⟩
 · subst h0; exact ⟨_, _, hv, by omega, by omega⟩
 · exact ⟨_, _, hv, hnc, hcm⟩
theorem ownsRow_only {F : Nat → Prop} {w' : World} {v : Value} {n : Nat} {xs : List Value} (h : w.ownsRow base e k v n xs) (ho : Only F w w') (hne : ∀ g, v.ownBlock = some g → ¬ F g) : w'.ownsRow base e k v n xs := by
 refine ⟨h.1, ?_⟩;rcases h.2 with hn | ⟨g, cap, cur, rfl, hb, hgg, rest⟩
 · exact .inl hn
 · exact .inr ⟨g, cap, cur, rfl, hb, (ho.block g (Array.getElem?_eq_some_iff.1 hgg).1 (hne g rfl)).trans hgg, rest⟩
end
end Go.Proofs.YtcabolfookofoaaDoor
namespace Go.Proofs.YtcabolfookofoaaDoor
open Go.RowKit
def insC (x : Ins) : List Value := [.int .u8 x.op, .int .i64 x.a, .int .i64 x.num, .string ⟨x.text.toArray⟩]
def insV (x : Ins) : Value := .agg #[.int .u8 x.op, .int .i64 x.a, .int .i64 x.num, .string ⟨x.text.toArray⟩]
def InsIn (w : World) (v : Value) (ts : List Ins) : Prop :=
 ∃ a cap, v = .slice a ts.length cap ∧ ts.length ≤ cap ∧ cap ≤ 9223372036854775807 ∧ (0 < ts.length → ∃ g off, a = some ⟨g, off, none⟩ ∧ g < w.heap.size ∧ ∀ i (hi : i < ts.length) (c : Nat), c < 4 → w.cell? ⟨g, off + i * 4 + c, none⟩ = (insC ts[i])[c]?)
def FitIns (x : Ins) : Prop := x.text.length ≤ 9223372036854775807 ∧ I64 x.a ∧ I64 x.num ∧ x.op < 256
theorem InsIn.below {w W : World} {v : Value} {ts : List Ins} (h : InsIn w v ts) (hb : Below w.heap.size w W) : InsIn W v ts := by
 obtain ⟨a, cap, rfl, h1, h2, h3⟩ := h;refine ⟨a, cap, rfl, h1, h2, fun h0 => ?_⟩;obtain ⟨g, off, rfl, hg, hc⟩ := h3 h0;exact ⟨g, off, rfl, Nat.lt_of_lt_of_le hg hb.size, fun i hi c hc' => (hb.cell (p := ⟨g, off + i * 4 + c, none⟩) hg).trans (hc i hi c hc')⟩
theorem ins_cells {w W : World} {g off : Nat} {ts : List Ins} (hg : g < w.heap.size) (hc : ∀ i (hi : i < ts.length) (c : Nat), c < 4 → w.cell? ⟨g, off + i * 4 + c, none⟩ = (insC ts[i])[c]?) (hb : Below w.heap.size w W) {i : Nat} (hi : i < ts.length) {op : Nat} {a x : Int} {tx : List UInt8} (ht : ts[i] = ⟨op, a, x, tx⟩) :
   W.cell? ⟨g, off + i * 4, none⟩ = some (.int .u8 op) ∧ W.cell? ⟨g, off + i * 4 + 1, none⟩ = some (.int .i64 a) ∧ W.cell? ⟨g, off + i * 4 + 2, none⟩ = some (.int .i64 x) ∧ W.cell? ⟨g, off + i * 4 + 3, none⟩ = some (.string ⟨tx.toArray⟩) := by
 have h0 := (hb.cell (p := ⟨g, off + i * 4 + 0, none⟩) hg).trans (hc i hi 0 (by omega));have h1 := (hb.cell (p := ⟨g, off + i * 4 + 1, none⟩) hg).trans (hc i hi 1 (by omega));have h2 := (hb.cell (p := ⟨g, off + i * 4 + 2, none⟩) hg).trans (hc i hi 2 (by omega));have h3 := (hb.cell (p := ⟨g, off + i * 4 + 3, none⟩) hg).trans (hc i hi 3 (by omega));rw [ht] at h0 h1 h2 h3;exact ⟨h0, h1, h2, h3⟩
theorem inAt_get {code : List Ins} {i : Nat} (hi : i < code.length) : inAt code i = code[i] := by
 unfold inAt;rw [List.getD_eq_getElem?_getD, List.getElem?_eq_getElem hi]; rfl
theorem InsIn.cells {w W : World} {v : Value} {ts : List Ins} (h : InsIn w v ts) (hb : Below w.heap.size w W) {i : Nat} (hi : i < ts.length) {op : Nat} {a x : Int} {tx : List UInt8} (ht : inAt ts i = ⟨op, a, x, tx⟩) : ∃ g off cap, v = .slice (some ⟨g, off, none⟩) ts.length cap ∧ g < w.heap.size ∧
   W.cell? ⟨g, off + i * 4, none⟩ = some (.int .u8 op) ∧ W.cell? ⟨g, off + i * 4 + 1, none⟩ = some (.int .i64 a) ∧ W.cell? ⟨g, off + i * 4 + 2, none⟩ = some (.int .i64 x) ∧ W.cell? ⟨g, off + i * 4 + 3, none⟩ = some (.string ⟨tx.toArray⟩) := by
 obtain ⟨ad, cap, rfl, _, _, h3⟩ := h;obtain ⟨g, off, rfl, hg, hc⟩ := h3 (by omega);exact ⟨g, off, cap, rfl, hg, ins_cells hg hc hb hi (by rw [← inAt_get hi]; exact ht)⟩
end Go.Proofs.YtcabolfookofoaaDoor
