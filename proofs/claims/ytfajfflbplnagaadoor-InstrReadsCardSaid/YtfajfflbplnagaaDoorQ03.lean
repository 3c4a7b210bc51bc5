/- A part of the proof: IP, CFoot. No condition. -/
import Derived.Laws.OwnMore
import Derived.Below
import Derived.OwnWalk
import Derived.Test.YtfajfflbplnagaaDoorQ02
set_option linter.unusedVariables false
set_option linter.unusedSimpArgs false
namespace Go.Proofs.YtfajfflbplnagaaDoor
open Go.RowKit
structure Ins where
 op : Nat
 a : Int
 num : Int
 text : List UInt8
 deriving DecidableEq
def wordL : List (List UInt8) := [[], [106, 117, 109, 112], [98, 114, 97, 110, 99, 104], [111, 114], [97, 110, 100], [98, 111, 111, 108], [100, 114, 111, 112], [], [114, 101, 116, 117, 114, 110], [102, 97, 105, 108], [115, 108, 101, 101, 112], [], [], [], [], [], [], [], [], [], [110, 111, 110, 101], [116, 114, 117, 101], [102, 97, 108, 115, 101], [105, 110, 116], [116, 101, 120, 116], [108, 105, 115, 116], [108, 111, 97, 100], [115, 116, 111, 114, 101], [101, 110, 100], [], [], [], [101, 113], [110, 101], [108, 116], [108, 101], [97, 100, 100], [115, 117, 98], [109, 117, 108], [100, 105, 118], [109, 111, 100], [110, 117, 109], [97, 116], [110, 111, 116], [110, 101, 103], [108, 101, 110], [114, 101], [105, 109], [99, 111, 110, 106], [], [99, 97, 108, 108], [99, 104, 105, 108, 100], [116, 105, 109, 101, 114], [102, 111, 114, 107], [97, 119, 97, 105, 116], [115, 101, 116, 116, 108, 101], [116, 97, 107, 101], [118, 101, 114, 115, 105, 111, 110]]
def wordI (op : Nat) : List UInt8 := wordL.getD op []
def akI (op : Nat) : Nat := if op = 1 ∨ op = 2 ∨ op = 3 ∨ op = 4 ∨ op = 53 then 1 else if op = 26 ∨ op = 27 then 2 else if op = 25 ∨ op = 50 ∨ op = 51 then 3 else 0
def nameI (op : Nat) : Bool := op == 50 || op == 51 || op == 56
def takesR (op : Nat) : Nat := if (32 ≤ op ∧ op ≤ 42) then 2 else if op = 2 ∨ op = 3 ∨ op = 4 ∨ op = 5 ∨ op = 6 ∨ op = 8 ∨ op = 9 ∨ op = 10 ∨ op = 27 ∨ (43 ≤ op ∧ op ≤ 48) ∨ op = 52 ∨ op = 54 ∨ op = 55 then 1 else 0
def leaveR (op : Nat) : Nat := if op = 5 ∨ (20 ≤ op ∧ op ≤ 26) ∨ (32 ≤ op ∧ op ≤ 48) ∨ (50 ≤ op ∧ op ≤ 57) then 1 else 0
def takesI (x : Ins) : Int := if akI x.op = 3 then x.a else takesR x.op
def endsI (op : Nat) : Bool := op == 8 || op == 9 || op == 28
def nextI (x : Ins) (d : Int) : Int := d - takesI x + leaveR x.op
def thereI (x : Ins) (d : Int) : Int := if x.op = 53 then 0 else if x.op = 3 ∨ x.op = 4 then d else nextI x d
def aOK (k : Nat) (n : Int) (a : Int) : Bool := if k = 1 then decide (0 ≤ a ∧ a < n) else if k = 2 then decide (0 ≤ a ∧ a < 100) else if k = 3 then decide (0 ≤ a ∧ a ≤ 2048) else decide (a = 0)
def txOK (op : Nat) (s : List UInt8) : Bool := if op = 24 then decide (s.length ≤ 4095) else if nameI op then nameL s else decide (s = [])
def rightI (x : Ins) (n : Int) : Bool := decide (wordI x.op ≠ []) && aOK (akI x.op) n x.a && (decide (x.num = 0) || x.op == 23) && txOK x.op x.text
def inAt (code : List Ins) (p : Nat) : Ins := code.getD p ⟨0, 0, 0, []⟩
def badI (code : List Ins) : Option Nat := code.findIdx? (fun x => !rightI x code.length)
def meetI (d : List Int) (q : Nat) (v : Int) : Option (List Int) := if d.length ≤ q then none else if d.getD q (-1) = -1 then some (d.set q v) else if d.getD q (-1) = v then some d else none
def stepI (code : List Ins) (d : List Int) (p : Nat) : Option (List Int) :=
 let x := inAt code p
 let dp := d.getD p (-1)
 if dp < takesI x then none
 else if endsI x.op then (if dp = takesI x then some d else none)
 else match (if akI x.op = 1 then meetI d x.a.toNat (thereI x dp) else some d) with
   | none => none
   | some d1 => if x.op = 1 then some d1 else meetI d1 (p + 1) (nextI x dp)
def leastI (d : List Int) (g : Nat → Bool) : Option Nat := (List.range d.length).find? (fun p => decide (d.getD p (-1) ≠ -1) && !g p)
def goneI (g : Nat → Bool) (p : Nat) : Nat → Bool := fun q => decide (q = p) || g q
def fitI (code : List Ins) : Nat → List Int → (Nat → Bool) → List Int × Option Nat
 | 0, d, _ => (d, none)
 | f + 1, d, g => match leastI d g with
   | none => (d, none)
   | some p => match stepI code d p with
     | none => (d, some p)
     | some d' => fitI code f d' (goneI g p)
def depth0 (n : Nat) : List Int := (List.replicate n (-1)).set 0 0
def fitsI (code : List Ins) : List Int × Option Nat := fitI code (code.length + 1) (depth0 code.length) (fun _ => false)
def freeI (op : Nat) : Bool := op == 1 || op == 5
def succI (code : List Ins) (p : Nat) : Nat := if (inAt code p).op = 1 then (inAt code p).a.toNat else p + 1
def runI (code : List Ins) : Nat → Nat → Bool
 | 0, _ => true
 | k + 1, p => freeI (inAt code p).op && runI code k (succI code p)
def circI (code : List Ins) (d : List Int) : Option Nat := (List.range d.length).find? (fun p => decide (d.getD p (-1) ≠ -1) && runI code (d.length + 1) p)
end Go.Proofs.YtfajfflbplnagaaDoor
namespace Go.Proofs.YtfajfflbplnagaaDoor
open Go.RowKit
structure Only (F : Nat → Prop) (w w' : World) : Prop where
 os : w'.os = w.os
 tape : w'.tape = w.tape
 output : w'.output = w.output
 size : w.heap.size ≤ w'.heap.size
 block : ∀ k, k < w.heap.size → ¬ F k → w'.heap[k]? = w.heap[k]?
theorem Only.refl (F : Nat → Prop) (w : World) : Only F w w := ⟨rfl, rfl, rfl, Nat.le_refl _, fun _ _ _ => rfl⟩
theorem Only.mono {F G : Nat → Prop} {w w' : World} (h : Only F w w') (hFG : ∀ k, k < w.heap.size → F k → G k) : Only G w w' :=
 ⟨h.os, h.tape, h.output, h.size, fun k hk hn => h.block k hk (fun hf => hn (hFG k hk hf))⟩
theorem Only.trans {F G K : Nat → Prop} {a b c : World} (h : Only F a b) (g : Only G b c) (hF : ∀ k, k < a.heap.size → F k → K k) (hG : ∀ k, k < a.heap.size → G k → K k) : Only K a c :=
 ⟨g.os.trans h.os, g.tape.trans h.tape, g.output.trans h.output, Nat.le_trans h.size g.size, fun k hk hn =>
   (g.block k (Nat.lt_of_lt_of_le hk h.size) (fun e => hn (hG k hk e))).trans (h.block k hk (fun e => hn (hF k hk e)))⟩
theorem Only.then {F : Nat → Prop} {a b c : World} (h : Only F a b) (g : Only F b c) : Only F a c := h.trans g (fun _ _ e => e) (fun _ _ e => e)
theorem Only.drew {F : Nat → Prop} {a w : World} (h : Only F a w) : Only F a w.drew := ⟨h.os, h.tape, h.output, h.size, h.block⟩
theorem Only.drew0 {F : Nat → Prop} {a w : World} (h : Only F a.drew w) : Only F a w := ⟨h.os, h.tape, h.output, h.size, h.block⟩
theorem Only.of_below {F : Nat → Prop} {w w' : World} (h : Below w.heap.size w w') : Only F w w' := ⟨h.os, h.tape, h.output, h.size, fun k hk _ => h.block k hk⟩
theorem Only.of_grown {F : Nat → Prop} {w w' : World} {row : Option Nat} (h : w.grownBy w' row) (hr : ∀ k, row = some k → F k) : Only F w w' :=
 ⟨h.os, h.tape, h.output, h.size, fun k hk hn => h.block k hk (fun e => hn (hr k e.symm))⟩
theorem Only.alloc {F : Nat → Prop} {a w : World} (h : Only F a w) (o : Obj) : Only F a (w.alloc o) :=
 h.then ⟨rfl, rfl, rfl, by simp, fun k hk _ => Below.heap_alloc _ _ _ hk⟩
theorem Only.setCell {F : Nat → Prop} {a w : World} (h : Only F a w) {p : Addr} (hp : F p.block ∨ a.heap.size ≤ p.block) (u : Value) : Only F a (w.setCell p u) :=
 ⟨h.os, h.tape, h.output, Nat.le_trans h.size (by simp [World.setCell]), fun k hk hn => (Below.heap_setCell _ _ _ _ (by intro e; subst e; rcases hp with hp | hp; exact hn hp; omega)).trans (h.block k hk hn)⟩
theorem Only.below {F : Nat → Prop} {B : Nat} {w w' : World} (h : Only F w w') (hB : B ≤ w.heap.size) (hF : ∀ k, k < B → ¬ F k) : Below B w w' :=
 ⟨h.os, h.tape, h.output, h.size, fun k hk => h.block k (by omega) (hF k hk)⟩
theorem Only.cell {F : Nat → Prop} {w w' : World} (h : Only F w w') {p : Addr} (hp : p.block < w.heap.size) (hn : ¬ F p.block) : w'.cell? p = w.cell? p := World.cell?_of_block (w := w) (h.block p.block hp hn)
theorem below_drew {w w' : World} (hb : Below w.drew.heap.size w.drew w') : Below w.heap.size w w' := ⟨hb.os, hb.tape, hb.output, hb.size, hb.block⟩
theorem Below.keeps {w w' : World} (h : Below w.heap.size w w') {p : Addr} {v : Value} (hc : w.cell? p = some v) : w'.cell? p = some v :=
 (h.cell (World.block_lt_of_cell? w p hc)).trans hc
section
variable {α : Type}
def rowOf (enc : α → List Value) : List α → List Value
 | [] => []
 | x :: r => enc x ++ rowOf enc r
theorem rowOf_append (enc : α → List Value) : ∀ (a b : List α), rowOf enc (a ++ b) = rowOf enc a ++ rowOf enc b
 | [], _ => rfl
 | x :: r, b => by show enc x ++ rowOf enc (r ++ b) = (enc x ++ rowOf enc r) ++ rowOf enc b; rw [rowOf_append enc r b, List.append_assoc]
theorem rowOf_snoc (enc : α → List Value) (a : List α) (x : α) : rowOf enc (a ++ [x]) = rowOf enc a ++ enc x := by
 rw [rowOf_append]; show _ ++ (enc x ++ []) = _; rw [List.append_nil]
theorem rowOf_length {enc : α → List Value} {k : Nat} (hk : ∀ x, (enc x).length = k) : ∀ d : List α, (rowOf enc d).length = d.length * k
 | [] => by simp [rowOf]
 | x :: r => by show (enc x ++ rowOf enc r).length = _; rw [List.length_append, hk, rowOf_length hk r, List.length_cons, Nat.add_mul]; omega
theorem rowOf_get {enc : α → List Value} {k : Nat} (hk : ∀ x, (enc x).length = k) : ∀ (d : List α) (i j : Nat) (hi : i < d.length), j < k → (rowOf enc d)[i * k + j]? = (enc d[i])[j]?
 | [], i, _, hi, _ => by simp at hi
 | x :: r, 0, j, _, hj => by
   show (enc x ++ rowOf enc r)[0 * k + j]? = _
   rw [List.getElem?_append_left (by rw [hk]; omega)];simp
 | x :: r, i + 1, j, hi, hj => by
   show (enc x ++ rowOf enc r)[(i + 1) * k + j]? = _
   rw [List.getElem?_append_right (by rw [hk, Nat.add_mul]; omega), hk];have := rowOf_get hk r i j (by simpa using hi) hj;rw [show (i + 1) * k + j - k = i * k + j by rw [Nat.add_mul]; omega, this];simp
theorem rowOf_take {enc : α → List Value} {k : Nat} (hk : ∀ x, (enc x).length = k) : ∀ (d : List α) (n : Nat), n ≤ d.length → (rowOf enc d).take (n * k) = rowOf enc (d.take n)
 | [], n, hn => by simp [rowOf]
 | x :: r, 0, _ => by simp [rowOf]
 | x :: r, n + 1, hn => by
   show (enc x ++ rowOf enc r).take ((n + 1) * k) = enc x ++ rowOf enc (r.take n)
   have h1 : (enc x).length = k := hk x;rw [List.take_append, h1, List.take_of_length_le (by rw [h1, Nat.add_mul]; omega), show (n + 1) * k - k = n * k by rw [Nat.add_mul]; omega, rowOf_take hk r n (by simpa using hn)]
theorem rowOf_set3 {enc : α → List Value} (hk : ∀ x, (enc x).length = 3) (d : List α) (i : Nat) (hi : i < d.length) (x : α) {a b c : Value} (he : enc x = [a, b, c]) :
   (((rowOf enc d).set (i * 3) a).set (i * 3 + 1) b).set (i * 3 + 2) c = rowOf enc (d.set i x) := by
 apply List.ext_getElem?
 intro p;have hlen : (rowOf enc d).length = d.length * 3 := rowOf_length hk d;have hlen2 : (rowOf enc (d.set i x)).length = d.length * 3 := by rw [rowOf_length hk]; simp
 by_cases hp : p < d.length * 3
 · have hq : p / 3 < d.length := by omega
   have e0 := rowOf_get hk d (p / 3) (p % 3) hq (by omega);have e1 := rowOf_get hk (d.set i x) (p / 3) (p % 3) (by simpa using hq) (by omega);rw [show p / 3 * 3 + p % 3 = p by omega] at e0 e1;rw [e1];simp only [List.getElem?_set, List.length_set, hlen];by_cases hpi : p / 3 = i
   · have : (d.set i x)[p / 3]'(by simpa using hq) = x := by subst hpi; simp
     rw [this, he];by_cases j0 : p = i * 3
     · have h0 : p % 3 = 0 := by omega
       rw [if_neg (by omega), if_neg (by omega), if_pos (by omega), if_pos (by omega), h0]; rfl
     · by_cases j1 : p = i * 3 + 1
       · have h0 : p % 3 = 1 := by omega
         rw [if_neg (by omega), if_pos (by omega), if_pos (by omega), h0]; rfl
       · have h0 : p % 3 = 2 := by omega
         rw [if_pos (by omega), if_pos (by omega), h0]; rfl
   · have : (d.set i x)[p / 3]'(by simpa using hq) = d[p / 3] := by rw [List.getElem_set_ne (fun e => hpi e.symm)]
     rw [this, if_neg (by omega), if_neg (by omega), if_neg (by omega), e0]
 · rw [List.getElem?_eq_none (by simp; omega), List.getElem?_eq_none (by omega)]
end
section
variable {w : World} {base : Nat} {e : TypeId} {k g cap : Nat}
theorem ownsRow_cut {n m : Nat} {xs : List Value} (h : w.ownsRow base e k (.slice (some ⟨g, 0, none⟩) n cap) n xs) (hm : m ≤ n) :
   w.ownsRow base e k (.slice (some ⟨g, 0, none⟩) m cap) m (xs.take (m * k)) := by
 obtain ⟨h1, h2⟩ := h;rcases h2 with ⟨h', _⟩ | ⟨g', cap', cur, h', hb, hg, hnc, hcm, hcs, htake⟩
 · simp at h'
 · simp only [Value.slice.injEq, Option.some.injEq, Addr.mk.injEq, and_true, true_and] at h'
   obtain ⟨rfl, rfl⟩ := h';have hmk : m * k ≤ n * k := Nat.mul_le_mul_right k hm;refine ⟨by rw [List.length_take, h1]; omega, .inr ⟨g, cap, cur, rfl, hb, hg, by omega, hcm, hcs, ?_⟩⟩;rw [← htake, List.take_take, Nat.min_eq_left hmk]
theorem ownsRow_head {n : Nat} {v : Value} {xs : List Value} (h : w.ownsRow base e k v n xs) (hn : 1 ≤ n) :
   ∃ g cap, v = .slice (some ⟨g, 0, none⟩) n cap ∧ base ≤ g ∧ g < w.heap.size ∧ n ≤ cap ∧ cap ≤ 9223372036854775807 ∧ ∃ cur, w.heap[g]? = some (.cells cur e (0, 0)) ∧ cur.size = cap * k := by
 obtain ⟨_, hcase⟩ := h;rcases hcase with ⟨_, h0⟩ | ⟨g, cap, cur, hv, hg, hh, hnc, hcm, hsz, _⟩
 · omega
 · exact ⟨g, cap, hv, hg, (Array.getElem?_eq_some_iff.1 hh).1, hnc, hcm, cur, hh, hsz⟩
theorem ownsRow_shape {n : Nat} {v : Value} {xs : List Value} (h : w.ownsRow base e k v n xs) : ∃ a cap, v = .slice a n cap ∧ n ≤ cap ∧ cap ≤ 9223372036854775807 := by
 obtain ⟨_, hcase⟩ := h;rcases hcase with ⟨hv, h0⟩ | ⟨g, cap, cur, hv, hg, hh, hnc, hcm, hsz, _⟩
 · subst h0; exact ⟨_, _, hv, by omega, by omega⟩
 · exact ⟨_, _, hv, hnc, hcm⟩
theorem ownsRow_only {F : Nat → Prop} {w' : World} {v : Value} {n : Nat} {xs : List Value} (h : w.ownsRow base e k v n xs) (ho : Only F w w') (hne : ∀ g, v.ownBlock = some g → ¬ F g) : w'.ownsRow base e k v n xs := by
 refine ⟨h.1, ?_⟩;rcases h.2 with hn | ⟨g, cap, cur, rfl, hb, hgg, rest⟩
 · exact .inl hn
 · exact .inr ⟨g, cap, cur, rfl, hb, (ho.block g (Array.getElem?_eq_some_iff.1 hgg).1 (hne g rfl)).trans hgg, rest⟩
theorem ownsRow_base {base' : Nat} {v : Value} {n : Nat} {xs : List Value} (h : w.ownsRow base e k v n xs) (hb : ∀ g, v.ownBlock = some g → base' ≤ g) : w.ownsRow base' e k v n xs := by
 refine ⟨h.1, ?_⟩;rcases h.2 with hn | ⟨g, cap, cur, rfl, _, rest⟩
 · exact .inl hn
 · exact .inr ⟨g, cap, cur, rfl, hb g rfl, rest⟩
end
end Go.Proofs.YtfajfflbplnagaaDoor
