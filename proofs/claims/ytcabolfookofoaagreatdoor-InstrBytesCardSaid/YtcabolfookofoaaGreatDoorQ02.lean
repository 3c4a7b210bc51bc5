/- A part of the proof: CLst, Num, CFoot, Rd. No condition. -/
import Derived.WalkKit
import Derived.Laws.OwnMore
import Derived.Below
import Derived.OwnWalk
import Derived.Test.YtcabolfookofoaaGreatDoorRows
import Derived.WalkSpells
import Derived.WalkLawsBesides
import Derived.Handy
import Derived.Lib.Hide
import Derived.Laws.BitsAllLaws
import Derived.LoopTactic
import Derived.Deep.QuietTactic
import Derived.BigQuiet
import Derived.RegionTactic
set_option linter.unusedVariables false
set_option linter.unusedSimpArgs false
namespace Go.Proofs.YtcabolfookofoaaGreatDoor
open Go.RowKit
def uintL (n : Nat) : List Nat := if _h : n < 128 then [n] else (n % 128 + 128) :: uintL (n / 128)
termination_by n
decreasing_by omega
theorem uintL_small {n : Nat} (h : n < 128) : uintL n = [n] := by rw [uintL, dif_pos h]
theorem uintL_big {n : Nat} (h : ¬ n < 128) : uintL n = (n % 128 + 128) :: uintL (n / 128) := by rw [uintL, dif_neg h]
theorem uintL_pos (n : Nat) : 0 < (uintL n).length := by
 by_cases h : n < 128
 · rw [uintL_small h]; simp
 · rw [uintL_big h]; simp
theorem uintL_byte (n : Nat) : ∀ b ∈ uintL n, b < 256 := by
 induction n using Nat.strongRecOn with
 | ind n ih =>
   by_cases h : n < 128
   · rw [uintL_small h]; intro b hb; simp at hb; omega
   · rw [uintL_big h]; intro b hb
     rcases List.mem_cons.1 hb with h1 | h1
     · omega
     · exact ih (n / 128) (by omega) b h1
theorem uintL_len {k : Nat} : ∀ {n : Nat}, n < 128 ^ (k + 1) → (uintL n).length ≤ k + 1 := by
 induction k with
 | zero => intro n h; rw [uintL_small (by simpa using h)]; simp
 | succ k ih =>
   intro n h;by_cases h1 : n < 128
   · rw [uintL_small h1]; simp
   · rw [uintL_big h1, List.length_cons]
     have : n / 128 < 128 ^ (k + 1) := by
       rw [Nat.div_lt_iff_lt_mul (by omega), ← Nat.pow_succ]; exact h
     have := ih this;omega
theorem uintL_len10 {n : Nat} (h : n < 18446744073709551616) : (uintL n).length ≤ 10 := uintL_len (k := 9) (Nat.lt_of_lt_of_le h (by decide))
def foldN (i : Int) : Nat := if i < 0 then (-2 * i - 1).toNat else (2 * i).toNat
theorem foldN_lt {i : Int} (h1 : -9223372036854775808 ≤ i) (h2 : i ≤ 9223372036854775807) : foldN i < 18446744073709551616 := by
 unfold foldN;split <;> omega
end Go.Proofs.YtcabolfookofoaaGreatDoor
namespace Go.Proofs.YtcabolfookofoaaGreatDoor
open Go.RowKit
def held (x : Int) : Int := if x < -9223372036854775808 then -9223372036854775808 else if 9223372036854775807 < x then 9223372036854775807 else x
def I64 (x : Int) : Prop := -9223372036854775808 ≤ x ∧ x ≤ 9223372036854775807
theorem ret_int {k : IntKind} {a b : Int} (h : a = b) : Ending.returned (.int k a) = .returned (.int k b) := by rw [h]
theorem ret_bool {a b : Bool} (h : a = b) : Ending.returned (.bool a) = .returned (.bool b) := by rw [h]
theorem exHid {α : Sort _} (x : α) : ∃ s, Hid (x = s) := ⟨x, rfl⟩
theorem below_next {w W w' : World} (h : Below w.heap.size w W) (hb : Below W.heap.size W w') : Below w.heap.size w w' := h.trans (hb.mono h.size)
theorem cell_kept {w1 w2 : World} {c : Array Value} {t : TypeId} (hb : Below (w1.alloc (.cells c t)).heap.size (w1.alloc (.cells c t)) w2) (o2 : Obj) (j : Nat) :
   (w2.alloc o2).cell? ⟨w1.heap.size, j, none⟩ = c[j]? := by
 have h0 : w1.heap.size < (w1.alloc (.cells c t)).heap.size := by simp
 have h1 : (w2.alloc o2).heap[w1.heap.size]? = w2.heap[w1.heap.size]? := Below.heap_alloc w2 o2 _ (Nat.lt_of_lt_of_le h0 hb.size);have h2 : (w2.alloc o2).heap[w1.heap.size]? = (w1.alloc (.cells c t)).heap[w1.heap.size]? := h1.trans (hb.block _ h0);rw [World.cell?_of_block (w := w1.alloc (.cells c t)) (a := ⟨w1.heap.size, j, none⟩) h2, World.cell?_alloc_new]
end Go.Proofs.YtcabolfookofoaaGreatDoor
namespace Go.Proofs.YtcabolfookofoaaGreatDoor
open Go.RowKit
structure Only (F : Nat → Prop) (w w' : World) : Prop where
 os : w'.os = w.os
 tape : w'.tape = w.tape
 output : w'.output = w.output
 size : w.heap.size ≤ w'.heap.size
 block : ∀ k, k < w.heap.size → ¬ F k → w'.heap[k]? = w.heap[k]?
theorem Only.refl (F : Nat → Prop) (w : World) : Only F w w := ⟨rfl, rfl, rfl, Nat.le_refl _, fun _ _ _ => rfl⟩
theorem Only.mono {F G : Nat → Prop} {w w' : World} (h : Only F w w') (hFG : ∀ k, k < w.heap.size → F k → G k) : Only G w w' :=
 ⟨h.os, h.tape, h.output, h.size, fun k hk hn => h.block k hk (fun hf => hn (hFG k hk hf))⟩
theorem Only.trans {F G K : Nat → Prop} {a b c : World} (h : Only F a b) (g : Only G b c) (hF : ∀ k, k < a.heap.size → F k → K k) (hG : ∀ k, k < a.heap.size → G k → K k) : Only K a c :=
 ⟨g.os.trans h.os, g.tape.trans h.tape, g.output.trans h.output, Nat.le_trans h.size g.size, fun k hk hn =>
   (g.block k (Nat.lt_of_lt_of_le hk h.size) (fun e => hn (hG k hk e))).trans (h.block k hk (fun e => hn (hF k hk e)))⟩
theorem Only.then {F : Nat → Prop} {a b c : World} (h : Only F a b) (g : Only F b c) : Only F a c := h.trans g (fun _ _ e => e) (fun _ _ e => e)
theorem Only.drew {F : Nat → Prop} {a w : World} (h : Only F a w) : Only F a w.drew := ⟨h.os, h.tape, h.output, h.size, h.block⟩
theorem Only.drew0 {F : Nat → Prop} {a w : World} (h : Only F a.drew w) : Only F a w := ⟨h.os, h.tape, h.output, h.size, h.block⟩
theorem Only.of_below {F : Nat → Prop} {w w' : World} (h : Below w.heap.size w w') : Only F w w' := ⟨h.os, h.tape, h.output, h.size, fun k hk _ => h.block k hk⟩
theorem Only.of_grown {F : Nat → Prop} {w w' : World} {row : Option Nat} (h : w.grownBy w' row) (hr : ∀ k, row = some k → F k) : Only F w w' :=
 ⟨h.os, h.tape, h.output, h.size, fun k hk hn => h.block k hk (fun e => hn (hr k e.symm))⟩
theorem Only.alloc {F : Nat → Prop} {a w : World} (h : Only F a w) (o : Obj) : Only F a (w.alloc o) :=
 h.then ⟨rfl, rfl, rfl, by simp, fun k hk _ => Below.heap_alloc _ _ _ hk⟩
theorem Only.setCell {F : Nat → Prop} {a w : World} (h : Only F a w) {p : Addr} (hp : F p.block ∨ a.heap.size ≤ p.block) (u : Value) : Only F a (w.setCell p u) :=
 ⟨h.os, h.tape, h.output, Nat.le_trans h.size (by simp [World.setCell]), fun k hk hn => (Below.heap_setCell _ _ _ _ (by intro e; subst e; rcases hp with hp | hp; exact hn hp; omega)).trans (h.block k hk hn)⟩
theorem Only.below {F : Nat → Prop} {B : Nat} {w w' : World} (h : Only F w w') (hB : B ≤ w.heap.size) (hF : ∀ k, k < B → ¬ F k) : Below B w w' :=
 ⟨h.os, h.tape, h.output, h.size, fun k hk => h.block k (by omega) (hF k hk)⟩
theorem Only.cell {F : Nat → Prop} {w w' : World} (h : Only F w w') {p : Addr} (hp : p.block < w.heap.size) (hn : ¬ F p.block) : w'.cell? p = w.cell? p := World.cell?_of_block (w := w) (h.block p.block hp hn)
theorem below_drew {w w' : World} (hb : Below w.drew.heap.size w.drew w') : Below w.heap.size w w' := ⟨hb.os, hb.tape, hb.output, hb.size, hb.block⟩
theorem Below.keeps {w w' : World} (h : Below w.heap.size w w') {p : Addr} {v : Value} (hc : w.cell? p = some v) : w'.cell? p = some v :=
 (h.cell (World.block_lt_of_cell? w p hc)).trans hc
section
variable {α : Type}
def rowOf (enc : α → List Value) : List α → List Value
 | [] => []
 | x :: r => enc x ++ rowOf enc r
theorem rowOf_append (enc : α → List Value) : ∀ (a b : List α), rowOf enc (a ++ b) = rowOf enc a ++ rowOf enc b
 | [], _ => rfl
 | x :: r, b => by show enc x ++ rowOf enc (r ++ b) = (enc x ++ rowOf enc r) ++ rowOf enc b; rw [rowOf_append enc r b, List.append_assoc]
theorem rowOf_snoc (enc : α → List Value) (a : List α) (x : α) : rowOf enc (a ++ [x]) = rowOf enc a ++ enc x := by
 rw [rowOf_append]; show _ ++ (enc x ++ []) = _; rw [List.append_nil]
theorem rowOf_length {enc : α → List Value} {k : Nat} (hk : ∀ x, (enc x).length = k) : ∀ d : List α, (rowOf enc d).length = d.length * k
 | [] => by simp [rowOf]
 | x :: r => by show (enc x ++ rowOf enc r).length = _; rw [List.length_append, hk, rowOf_length hk r, List.length_cons, Nat.add_mul]; omega
theorem rowOf_get {enc : α → List Value} {k : Nat} (hk : ∀ x, (enc x).length = k) : ∀ (d : List α) (i j : Nat) (hi : i < d.length), j < k → (rowOf enc d)[i * k + j]? = (enc d[i])[j]?
 | [], i, _, hi, _ => by simp at hi
 | x :: r, 0, j, _, hj => by
   show (enc x ++ rowOf enc r)[0 * k + j]? = _
   rw [List.getElem?_append_left (by rw [hk]; omega)];simp
 | x :: r, i + 1, j, hi, hj => by
   show (enc x ++ rowOf enc r)[(i + 1) * k + j]? = _
   rw [List.getElem?_append_right (by rw [hk, Nat.add_mul]; omega), hk];have := rowOf_get hk r i j (by simpa using hi) hj;rw [show (i + 1) * k + j - k = i * k + j by rw [Nat.add_mul]; omega, this];simp
theorem rowOf_take {enc : α → List Value} {k : Nat} (hk : ∀ x, (enc x).length = k) : ∀ (d : List α) (n : Nat), n ≤ d.length → (rowOf enc d).take (n * k) = rowOf enc (d.take n)
 | [], n, hn => by simp [rowOf]
 | x :: r, 0, _ => by simp [rowOf]
 | x :: r, n + 1, hn => by
   show (enc x ++ rowOf enc r).take ((n + 1) * k) = enc x ++ rowOf enc (r.take n)
   have h1 : (enc x).length = k := hk x;rw [List.take_append, h1, List.take_of_length_le (by rw [h1, Nat.add_mul]; omega), show (n + 1) * k - k = n * k by rw [Nat.add_mul]; omega, rowOf_take hk r n (by simpa using hn)]
theorem rowOf_set3 {enc : α → List Value} (hk : ∀ x, (enc x).length = 3) (d : List α) (i : Nat) (hi : i < d.length) (x : α) {a b c : Value} (he : enc x = [a, b, c]) :
   (((rowOf enc d).set (i * 3) a).set (i * 3 + 1) b).set (i * 3 + 2) c = rowOf enc (d.set i x) := by
 apply List.ext_getElem?
 intro p;have hlen : (rowOf enc d).length = d.length * 3 := rowOf_length hk d;have hlen2 : (rowOf enc (d.set i x)).length = d.length * 3 := by rw [rowOf_length hk]; simp
 by_cases hp : p < d.length * 3
 · have hq : p / 3 < d.length := by omega
   have e0 := rowOf_get hk d (p / 3) (p % 3) hq (by omega);have e1 := rowOf_get hk (d.set i x) (p / 3) (p % 3) (by simpa using hq) (by omega);rw [show p / 3 * 3 + p % 3 = p by omega] at e0 e1;rw [e1];simp only [List.getElem?_set, List.length_set, hlen];by_cases hpi : p / 3 = i
   · have : (d.set i x)[p / 3]'(by simpa using hq) = x := by subst hpi; simp
     rw [this, he];by_cases j0 : p = i * 3
     · have h0 : p % 3 = 0 := by omega
       rw [if_neg (by omega), if_neg (by omega), if_pos (by omega), if_pos (by omega), h0]; rfl
     · by_cases j1 : p = i * 3 + 1
       · have h0 : p % 3 = 1 := by omega
         rw [if_neg (by omega), if_pos (by omega), if_pos (by omega), h0]; rfl
       · have h0 : p % 3 = 2 := by omega
         rw [if_pos (by omega), if_pos (by omega), h0]; rfl
   · have : (d.set i x)[p / 3]'(by simpa using hq) = d[p / 3] := by rw [List.getElem_set_ne (fun e => hpi e.symm)]
     rw [this, if_neg (by omega), if_neg (by omega), if_neg (by omega), e0]
 · rw [List.getElem?_eq_none (by simp; omega), List.getElem?_eq_none (by omega)]
end
section
variable {w : World} {base : Nat} {e : TypeId} {k g cap : Nat}
theorem ownsRow_cut {n m : Nat} {xs : List Value} (h : w.ownsRow base e k (.slice (some ⟨g, 0, none⟩) n cap) n xs) (hm : m ≤ n) :
   w.ownsRow base e k (.slice (some ⟨g, 0, none⟩) m cap) m (xs.take (m * k)) := by
 obtain ⟨h1, h2⟩ := h;rcases h2 with ⟨h', _⟩ | ⟨g', cap', cur, h', hb, hg, hnc, hcm, hcs, htake⟩
 · simp at h'
 · simp only [Value.slice.injEq, Option.some.injEq, Addr.mk.injEq, and_true, true_and] at h'
   obtain ⟨rfl, rfl⟩ := h';have hmk : m * k ≤ n * k := Nat.mul_le_mul_right k hm;refine ⟨by rw [List.length_take, h1]; omega, .inr ⟨g, cap, cur, rfl, hb, hg, by omega, hcm, hcs, ?_⟩⟩;rw [← htake, List.take_take, Nat.min_eq_left hmk]
theorem ownsRow_head {n : Nat} {v : Value} {xs : List Value} (h : w.ownsRow base e k v n xs) (hn : 1 ≤ n) :
   ∃ g cap, v = .slice (some ⟨g, 0, none⟩) n cap ∧ base ≤ g ∧ g < w.heap.size ∧ n ≤ cap ∧ cap ≤ 9223372036854775807 ∧ ∃ cur, w.heap[g]? = some (.cells cur e (0, 0)) ∧ cur.size = cap * k := by
 obtain ⟨_, hcase⟩ := h;rcases hcase with ⟨_, h0⟩ | ⟨g, cap, cur, hv, hg, hh, hnc, hcm, hsz, _⟩
 · omega
 · exact ⟨g, cap, hv, hg, (Array.getElem?_eq_some_iff.1 hh).1, hnc, hcm, cur, hh, hsz⟩
theorem ownsRow_shape {n : Nat} {v : Value} {xs : List Value} (h : w.ownsRow base e k v n xs) : ∃ a cap, v = .slice a n cap ∧ n ≤ cap ∧ cap ≤ 9223372036854775807 := by
 obtain ⟨_, hcase⟩ := h;rcases hcase with ⟨hv, h0⟩ | ⟨g, cap, cur, hv, hg, hh, hnc, hcm, hsz, _⟩
 · subst h0; exact ⟨_, _, hv, by omega, by omega⟩
 · exact ⟨_, _, hv, hnc, hcm⟩
theorem ownsRow_only {F : Nat → Prop} {w' : World} {v : Value} {n : Nat} {xs : List Value} (h : w.ownsRow base e k v n xs) (ho : Only F w w') (hne : ∀ g, v.ownBlock = some g → ¬ F g) : w'.ownsRow base e k v n xs := by
 refine ⟨h.1, ?_⟩;rcases h.2 with hn | ⟨g, cap, cur, rfl, hb, hgg, rest⟩
 · exact .inl hn
 · exact .inr ⟨g, cap, cur, rfl, hb, (ho.block g (Array.getElem?_eq_some_iff.1 hgg).1 (hne g rfl)).trans hgg, rest⟩
theorem ownsRow_base {base' : Nat} {v : Value} {n : Nat} {xs : List Value} (h : w.ownsRow base e k v n xs) (hb : ∀ g, v.ownBlock = some g → base' ≤ g) : w.ownsRow base' e k v n xs := by
 refine ⟨h.1, ?_⟩;rcases h.2 with hn | ⟨g, cap, cur, rfl, _, rest⟩
 · exact .inl hn
 · exact .inr ⟨g, cap, cur, rfl, hb g rfl, rest⟩
end
end Go.Proofs.YtcabolfookofoaaGreatDoor
namespace Go.Proofs.YtcabolfookofoaaGreatDoor
open Go.RowKit
def By (w : World) (a : Option Addr) (L : Nat) (f : Nat → Nat) : Prop :=
 0 < L → ∃ b off, a = some ⟨b, off, none⟩ ∧ b < w.heap.size ∧ ∀ j, j < L → w.cell? ⟨b, off + j, none⟩ = some (.int .u8 (f j)) ∧ f j < 256
theorem By.kept {w w' : World} {a : Option Addr} {L : Nat} {f : Nat → Nat} (h : By w a L f) {F : Nat → Prop} (ho : Only F w w') (hF : ∀ p, a = some p → 0 < L → ¬ F p.block) : By w' a L f := by
 intro h0;obtain ⟨b, off, rfl, hb, hc⟩ := h h0;exact ⟨b, off, rfl, Nat.lt_of_lt_of_le hb ho.size, fun j hj => ⟨(ho.cell (p := ⟨b, off + j, none⟩) hb (hF (⟨b, off, none⟩ : Addr) rfl h0)).trans (hc j hj).1, (hc j hj).2⟩⟩
theorem only_drewN {F : Nat → Prop} {w w' : World} {n : Nat} (h : Only F (w.drewN n) w') : Only F w w' := ⟨h.os, h.tape, h.output, h.size, h.block⟩
end Go.Proofs.YtcabolfookofoaaGreatDoor
