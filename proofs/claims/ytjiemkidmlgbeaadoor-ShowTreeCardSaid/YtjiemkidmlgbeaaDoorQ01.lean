/- A part of the proof: Shelf, TSpec, Num, Kw, CFoot, RMap. No condition. -/
import Derived.Shelf.Strconv.Itoa0
import Derived.Shelf.Strconv.Itoa1
import Derived.Shelf.LaysM
import Derived.Shelf.Strconv.Itoa2
import Derived.Shelf.Strconv.AppendUint10
import Derived.Shelf.Strconv.AppendInt10
import Derived.Shelf.Strconv.AppendIntPublic10
import Derived.Test.YtjiemkidmlgbeaaDoorProg
import Derived.WalkKit
import Derived.Test.YtjiemkidmlgbeaaDoorRows
import Derived.WalkSpells
import Derived.WalkLawsBesides
import Derived.Handy
import Derived.Lib.Hide
import Derived.LoopTactic
import Derived.Lib.IndexBytes
import Derived.Laws.OwnMore
import Derived.Below
import Derived.OwnWalk
import Derived.Maps.OwnSet
import Derived.MapKept
set_option linter.unusedVariables false
set_option linter.unusedSimpArgs false
namespace Go.Proofs
open Go.Shelf
def Tryd.laysM176_ren : Go.Shelf.Ren := ⟨fun | 176 => 43 | 249 => 75 | 288 => 87 | 283 => 91 | 284 => 92 | 285 => 93 | 286 => 94 | 129 => 97 | 317 => 96 | 318 => 98 | 319 => 99 | 320 => 100 | 337 => 101 | 338 => 102 | n => n, fun | 37 => 47 | 2 => 2 | 3 => 3 | 53 => 98 | 4 => 4 | 9 => 9 | 171 => 103 | 0 => 0 | 173 => 106 | 212 => 110 | 51 => 111 | 5 => 5 | 20 => 20 | 213 => 112 | 46 => 100 | 232 => 115 | 233 => 116 | n => n, fun | 17 => 2 | 18 => 3 | 19 => 4 | n => n⟩
theorem Tryd.laysM176 : Go.Proofs.LaysM.n176 Tryd.prog Tryd.laysM176_ren := {
 mixed := by kernel_rfl
 f129 := Tryd.func97.trans (congrArg some (by kernel_rfl))
 f176 := Tryd.func43.trans (congrArg some (by kernel_rfl))
 f249 := Tryd.func75.trans (congrArg some (by kernel_rfl))
 f283 := Tryd.func91.trans (congrArg some (by kernel_rfl))
 f284 := Tryd.func92.trans (congrArg some (by kernel_rfl))
 f285 := Tryd.func93.trans (congrArg some (by kernel_rfl))
 f286 := Tryd.func94.trans (congrArg some (by kernel_rfl))
 f288 := Tryd.func87.trans (congrArg some (by kernel_rfl))
 f317 := Tryd.func96.trans (congrArg some (by kernel_rfl))
 f318 := Tryd.func98.trans (congrArg some (by kernel_rfl))
 f319 := Tryd.func99.trans (congrArg some (by kernel_rfl))
 f320 := Tryd.func100.trans (congrArg some (by kernel_rfl))
 f337 := Tryd.func101.trans (congrArg some (by kernel_rfl))
 f338 := Tryd.func102.trans (congrArg some (by kernel_rfl))
 t0 := Tryd.underlying0
 a0 := Tryd.isAgg0
 z0 := Tryd.sizeOf0
 v0 := Tryd.zeroValue0
 t2 := Tryd.underlying2
 a2 := Tryd.isAgg2
 z2 := Tryd.sizeOf2
 v2 := Tryd.zeroValue2
 t3 := Tryd.underlying3
 a3 := Tryd.isAgg3
 z3 := Tryd.sizeOf3
 v3 := Tryd.zeroValue3
 t4 := Tryd.underlying4
 a4 := Tryd.isAgg4
 z4 := Tryd.sizeOf4
 v4 := Tryd.zeroValue4
 t5 := Tryd.underlying5
 a5 := Tryd.isAgg5
 z5 := Tryd.sizeOf5
 v5 := Tryd.zeroValue5
 t9 := Tryd.underlying9
 a9 := Tryd.isAgg9
 z9 := Tryd.sizeOf9
 v9 := Tryd.zeroValue9
 t20 := Tryd.underlying20
 a20 := Tryd.isAgg20
 z20 := Tryd.sizeOf20
 v20 := Tryd.zeroValue20
 t37 := Tryd.underlying47
 a37 := Tryd.isAgg47
 z37 := Tryd.sizeOf47
 v37 := Tryd.zeroValue47
 t46 := Tryd.underlying100
 a46 := Tryd.isAgg100
 z46 := Tryd.sizeOf100
 v46 := Tryd.zeroValue100
 t51 := Tryd.underlying111
 a51 := Tryd.isAgg111
 z51 := Tryd.sizeOf111
 v51 := Tryd.zeroValue111
 t53 := Tryd.underlying98
 a53 := Tryd.isAgg98
 z53 := Tryd.sizeOf98
 v53 := Tryd.zeroValue98
 t171 := Tryd.underlying103
 a171 := Tryd.isAgg103
 z171 := Tryd.sizeOf103
 v171 := Tryd.zeroValue103
 t173 := Tryd.underlying106
 a173 := Tryd.isAgg106
 z173 := Tryd.sizeOf106
 v173 := Tryd.zeroValue106
 t212 := Tryd.underlying110
 a212 := Tryd.isAgg110
 z212 := Tryd.sizeOf110
 v212 := Tryd.zeroValue110
 t213 := Tryd.underlying112
 a213 := Tryd.isAgg112
 z213 := Tryd.sizeOf112
 t232 := Tryd.underlying115
 a232 := Tryd.isAgg115
 z232 := Tryd.sizeOf115
 v232 := Tryd.zeroValue115
 t233 := Tryd.underlying116
 a233 := Tryd.isAgg116
 z233 := Tryd.sizeOf116
 v233 := Tryd.zeroValue116
 g17 := by kernel_rfl
 g18 := by kernel_rfl
 g19 := by kernel_rfl
 i0 := by kernel_rfl
 i2 := by kernel_rfl
 i3 := by kernel_rfl
 i4 := by kernel_rfl
 i5 := by kernel_rfl
 i9 := by kernel_rfl
 i20 := by kernel_rfl
 i37 := by kernel_rfl
 i46 := by kernel_rfl
 i51 := by kernel_rfl
 i53 := by kernel_rfl
 i171 := by kernel_rfl
 i173 := by kernel_rfl
 i212 := by kernel_rfl
 i232 := by kernel_rfl
 i233 := by kernel_rfl
 m17 := by kernel_rfl
 m18 := by kernel_rfl
 m19 := by kernel_rfl }
open Go.RowKit Go.Sort Go.Lib in
theorem Tryd.strconv_AppendInt_10 (B n : Nat) (i : Int) (h0 : -9223372036854775808 ≤ i) (h1 : i ≤ 9223372036854775807) (sv : Value) (xs : List Value) (w : World) (hown : w.ownsRow B 5 1 sv n xs) (hBw : B ≤ w.heap.size) (hlim : n + 21 ≤ 140737488355328) (htab : Lib.TabBelow Tryd.prog B w "internal/strconv.uint64pow10" .u64 Lib.pow10Tab) :
   Calls Tryd.prog 43 #[sv, .int .i64 i, .int .i64 10] w fun e w' => ∃ v', e = .returned v' ∧ w'.ownsRow B 5 1 v' (n + (Lib.itoa i).length) (xs ++ Lib.byteCells (Lib.itoa i)) ∧ Below B w w' ∧ Lib.OthersKept 5 none w w' := Any.strconv_AppendInt_10 Tryd.laysM176 B n i h0 h1 sv xs w hown hBw hlim htab
end Go.Proofs
namespace Go.Proofs.YtjiemkidmlgbeaaDoor.Tok
def lowC (c : UInt8) : Bool := decide (97 ≤ c.toNat ∧ c.toNat ≤ 122)
def digC (c : UInt8) : Bool := decide (48 ≤ c.toNat ∧ c.toNat ≤ 57)
def wordC (c : UInt8) : Bool := lowC c || digC c || decide (c.toNat = 95)
def plainC (c : UInt8) : Bool := decide (32 ≤ c.toNat ∧ c.toNat ≤ 126)
def span (p : UInt8 → Bool) : List UInt8 → Nat
 | [] => 0
 | c :: l => if p c then span p l + 1 else 0
inductive Res where
 | ok (kind : Nat) (text : List UInt8) (num : Nat) (n : Nat)
 | bad (n code : Nat)
 deriving DecidableEq
def wordT (l : List UInt8) : Res := if 24 < span wordC l then .bad 0 2 else .ok 1 (l.take (span wordC l)) 0 (span wordC l)
def signs : List (List UInt8) := [[61, 61], [33, 61], [60, 61], [40], [41], [123], [125], [91], [93], [44], [61], [60], [43], [45], [42], [47], [37]]
theorem low_word {c : UInt8} (h : lowC c = true) : wordC c = true := by simp [wordC, h]
end Go.Proofs.YtjiemkidmlgbeaaDoor.Tok
namespace Go.Proofs.YtjiemkidmlgbeaaDoor
open Go.RowKit
def held (x : Int) : Int := if x < -9223372036854775808 then -9223372036854775808 else if 9223372036854775807 < x then 9223372036854775807 else x
def I64 (x : Int) : Prop := -9223372036854775808 ≤ x ∧ x ≤ 9223372036854775807
theorem ret_bool {a b : Bool} (h : a = b) : Ending.returned (.bool a) = .returned (.bool b) := by rw [h]
theorem exHid {α : Sort _} (x : α) : ∃ s, Hid (x = s) := ⟨x, rfl⟩
theorem below_next {w W w' : World} (h : Below w.heap.size w W) (hb : Below W.heap.size W w') : Below w.heap.size w w' := h.trans (hb.mono h.size)
end Go.Proofs.YtjiemkidmlgbeaaDoor
namespace Go.Proofs.YtjiemkidmlgbeaaDoor
open Go.RowKit
def kwL : List (List UInt8) := [
 [102, 108, 111, 119],
 [108, 101, 116],
 [105, 102],
 [101, 108, 115, 101],
 [119, 104, 105, 108, 101],
 [114, 101, 116, 117, 114, 110],
 [102, 97, 105, 108],
 [115, 108, 101, 101, 112],
 [100, 111],
 [110, 111, 110, 101],
 [116, 114, 117, 101],
 [102, 97, 108, 115, 101],
 [111, 114],
 [97, 110, 100],
 [110, 111, 116],
 [108, 101, 110],
 [110, 117, 109],
 [114, 101],
 [105, 109],
 [99, 111, 110, 106],
 [99, 97, 108, 108],
 [99, 104, 105, 108, 100],
 [116, 105, 109, 101, 114],
 [102, 111, 114, 107],
 [97, 119, 97, 105, 116],
 [115, 101, 116, 116, 108, 101],
 [116, 97, 107, 101],
 [118, 101, 114, 115, 105, 111, 110]]
def kwAt (i : Nat) : ByteArray := ⟨(kwL.getD i []).toArray⟩
def kwB (l : List UInt8) : Bool := kwL.any fun k => l == k
set_option maxRecDepth 20000 in
set_option maxHeartbeats 2000000 in
theorem keyword_any (s : ByteArray) (w : World) :
   Calls Tryd.prog 79 #[.string s] w fun e w' => e = .returned (.bool (kwB s.toList)) ∧ w = w' := by
 go_enter Tryd.func79, Tryd.ntmps79
 go_wp2
 all_goals first
   | (exfalso; simp_all; done)
   | (go_ret; exact ⟨ret_bool (by simp [kwB, kwL, *]), rfl⟩)
end Go.Proofs.YtjiemkidmlgbeaaDoor
namespace Go.Proofs.YtjiemkidmlgbeaaDoor
open Go.RowKit
structure Only (F : Nat → Prop) (w w' : World) : Prop where
 os : w'.os = w.os
 tape : w'.tape = w.tape
 output : w'.output = w.output
 size : w.heap.size ≤ w'.heap.size
 block : ∀ k, k < w.heap.size → ¬ F k → w'.heap[k]? = w.heap[k]?
theorem Only.refl (F : Nat → Prop) (w : World) : Only F w w := ⟨rfl, rfl, rfl, Nat.le_refl _, fun _ _ _ => rfl⟩
theorem Only.mono {F G : Nat → Prop} {w w' : World} (h : Only F w w') (hFG : ∀ k, k < w.heap.size → F k → G k) : Only G w w' :=
 ⟨h.os, h.tape, h.output, h.size, fun k hk hn => h.block k hk (fun hf => hn (hFG k hk hf))⟩
theorem Only.trans {F G K : Nat → Prop} {a b c : World} (h : Only F a b) (g : Only G b c) (hF : ∀ k, k < a.heap.size → F k → K k) (hG : ∀ k, k < a.heap.size → G k → K k) : Only K a c :=
 ⟨g.os.trans h.os, g.tape.trans h.tape, g.output.trans h.output, Nat.le_trans h.size g.size, fun k hk hn =>
   (g.block k (Nat.lt_of_lt_of_le hk h.size) (fun e => hn (hG k hk e))).trans (h.block k hk (fun e => hn (hF k hk e)))⟩
theorem Only.then {F : Nat → Prop} {a b c : World} (h : Only F a b) (g : Only F b c) : Only F a c := h.trans g (fun _ _ e => e) (fun _ _ e => e)
theorem Only.of_below {F : Nat → Prop} {w w' : World} (h : Below w.heap.size w w') : Only F w w' := ⟨h.os, h.tape, h.output, h.size, fun k hk _ => h.block k hk⟩
theorem Only.of_grown {F : Nat → Prop} {w w' : World} {row : Option Nat} (h : w.grownBy w' row) (hr : ∀ k, row = some k → F k) : Only F w w' :=
 ⟨h.os, h.tape, h.output, h.size, fun k hk hn => h.block k hk (fun e => hn (hr k e.symm))⟩
theorem Only.setCell {F : Nat → Prop} {a w : World} (h : Only F a w) {p : Addr} (hp : F p.block ∨ a.heap.size ≤ p.block) (u : Value) : Only F a (w.setCell p u) :=
 ⟨h.os, h.tape, h.output, Nat.le_trans h.size (by simp [World.setCell]), fun k hk hn => (Below.heap_setCell _ _ _ _ (by intro e; subst e; rcases hp with hp | hp; exact hn hp; omega)).trans (h.block k hk hn)⟩
theorem Only.below {F : Nat → Prop} {B : Nat} {w w' : World} (h : Only F w w') (hB : B ≤ w.heap.size) (hF : ∀ k, k < B → ¬ F k) : Below B w w' :=
 ⟨h.os, h.tape, h.output, h.size, fun k hk => h.block k (by omega) (hF k hk)⟩
theorem Only.cell {F : Nat → Prop} {w w' : World} (h : Only F w w') {p : Addr} (hp : p.block < w.heap.size) (hn : ¬ F p.block) : w'.cell? p = w.cell? p := World.cell?_of_block (w := w) (h.block p.block hp hn)
section
variable {α : Type}
def rowOf (enc : α → List Value) : List α → List Value
 | [] => []
 | x :: r => enc x ++ rowOf enc r
theorem rowOf_append (enc : α → List Value) : ∀ (a b : List α), rowOf enc (a ++ b) = rowOf enc a ++ rowOf enc b
 | [], _ => rfl
 | x :: r, b => by show enc x ++ rowOf enc (r ++ b) = (enc x ++ rowOf enc r) ++ rowOf enc b; rw [rowOf_append enc r b, List.append_assoc]
theorem rowOf_snoc (enc : α → List Value) (a : List α) (x : α) : rowOf enc (a ++ [x]) = rowOf enc a ++ enc x := by
 rw [rowOf_append]; show _ ++ (enc x ++ []) = _; rw [List.append_nil]
theorem rowOf_length {enc : α → List Value} {k : Nat} (hk : ∀ x, (enc x).length = k) : ∀ d : List α, (rowOf enc d).length = d.length * k
 | [] => by simp [rowOf]
 | x :: r => by show (enc x ++ rowOf enc r).length = _; rw [List.length_append, hk, rowOf_length hk r, List.length_cons, Nat.add_mul]; omega
theorem rowOf_get {enc : α → List Value} {k : Nat} (hk : ∀ x, (enc x).length = k) : ∀ (d : List α) (i j : Nat) (hi : i < d.length), j < k → (rowOf enc d)[i * k + j]? = (enc d[i])[j]?
 | [], i, _, hi, _ => by simp at hi
 | x :: r, 0, j, _, hj => by
   show (enc x ++ rowOf enc r)[0 * k + j]? = _
   rw [List.getElem?_append_left (by rw [hk]; omega)];simp
 | x :: r, i + 1, j, hi, hj => by
   show (enc x ++ rowOf enc r)[(i + 1) * k + j]? = _
   rw [List.getElem?_append_right (by rw [hk, Nat.add_mul]; omega), hk];have := rowOf_get hk r i j (by simpa using hi) hj;rw [show (i + 1) * k + j - k = i * k + j by rw [Nat.add_mul]; omega, this];simp
end
section
variable {w : World} {base : Nat} {e : TypeId} {k g cap : Nat}
theorem ownsRow_cut {n m : Nat} {xs : List Value} (h : w.ownsRow base e k (.slice (some ⟨g, 0, none⟩) n cap) n xs) (hm : m ≤ n) :
   w.ownsRow base e k (.slice (some ⟨g, 0, none⟩) m cap) m (xs.take (m * k)) := by
 obtain ⟨h1, h2⟩ := h;rcases h2 with ⟨h', _⟩ | ⟨g', cap', cur, h', hb, hg, hnc, hcm, hcs, htake⟩
 · simp at h'
 · simp only [Value.slice.injEq, Option.some.injEq, Addr.mk.injEq, and_true, true_and] at h'
   obtain ⟨rfl, rfl⟩ := h';have hmk : m * k ≤ n * k := Nat.mul_le_mul_right k hm;refine ⟨by rw [List.length_take, h1]; omega, .inr ⟨g, cap, cur, rfl, hb, hg, by omega, hcm, hcs, ?_⟩⟩;rw [← htake, List.take_take, Nat.min_eq_left hmk]
theorem ownsRow_head {n : Nat} {v : Value} {xs : List Value} (h : w.ownsRow base e k v n xs) (hn : 1 ≤ n) :
   ∃ g cap, v = .slice (some ⟨g, 0, none⟩) n cap ∧ base ≤ g ∧ g < w.heap.size ∧ n ≤ cap ∧ cap ≤ 9223372036854775807 ∧ ∃ cur, w.heap[g]? = some (.cells cur e (0, 0)) ∧ cur.size = cap * k := by
 obtain ⟨_, hcase⟩ := h;rcases hcase with ⟨_, h0⟩ | ⟨g, cap, cur, hv, hg, hh, hnc, hcm, hsz, _⟩
 · omega
 · exact ⟨g, cap, hv, hg, (Array.getElem?_eq_some_iff.1 hh).1, hnc, hcm, cur, hh, hsz⟩
theorem ownsRow_shape {n : Nat} {v : Value} {xs : List Value} (h : w.ownsRow base e k v n xs) : ∃ a cap, v = .slice a n cap ∧ n ≤ cap ∧ cap ≤ 9223372036854775807 := by
 obtain ⟨_, hcase⟩ := h;rcases hcase with ⟨hv, h0⟩ | ⟨g, cap, cur, hv, hg, hh, hnc, hcm, hsz, _⟩
 · subst h0; exact ⟨_, _, hv, by omega, by omega⟩
 · exact ⟨_, _, hv, hnc, hcm⟩
theorem ownsRow_only {F : Nat → Prop} {w' : World} {v : Value} {n : Nat} {xs : List Value} (h : w.ownsRow base e k v n xs) (ho : Only F w w') (hne : ∀ g, v.ownBlock = some g → ¬ F g) : w'.ownsRow base e k v n xs := by
 refine ⟨h.1, ?_⟩;rcases h.2 with hn | ⟨g, cap, cur, rfl, hb, hgg, rest⟩
 · exact .inl hn
 · exact .inr ⟨g, cap, cur, rfl, hb, (ho.block g (Array.getElem?_eq_some_iff.1 hgg).1 (hne g rfl)).trans hgg, rest⟩
end
end Go.Proofs.YtjiemkidmlgbeaaDoor
namespace Go.Proofs.YtjiemkidmlgbeaaDoor
open Go.RowKit Go.MapKept
def lookL : List (Nat × Value) → Nat → Option Value
 | [], _ => none
 | p :: r, k => if p.1 = k then some p.2 else lookL r k
def KMap (w : World) (b : Nat) (L : List (Nat × Value)) : Prop :=
 ∃ es clock, w.heap[b]? = some (.map es clock) ∧ es.toList.map (fun e => (e.key, e.val)) = L.map fun p => (Value.int .u8 (p.1 : Int), p.2)
theorem find_look (k : Nat) : ∀ (es : List MapEntry) (L : List (Nat × Value)) (i : Nat), es.map (fun e => (e.key, e.val)) = L.map (fun p => (Value.int .u8 (p.1 : Int), p.2)) →
   match lookL L k with
   | none => Instr.findNow (.int .u8) (.int .u8 (k : Int)) es i = some none
   | some v => ∃ j, Instr.findNow (.int .u8) (.int .u8 (k : Int)) es i = some (some (j, v))
 | [], [], _, _ => rfl
 | [], _ :: _, _, h => by simp at h
 | _ :: _, [], _, h => by simp at h
 | e :: es, p :: L, i, h => by
   simp only [List.map_cons, List.cons.injEq, Prod.mk.injEq] at h;obtain ⟨⟨hk, hv⟩, hr⟩ := h;have ih := find_look k es L (i + 1) hr;unfold lookL;by_cases hp : p.1 = k
   · rw [if_pos hp]
     refine ⟨i, ?_⟩;simp [Instr.findNow, Instr.sameNow, hk, hv, hp]
   · rw [if_neg hp]
     have hne : ((k : Int) == (p.1 : Int)) = false := beq_eq_false_iff_ne.2 (by omega);simp only [Instr.findNow, Instr.sameNow, hk, hne];exact ih
section
variable {P : Program} {w : World} {b : Nat} {L : List (Nat × Value)}
theorem KMap.made (w : World) : KMap (w.alloc (.map #[] 0)) w.heap.size [] := ⟨#[], 0, heap_alloc_new w _, rfl⟩
theorem KMap.lt (h : KMap w b L) : b < w.heap.size := by obtain ⟨es, c, h, _⟩ := h; exact (Array.getElem?_eq_some_iff.1 h).1
theorem KMap.below {W : World} {B : Nat} (h : KMap w b L) (hb : Below B w W) (hB : b < B) : KMap W b L := by
 obtain ⟨es, c, h1, h2⟩ := h;exact ⟨es, c, (hb.block b hB).trans h1, h2⟩
theorem KMap.only {W : World} {F : Nat → Prop} (h : KMap w b L) (ho : Only F w W) (hF : ¬ F b) : KMap W b L := by
 obtain ⟨es, c, h1, h2⟩ := h;exact ⟨es, c, (ho.block b (Array.getElem?_eq_some_iff.1 h1).1 hF).trans h1, h2⟩
theorem KMap.look {k e t : TypeId} {z : Value} (h : KMap w b L) (hk : P.underlying k = some (.int .u8)) (ht : P.underlying t = some (.map k e)) (hz : (zeroValue e).run P w = .ok z w) (x : Nat) :
   (Instr.lookup t (.map (some b)) (.int .u8 (x : Int)) true).run P w = .ok (.tuple #[(lookL L x).getD z, .bool (lookL L x).isSome]) w := by
 obtain ⟨es, clock, hb, he⟩ := h;have hf := find_look x es.toList L 0 he;have hc := fun e => Go.MapKept.run_checkKey (P := P) (w := w) (k := .int .u8 (x : Int)) hk (by simp [IsKey]) e 9999
 cases hl : lookL L x with
 | none =>
   rw [hl] at hf;have h2 := Go.MapKept.run_findKey (w := w) hk hf;simp [Instr.lookup, run_underlying ht, Go.MapKept.run_getObj_map hb, hc, h2, hz, Result.andThen]
 | some v =>
   rw [hl] at hf;obtain ⟨j, hf⟩ := hf;have h2 := Go.MapKept.run_findKey (w := w) hk hf;simp [Instr.lookup, run_underlying ht, Go.MapKept.run_getObj_map hb, hc, h2, Result.andThen]
theorem KMap.put {k e t : TypeId} (h : KMap w b L) (hk : P.underlying k = some (.int .u8)) (ht : P.underlying t = some (.map k e)) (x : Nat) (v : Value) (hn : lookL L x = none) :
   ∃ w', (Instr.mapUpdate t (.map (some b)) (.int .u8 (x : Int)) v).run P w = .ok () w' ∧ KMap w' b (L ++ [(x, v)]) ∧ Only (fun k => k = b) w w' := by
 obtain ⟨es, clock, hb, he⟩ := h;have hf := find_look x es.toList L 0 he;rw [hn] at hf;have hc := fun e => Go.MapKept.run_checkKey (P := P) (w := w) (k := .int .u8 (x : Int)) hk (by simp [IsKey]) e 9999
 have h2 := Go.MapKept.run_findKey (w := w) hk hf;have hlt := (Array.getElem?_eq_some_iff.1 hb).1;refine ⟨_, by simp [Instr.mapUpdate, run_underlying ht, Go.MapKept.run_getObj_map hb, hc, h2, Go.MapKept.run_setObj_map _ hb, Result.andThen]; rfl, ⟨es.push { key := .int .u8 (x : Int), val := v, born := clock }, clock + 1, ?_, ?_⟩, ?_⟩
 · simp [hlt]
 · simp [he]
 · exact ⟨rfl, rfl, rfl, by simp, fun j hj hne => by simp [Ne.symm hne]⟩
end
section
variable {P : Program} {w : World} {ops : Array Oper} {rest : List Oper} {o : Oper} {a : Act} {Q : Exit → Act → World → Prop} {b : Nat} {L : List (Nat × Value)}
theorem wpList_put_k (hg : o.guard = none) (m x v : Operand) (t k e : TypeId) (hop : o.op = Op.mapUpdate t m x v ∨ o.op = Op.insert t m x v)
   (hk : P.underlying k = some (.int .u8)) (ht : P.underlying t = some (.map k e)) (h : KMap w b L) (key : Nat) (u : Value) (hm : a.eval m = .map (some b)) (hx : a.eval x = .int .u8 (key : Int)) (hv : a.eval v = u) (hn : lookL L key = none)
   (hK : ∀ w', KMap w' b (L ++ [(key, u)]) → Only (fun k => k = b) w w' → wpList P ops Q rest (a.put o.dst undef) w') :
   wpList P ops Q (o :: rest) a w := by
 refine wpList_plain hg fun K' hK' => ?_
 obtain ⟨w', hrun, r1, r2⟩ := h.put hk ht key u hn;unfold Oper.wp;rcases hop with hop | hop
 all_goals
   simp [execOp, hop, hm, hx, hv, hrun, Result.andThen]
   exact hK' _ _ (hK w' r1 r2)
end
end Go.Proofs.YtjiemkidmlgbeaaDoor
