/- A part of the proof: CkP, SMap, RTws, CkS. No condition. -/
import Derived.Maps.OwnSet
import Derived.StringKeys
import Derived.Deep.RegionHeld3
import Derived.Maps.AppendAt
import Derived.Test.YtefijbpbenmbgaaDoorQ01
import Derived.Test.YtefijbpbenmbgaaDoorQ04
import Derived.Test.YtefijbpbenmbgaaDoorQ05
set_option linter.unusedVariables false
set_option linter.unusedSimpArgs false
namespace Go.Proofs.YtefijbpbenmbgaaDoor
open Go.RowKit Go.Shelf
structure CSt where
 l : List Int
 seen : List (List UInt8 × Nat)
 made : Nat
def findL : List (List UInt8 × Nat) → List UInt8 → Option Nat
 | [], _ => none
 | p :: r, s => match findL r s with
   | some v => some v
   | none => if p.1 = s then some p.2 else none
theorem findL_snoc (n : List UInt8) (v : Nat) (s : List UInt8) : ∀ L : List (List UInt8 × Nat), findL (L ++ [(n, v)]) s = if s = n then some v else findL L s
 | [] => by
   show (match findL [] s with | some v => some v | none => if n = s then some v else none) = _
   by_cases h : s = n
   · rw [if_pos h, show findL [] s = none from rfl]; dsimp only; rw [if_pos h.symm]
   · rw [if_neg h, show findL [] s = none from rfl]; dsimp only; rw [if_neg (fun e => h e.symm)]
 | p :: r => by
   show (match findL (r ++ [(n, v)]) s with | some v => some v | none => if p.1 = s then some p.2 else none) = _
   rw [findL_snoc n v s r];by_cases h : s = n
   · rw [if_pos h, if_pos h]
   · rw [if_neg h, if_neg h]; rfl
theorem findL_none {s : List UInt8} : ∀ {L : List (List UInt8 × Nat)}, findL L s = none ↔ s ∉ L.map Prod.fst
 | [] => by simp [findL]
 | p :: r => by
   have ih := findL_none (s := s) (L := r);unfold findL;cases h : findL r s with
   | some v =>
     rw [h] at ih
     constructor
     · intro e; cases e
     · intro e
       exact absurd (ih.2 (fun hm => e (by simp only [List.map_cons, List.mem_cons]; exact .inr hm))) (by simp)
   | none =>
     have hr := ih.1 h;dsimp only;by_cases hp : p.1 = s
     · rw [if_pos hp]
       constructor
       · intro e; cases e
       · intro e; exact absurd (by simp [hp]) e
     · rw [if_neg hp]
       constructor
       · intro _ hm
         simp only [List.map_cons, List.mem_cons] at hm;rcases hm with hm | hm
         · exact hp hm.symm
         · exact hr hm
       · intro _; rfl
theorem findL_mem {s : List UInt8} {v : Nat} : ∀ {L : List (List UInt8 × Nat)}, findL L s = some v → (s, v) ∈ L
 | [], h => by cases h
 | p :: r, h => by
   unfold findL at h;cases hr : findL r s with
   | some u =>
     rw [hr] at h;cases h
     exact List.mem_cons_of_mem _ (findL_mem hr)
   | none =>
     rw [hr] at h;dsimp only at h;by_cases hp : p.1 = s
     · rw [if_pos hp] at h
       cases h
       subst hp;exact List.mem_cons_self
     · rw [if_neg hp] at h
       cases h
theorem findL_take {L : List (List UInt8 × Nat)} (h : (L.map Prod.fst).Nodup) (n : Nat) (s : List UInt8) : findL (L.take n) s = if s ∈ (L.drop n).map Prod.fst then none else findL L s := by
 have hL : L = L.take n ++ L.drop n := (List.take_append_drop n L).symm;by_cases hm : s ∈ (L.drop n).map Prod.fst
 · rw [if_pos hm]
   rw [findL_none];intro h2;rw [hL, List.map_append, List.nodup_append] at h;exact h.2.2 _ h2 _ hm rfl
 · rw [if_neg hm]
   have happ : ∀ A B : List (List UInt8 × Nat), s ∉ B.map Prod.fst → findL (A ++ B) s = findL A s := by
     intro A
     induction A with
     | nil =>
       intro B hB;exact findL_none.2 hB
     | cons p r ih =>
       intro B hB;show (match findL (r ++ B) s with | some v => some v | none => if p.1 = s then some p.2 else none) = _
       rw [ih B hB];rfl
   have := happ (L.take n) (L.drop n) hm;rw [← hL] at this;exact this.symm
def slotC (st : CSt) (x : Tw) : Int × Nat × Int :=
 if x.op = 2 ∨ x.op = 4 then (if (findL st.seen x.text).isSome then (0, st.made, 111) else if st.made = 100 then (0, st.made, 2) else ((st.made : Int), st.made + 1, 0))
 else if x.op = 5 ∨ x.op = 26 then (match findL st.seen x.text with
   | some v => ((v : Int), st.made, 0)
   | none => (0, st.made, 110))
 else (-1, st.made, 0)
def endC (x : Tw) (slot : Int) (left : Nat) (st : CSt) : CSt :=
 if x.op = 2 ∨ x.op = 4 then ⟨st.l, st.seen ++ [(x.text, slot.toNat)], st.made⟩ else if x.op = 3 then ⟨st.l, st.seen.take left, st.made⟩ else st
def treesC : Fs → CSt → CSt × Int
 | .nil, st => (st, 0)
 | .cons x k r, st =>
   if (slotC st x).2.2 ≠ 0 then (st, (slotC st x).2.2) else
   if (treesC k ⟨st.l ++ [(slotC st x).1], st.seen, (slotC st x).2.1⟩).2 ≠ 0 then treesC k ⟨st.l ++ [(slotC st x).1], st.seen, (slotC st x).2.1⟩ else
   treesC r (endC x (slotC st x).1 st.seen.length (treesC k ⟨st.l ++ [(slotC st x).1], st.seen, (slotC st x).2.1⟩).1)
def treeC (x : Tw) (k : Fs) (st : CSt) : CSt × Int :=
 if (slotC st x).2.2 ≠ 0 then (st, (slotC st x).2.2) else
 if (treesC k ⟨st.l ++ [(slotC st x).1], st.seen, (slotC st x).2.1⟩).2 ≠ 0 then treesC k ⟨st.l ++ [(slotC st x).1], st.seen, (slotC st x).2.1⟩ else
 (endC x (slotC st x).1 st.seen.length (treesC k ⟨st.l ++ [(slotC st x).1], st.seen, (slotC st x).2.1⟩).1, 0)
theorem trees_step (x : Tw) (k r : Fs) (st : CSt) : treesC (.cons x k r) st = if (treeC x k st).2 ≠ 0 then treeC x k st else treesC r (treeC x k st).1 := by
 unfold treeC
 conv => lhs; unfold treesC
 by_cases h1 : (slotC st x).2.2 ≠ 0
 · rw [if_pos h1, if_pos h1, if_pos h1]
 · rw [if_neg h1, if_neg h1]
   by_cases h2 : (treesC k ⟨st.l ++ [(slotC st x).1], st.seen, (slotC st x).2.1⟩).2 ≠ 0
   · rw [if_pos h2, if_pos h2, if_pos h2]
   · rw [if_neg h2, if_neg h2, if_neg (by simp)]
theorem tree_one (x : Tw) (k : Fs) (st : CSt) : treesC (.cons x k .nil) st = treeC x k st := by
 rw [trees_step];by_cases h : (treeC x k st).2 ≠ 0
 · rw [if_pos h]
 · rw [if_neg h]
   have h0 : (treeC x k st).2 = 0 := by omega
   show ((treeC x k st).1, (0 : Int)) = _
   rw [← h0]
structure GoodC (st : CSt) : Prop where
 nd : (st.seen.map Prod.fst).Nodup
 few : st.made ≤ 100
 lt : ∀ p ∈ st.seen, p.2 < st.made
 len : st.seen.length ≤ st.made
 tl : ∀ p ∈ st.seen, p.1.length ≤ 24
def Fs.plain : Fs → Prop
 | .nil => True
 | .cons x _ r => x.op ≠ 1 ∧ x.op ≠ 2 ∧ x.op ≠ 4 ∧ r.plain
theorem expr_ops {op : Nat} (h : exprB op = true) : op ≠ 1 ∧ op ≠ 2 ∧ op ≠ 4 ∧ op ≠ 3 := by
 refine ⟨?_, ?_, ?_, ?_⟩ <;> (rintro rfl; revert h; decide)
theorem parts_plain {pk : Nat} (h2 : pk ≠ 2) (h3 : pk ≠ 3) (n : Int) : ∀ (F : Fs) (p : Nat), F.part pk n p → F.plain
 | .nil, _, _ => trivial
 | .cons x k r, p, h => by
   obtain ⟨a, b⟩ := h;have hx : x.op ≠ 1 ∧ x.op ≠ 2 ∧ x.op ≠ 4 := by
     have hE : ∀ e, exprB ((x.op : Int).toNat) = e → e = true → x.op ≠ 1 ∧ x.op ≠ 2 ∧ x.op ≠ 4 := by
       intro e he ht;rw [Int.toNat_natCast] at he;obtain ⟨a1, a2, a3, _⟩ := expr_ops (he.trans ht);exact ⟨a1, a2, a3⟩
     have h3' : ((x.op : Int) == 3) = true → x.op ≠ 1 ∧ x.op ≠ 2 ∧ x.op ≠ 4 := by
       intro h;have : (x.op : Int) = 3 := by simpa using h
       omega
     unfold partOK at a;by_cases c1 : pk = 1
     · rw [if_pos c1] at a; exact hE _ rfl a
     · rw [if_neg c1, if_neg h2, if_neg h3] at a
       by_cases c4 : pk = 4
       · rw [if_pos c4] at a
         by_cases c0 : (p : Int) = 0
         · rw [if_pos c0] at a; exact hE _ rfl a
         · rw [if_neg c0] at a; exact h3' a
       · rw [if_neg c4] at a; exact h3' a
   exact ⟨hx.1, hx.2.1, hx.2.2, parts_plain h2 h3 n r (p + 1) b⟩
theorem kind_plain {op : Nat} {kd : Kind} (h : kindOf op = some kd) (h1 : op ≠ 1) (h3 : op ≠ 3) {n : Int} {F : Fs} {p : Nat} (hp : F.part kd.part n p) : F.plain := by
 refine parts_plain ?_ ?_ n F p hp
 · rcases kind_parts h with e | ⟨e, _⟩ | ⟨e, rfl⟩ | ⟨e, rfl⟩ | ⟨e, _⟩ | ⟨e, _⟩ <;> omega
 · rcases kind_parts h with e | ⟨e, _⟩ | ⟨e, rfl⟩ | ⟨e, rfl⟩ | ⟨e, _⟩ | ⟨e, _⟩ <;> omega
theorem slot_ok {st : CSt} {x : Tw} (hg : GoodC st) (h : ¬ (slotC st x).2.2 ≠ 0) : st.made ≤ (slotC st x).2.1 ∧ (slotC st x).2.1 ≤ 100 ∧ (x.op = 2 ∨ x.op = 4 → findL st.seen x.text = none ∧ (slotC st x).1 = st.made ∧ (slotC st x).2.1 = st.made + 1) := by
 have hf := hg.few;unfold slotC at h ⊢;by_cases h1 : x.op = 2 ∨ x.op = 4
 · rw [if_pos h1] at h ⊢
   cases hF : findL st.seen x.text with
   | some v => rw [hF] at h; exact absurd (by simp) h
   | none =>
     rw [hF] at h;simp only [Option.isSome_none, Bool.false_eq_true, ↓reduceIte] at h ⊢;by_cases h2 : st.made = 100
     · rw [if_pos h2] at h; exact absurd (by simp) h
     · rw [if_neg h2]
       exact ⟨by show st.made ≤ st.made + 1; omega, by show st.made + 1 ≤ 100; omega, fun _ => ⟨by first | trivial | exact hF, rfl, rfl⟩⟩
 · rw [if_neg h1] at h ⊢
   by_cases h2 : x.op = 5 ∨ x.op = 26
   · rw [if_pos h2] at h ⊢
     cases hF : findL st.seen x.text with
     | some v => exact ⟨Nat.le_refl _, hf, fun h => absurd h h1⟩
     | none => rw [hF] at h; exact absurd (by simp) h
   · rw [if_neg h2]
     exact ⟨Nat.le_refl _, hf, fun h => absurd h h1⟩
theorem own_24 {s : List UInt8} (h : textOK 1 s = true) : s.length ≤ 24 := by
 have h1 : ownL s = true := h;unfold ownL at h1;rw [Bool.and_eq_true] at h1;have h2 := h1.1;unfold nameL at h2
 match s, h2 with
 | [], h2 => cases h2
 | c :: r, h2 =>
   rw [Bool.and_eq_true, Bool.and_eq_true] at h2;have := of_decide_eq_true h2.1.1;simp
   omega
theorem made_len {x : Tw} {kd : Kind} (hk : kindOf x.op = some kd) (ha : allowsB kd x = true) (c : x.op = 2 ∨ x.op = 4) : x.text.length ≤ 24 := by
 have ht : textOK kd.text x.text = true := by
   unfold allowsB at ha;rw [Bool.and_eq_true] at ha;exact ha.2
 have h1 : kd.text = 1 := by
   rcases c with c | c
   · rw [c] at hk
     have h2 : kindOf 2 = some ⟨1, 0, 0, 0⟩ := rfl;rw [h2] at hk;injection hk with hk;rw [← hk]
   · rw [c] at hk
     have h2 : kindOf 4 = some ⟨1, 1, 1, 1⟩ := rfl;rw [h2] at hk;injection hk with hk;rw [← hk]
 rw [h1] at ht;exact own_24 ht
theorem trees_good : ∀ (F : Fs) (st : CSt), F.ok → GoodC st → (treesC F st).2 = 0 → GoodC (treesC F st).1 ∧ st.made ≤ (treesC F st).1.made ∧ ∃ ex, (treesC F st).1.seen = st.seen ++ ex ∧ (F.plain → ex = [])
 | .nil, st, _, hg, _ => ⟨hg, Nat.le_refl _, [], by simp [treesC], fun _ => rfl⟩
 | .cons x k r, st, ⟨⟨kd, hk, ha, hp⟩, hn, hko, hro⟩, hg, h => by
   unfold treesC at h ⊢;by_cases h1 : (slotC st x).2.2 ≠ 0
   · rw [if_pos h1] at h; exact absurd h h1
   · rw [if_neg h1] at h ⊢
     obtain ⟨s1, s2, s3⟩ := slot_ok hg h1;have hg1 : GoodC ⟨st.l ++ [(slotC st x).1], st.seen, (slotC st x).2.1⟩ := ⟨hg.nd, s2, fun p hp => Nat.lt_of_lt_of_le (hg.lt p hp) s1, Nat.le_trans hg.len s1, hg.tl⟩;have ih := trees_good k ⟨st.l ++ [(slotC st x).1], st.seen, (slotC st x).2.1⟩ hko hg1;generalize treesC k ⟨st.l ++ [(slotC st x).1], st.seen, (slotC st x).2.1⟩ = R at *;by_cases h2 : R.2 ≠ 0
     · rw [if_pos h2] at h; exact absurd h h2
     · rw [if_neg h2] at h ⊢
       obtain ⟨i1, i2, ex, i3, i4⟩ := ih (by omega);have i2' : (slotC st x).2.1 ≤ R.1.made := i2;have i3' : R.1.seen = st.seen ++ ex := i3;have hE : GoodC (endC x (slotC st x).1 st.seen.length R.1) ∧ (endC x (slotC st x).1 st.seen.length R.1).made = R.1.made ∧ ∃ ex, (endC x (slotC st x).1 st.seen.length R.1).seen = st.seen ++ ex ∧ (x.op ≠ 1 ∧ x.op ≠ 2 ∧ x.op ≠ 4 → ex = []) := by
         unfold endC;by_cases c1 : x.op = 2 ∨ x.op = 4
         · rw [if_pos c1]
           have hpl : ex = [] := i4 (kind_plain hk (by omega) (by omega) hp);subst hpl;rw [List.append_nil] at i3';obtain ⟨t1, t2, t3⟩ := s3 c1;refine ⟨⟨?_, i1.few, ?_, ?_, ?_⟩, rfl, [(x.text, (slotC st x).1.toNat)], ?_, fun h => absurd c1 (by omega)⟩
           · show ((R.1.seen ++ [(x.text, (slotC st x).1.toNat)]).map Prod.fst).Nodup
             rw [i3', List.map_append, List.nodup_append];refine ⟨hg.nd, by simp, fun a ha b hb => ?_⟩;simp at hb
             subst hb;exact fun e => (findL_none.1 t1) (e ▸ ha)
           · intro p hp
             show p.2 < R.1.made
             rcases List.mem_append.1 (show p ∈ R.1.seen ++ [(x.text, (slotC st x).1.toNat)] from hp) with hp | hp
             · exact i1.lt p hp
             · simp at hp
               subst hp;show (slotC st x).1.toNat < _
               rw [t2, Int.toNat_natCast];omega
           · show (R.1.seen ++ _).length ≤ R.1.made
             rw [i3', List.length_append, List.length_singleton];have := hg.len;omega
           · intro p hp
             rcases List.mem_append.1 (show p ∈ R.1.seen ++ [(x.text, (slotC st x).1.toNat)] from hp) with hp | hp
             · exact i1.tl p hp
             · simp at hp
               subst hp;exact made_len hk ha c1
           · show R.1.seen ++ _ = _
             rw [i3']
         · rw [if_neg c1]
           by_cases c3 : x.op = 3
           · rw [if_pos c3]
             have e : R.1.seen.take st.seen.length = st.seen := by rw [i3', List.take_left]
             refine ⟨⟨?_, i1.few, ?_, ?_, ?_⟩, rfl, [], ?_, fun _ => rfl⟩
             · show ((R.1.seen.take st.seen.length).map Prod.fst).Nodup
               rw [e]; exact hg.nd
             · intro p hp
               have hp' : p ∈ R.1.seen.take st.seen.length := hp;rw [e] at hp';show p.2 < R.1.made
               have := hg.lt p hp';omega
             · show (R.1.seen.take st.seen.length).length ≤ R.1.made
               rw [e];have := hg.len;omega
             · intro p hp
               have hp' : p ∈ R.1.seen.take st.seen.length := hp;rw [e] at hp';exact hg.tl p hp'
             · show R.1.seen.take st.seen.length = _
               rw [e, List.append_nil]
           · rw [if_neg c3]
             refine ⟨i1, rfl, ex, i3', fun hc => i4 (kind_plain hk hc.1 c3 hp)⟩
       obtain ⟨e1, e2, ex2, e3, e4⟩ := hE;obtain ⟨r1, r2, ex3, r3, r4⟩ := trees_good r _ hro e1 h;refine ⟨r1, by omega, ex2 ++ ex3, by rw [r3, e3, List.append_assoc], fun hpl => ?_⟩;obtain ⟨p1, p2, p3, p4⟩ := hpl;rw [e4 ⟨p1, p2, p3⟩, r4 p4];rfl
end Go.Proofs.YtefijbpbenmbgaaDoor
namespace Go.Proofs.YtefijbpbenmbgaaDoor
open Go.RowKit
def MapS (P : Program) (k e : TypeId) (w : World) (b : Nat) (f : List UInt8 → Option Nat) (n : Nat) : Prop :=
 ∃ D : DataW Unit, w.ownsMap P k (plainElem P e) b n D ∧ Maps.size D = n ∧ (∀ x, Maps.has D (.string x) = (f x).isSome) ∧ (∀ x v, f x = some v → D.atKey (.string x) (.lit (.int .i64 0)) = .lit (.int .i64 v))
theorem wfI {a : Int} (h : I64 a) : (Lit.int .i64 a).wf = true := by
 obtain ⟨h1, h2⟩ := h;simp [Lit.wf, IntKind.min, IntKind.max, IntKind.signed, IntKind.bits]
 omega
theorem keyS {P : Program} {k : TypeId} (hk : P.underlying k = some .string) {x : List UInt8} (hx : x.length ≤ 9223372036854775807) : keyOf P k (.string ⟨x.toArray⟩) = some (.string x) := by
 have h := WideMaps.keyOf_string_mk (P := P) hk (s := ⟨x.toArray⟩) (by show x.toArray.size ≤ _; rw [List.size_toArray]; exact hx);rw [h]
section
variable {P : Program} {k e t : TypeId} {w : World} {b n : Nat} {f : List UInt8 → Option Nat}
theorem MapS.kept {w' : World} {F : Nat → Prop} (h : MapS P k e w b f n) (ho : Only F w w') (hb : ¬ F b) : MapS P k e w' b f n := by
 obtain ⟨D, ⟨es, clock, hbk, F', hs, hD⟩, h2, h3, h4⟩ := h;exact ⟨D, ⟨es, clock, (ho.block b (Array.getElem?_eq_some_iff.1 hbk).1 hb).trans hbk, F', hs, hD⟩, h2, h3, h4⟩
theorem MapS.ne_cells (h : MapS P k e w b f n) {g : Nat} {c : Array Value} {te : TypeId} {fr : Nat × Nat} (hg : w.heap[g]? = some (.cells c te fr)) : b ≠ g := by
 obtain ⟨D, ⟨es, clock, hbk, _⟩, _⟩ := h;intro e; subst e; rw [hbk] at hg; simp at hg
theorem MapS.made (w : World) : MapS P k e (w.alloc (.map #[] 0)) w.heap.size (fun _ => none) 0 :=
 ⟨.map [], World.ownsMap_made w P k _, rfl, fun x => by simp [Maps.has_eq], fun x v h => by simp at h⟩
theorem MapS.look (h : MapS P k e w b f n) (hk : P.underlying k = some .string) (he : P.underlying e = some (.int .i64)) (ht : P.underlying t = some (.map k e)) (hz : (zeroValue e).run P w = .ok (.int .i64 0) w) {x : List UInt8} (hx : x.length ≤ 9223372036854775807) :
   (Instr.lookup t (.map (some b)) (.string ⟨x.toArray⟩) true).run P w = .ok (.tuple #[.int .i64 (match f x with | some v => (v : Int) | none => 0), .bool (f x).isSome]) w := by
 obtain ⟨D, h1, h2, h3, h4⟩ := h;obtain ⟨v, ps, hrun, hv⟩ := h1.look_ok (Maps.string_keyed hk) ht hz (plainElem_int he (by decide)) (keyS hk hx);obtain ⟨c, rfl, hc, _⟩ := plainElem_int_inv he hv;rw [hrun, h3 x];have hc1 := congrArg Prod.fst hc;simp only at hc1;cases hf : f x with
 | none =>
   have hh : Maps.has D (.string x) = false := by rw [h3 x, hf]; rfl
   rw [Maps.atKey_of_not_has hh] at hc1;injection hc1 with hc2; injection hc2 with _ hc3; subst hc3; rfl
 | some u =>
   rw [h4 x u hf] at hc1;injection hc1 with hc2; injection hc2 with _ hc3; subst hc3; rfl
theorem MapS.put (h : MapS P k e w b f n) (hk : P.underlying k = some .string) (he : P.underlying e = some (.int .i64)) (ht : P.underlying t = some (.map k e)) {x : List UInt8} {v : Nat} (hx : x.length ≤ 9223372036854775807) (hv : v ≤ 9223372036854775807) (hn : n < 9223372036854775807) :
   ∃ w', (Instr.mapUpdate t (.map (some b)) (.string ⟨x.toArray⟩) (.int .i64 v)).run P w = .ok () w' ∧ MapS P k e w' b (fun y => if y = x then some v else f y) (if (f x).isSome then n else n + 1) ∧ w.grownBy w' (some b) := by
 obtain ⟨D, h1, h2, h3, h4⟩ := h;have hkey := keyS (P := P) hk hx;have hkl : WideAt.IsKeyLit (.string x) := by trivial
 obtain ⟨w', hrun, r1, r2⟩ := h1.update (Maps.string_keyed hk) ht (by unfold maxLen; omega) hkey (plainElem_int he (wfI (a := (v : Int)) ⟨by omega, by omega⟩));have ht' := h1.tidy (Maps.string_keyed hk);have hsz : Maps.size (D.put (.string x) (.lit (.int .i64 (v : Int)))) = if (f x).isSome then n else n + 1 := by
   rw [Maps.size_put ht', h3 x, h2]
 refine ⟨w', hrun, ⟨_, ?_, hsz, ?_, ?_⟩, r2⟩
 · obtain ⟨es, clock, hb, F, hs, hD⟩ := r1
   refine ⟨es, clock, hb, F, ?_, hD⟩;have : Maps.size (D.put (.string x) (.lit (.int .i64 (v : Int)))) = es.size := by rw [hD]; simp [Maps.size, length_sorted]
   omega
 · intro y
   by_cases hyx : y = x
   · subst hyx; rw [Maps.has_put_same ht'.isMap hkl]; simp
   · rw [Maps.has_put_other (by simpa using hyx), h3 y]; simp [hyx]
 · intro y u hu
   simp only at hu;by_cases hyx : y = x
   · subst hyx; simp only [if_pos] at hu; injection hu with hu; subst hu; exact Maps.atKey_put_same ht'.isMap hkl _ _
   · rw [if_neg hyx] at hu; rw [Maps.atKey_put_other (by simpa using hyx)]; exact h4 y u hu
theorem MapS.drop (h : MapS P k e w b f n) (hk : P.underlying k = some .string) (ht : P.underlying t = some (.map k e)) {x : List UInt8} (hx : x.length ≤ 9223372036854775807) (ty : TypeId) :
   ∃ w', (Builtin.delete_ #[t, k] ty #[.map (some b), .string ⟨x.toArray⟩]).run P w = .ok (.tuple #[]) w' ∧ MapS P k e w' b (fun y => if y = x then none else f y) (n - if (f x).isSome then 1 else 0) ∧ w.grownBy w' (some b) := by
 obtain ⟨D, h1, h2, h3, h4⟩ := h;have hkey := keyS (P := P) hk hx;obtain ⟨w', hrun, r1, r2⟩ := h1.drop (Maps.string_keyed hk) ht hkey ty;have ht' := h1.tidy (Maps.string_keyed hk);have hsz : Maps.size (D.del (.string x)) = n - if (f x).isSome then 1 else 0 := by
   have := Maps.size_del (k := .string x) ht';rw [h3 x, h2] at this;omega
 refine ⟨w', hrun, ⟨_, ?_, hsz, ?_, ?_⟩, r2.grown⟩
 · obtain ⟨es, clock, hb, F, hs, hD⟩ := r1
   refine ⟨es, clock, hb, F, ?_, hD⟩;have : Maps.size (D.del (.string x)) = es.size := by rw [hD]; simp [Maps.size, length_sorted]
   omega
 · intro y
   by_cases hyx : y = x
   · subst hyx; rw [Maps.has_del_same]; simp
   · rw [Maps.has_del_other (by simpa using hyx), h3 y]; simp [hyx]
 · intro y u hu
   simp only at hu;by_cases hyx : y = x
   · subst hyx; simp at hu
   · rw [if_neg hyx] at hu; rw [Maps.atKey_del_other (by simpa using hyx)]; exact h4 y u hu
end
section
variable {P : Program} {w : World} {ops : Array Oper} {rest : List Oper} {o : Oper} {a : Act} {Q : Exit → Act → World → Prop}
theorem wpList_put_s (hg : o.guard = none) (m x v : Operand) (t k e : TypeId) (hop : o.op = Op.mapUpdate t m x v)
   (hk : P.underlying k = some .string) (he : P.underlying e = some (.int .i64)) (ht : P.underlying t = some (.map k e)) (b n : Nat) (f : List UInt8 → Option Nat) (h : MapS P k e w b f n) (key : List UInt8) (u : Nat) (hm : a.eval m = .map (some b)) (hx : a.eval x = .string ⟨key.toArray⟩) (hv : a.eval v = .int .i64 u)
   (hI : key.length ≤ 9223372036854775807) (hu : u ≤ 9223372036854775807) (hn : n < 9223372036854775807)
   (hK : ∀ w', MapS P k e w' b (fun y => if y = key then some u else f y) (if (f key).isSome then n else n + 1) → w.grownBy w' (some b) → wpList P ops Q rest (a.put o.dst undef) w') :
   wpList P ops Q (o :: rest) a w := by
 refine wpList_plain hg fun K' hK' => ?_
 obtain ⟨w', hrun, r1, r2⟩ := h.put hk he ht hI hu hn;unfold Oper.wp;simp [execOp, hop, hm, hx, hv, hrun, Result.andThen]
 exact hK' _ _ (hK w' r1 r2)
end
end Go.Proofs.YtefijbpbenmbgaaDoor
namespace Go.Proofs.YtefijbpbenmbgaaDoor
open Go.RowKit Go.Shelf
theorem twC_len (t : Tw) : (twC t).length = 4 := rfl
end Go.Proofs.YtefijbpbenmbgaaDoor
namespace Go.Proofs.YtefijbpbenmbgaaDoor
open Go.RowKit Go.Shelf
def strV (s : List UInt8) : Value := .string ⟨s.toArray⟩
theorem st_info : (Tryd.prog.info? 9).map (fun i => (i.zero, i.size, i.bytes)) = some (some (.string ⟨#[]⟩), 1, 16) := by kernel_rfl
theorem st_parts : ∃ i0, Tryd.prog.info? 9 = some i0 ∧ i0.zero = some (.string ⟨#[]⟩) ∧ i0.size = 1 ∧ i0.bytes = 16 := by
 have h := st_info;cases hi : Tryd.prog.info? 9 with
 | none => rw [hi] at h; simp at h
 | some i0 =>
   rw [hi] at h;simp at h
   exact ⟨i0, rfl, h.1, h.2.1, h.2.2⟩
theorem zeroI (w : World) : (zeroValue 3).run Tryd.prog w = .ok (.int .i64 0) w := by kernel_rfl
def NamesAt (w : World) (base : Nat) (v : Value) (ns : List (List UInt8)) : Prop := w.ownsRow base 9 1 v ns.length (ns.map strV)
section
variable {w W : World} {base gs : Nat} {v : Value} {ns : List (List UInt8)} {L : List (List UInt8 × Nat)} {made : Nat}
theorem NamesAt.shape (h : NamesAt w base v ns) : ∃ a cap, v = .slice a ns.length cap ∧ ns.length ≤ cap ∧ cap ≤ 9223372036854775807 := ownsRow_shape h
theorem NamesAt.below (h : NamesAt w base v ns) (hb : Below w.heap.size w W) : NamesAt W base v ns := ownsRow_only (F := fun _ => False) h (Only.of_below hb) (fun _ _ h => h)
theorem NamesAt.block (h : NamesAt w base v ns) {g : Nat} (hg : v.ownBlock = some g) : base ≤ g ∧ g < w.heap.size ∧ ∃ cur, w.heap[g]? = some (.cells cur 9 (0, 0)) := by
 rcases h.2 with ⟨hv, _⟩ | ⟨g', cap, cur, hv, hb, hgg, _⟩
 · rw [hv] at hg; cases hg
 · rw [hv] at hg
   have e1 : g = g' := by simpa [Value.ownBlock] using hg.symm
   subst e1;exact ⟨hb, (Array.getElem?_eq_some_iff.1 hgg).1, _, hgg⟩
structure ScV (w : World) (base gs b : Nat) (v : Value) (L : List (List UInt8 × Nat)) (made : Nat) : Prop where
 s : w.heap[gs]? = some (.cells #[.map (some b), v, .int .i64 made] 75 (0, 0))
 m : MapS Tryd.prog 9 3 w b (findL L) L.length
 n : NamesAt w base v (L.map Prod.fst)
 bb : base ≤ b
 gb : base ≤ gs
theorem name_apart {cs : Array Value} (h : NamesAt w base v ns) (hs : w.heap[gs]? = some (.cells cs 75 (0, 0))) : ¬ v.ownBlock = some gs := by
 intro e;obtain ⟨_, _, cur, h3⟩ := h.block e;rw [h3] at hs;injection hs with hs;injection hs with _ hs _;exact absurd hs (by decide)
def Sc (w : World) (base gs : Nat) (L : List (List UInt8 × Nat)) (made : Nat) : Prop := ∃ b v, ScV w base gs b v L made
def Fsc (base : Nat) (w : World) (k : Nat) : Prop := base ≤ k ∧ ∀ c t fr, w.heap[k]? = some (.cells c t fr) → t = 75 ∨ t = 9
theorem Sc.kept {F : Nat → Prop} (h : Sc w base gs L made) (ho : Only F w W) (hF : ∀ k, F k → ¬ Fsc base w k) : Sc W base gs L made := by
 obtain ⟨b, v, h⟩ := h;have hgl := (Array.getElem?_eq_some_iff.1 h.s).1;refine ⟨b, v, (ho.block gs hgl (fun e => hF _ e ⟨h.gb, fun c t fr hc => ?_⟩)).trans h.s, h.m.kept ho (fun e => hF _ e ⟨h.bb, fun c t fr hc => absurd rfl (h.m.ne_cells hc)⟩), ownsRow_only h.n ho (fun g hg e => ?_), h.bb, h.gb⟩
 · rw [h.s] at hc
   injection hc with hc;injection hc with _ hc _;exact .inl hc.symm
 · obtain ⟨n1, n2, cur, n3⟩ := h.n.block hg
   refine hF _ e ⟨n1, fun c t fr hc => ?_⟩;rw [n3] at hc;injection hc with hc;injection hc with _ hc _;exact .inr hc.symm
theorem Sc.below (h : Sc w base gs L made) (hb : Below w.heap.size w W) : Sc W base gs L made := h.kept (F := fun _ => False) (Only.of_below hb) (fun _ e => e.elim)
end
theorem scOnly (w : World) (g c : Nat) (v : Value) : Only (fun k => k = g) w (w.setCell ⟨g, c, none⟩ v) := (Only.refl (fun k => k = g) w).setCell (p := ⟨g, c, none⟩) (.inl rfl) _
theorem wpList_append_name {w : World} {base : Nat} {v : Value} {ns : List (List UInt8)} {n : List UInt8} {ops : Array Oper} {rest : List Oper} {o : Oper} {a : Act} {Q : Exit → Act → World → Prop} (hgd : o.guard = none) (s x : Operand)
   (ho : o.op = .call { callee := .builtin .append, args := #[s, x], argTypes := #[73, 73] })
   (hs : a.eval s = v) (hown : NamesAt w base v ns) {G : Nat} (hx : a.eval x = .slice (some ⟨G, 0, none⟩) 1 1) (hc : w.cell? ⟨G, 0, none⟩ = some (strV n))
   (hk : ns.length ≤ 1000000000) (hbase : base ≤ w.heap.size)
   (h : ∀ a' cap w', NamesAt w' base (.slice a' (ns.length + 1) cap) (ns ++ [n]) → Only (fun k => v.ownBlock = some k) w w' → wpList Tryd.prog ops Q rest (a.put o.dst (.slice a' (ns.length + 1) cap)) w') : wpList Tryd.prog ops Q (o :: rest) a w := by
 obtain ⟨i0, hi, hz0, hz1, hz2⟩ := st_parts;refine wpList_append_own_at _ hgd s x 73 ho base 9 i0 (.string ⟨#[]⟩) 1 16 Tryd.underlying73 hi hz0 hz1 hz2 rfl (by decide) v ns.length (ns.map strV) hs hown ⟨G, 0, none⟩ 1 1 [strV n] hx rfl ?_ (by intro u hu; simp at hu; subst hu; rfl) (by unfold maxLen; omega) (by omega) hbase ?_
 · intro j y hj
   match j, hj with
   | 0, hj =>
     simp at hj
     subst hj
     simpa [Addr.add] using hc
 · intro v' w' h2 h3 _ _
   have hT : NamesAt w' base v' (ns ++ [n]) := by
     unfold NamesAt;rw [List.length_append, List.length_singleton, List.map_append];exact h2
   obtain ⟨a', cap, e, _⟩ := hT.shape;rw [List.length_append, List.length_singleton] at e;subst e;exact h a' cap w' hT (Only.of_grown h3 (fun k hk => hk))
set_option maxRecDepth 20000 in
set_option maxHeartbeats 1000000 in
theorem show_any {w : World} {base gs : Nat} {L : List (List UInt8 × Nat)} {made : Nat} (h : Sc w base gs L made) (_hb : base ≤ w.heap.size) {nm : List UInt8} (hn : findL L nm = none) (hl : nm.length ≤ 9223372036854775807) (hL : L.length ≤ 1000000) {v : Nat} (hv : v ≤ 1000000) :
   Calls Tryd.prog 35 #[.pointer (some ⟨gs, 0, none⟩), .string ⟨nm.toArray⟩, .int .i64 v] w fun e w' => e = .returned (.tuple #[]) ∧ Sc w' base gs (L ++ [(nm, v)]) made ∧ Only (Fsc base w) w w' := by
 obtain ⟨b, nv, hs, hm, hnm, hbb, hgb⟩ := h;have hbg : b ≠ gs := hm.ne_cells hs;obtain ⟨ns, hns⟩ := exHid (L.map Prod.fst);have hLn : ns.length = L.length := by rw [← hns.out]; exact List.length_map ..
 rw [hns.out] at hnm;have hnk : ns.length ≤ 1000000 := by omega
 replace hLn := Lib.hid hLn;have hgl := (Array.getElem?_eq_some_iff.1 hs).1;obtain ⟨na, nc, rfl, hn1, hn2⟩ := id hnm.shape;have c0 : w.cell? ⟨gs, 0, none⟩ = some (.map (some b)) := by simp [World.cell?, hs]
 have hs0 := Lib.hid hs;have hnm0 := Lib.hid hnm;have M := Lib.hid hm;have hf0 : (findL L nm).isSome = false := by rw [hn]; rfl
 clear hs hm hnm;go_enter Tryd.func35, Tryd.ntmps35
 have P1 := Lib.hid (fun (w1 : World) (hg : w.grownBy w1 (some b)) => show w1.heap[gs]? = w.heap[gs]? ∧ NamesAt w1 base (.slice na ns.length nc) ns ∧ Only (fun k => k = b) w w1 from by
   have ho : Only (fun k => k = b) w w1 := Only.of_grown hg (fun k hk => by cases hk; rfl);refine ⟨ho.block _ hgl (fun e => hbg e.symm), ownsRow_only hnm0.out ho (fun g hg e => ?_), ho⟩;obtain ⟨_, _, cur, h3⟩ := hnm0.out.block hg;rw [e] at h3;exact M.out.ne_cells h3 rfl)
 go_wp2_with (first
   | (at_mapUpdate; refine wpList_put_s rfl _ _ _ 72 9 3 rfl Tryd.underlying9 Tryd.underlying3 Tryd.underlying72 b _ _ M.out nm v rfl rfl rfl hl (by omega) (by omega) ?_
      intro w1 M1 hg1;obtain ⟨q1, hnm1, ho1⟩ := P1.out w1 hg1;have hs1 := Lib.hid (q1.trans hs0.out);have c1 : w1.cell? ⟨gs, 1, none⟩ = some (.slice na ns.length nc) := by simp [World.cell?, hs1.out]
      have hz1 := ho1.size;have hal := (Below.refl w1.heap.size w1).alloc (Nat.le_refl _) (.cells #[.string ⟨nm.toArray⟩] 9);have hnA := Lib.hid (NamesAt.below hnm1 hal);have hcA : (w1.alloc (.cells #[.string ⟨nm.toArray⟩] 9)).cell? ⟨w1.heap.size, 0, none⟩ = some (strV nm) := one_cell _ _ _ 0;have hzA : base ≤ (w1.alloc (.cells #[.string ⟨nm.toArray⟩] 9)).heap.size := by simp; omega
      have hoA := Lib.hid (Only.of_below (F := fun _ => False) hal);have hgl1 : gs < w1.heap.size := Nat.lt_of_lt_of_le hgl hz1;have hsA := Lib.hid ((hal.block gs hgl1).trans hs1.out);have hglA : gs < (w1.alloc (.cells #[.string ⟨nm.toArray⟩] 9)).heap.size := Nat.lt_of_lt_of_le hgl1 hal.size;replace M1 := Lib.hid M1;replace ho1 := Lib.hid ho1;clear q1 hnm1 hg1 hal)
   | (at_builtin; refine wpList_append_name rfl _ _ rfl rfl hnA.out rfl hcA (by omega) hzA ?_; 
      intro a3 cap3 w3 hn3 ho3;have hs3 := (ho3.block gs hglA (name_apart hnA.out hsA.out)).trans hsA.out;have c3 : w3.cell? ⟨gs, 1, none⟩ = some (.slice na ns.length nc) := by simp [World.cell?, hs3]
      have f3 : w3.frozen? ⟨gs, 1, none⟩ = false := by simp [World.frozen?, hs3]
      replace hs3 := Lib.hid hs3;replace hn3 := Lib.hid hn3;replace ho3 := Lib.hid ho3))
 refine bodyPost_end (results_none rfl _ _ _) rfl ?_;have hA := hnA.out;have hownb : ∀ k, (Value.slice na ns.length nc).ownBlock = some k → k ≠ b := by
   intro k hk e;obtain ⟨_, _, cur, h3⟩ := hnm0.out.block hk;rw [e] at h3;exact M.out.ne_cells h3 rfl
 have hfun : (fun y => if y = nm then some v else findL L y) = findL (L ++ [(nm, v)]) := by
   funext y
   rw [findL_snoc]
 have hm1 := M1.out;rw [hfun, hf0] at hm1;have hsT := scOnly w3 gs 1 (.slice a3 (ns.length + 1) cap3);refine ⟨rfl, ⟨b, .slice a3 (ns.length + 1) cap3, ?_, ?_, ?_, hbb, hgb⟩, ?_⟩
 · have := heap_setCell_same w3 gs 1 _ _ (.slice a3 (ns.length + 1) cap3) hs3.out
   simpa using this
 · rw [List.length_append]
   exact (((hm1.kept hoA.out (fun h => h)).kept ho3.out (fun e => hownb _ e rfl)).kept hsT hbg)
 · rw [List.map_append, hns.out]
   exact ownsRow_only hn3.out hsT (fun g hg e => by subst e; exact name_apart hn3.out hs3.out hg)
 · refine ((ho1.out.trans (K := Fsc base w) hoA.out ?_ (fun _ _ h => h.elim)).trans (K := Fsc base w) ho3.out (fun _ _ h => h) ?_).trans (K := Fsc base w) hsT (fun _ _ h => h) ?_
   · intro k _ e
     subst e;exact ⟨hbb, fun c t fr hc => absurd rfl (M.out.ne_cells hc)⟩
   · intro k _ e
     obtain ⟨n1, _, cur, n3⟩ := hnm0.out.block e;refine ⟨n1, fun c t fr hc => ?_⟩;rw [n3] at hc;injection hc with hc;injection hc with _ hc _;exact .inr hc.symm
   · intro k _ e
     subst e;refine ⟨hgb, fun c t fr hc => ?_⟩;rw [hs0.out] at hc;injection hc with hc;injection hc with _ hc _;exact .inl hc.symm
end Go.Proofs.YtefijbpbenmbgaaDoor
