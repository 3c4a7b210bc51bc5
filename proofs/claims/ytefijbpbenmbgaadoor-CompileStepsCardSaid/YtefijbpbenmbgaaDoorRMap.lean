/- A map with keys of one byte that the call itself made, told as the list of its pairs, whatever the elements are: no program stands in it, no condition. -/
import Derived.Test.YtefijbpbenmbgaaDoorNum
import Derived.Test.YtefijbpbenmbgaaDoorCFoot
import Derived.Maps.OwnSet
import Derived.MapKept
namespace Go.Proofs.YtefijbpbenmbgaaDoor
open Go.RowKit Go.MapKept

/-- What the first pair of that key says. -/
def lookL : List (Nat × Value) → Nat → Option Value
  | [], _ => none
  | p :: r, k => if p.1 = k then some p.2 else lookL r k
/-- Block b is a map with these pairs, in the order in which they came. -/
def KMap (w : World) (b : Nat) (L : List (Nat × Value)) : Prop :=
  ∃ es clock, w.heap[b]? = some (.map es clock) ∧ es.toList.map (fun e => (e.key, e.val)) = L.map fun p => (Value.int .u8 (p.1 : Int), p.2)
theorem find_look (k : Nat) : ∀ (es : List MapEntry) (L : List (Nat × Value)) (i : Nat), es.map (fun e => (e.key, e.val)) = L.map (fun p => (Value.int .u8 (p.1 : Int), p.2)) →
    match lookL L k with
    | none => Instr.findNow (.int .u8) (.int .u8 (k : Int)) es i = some none
    | some v => ∃ j, Instr.findNow (.int .u8) (.int .u8 (k : Int)) es i = some (some (j, v))
  | [], [], _, _ => rfl
  | [], _ :: _, _, h => by simp at h
  | _ :: _, [], _, h => by simp at h
  | e :: es, p :: L, i, h => by
    simp only [List.map_cons, List.cons.injEq, Prod.mk.injEq] at h
    obtain ⟨⟨hk, hv⟩, hr⟩ := h
    have ih := find_look k es L (i + 1) hr
    unfold lookL
    by_cases hp : p.1 = k
    · rw [if_pos hp]
      refine ⟨i, ?_⟩
      simp [Instr.findNow, Instr.sameNow, hk, hv, hp]
    · rw [if_neg hp]
      have hne : ((k : Int) == (p.1 : Int)) = false := beq_eq_false_iff_ne.2 (by omega)
      simp only [Instr.findNow, Instr.sameNow, hk, hne]
      exact ih
section
variable {P : Program} {w : World} {b : Nat} {L : List (Nat × Value)}
theorem KMap.made (w : World) : KMap (w.alloc (.map #[] 0)) w.heap.size [] := ⟨#[], 0, heap_alloc_new w _, rfl⟩
theorem KMap.lt (h : KMap w b L) : b < w.heap.size := by obtain ⟨es, c, h, _⟩ := h; exact (Array.getElem?_eq_some_iff.1 h).1
theorem KMap.below {W : World} {B : Nat} (h : KMap w b L) (hb : Below B w W) (hB : b < B) : KMap W b L := by
  obtain ⟨es, c, h1, h2⟩ := h
  exact ⟨es, c, (hb.block b hB).trans h1, h2⟩
theorem KMap.only {W : World} {F : Nat → Prop} (h : KMap w b L) (ho : Only F w W) (hF : ¬ F b) : KMap W b L := by
  obtain ⟨es, c, h1, h2⟩ := h
  exact ⟨es, c, (ho.block b (Array.getElem?_eq_some_iff.1 h1).1 hF).trans h1, h2⟩
/-- 'v, ok := m[x]'. -/
theorem KMap.look {k e t : TypeId} {z : Value} (h : KMap w b L) (hk : P.underlying k = some (.int .u8)) (ht : P.underlying t = some (.map k e)) (hz : (zeroValue e).run P w = .ok z w) (x : Nat) :
    (Instr.lookup t (.map (some b)) (.int .u8 (x : Int)) true).run P w = .ok (.tuple #[(lookL L x).getD z, .bool (lookL L x).isSome]) w := by
  obtain ⟨es, clock, hb, he⟩ := h
  have hf := find_look x es.toList L 0 he
  have hc := fun e => Go.MapKept.run_checkKey (P := P) (w := w) (k := .int .u8 (x : Int)) hk (by simp [IsKey]) e 9999
  cases hl : lookL L x with
  | none =>
    rw [hl] at hf
    have h2 := Go.MapKept.run_findKey (w := w) hk hf
    simp [Instr.lookup, run_underlying ht, Go.MapKept.run_getObj_map hb, hc, h2, hz, Result.andThen]
  | some v =>
    rw [hl] at hf
    obtain ⟨j, hf⟩ := hf
    have h2 := Go.MapKept.run_findKey (w := w) hk hf
    simp [Instr.lookup, run_underlying ht, Go.MapKept.run_getObj_map hb, hc, h2, Result.andThen]
/-- 'm[x] = v' of a new key. -/
theorem KMap.put {k e t : TypeId} (h : KMap w b L) (hk : P.underlying k = some (.int .u8)) (ht : P.underlying t = some (.map k e)) (x : Nat) (v : Value) (hn : lookL L x = none) :
    ∃ w', (Instr.mapUpdate t (.map (some b)) (.int .u8 (x : Int)) v).run P w = .ok () w' ∧ KMap w' b (L ++ [(x, v)]) ∧ Only (fun k => k = b) w w' := by
  obtain ⟨es, clock, hb, he⟩ := h
  have hf := find_look x es.toList L 0 he
  rw [hn] at hf
  have hc := fun e => Go.MapKept.run_checkKey (P := P) (w := w) (k := .int .u8 (x : Int)) hk (by simp [IsKey]) e 9999
  have h2 := Go.MapKept.run_findKey (w := w) hk hf
  have hlt := (Array.getElem?_eq_some_iff.1 hb).1
  refine ⟨_, by simp [Instr.mapUpdate, run_underlying ht, Go.MapKept.run_getObj_map hb, hc, h2, Go.MapKept.run_setObj_map _ hb, Result.andThen]; rfl, ⟨es.push { key := .int .u8 (x : Int), val := v, born := clock }, clock + 1, ?_, ?_⟩, ?_⟩
  · simp [hlt]
  · simp [he]
  · exact ⟨rfl, rfl, rfl, by simp, fun j hj hne => by simp [Ne.symm hne]⟩
end
/-! ### at the operation, for the walk -/
section
variable {P : Program} {w : World} {ops : Array Oper} {rest : List Oper} {o : Oper} {a : Act} {Q : Exit → Act → World → Prop} {b : Nat} {L : List (Nat × Value)}
theorem wpList_put_k (hg : o.guard = none) (m x v : Operand) (t k e : TypeId) (hop : o.op = Op.mapUpdate t m x v ∨ o.op = Op.insert t m x v)
    (hk : P.underlying k = some (.int .u8)) (ht : P.underlying t = some (.map k e)) (h : KMap w b L) (key : Nat) (u : Value) (hm : a.eval m = .map (some b)) (hx : a.eval x = .int .u8 (key : Int)) (hv : a.eval v = u) (hn : lookL L key = none)
    (hK : ∀ w', KMap w' b (L ++ [(key, u)]) → Only (fun k => k = b) w w' → wpList P ops Q rest (a.put o.dst undef) w') :
    wpList P ops Q (o :: rest) a w := by
  refine wpList_plain hg fun K' hK' => ?_
  obtain ⟨w', hrun, r1, r2⟩ := h.put hk ht key u hn
  unfold Oper.wp
  rcases hop with hop | hop
  all_goals
    simp [execOp, hop, hm, hx, hv, hrun, Result.andThen]
    exact hK' _ _ (hK w' r1 r2)
end
end Go.Proofs.YtefijbpbenmbgaaDoor
