/- A map from whole numbers to whole numbers that the call itself made, told as a function: no program stands in it, no condition. -/
import Derived.Test.YtlhabgfgoainlaaDoorCFoot
import Derived.Test.YtlhabgfgoainlaaDoorJNum
import Derived.Maps.OwnSet
import Derived.Deep.RegionHeld3
namespace Go.Proofs.YtlhabgfgoainlaaDoor
open Go.RowKit

theorem equalIn_map_nil {P : Program} (w : World) (d : Nat) (t k e : TypeId) (p : Option Nat) (h : P.underlying t = some (.map k e)) : (Op.equalIn (d + 1) t (.map p) (.map none)).run P w = .ok p.isNone w := by
  cases p <;> simp [Op.equalIn, run_underlying h]
/-- A map held against nil. -/
theorem run_eql_map {P : Program} (w : World) (t k e : TypeId) (p : Option Nat) (h : P.underlying t = some (.map k e)) : (binOp .eql t (.map p) (.map none)).run P w = .ok (.bool p.isNone) w := by
  simp only [binOp]
  simp [show Op.equal t (.map p) (.map none) = Op.equalIn (9999 + 1) t (.map p) (.map none) from rfl, equalIn_map_nil w 9999 t k e p h]
theorem run_neq_map {P : Program} (w : World) (t k e : TypeId) (p : Option Nat) (h : P.underlying t = some (.map k e)) : (binOp .neq t (.map p) (.map none)).run P w = .ok (.bool (!p.isNone)) w := by
  simp only [binOp]
  simp [show Op.equal t (.map p) (.map none) = Op.equalIn (9999 + 1) t (.map p) (.map none) from rfl, equalIn_map_nil w 9999 t k e p h]

/-- Block b is a map (key type k, element type e: both ints) that has just the keys at which f says something, with that; n of them. -/
def MapIs (P : Program) (k e : TypeId) (w : World) (b : Nat) (f : Int → Option Nat) (n : Nat) : Prop :=
  ∃ D : DataW Unit, w.ownsMap P k (plainElem P e) b n D ∧ Maps.size D = n ∧ (∀ x, I64 x → Maps.has D (.int .i64 x) = (f x).isSome) ∧ (∀ x v, I64 x → f x = some v → D.atKey (.int .i64 x) (.lit (.int .i64 0)) = .lit (.int .i64 v))

section
variable {P : Program} {k e t : TypeId} {w : World} {b n : Nat} {f : Int → Option Nat}

theorem MapIs.kept {w' : World} {F : Nat → Prop} (h : MapIs P k e w b f n) (ho : Only F w w') (hb : ¬ F b) : MapIs P k e w' b f n := by
  obtain ⟨D, ⟨es, clock, hbk, F', hs, hD⟩, h2, h3, h4⟩ := h
  exact ⟨D, ⟨es, clock, (ho.block b (Array.getElem?_eq_some_iff.1 hbk).1 hb).trans hbk, F', hs, hD⟩, h2, h3, h4⟩
theorem MapIs.drew (h : MapIs P k e w b f n) : MapIs P k e w.drew b f n := h
theorem MapIs.lt (h : MapIs P k e w b f n) : b < w.heap.size := by obtain ⟨D, h1, _⟩ := h; exact h1.lt
/-- What is there in the map's block is no row of cells. -/
theorem MapIs.ne_cells (h : MapIs P k e w b f n) {g : Nat} {c : Array Value} {te : TypeId} {fr : Nat × Nat} (hg : w.heap[g]? = some (.cells c te fr)) : b ≠ g := by
  obtain ⟨D, ⟨es, clock, hbk, _⟩, _⟩ := h
  intro e; subst e; rw [hbk] at hg; simp at hg

theorem MapIs.made (w : World) : MapIs P k e (w.alloc (.map #[] 0)) w.heap.size (fun _ => none) 0 :=
  ⟨.map [], World.ownsMap_made w P k _, rfl, fun x _ => by simp [Maps.has_eq], fun x v _ h => by simp at h⟩

/-- 'v, ok := m[x]'. -/
theorem MapIs.look (h : MapIs P k e w b f n) (hk : P.underlying k = some (.int .i64)) (he : P.underlying e = some (.int .i64)) (ht : P.underlying t = some (.map k e)) (hz : (zeroValue e).run P w = .ok (.int .i64 0) w) {x : Int} (hx : I64 x) :
    (Instr.lookup t (.map (some b)) (.int .i64 x) true).run P w = .ok (.tuple #[.int .i64 (match f x with | some v => (v : Int) | none => 0), .bool (f x).isSome]) w := by
  obtain ⟨D, h1, h2, h3, h4⟩ := h
  obtain ⟨v, ps, hrun, hv⟩ := h1.look_ok (Maps.int_keyed hk) ht hz (plainElem_int he (by decide)) (Maps.keyOf_int_mk hk (wf_of_i64 hx))
  obtain ⟨c, rfl, hc, _⟩ := plainElem_int_inv he hv
  rw [hrun, h3 x hx]
  have hc1 := congrArg Prod.fst hc
  simp only at hc1
  cases hf : f x with
  | none =>
    have hh : Maps.has D (.int .i64 x) = false := by rw [h3 x hx, hf]; rfl
    rw [Maps.atKey_of_not_has hh] at hc1
    injection hc1 with hc2; injection hc2 with _ hc3; subst hc3; rfl
  | some u =>
    rw [h4 x u hx hf] at hc1
    injection hc1 with hc2; injection hc2 with _ hc3; subst hc3; rfl

/-- 'm[x] = v'. -/
theorem MapIs.put (h : MapIs P k e w b f n) (hk : P.underlying k = some (.int .i64)) (he : P.underlying e = some (.int .i64)) (ht : P.underlying t = some (.map k e)) {x : Int} {v : Nat} (hx : I64 x) (hv : v ≤ 9223372036854775807) (hn : n < 9223372036854775807) :
    ∃ w', (Instr.mapUpdate t (.map (some b)) (.int .i64 x) (.int .i64 v)).run P w = .ok () w' ∧ MapIs P k e w' b (fun y => if y = x then some v else f y) (if (f x).isSome then n else n + 1) ∧ w.grownBy w' (some b) := by
  obtain ⟨D, h1, h2, h3, h4⟩ := h
  have hkey := Maps.keyOf_int_mk (P := P) hk (wf_of_i64 hx)
  have hkl : WideAt.IsKeyLit (.int .i64 x) := by trivial
  obtain ⟨w', hrun, r1, r2⟩ := h1.update (Maps.int_keyed hk) ht (by unfold maxLen; omega) hkey (plainElem_int he (wf_of_i64 (a := (v : Int)) ⟨by omega, by omega⟩))
  have ht' := h1.tidy (Maps.int_keyed hk)
  have hsz : Maps.size (D.put (.int .i64 x) (.lit (.int .i64 (v : Int)))) = if (f x).isSome then n else n + 1 := by
    rw [Maps.size_put ht', h3 x hx, h2]
  refine ⟨w', hrun, ⟨_, ?_, hsz, ?_, ?_⟩, r2⟩
  · obtain ⟨es, clock, hb, F, hs, hD⟩ := r1
    refine ⟨es, clock, hb, F, ?_, hD⟩
    have : Maps.size (D.put (.int .i64 x) (.lit (.int .i64 (v : Int)))) = es.size := by rw [hD]; simp [Maps.size, length_sorted]
    omega
  · intro y hy
    by_cases hyx : y = x
    · subst hyx; rw [Maps.has_put_same ht'.isMap hkl]; simp
    · rw [Maps.has_put_other (by simpa using hyx), h3 y hy]; simp [hyx]
  · intro y u hy hu
    simp only at hu
    by_cases hyx : y = x
    · subst hyx; simp only [if_pos] at hu; injection hu with hu; subst hu; exact Maps.atKey_put_same ht'.isMap hkl _ _
    · rw [if_neg hyx] at hu; rw [Maps.atKey_put_other (by simpa using hyx)]; exact h4 y u hy hu

/-- 'delete(m, x)'. -/
theorem MapIs.drop (h : MapIs P k e w b f n) (hk : P.underlying k = some (.int .i64)) (ht : P.underlying t = some (.map k e)) {x : Int} (hx : I64 x) (ty : TypeId) :
    ∃ w', (Builtin.delete_ #[t, k] ty #[.map (some b), .int .i64 x]).run P w = .ok (.tuple #[]) w' ∧ MapIs P k e w' b (fun y => if y = x then none else f y) (n - if (f x).isSome then 1 else 0) ∧ w.grownBy w' (some b) := by
  obtain ⟨D, h1, h2, h3, h4⟩ := h
  have hkey := Maps.keyOf_int_mk (P := P) hk (wf_of_i64 hx)
  obtain ⟨w', hrun, r1, r2⟩ := h1.drop (Maps.int_keyed hk) ht hkey ty
  have ht' := h1.tidy (Maps.int_keyed hk)
  have hsz : Maps.size (D.del (.int .i64 x)) = n - if (f x).isSome then 1 else 0 := by
    have := Maps.size_del (k := .int .i64 x) ht'
    rw [h3 x hx, h2] at this
    omega
  refine ⟨w', hrun, ⟨_, ?_, hsz, ?_, ?_⟩, r2.grown⟩
  · obtain ⟨es, clock, hb, F, hs, hD⟩ := r1
    refine ⟨es, clock, hb, F, ?_, hD⟩
    have : Maps.size (D.del (.int .i64 x)) = es.size := by rw [hD]; simp [Maps.size, length_sorted]
    omega
  · intro y hy
    by_cases hyx : y = x
    · subst hyx; rw [Maps.has_del_same]; simp
    · rw [Maps.has_del_other (by simpa using hyx), h3 y hy]; simp [hyx]
  · intro y u hy hu
    simp only at hu
    by_cases hyx : y = x
    · subst hyx; simp at hu
    · rw [if_neg hyx] at hu; rw [Maps.atKey_del_other (by simpa using hyx)]; exact h4 y u hy hu
end

/-! ### at the operation, for the walk -/
section
variable {P : Program} {w : World} {ops : Array Oper} {rest : List Oper} {o : Oper} {a : Act} {Q : Exit → Act → World → Prop}
theorem wpList_delete_f (hg : o.guard = none) (m x : Operand) (t k e : TypeId) (hop : o.op = Op.call { callee := Callee.builtin Builtin.delete, args := #[m, x], argTypes := #[t, k] })
    (hk : P.underlying k = some (.int .i64)) (ht : P.underlying t = some (.map k e)) (b n : Nat) (f : Int → Option Nat) (h : MapIs P k e w b f n) (key : Int) (hm : a.eval m = .map (some b)) (hx : a.eval x = .int .i64 key) (hI : I64 key)
    (hK : ∀ w', MapIs P k e w' b (fun y => if y = key then none else f y) (n - if (f key).isSome then 1 else 0) → w.grownBy w' (some b) → wpList P ops Q rest (a.put o.dst (.tuple #[])) w') :
    wpList P ops Q (o :: rest) a w := by
  refine wpList_plain hg fun K' hK' => ?_
  obtain ⟨w', hrun, r1, r2⟩ := h.drop hk ht hI o.type
  unfold Oper.wp
  simp [execOp, hop, resolve, invoke, builtin, hm, hx, hrun, Result.andThen]
  exact hK' _ _ (hK w' r1 r2)
/-- .. as one step of a region that draws its order. -/
theorem step_delete_f {K : Act → World → Prop} {E : Prop} (hg : o.guard = none) (m x : Operand) (t k e : TypeId) (hop : o.op = Op.call { callee := Callee.builtin Builtin.delete, args := #[m, x], argTypes := #[t, k] })
    (hk : P.underlying k = some (.int .i64)) (ht : P.underlying t = some (.map k e)) (b n : Nat) (f : Int → Option Nat) (h : MapIs P k e w b f n) (key : Int) (hm : a.eval m = .map (some b)) (hx : a.eval x = .int .i64 key) (hI : I64 key)
    (hK : ∀ w', MapIs P k e w' b (fun y => if y = key then none else f y) (n - if (f key).isSome then 1 else 0) → w.grownBy w' (some b) → K (a.put o.dst (.tuple #[])) w') :
    if Region.wanted o (yielded ops a.tmps) = true then Oper.wp P o a w K Q else E := by
  have hw : Region.wanted o (yielded ops a.tmps) = true := by simp [Region.wanted, hg]
  rw [if_pos hw]
  obtain ⟨w', hrun, r1, r2⟩ := h.drop hk ht hI o.type
  unfold Oper.wp
  simp [execOp, hop, resolve, invoke, builtin, hm, hx, hrun, Result.andThen]
  exact hK w' r1 r2
theorem wpList_put_f (hg : o.guard = none) (m x v : Operand) (t k e : TypeId) (hop : o.op = Op.mapUpdate t m x v)
    (hk : P.underlying k = some (.int .i64)) (he : P.underlying e = some (.int .i64)) (ht : P.underlying t = some (.map k e)) (b n : Nat) (f : Int → Option Nat) (h : MapIs P k e w b f n) (key : Int) (u : Nat) (hm : a.eval m = .map (some b)) (hx : a.eval x = .int .i64 key) (hv : a.eval v = .int .i64 u)
    (hI : I64 key) (hu : u ≤ 9223372036854775807) (hn : n < 9223372036854775807)
    (hK : ∀ w', MapIs P k e w' b (fun y => if y = key then some u else f y) (if (f key).isSome then n else n + 1) → w.grownBy w' (some b) → wpList P ops Q rest (a.put o.dst undef) w') :
    wpList P ops Q (o :: rest) a w := by
  refine wpList_plain hg fun K' hK' => ?_
  obtain ⟨w', hrun, r1, r2⟩ := h.put hk he ht hI hu hn
  unfold Oper.wp
  simp [execOp, hop, hm, hx, hv, hrun, Result.andThen]
  exact hK' _ _ (hK w' r1 r2)
theorem wpList_look_f (hg : o.guard = none) (m x : Operand) (t k e : TypeId) (hop : o.op = Op.lookup t m x true)
    (hk : P.underlying k = some (.int .i64)) (he : P.underlying e = some (.int .i64)) (ht : P.underlying t = some (.map k e)) (hz : (zeroValue e).run P w = .ok (.int .i64 0) w) (b n : Nat) (f : Int → Option Nat) (h : MapIs P k e w b f n) (key : Int) (hm : a.eval m = .map (some b)) (hx : a.eval x = .int .i64 key) (hI : I64 key)
    (hK : wpList P ops Q rest (a.put o.dst (.tuple #[.int .i64 (match f key with | some v => (v : Int) | none => 0), .bool (f key).isSome])) w) :
    wpList P ops Q (o :: rest) a w := by
  refine wpList_plain hg fun K' hK' => ?_
  have hrun := h.look hk he ht hz hI
  unfold Oper.wp
  simp [execOp, hop, hm, hx, hrun, Result.andThen]
  exact hK' _ _ hK
end
end Go.Proofs.YtlhabgfgoainlaaDoor
