/- A map from strings to whole numbers that the call itself made, told as a function: no program stands in it, no condition. -/
import Derived.Test.YtefijbpbenmbgaaDoorCFoot
import Derived.Maps.OwnSet
import Derived.StringKeys
import Derived.Deep.RegionHeld3
namespace Go.Proofs.YtefijbpbenmbgaaDoor
open Go.RowKit

/-- Block b is a map (key type k a string's, element type e an int's) that has just the keys at which f says something, with that; n of them. -/
def MapS (P : Program) (k e : TypeId) (w : World) (b : Nat) (f : List UInt8 → Option Nat) (n : Nat) : Prop :=
  ∃ D : DataW Unit, w.ownsMap P k (plainElem P e) b n D ∧ Maps.size D = n ∧ (∀ x, Maps.has D (.string x) = (f x).isSome) ∧ (∀ x v, f x = some v → D.atKey (.string x) (.lit (.int .i64 0)) = .lit (.int .i64 v))

theorem wfI {a : Int} (h : I64 a) : (Lit.int .i64 a).wf = true := by
  obtain ⟨h1, h2⟩ := h
  simp [Lit.wf, IntKind.min, IntKind.max, IntKind.signed, IntKind.bits]
  omega
theorem keyS {P : Program} {k : TypeId} (hk : P.underlying k = some .string) {x : List UInt8} (hx : x.length ≤ 9223372036854775807) : keyOf P k (.string ⟨x.toArray⟩) = some (.string x) := by
  have h := WideMaps.keyOf_string_mk (P := P) hk (s := ⟨x.toArray⟩) (by show x.toArray.size ≤ _; rw [List.size_toArray]; exact hx)
  rw [h]
section
variable {P : Program} {k e t : TypeId} {w : World} {b n : Nat} {f : List UInt8 → Option Nat}

theorem MapS.kept {w' : World} {F : Nat → Prop} (h : MapS P k e w b f n) (ho : Only F w w') (hb : ¬ F b) : MapS P k e w' b f n := by
  obtain ⟨D, ⟨es, clock, hbk, F', hs, hD⟩, h2, h3, h4⟩ := h
  exact ⟨D, ⟨es, clock, (ho.block b (Array.getElem?_eq_some_iff.1 hbk).1 hb).trans hbk, F', hs, hD⟩, h2, h3, h4⟩
theorem MapS.drew (h : MapS P k e w b f n) : MapS P k e w.drew b f n := h
theorem MapS.lt (h : MapS P k e w b f n) : b < w.heap.size := by obtain ⟨D, h1, _⟩ := h; exact h1.lt
/-- What is there in the map's block is no row of cells. -/
theorem MapS.ne_cells (h : MapS P k e w b f n) {g : Nat} {c : Array Value} {te : TypeId} {fr : Nat × Nat} (hg : w.heap[g]? = some (.cells c te fr)) : b ≠ g := by
  obtain ⟨D, ⟨es, clock, hbk, _⟩, _⟩ := h
  intro e; subst e; rw [hbk] at hg; simp at hg

theorem MapS.made (w : World) : MapS P k e (w.alloc (.map #[] 0)) w.heap.size (fun _ => none) 0 :=
  ⟨.map [], World.ownsMap_made w P k _, rfl, fun x => by simp [Maps.has_eq], fun x v h => by simp at h⟩

/-- 'v, ok := m[x]'. -/
theorem MapS.look (h : MapS P k e w b f n) (hk : P.underlying k = some .string) (he : P.underlying e = some (.int .i64)) (ht : P.underlying t = some (.map k e)) (hz : (zeroValue e).run P w = .ok (.int .i64 0) w) {x : List UInt8} (hx : x.length ≤ 9223372036854775807) :
    (Instr.lookup t (.map (some b)) (.string ⟨x.toArray⟩) true).run P w = .ok (.tuple #[.int .i64 (match f x with | some v => (v : Int) | none => 0), .bool (f x).isSome]) w := by
  obtain ⟨D, h1, h2, h3, h4⟩ := h
  obtain ⟨v, ps, hrun, hv⟩ := h1.look_ok (Maps.string_keyed hk) ht hz (plainElem_int he (by decide)) (keyS hk hx)
  obtain ⟨c, rfl, hc, _⟩ := plainElem_int_inv he hv
  rw [hrun, h3 x]
  have hc1 := congrArg Prod.fst hc
  simp only at hc1
  cases hf : f x with
  | none =>
    have hh : Maps.has D (.string x) = false := by rw [h3 x, hf]; rfl
    rw [Maps.atKey_of_not_has hh] at hc1
    injection hc1 with hc2; injection hc2 with _ hc3; subst hc3; rfl
  | some u =>
    rw [h4 x u hf] at hc1
    injection hc1 with hc2; injection hc2 with _ hc3; subst hc3; rfl

/-- 'm[x] = v'. -/
theorem MapS.put (h : MapS P k e w b f n) (hk : P.underlying k = some .string) (he : P.underlying e = some (.int .i64)) (ht : P.underlying t = some (.map k e)) {x : List UInt8} {v : Nat} (hx : x.length ≤ 9223372036854775807) (hv : v ≤ 9223372036854775807) (hn : n < 9223372036854775807) :
    ∃ w', (Instr.mapUpdate t (.map (some b)) (.string ⟨x.toArray⟩) (.int .i64 v)).run P w = .ok () w' ∧ MapS P k e w' b (fun y => if y = x then some v else f y) (if (f x).isSome then n else n + 1) ∧ w.grownBy w' (some b) := by
  obtain ⟨D, h1, h2, h3, h4⟩ := h
  have hkey := keyS (P := P) hk hx
  have hkl : WideAt.IsKeyLit (.string x) := by trivial
  obtain ⟨w', hrun, r1, r2⟩ := h1.update (Maps.string_keyed hk) ht (by unfold maxLen; omega) hkey (plainElem_int he (wfI (a := (v : Int)) ⟨by omega, by omega⟩))
  have ht' := h1.tidy (Maps.string_keyed hk)
  have hsz : Maps.size (D.put (.string x) (.lit (.int .i64 (v : Int)))) = if (f x).isSome then n else n + 1 := by
    rw [Maps.size_put ht', h3 x, h2]
  refine ⟨w', hrun, ⟨_, ?_, hsz, ?_, ?_⟩, r2⟩
  · obtain ⟨es, clock, hb, F, hs, hD⟩ := r1
    refine ⟨es, clock, hb, F, ?_, hD⟩
    have : Maps.size (D.put (.string x) (.lit (.int .i64 (v : Int)))) = es.size := by rw [hD]; simp [Maps.size, length_sorted]
    omega
  · intro y
    by_cases hyx : y = x
    · subst hyx; rw [Maps.has_put_same ht'.isMap hkl]; simp
    · rw [Maps.has_put_other (by simpa using hyx), h3 y]; simp [hyx]
  · intro y u hu
    simp only at hu
    by_cases hyx : y = x
    · subst hyx; simp only [if_pos] at hu; injection hu with hu; subst hu; exact Maps.atKey_put_same ht'.isMap hkl _ _
    · rw [if_neg hyx] at hu; rw [Maps.atKey_put_other (by simpa using hyx)]; exact h4 y u hu

/-- 'delete(m, x)'. -/
theorem MapS.drop (h : MapS P k e w b f n) (hk : P.underlying k = some .string) (ht : P.underlying t = some (.map k e)) {x : List UInt8} (hx : x.length ≤ 9223372036854775807) (ty : TypeId) :
    ∃ w', (Builtin.delete_ #[t, k] ty #[.map (some b), .string ⟨x.toArray⟩]).run P w = .ok (.tuple #[]) w' ∧ MapS P k e w' b (fun y => if y = x then none else f y) (n - if (f x).isSome then 1 else 0) ∧ w.grownBy w' (some b) := by
  obtain ⟨D, h1, h2, h3, h4⟩ := h
  have hkey := keyS (P := P) hk hx
  obtain ⟨w', hrun, r1, r2⟩ := h1.drop (Maps.string_keyed hk) ht hkey ty
  have ht' := h1.tidy (Maps.string_keyed hk)
  have hsz : Maps.size (D.del (.string x)) = n - if (f x).isSome then 1 else 0 := by
    have := Maps.size_del (k := .string x) ht'
    rw [h3 x, h2] at this
    omega
  refine ⟨w', hrun, ⟨_, ?_, hsz, ?_, ?_⟩, r2.grown⟩
  · obtain ⟨es, clock, hb, F, hs, hD⟩ := r1
    refine ⟨es, clock, hb, F, ?_, hD⟩
    have : Maps.size (D.del (.string x)) = es.size := by rw [hD]; simp [Maps.size, length_sorted]
    omega
  · intro y
    by_cases hyx : y = x
    · subst hyx; rw [Maps.has_del_same]; simp
    · rw [Maps.has_del_other (by simpa using hyx), h3 y]; simp [hyx]
  · intro y u hu
    simp only at hu
    by_cases hyx : y = x
    · subst hyx; simp at hu
    · rw [if_neg hyx] at hu; rw [Maps.atKey_del_other (by simpa using hyx)]; exact h4 y u hu
end

/-! ### at the operation, for the walk -/
section
variable {P : Program} {w : World} {ops : Array Oper} {rest : List Oper} {o : Oper} {a : Act} {Q : Exit → Act → World → Prop}
theorem wpList_delete_s (hg : o.guard = none) (m x : Operand) (t k e : TypeId) (hop : o.op = Op.call { callee := Callee.builtin Builtin.delete, args := #[m, x], argTypes := #[t, k] })
    (hk : P.underlying k = some .string) (ht : P.underlying t = some (.map k e)) (b n : Nat) (f : List UInt8 → Option Nat) (h : MapS P k e w b f n) (key : List UInt8) (hm : a.eval m = .map (some b)) (hx : a.eval x = .string ⟨key.toArray⟩) (hI : key.length ≤ 9223372036854775807)
    (hK : ∀ w', MapS P k e w' b (fun y => if y = key then none else f y) (n - if (f key).isSome then 1 else 0) → w.grownBy w' (some b) → wpList P ops Q rest (a.put o.dst (.tuple #[])) w') :
    wpList P ops Q (o :: rest) a w := by
  refine wpList_plain hg fun K' hK' => ?_
  obtain ⟨w', hrun, r1, r2⟩ := h.drop hk ht hI o.type
  unfold Oper.wp
  simp [execOp, hop, resolve, invoke, builtin, hm, hx, hrun, Result.andThen]
  exact hK' _ _ (hK w' r1 r2)
/-- .. as one step of a region that draws its order. -/
theorem step_delete_s {K : Act → World → Prop} {E : Prop} (hg : o.guard = none) (m x : Operand) (t k e : TypeId) (hop : o.op = Op.call { callee := Callee.builtin Builtin.delete, args := #[m, x], argTypes := #[t, k] })
    (hk : P.underlying k = some .string) (ht : P.underlying t = some (.map k e)) (b n : Nat) (f : List UInt8 → Option Nat) (h : MapS P k e w b f n) (key : List UInt8) (hm : a.eval m = .map (some b)) (hx : a.eval x = .string ⟨key.toArray⟩) (hI : key.length ≤ 9223372036854775807)
    (hK : ∀ w', MapS P k e w' b (fun y => if y = key then none else f y) (n - if (f key).isSome then 1 else 0) → w.grownBy w' (some b) → K (a.put o.dst (.tuple #[])) w') :
    if Region.wanted o (yielded ops a.tmps) = true then Oper.wp P o a w K Q else E := by
  have hw : Region.wanted o (yielded ops a.tmps) = true := by simp [Region.wanted, hg]
  rw [if_pos hw]
  obtain ⟨w', hrun, r1, r2⟩ := h.drop hk ht hI o.type
  unfold Oper.wp
  simp [execOp, hop, resolve, invoke, builtin, hm, hx, hrun, Result.andThen]
  exact hK w' r1 r2
theorem wpList_put_s (hg : o.guard = none) (m x v : Operand) (t k e : TypeId) (hop : o.op = Op.mapUpdate t m x v)
    (hk : P.underlying k = some .string) (he : P.underlying e = some (.int .i64)) (ht : P.underlying t = some (.map k e)) (b n : Nat) (f : List UInt8 → Option Nat) (h : MapS P k e w b f n) (key : List UInt8) (u : Nat) (hm : a.eval m = .map (some b)) (hx : a.eval x = .string ⟨key.toArray⟩) (hv : a.eval v = .int .i64 u)
    (hI : key.length ≤ 9223372036854775807) (hu : u ≤ 9223372036854775807) (hn : n < 9223372036854775807)
    (hK : ∀ w', MapS P k e w' b (fun y => if y = key then some u else f y) (if (f key).isSome then n else n + 1) → w.grownBy w' (some b) → wpList P ops Q rest (a.put o.dst undef) w') :
    wpList P ops Q (o :: rest) a w := by
  refine wpList_plain hg fun K' hK' => ?_
  obtain ⟨w', hrun, r1, r2⟩ := h.put hk he ht hI hu hn
  unfold Oper.wp
  simp [execOp, hop, hm, hx, hv, hrun, Result.andThen]
  exact hK' _ _ (hK w' r1 r2)
theorem wpList_look_s (hg : o.guard = none) (m x : Operand) (t k e : TypeId) (hop : o.op = Op.lookup t m x true)
    (hk : P.underlying k = some .string) (he : P.underlying e = some (.int .i64)) (ht : P.underlying t = some (.map k e)) (hz : (zeroValue e).run P w = .ok (.int .i64 0) w) (b n : Nat) (f : List UInt8 → Option Nat) (h : MapS P k e w b f n) (key : List UInt8) (hm : a.eval m = .map (some b)) (hx : a.eval x = .string ⟨key.toArray⟩) (hI : key.length ≤ 9223372036854775807)
    (hK : wpList P ops Q rest (a.put o.dst (.tuple #[.int .i64 (match f key with | some v => (v : Int) | none => 0), .bool (f key).isSome])) w) :
    wpList P ops Q (o :: rest) a w := by
  refine wpList_plain hg fun K' hK' => ?_
  have hrun := h.look hk he ht hz hI
  unfold Oper.wp
  simp [execOp, hop, hm, hx, hrun, Result.andThen]
  exact hK' _ _ hK
end
end Go.Proofs.YtefijbpbenmbgaaDoor
