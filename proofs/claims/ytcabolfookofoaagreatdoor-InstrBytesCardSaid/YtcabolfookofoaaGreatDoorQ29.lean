/- A part of the proof: JMapF, JHMem. No condition. -/
import Derived.Maps.OwnSet
import Derived.Deep.RegionHeld3
import Derived.BigRegion
import Derived.BigQuiet
import Derived.Deep.QuietTactic
import Derived.Test.YtcabolfookofoaaGreatDoorQ02
import Derived.Test.YtcabolfookofoaaGreatDoorQ27
import Derived.Test.YtcabolfookofoaaGreatDoorQ28
set_option linter.unusedVariables false
set_option linter.unusedSimpArgs false
namespace Go.Proofs.YtcabolfookofoaaGreatDoor
open Go.RowKit
theorem equalIn_map_nil {P : Program} (w : World) (d : Nat) (t k e : TypeId) (p : Option Nat) (h : P.underlying t = some (.map k e)) : (Op.equalIn (d + 1) t (.map p) (.map none)).run P w = .ok p.isNone w := by
 cases p <;> simp [Op.equalIn, run_underlying h]
theorem run_neq_map {P : Program} (w : World) (t k e : TypeId) (p : Option Nat) (h : P.underlying t = some (.map k e)) : (binOp .neq t (.map p) (.map none)).run P w = .ok (.bool (!p.isNone)) w := by
 simp only [binOp];simp [show Op.equal t (.map p) (.map none) = Op.equalIn (9999 + 1) t (.map p) (.map none) from rfl, equalIn_map_nil w 9999 t k e p h]
def MapIs (P : Program) (k e : TypeId) (w : World) (b : Nat) (f : Int → Option Nat) (n : Nat) : Prop :=
 ∃ D : DataW Unit, w.ownsMap P k (plainElem P e) b n D ∧ Maps.size D = n ∧ (∀ x, I64 x → Maps.has D (.int .i64 x) = (f x).isSome) ∧ (∀ x v, I64 x → f x = some v → D.atKey (.int .i64 x) (.lit (.int .i64 0)) = .lit (.int .i64 v))
section
variable {P : Program} {k e t : TypeId} {w : World} {b n : Nat} {f : Int → Option Nat}
theorem MapIs.kept {w' : World} {F : Nat → Prop} (h : MapIs P k e w b f n) (ho : Only F w w') (hb : ¬ F b) : MapIs P k e w' b f n := by
 obtain ⟨D, ⟨es, clock, hbk, F', hs, hD⟩, h2, h3, h4⟩ := h;exact ⟨D, ⟨es, clock, (ho.block b (Array.getElem?_eq_some_iff.1 hbk).1 hb).trans hbk, F', hs, hD⟩, h2, h3, h4⟩
theorem MapIs.drew (h : MapIs P k e w b f n) : MapIs P k e w.drew b f n := h
theorem MapIs.lt (h : MapIs P k e w b f n) : b < w.heap.size := by obtain ⟨D, h1, _⟩ := h; exact h1.lt
theorem MapIs.ne_cells (h : MapIs P k e w b f n) {g : Nat} {c : Array Value} {te : TypeId} {fr : Nat × Nat} (hg : w.heap[g]? = some (.cells c te fr)) : b ≠ g := by
 obtain ⟨D, ⟨es, clock, hbk, _⟩, _⟩ := h;intro e; subst e; rw [hbk] at hg; simp at hg
theorem MapIs.made (w : World) : MapIs P k e (w.alloc (.map #[] 0)) w.heap.size (fun _ => none) 0 :=
 ⟨.map [], World.ownsMap_made w P k _, rfl, fun x _ => by simp [Maps.has_eq], fun x v _ h => by simp at h⟩
theorem MapIs.put (h : MapIs P k e w b f n) (hk : P.underlying k = some (.int .i64)) (he : P.underlying e = some (.int .i64)) (ht : P.underlying t = some (.map k e)) {x : Int} {v : Nat} (hx : I64 x) (hv : v ≤ 9223372036854775807) (hn : n < 9223372036854775807) :
   ∃ w', (Instr.mapUpdate t (.map (some b)) (.int .i64 x) (.int .i64 v)).run P w = .ok () w' ∧ MapIs P k e w' b (fun y => if y = x then some v else f y) (if (f x).isSome then n else n + 1) ∧ w.grownBy w' (some b) := by
 obtain ⟨D, h1, h2, h3, h4⟩ := h;have hkey := Maps.keyOf_int_mk (P := P) hk (wf_of_i64 hx);have hkl : WideAt.IsKeyLit (.int .i64 x) := by trivial
 obtain ⟨w', hrun, r1, r2⟩ := h1.update (Maps.int_keyed hk) ht (by unfold maxLen; omega) hkey (plainElem_int he (wf_of_i64 (a := (v : Int)) ⟨by omega, by omega⟩));have ht' := h1.tidy (Maps.int_keyed hk);have hsz : Maps.size (D.put (.int .i64 x) (.lit (.int .i64 (v : Int)))) = if (f x).isSome then n else n + 1 := by
   rw [Maps.size_put ht', h3 x hx, h2]
 refine ⟨w', hrun, ⟨_, ?_, hsz, ?_, ?_⟩, r2⟩
 · obtain ⟨es, clock, hb, F, hs, hD⟩ := r1
   refine ⟨es, clock, hb, F, ?_, hD⟩;have : Maps.size (D.put (.int .i64 x) (.lit (.int .i64 (v : Int)))) = es.size := by rw [hD]; simp [Maps.size, length_sorted]
   omega
 · intro y hy
   by_cases hyx : y = x
   · subst hyx; rw [Maps.has_put_same ht'.isMap hkl]; simp
   · rw [Maps.has_put_other (by simpa using hyx), h3 y hy]; simp [hyx]
 · intro y u hy hu
   simp only at hu;by_cases hyx : y = x
   · subst hyx; simp only [if_pos] at hu; injection hu with hu; subst hu; exact Maps.atKey_put_same ht'.isMap hkl _ _
   · rw [if_neg hyx] at hu; rw [Maps.atKey_put_other (by simpa using hyx)]; exact h4 y u hy hu
theorem MapIs.drop (h : MapIs P k e w b f n) (hk : P.underlying k = some (.int .i64)) (ht : P.underlying t = some (.map k e)) {x : Int} (hx : I64 x) (ty : TypeId) :
   ∃ w', (Builtin.delete_ #[t, k] ty #[.map (some b), .int .i64 x]).run P w = .ok (.tuple #[]) w' ∧ MapIs P k e w' b (fun y => if y = x then none else f y) (n - if (f x).isSome then 1 else 0) ∧ w.grownBy w' (some b) := by
 obtain ⟨D, h1, h2, h3, h4⟩ := h;have hkey := Maps.keyOf_int_mk (P := P) hk (wf_of_i64 hx);obtain ⟨w', hrun, r1, r2⟩ := h1.drop (Maps.int_keyed hk) ht hkey ty;have ht' := h1.tidy (Maps.int_keyed hk);have hsz : Maps.size (D.del (.int .i64 x)) = n - if (f x).isSome then 1 else 0 := by
   have := Maps.size_del (k := .int .i64 x) ht';rw [h3 x hx, h2] at this;omega
 refine ⟨w', hrun, ⟨_, ?_, hsz, ?_, ?_⟩, r2.grown⟩
 · obtain ⟨es, clock, hb, F, hs, hD⟩ := r1
   refine ⟨es, clock, hb, F, ?_, hD⟩;have : Maps.size (D.del (.int .i64 x)) = es.size := by rw [hD]; simp [Maps.size, length_sorted]
   omega
 · intro y hy
   by_cases hyx : y = x
   · subst hyx; rw [Maps.has_del_same]; simp
   · rw [Maps.has_del_other (by simpa using hyx), h3 y hy]; simp [hyx]
 · intro y u hy hu
   simp only at hu;by_cases hyx : y = x
   · subst hyx; simp at hu
   · rw [if_neg hyx] at hu; rw [Maps.atKey_del_other (by simpa using hyx)]; exact h4 y u hy hu
end
section
variable {P : Program} {w : World} {ops : Array Oper} {rest : List Oper} {o : Oper} {a : Act} {Q : Exit → Act → World → Prop}
theorem step_delete_f {K : Act → World → Prop} {E : Prop} (hg : o.guard = none) (m x : Operand) (t k e : TypeId) (hop : o.op = Op.call { callee := Callee.builtin Builtin.delete, args := #[m, x], argTypes := #[t, k] })
   (hk : P.underlying k = some (.int .i64)) (ht : P.underlying t = some (.map k e)) (b n : Nat) (f : Int → Option Nat) (h : MapIs P k e w b f n) (key : Int) (hm : a.eval m = .map (some b)) (hx : a.eval x = .int .i64 key) (hI : I64 key)
   (hK : ∀ w', MapIs P k e w' b (fun y => if y = key then none else f y) (n - if (f key).isSome then 1 else 0) → w.grownBy w' (some b) → K (a.put o.dst (.tuple #[])) w') :
   if Region.wanted o (yielded ops a.tmps) = true then Oper.wp P o a w K Q else E := by
 have hw : Region.wanted o (yielded ops a.tmps) = true := by simp [Region.wanted, hg]
 rw [if_pos hw];obtain ⟨w', hrun, r1, r2⟩ := h.drop hk ht hI o.type;unfold Oper.wp;simp [execOp, hop, resolve, invoke, builtin, hm, hx, hrun, Result.andThen]
 exact hK w' r1 r2
theorem wpList_put_f (hg : o.guard = none) (m x v : Operand) (t k e : TypeId) (hop : o.op = Op.mapUpdate t m x v)
   (hk : P.underlying k = some (.int .i64)) (he : P.underlying e = some (.int .i64)) (ht : P.underlying t = some (.map k e)) (b n : Nat) (f : Int → Option Nat) (h : MapIs P k e w b f n) (key : Int) (u : Nat) (hm : a.eval m = .map (some b)) (hx : a.eval x = .int .i64 key) (hv : a.eval v = .int .i64 u)
   (hI : I64 key) (hu : u ≤ 9223372036854775807) (hn : n < 9223372036854775807)
   (hK : ∀ w', MapIs P k e w' b (fun y => if y = key then some u else f y) (if (f key).isSome then n else n + 1) → w.grownBy w' (some b) → wpList P ops Q rest (a.put o.dst undef) w') :
   wpList P ops Q (o :: rest) a w := by
 refine wpList_plain hg fun K' hK' => ?_
 obtain ⟨w', hrun, r1, r2⟩ := h.put hk he ht hI hu hn;unfold Oper.wp;simp [execOp, hop, hm, hx, hv, hrun, Result.andThen]
 exact hK' _ _ (hK w' r1 r2)
end
end Go.Proofs.YtcabolfookofoaaGreatDoor
namespace Go.Proofs.YtcabolfookofoaaGreatDoor.HI
open Go.RowKit
structure T where
 key : Int
 num : Int
 v : Int
instance : Inhabited T := ⟨⟨0, 0, 0⟩⟩
def enc (x : T) : List Value := [.int .i64 x.key, .int .i64 x.num, .int .i64 x.v]
theorem enc_len (x : T) : (enc x).length = 3 := rfl
structure HeapAt (w : World) (b bm : Nat) (sv : Value) (d : List T) (p : Nat) : Prop where
 st : w.heap[b]? = some (.cells #[sv, .map (some bm), .int .i64 p] 140 (0, 0))
 row : w.ownsRow 0 176 3 sv d.length (rowOf enc d)
 map : ∃ f, MapIs Tryz.prog 3 3 w bm f d.length ∧ Pl T.num f d
 num : ∀ i, i < d.length → 0 ≤ (at_ d i).num ∧ (at_ d i).num < p
 len : d.length ≤ p
 lim : p ≤ 1099511627776
def Foot (b bm : Nat) (sv : Value) (k : Nat) : Prop := k = b ∨ k = bm ∨ sv.ownBlock = some k
section
variable {w : World} {b bm p : Nat} {sv : Value} {d : List T}
theorem HeapAt.c0 (h : HeapAt w b bm sv d p) : w.cell? ⟨b, 0, none⟩ = some sv := by simp [World.cell?, h.st]
theorem HeapAt.c1 (h : HeapAt w b bm sv d p) : w.cell? ⟨b, 1, none⟩ = some (.map (some bm)) := by simp [World.cell?, h.st]
theorem HeapAt.c2 (h : HeapAt w b bm sv d p) : w.cell? ⟨b, 2, none⟩ = some (.int .i64 p) := by simp [World.cell?, h.st]
theorem HeapAt.f (h : HeapAt w b bm sv d p) (j : Nat) : w.frozen? ⟨b, j, none⟩ = false := by simp [World.frozen?, h.st]
theorem HeapAt.lt (h : HeapAt w b bm sv d p) : b < w.heap.size := (Array.getElem?_eq_some_iff.1 h.st).1
theorem HeapAt.ltm (h : HeapAt w b bm sv d p) : bm < w.heap.size := by obtain ⟨f, h1, _⟩ := h.map; exact h1.lt
theorem HeapAt.ltg (h : HeapAt w b bm sv d p) {g : Nat} (hg : sv.ownBlock = some g) : g < w.heap.size := (h.row.lt g hg).2
theorem HeapAt.bm_ne (h : HeapAt w b bm sv d p) : bm ≠ b := by obtain ⟨f, h1, _⟩ := h.map; exact h1.ne_cells h.st
theorem own_block {e : TypeId} {k n base : Nat} {sv : Value} {xs : List Value} (h : w.ownsRow base e k sv n xs) {g : Nat} (hg : sv.ownBlock = some g) : ∃ cur, w.heap[g]? = some (.cells cur e (0, 0)) := by
 rcases h.2 with ⟨rfl, _⟩ | ⟨g', cap, cur, rfl, _, hh, _⟩
 · simp [Value.ownBlock] at hg
 · simp [Value.ownBlock] at hg; subst hg; exact ⟨cur, hh⟩
theorem HeapAt.g_ne (h : HeapAt w b bm sv d p) {g : Nat} (hg : sv.ownBlock = some g) : g ≠ b ∧ g ≠ bm := by
 obtain ⟨cur, hh⟩ := own_block h.row hg;refine ⟨fun e => ?_, fun e => ?_⟩
 · subst e; have := h.st; rw [hh] at this; simp at this
 · obtain ⟨f, h1, _⟩ := h.map; exact h1.ne_cells hh e.symm
theorem HeapAt.kept {w' : World} {F : Nat → Prop} (h : HeapAt w b bm sv d p) (ho : Only F w w') (hF : ∀ k, Foot b bm sv k → ¬ F k) : HeapAt w' b bm sv d p := by
 refine ⟨(ho.block b h.lt (hF b (.inl rfl))).trans h.st, ownsRow_only h.row ho (fun g hg => hF g (.inr (.inr hg))), ?_, h.num, h.len, h.lim⟩;obtain ⟨f, h1, h2⟩ := h.map;exact ⟨f, h1.kept ho (hF bm (.inr (.inl rfl))), h2⟩
theorem HeapAt.i64n (h : HeapAt w b bm sv d p) (i : Nat) (hi : i < d.length) : I64 (at_ d i).num := by
 have := h.num i hi;have := h.lim;unfold I64;omega
end
theorem ownsRow_drew {w : World} {base k n : Nat} {e : TypeId} {v : Value} {xs : List Value} (h : w.ownsRow base e k v n xs) : w.drew.ownsRow base e k v n xs := h
theorem row_cells {w : World} {g n cap : Nat} {d : List T} (h : w.ownsRow 0 176 3 (.slice (some ⟨g, 0, none⟩) n cap) n (rowOf enc d)) (hn : n = d.length) {i : Nat} (hi : i < d.length) :
   w.cell? ⟨g, i * 3, none⟩ = some (.int .i64 (at_ d i).key) ∧ w.cell? ⟨g, i * 3 + 1, none⟩ = some (.int .i64 (at_ d i).num) ∧ w.cell? ⟨g, i * 3 + 2, none⟩ = some (.int .i64 (at_ d i).v) := by
 have e := at_eq d i hi;refine ⟨?_, ?_, ?_⟩
 · rw [h.cellAt _ (by omega)]
   have := rowOf_get enc_len d i 0 hi (by omega);rw [Nat.add_zero] at this;rw [this, e]; rfl
 · rw [h.cellAt _ (by omega), rowOf_get enc_len d i 1 hi (by omega), e]; rfl
 · rw [h.cellAt _ (by omega), rowOf_get enc_len d i 2 hi (by omega), e]; rfl
theorem row_store {w : World} {g n cap : Nat} {d : List T} (h : w.ownsRow 0 176 3 (.slice (some ⟨g, 0, none⟩) n cap) n (rowOf enc d)) {i : Nat} (hi : i < d.length) (x : T) :
   (((w.setCell ⟨g, i * 3, none⟩ (.int .i64 x.key)).setCell ⟨g, i * 3 + 1, none⟩ (.int .i64 x.num)).setCell ⟨g, i * 3 + 2, none⟩ (.int .i64 x.v)).ownsRow 0 176 3 (.slice (some ⟨g, 0, none⟩) n cap) n (rowOf enc (d.set i x)) := by
 have h1 := (h.stored (i * 3) (.int .i64 x.key)).1;have h2 := (h1.stored (i * 3 + 1) (.int .i64 x.num)).1;have h3 := (h2.stored (i * 3 + 2) (.int .i64 x.v)).1;rw [rowOf_set3 enc_len d i hi x rfl] at h3;exact h3
theorem row_swap {w : World} {g n cap a c : Nat} {d : List T} (h : w.ownsRow 0 176 3 (.slice (some ⟨g, 0, none⟩) n cap) n (rowOf enc d)) (ha : a < d.length) (hc : c < d.length) {k1 n1 v1 k2 n2 v2 : Int} (hx : at_ d a = ⟨k1, n1, v1⟩) (hy : at_ d c = ⟨k2, n2, v2⟩) :
   ((((((w.setCell ⟨g, a * 3, none⟩ (.int .i64 k2)).setCell ⟨g, a * 3 + 1, none⟩ (.int .i64 n2)).setCell ⟨g, a * 3 + 2, none⟩ (.int .i64 v2)).setCell ⟨g, c * 3, none⟩ (.int .i64 k1)).setCell ⟨g, c * 3 + 1, none⟩ (.int .i64 n1)).setCell ⟨g, c * 3 + 2, none⟩ (.int .i64 v1)).ownsRow 0 176 3 (.slice (some ⟨g, 0, none⟩) n cap) n (rowOf enc (swp d a c)) ∧
   Only (fun k => k = g) w ((((((w.setCell ⟨g, a * 3, none⟩ (.int .i64 k2)).setCell ⟨g, a * 3 + 1, none⟩ (.int .i64 n2)).setCell ⟨g, a * 3 + 2, none⟩ (.int .i64 v2)).setCell ⟨g, c * 3, none⟩ (.int .i64 k1)).setCell ⟨g, c * 3 + 1, none⟩ (.int .i64 n1)).setCell ⟨g, c * 3 + 2, none⟩ (.int .i64 v1)) := by
 constructor
 · have h1 := row_store h ha (at_ d c)
   have h2 := row_store h1 (i := c) (by simpa using hc) (at_ d a);rw [hx, hy] at h2;unfold swp;rw [hx, hy];exact h2
 · have key : ∀ (W : World) (j : Nat) (u : Value), Only (fun k => k = g) w W → Only (fun k => k = g) w (W.setCell ⟨g, j, none⟩ u) := fun W j u ho => ho.setCell (p := ⟨g, j, none⟩) (.inl rfl) u
   exact key _ _ _ (key _ _ _ (key _ _ _ (key _ _ _ (key _ _ _ (key _ _ _ (Only.refl _ w))))))
end Go.Proofs.YtcabolfookofoaaGreatDoor.HI
