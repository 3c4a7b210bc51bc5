/- oper's pairs (layer 12): a map whose keys are structs of two bytes, made in whatever order its literal is laid: what it holds; looked up. No condition. -/
import Derived.Test.YtlljmagmphfnmaaVB
import Derived.MapKept
import Derived.BigQuiet
import Derived.RegionTactic
import Derived.Laws.StructEq
namespace Go.Proofs.Ytlljmagmphfnmaa
open Go.RowKit

def key2 (a b : Int) : Value := .agg #[.int .u8 a, .int .u8 b]
theorem check_key (a b : Int) (e : Bool) (w : World) : (Instr.checkKey e 10000 41 (key2 a b)).run Try.prog w = .ok () w := by kernel_rfl
theorem kinds_fields : Try.prog.underlying 41 = some (.struct (Try.prog.fieldsOf 41)) := by kernel_rfl
theorem eq_key (a b c d : Int) (w : World) : (Op.equal 41 (key2 a b) (key2 c d)).run Try.prog w = .ok (a == c && b == d) w := by
  have h1 : (Op.equalIn 9999 5 (.int .u8 a) (.int .u8 c)).run Try.prog w = .ok (a == c) w := run_equalIn_int w 9998 _ _ _ _ _ Try.underlying5
  have h2 : (Op.equalIn 9999 5 (.int .u8 b) (.int .u8 d)).run Try.prog w = .ok (b == d) w := run_equalIn_int w 9998 _ _ _ _ _ Try.underlying5
  have hs : (Op.equal 41 (key2 a b) (key2 c d)).run Try.prog w = (Op.eqFields 9999 #[.int .u8 a, .int .u8 b] #[.int .u8 c, .int .u8 d] (Try.prog.fieldsOf 41).toList).run Try.prog w :=
    run_equalIn_struct w 9999 _ _ _ kinds_fields (by kernel_rfl)
  rw [hs]
  have hf : (Try.prog.fieldsOf 41).toList.map (fun f => (f.type, f.offset, f.name == "_")) = [(5, 0, false), (5, 1, false)] := by kernel_rfl
  generalize (Try.prog.fieldsOf 41).toList = fs at hf
  rcases fs with _ | ⟨f, _ | ⟨g, _ | ⟨u, r⟩⟩⟩
  · simp at hf
  · simp at hf
  · simp only [List.map_cons, List.map_nil, List.cons.injEq, Prod.mk.injEq, and_true] at hf
    obtain ⟨⟨f1, f2, f3⟩, g1, g2, g3⟩ := hf
    have hp : ∀ (x y : Int) W, (part 5 #[.int .u8 x, .int .u8 y] 0).run Try.prog W = .ok (.int .u8 x) W := fun x y W => by kernel_rfl
    have hq : ∀ (x y : Int) W, (part 5 #[.int .u8 x, .int .u8 y] 1).run Try.prog W = .ok (.int .u8 y) W := fun x y W => by kernel_rfl
    have n1 : f.name ≠ "_" := by simpa using f3
    have n2 : g.name ≠ "_" := by simpa using g3
    cases hac : (a == c) <;> cases hbd : (b == d) <;> simp [Op.eqFields, f1, f2, g1, g2, n1, n2, hp, hq, h1, h2, hac, hbd]
  · simp at hf
/-- The table of the text: both kinds, and what they are together. -/
def tblP : List (Int × Int × Int) := [(2, 2, 1), (2, 4, 2), (4, 2, 2), (4, 4, 2), (3, 3, 3), (5, 5, 4), (3, 2, 5), (5, 2, 5)]
def keyP (j : Nat) : Value := key2 (tblP.getD j (0, 0, 0)).1 (tblP.getD j (0, 0, 0)).2.1
def valP (j : Nat) : Value := .int .i64 (tblP.getD j (0, 0, 0)).2.2
theorem key_inj : ∀ i, i < 8 → ∀ j, j < 8 → (tblP.getD i (0, 0, 0)).1 = (tblP.getD j (0, 0, 0)).1 → (tblP.getD i (0, 0, 0)).2.1 = (tblP.getD j (0, 0, 0)).2.1 → i = j := by decide
theorem keyP_inj {i j : Nat} (hi : i < 8) (hj : j < 8) (h : keyP i = keyP j) : i = j := by
  unfold keyP key2 at h
  simp only [Value.agg.injEq, Array.mk.injEq, List.cons.injEq, Value.int.injEq, true_and, and_true] at h
  exact key_inj i hi j hj h.1 h.2
/-- Block b is a map that holds just these of the table. -/
def PInv (w : World) (b : Nat) (S : List Bool) : Prop :=
  ∃ es c, w.heap[b]? = some (.map es c) ∧ (∀ e ∈ es.toList, ∃ j, j < 8 ∧ S[j]? = some true ∧ e.key = keyP j ∧ e.val = valP j) ∧ (∀ j, j < 8 → S[j]? = some true → ∃ e ∈ es.toList, e.key = keyP j)
theorem find_asks (x y : Int) : ∀ (es : List MapEntry) (i : Nat) (w : World), (∀ e ∈ es, ∃ c d, e.key = key2 c d) →
    ((∀ e ∈ es, e.key ≠ key2 x y) → (Instr.findAsking 41 (key2 x y) es i).run Try.prog w = .ok none w) ∧
    ((∃ e ∈ es, e.key = key2 x y) → ∃ k e, e ∈ es ∧ e.key = key2 x y ∧ (Instr.findAsking 41 (key2 x y) es i).run Try.prog w = .ok (some (k, e.val)) w)
  | [], i, w, _ => ⟨fun _ => rfl, fun ⟨e, h, _⟩ => (by cases h)⟩
  | e :: es, i, w, hk => by
    obtain ⟨c, d, hcd⟩ := hk e (List.mem_cons_self ..)
    have ih := find_asks x y es (i + 1) w (fun e h => hk e (List.mem_cons_of_mem _ h))
    have he := eq_key x y c d w
    rw [← hcd] at he
    by_cases hq : e.key = key2 x y
    · have hb : (x == c && y == d) = true := by
        rw [hcd] at hq
        unfold key2 at hq
        simp only [Value.agg.injEq, Array.mk.injEq, List.cons.injEq, Value.int.injEq, true_and, and_true] at hq
        simp [hq.1, hq.2]
      rw [hb] at he
      refine ⟨fun h => absurd hq (h e (List.mem_cons_self ..)), fun _ => ⟨i, e, List.mem_cons_self .., hq, ?_⟩⟩
      simp [Instr.findAsking, he]
    · have hb : (x == c && y == d) = false := by
        cases h : (x == c && y == d) with
        | false => rfl
        | true =>
          simp only [Bool.and_eq_true, beq_iff_eq] at h
          exact absurd (by rw [hcd, h.1, h.2]) hq
      rw [hb] at he
      refine ⟨fun h => ?_, fun ⟨e2, h2, h3⟩ => ?_⟩
      · have := ih.1 (fun e2 h2 => h e2 (List.mem_cons_of_mem _ h2))
        simp [Instr.findAsking, he, this]
      · rcases List.mem_cons.1 h2 with rfl | h2
        · exact absurd h3 hq
        · obtain ⟨k, e4, m4, k4, r4⟩ := ih.2 ⟨e2, h2, h3⟩
          exact ⟨k, e4, List.mem_cons_of_mem _ m4, k4, by simp [Instr.findAsking, he, r4]⟩
theorem find_keys (x y : Int) (es : List MapEntry) (w : World) (hk : ∀ e ∈ es, ∃ c d, e.key = key2 c d) :
    ((∀ e ∈ es, e.key ≠ key2 x y) → (Instr.findKey 41 (key2 x y) es).run Try.prog w = .ok none w) ∧
    ((∃ e ∈ es, e.key = key2 x y) → ∃ k e, e ∈ es ∧ e.key = key2 x y ∧ (Instr.findKey 41 (key2 x y) es).run Try.prog w = .ok (some (k, e.val)) w) := by
  have h := find_asks x y es 0 w hk
  have hr : ∀ r, (Instr.findAsking 41 (key2 x y) es 0).run Try.prog w = .ok r w → (es = [] → r = none) → (Instr.findKey 41 (key2 x y) es).run Try.prog w = .ok r w := by
    intro r hr h0
    cases es with
    | nil =>
      rw [h0 rfl]
      simp [Instr.findKey, run_underlying kinds_fields, Instr.findNow]
    | cons e es =>
      simp [Instr.findKey, run_underlying kinds_fields, Instr.findNow, Instr.sameNow, hr]
  refine ⟨fun a => hr _ (h.1 a) (fun _ => rfl), fun a => ?_⟩
  obtain ⟨k, e, m, q, r⟩ := h.2 a
  exact ⟨k, e, m, q, hr _ r (fun e0 => by rw [e0] at m; cases m)⟩
theorem PInv.made (w : World) : PInv (w.alloc (.map #[] 0)) w.heap.size (List.replicate 8 false) :=
  ⟨#[], 0, heap_alloc_new w _, fun e h => by simp at h, fun j hj h => by rw [List.getElem?_replicate] at h; split at h <;> simp at h⟩
theorem PInv.put {w : World} {b : Nat} {S : List Bool} (h : PInv w b S) {j : Nat} (hj : j < 8) (hl : S.length = 8) (hS : S[j]? = some false) :
    ∃ w', (Instr.mapUpdate 38 (.map (some b)) (keyP j) (valP j)).run Try.prog w = .ok () w' ∧ PInv w' b (S.set j true) ∧ Only (fun k => k = b) w w' := by
  obtain ⟨es, c, hb, h1, h2⟩ := h
  have hc : ∀ e, (Instr.checkKey e 10000 41 (keyP j)).run Try.prog w = .ok () w := fun e => check_key _ _ e w
  have hf : (Instr.findKey 41 (keyP j) es.toList).run Try.prog w = .ok none w := (find_keys (tblP.getD j (0, 0, 0)).1 (tblP.getD j (0, 0, 0)).2.1 es.toList w (fun e he => by
    obtain ⟨i, _, _, hk, _⟩ := h1 e he
    exact ⟨_, _, hk⟩)).1 (fun e he hk => by
      obtain ⟨i, hi, hSi, hki, _⟩ := h1 e he
      have := keyP_inj hi hj (hki.symm.trans hk)
      rw [this, hS] at hSi
      cases hSi)
  have hlt := (Array.getElem?_eq_some_iff.1 hb).1
  refine ⟨_, by simp [Instr.mapUpdate, run_underlying Try.underlying38, Go.MapKept.run_getObj_map hb, hc, hf, Go.MapKept.run_setObj_map _ hb, Result.andThen]; rfl, ⟨es.push { key := keyP j, val := valP j, born := c }, c + 1, ?_, ?_, ?_⟩, ?_⟩
  · simp [hlt]
  · intro e he
    rw [Array.toList_push] at he
    rcases List.mem_append.1 he with he | he
    · obtain ⟨i, hi, hSi, hki, hvi⟩ := h1 e he
      refine ⟨i, hi, ?_, hki, hvi⟩
      by_cases hij : j = i
      · subst hij; rw [List.getElem?_set_self (by omega)]
      · rw [List.getElem?_set_ne hij]; exact hSi
    · rw [List.mem_singleton.1 he]
      exact ⟨j, hj, by rw [List.getElem?_set_self (by omega)], rfl, rfl⟩
  · intro i hi hSi
    by_cases hij : j = i
    · subst hij
      exact ⟨_, by rw [Array.toList_push]; exact List.mem_append_right _ (List.mem_singleton.2 rfl), rfl⟩
    · rw [List.getElem?_set_ne hij] at hSi
      obtain ⟨e, he, hk⟩ := h2 i hi hSi
      exact ⟨e, by rw [Array.toList_push]; exact List.mem_append_left _ he, hk⟩
  · exact ⟨rfl, rfl, rfl, by simp, fun k hk hne => by simp [Ne.symm hne]⟩
/-- Block b is the whole table. -/
def Pairs (w : World) (b : Nat) : Prop := PInv w b (List.replicate 8 true)
theorem Pairs.below {w W : World} {B b : Nat} (h : Pairs w b) (hb : Below B w W) (hB : b < B) : Pairs W b := by
  obtain ⟨es, c, h1, h2⟩ := h
  exact ⟨es, c, (hb.block b hB).trans h1, h2⟩
theorem Pairs.lt {w : World} {b : Nat} (h : Pairs w b) : b < w.heap.size := by obtain ⟨es, c, h, _⟩ := h; exact (Array.getElem?_eq_some_iff.1 h).1
theorem Pairs.look {w : World} {b : Nat} (h : Pairs w b) {j : Nat} (hj : j < 8) : (Instr.lookup 38 (.map (some b)) (keyP j) false).run Try.prog w = .ok (valP j) w := by
  obtain ⟨es, c, hb, h1, h2⟩ := h
  have hc : ∀ e, (Instr.checkKey e 10000 41 (keyP j)).run Try.prog w = .ok () w := fun e => check_key _ _ e w
  obtain ⟨k, e, m, q, r⟩ := (find_keys (tblP.getD j (0, 0, 0)).1 (tblP.getD j (0, 0, 0)).2.1 es.toList w (fun e he => by
    obtain ⟨i, _, _, hk, _⟩ := h1 e he
    exact ⟨_, _, hk⟩)).2 (h2 j hj (by rw [List.getElem?_replicate, if_pos hj]))
  have hv : e.val = valP j := by
    obtain ⟨i, hi, _, hki, hvi⟩ := h1 e m
    rw [hvi, keyP_inj hi hj (hki.symm.trans q)]
  rw [hv] at r
  have r' : (Instr.findKey 41 (keyP j) es.toList).run Try.prog w = .ok (some (k, valP j)) w := r
  simp [Instr.lookup, run_underlying Try.underlying38, Go.MapKept.run_getObj_map hb, hc, r', Result.andThen]
end Go.Proofs.Ytlljmagmphfnmaa
