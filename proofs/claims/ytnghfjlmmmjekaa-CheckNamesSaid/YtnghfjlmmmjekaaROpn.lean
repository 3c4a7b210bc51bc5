/- The document's stack of open twigs in memory (layer 8). No condition. -/
import Derived.Test.YtnghfjlmmmjekaaRMach
import Derived.Test.YtnghfjlmmmjekaaRTws
import Derived.Laws.OwnMore
import Derived.Deep.AppendSrc
import Derived.Lib.SliceRun
namespace Go.Proofs.Ytnghfjlmmmjekaa
open Go.RowKit Go.Shelf

def opC (u : Op3) : List Value := [.int .u8 u.op, .int .i64 u.came, .int .i64 u.n]
theorem opC_len (u : Op3) : (opC u).length = 3 := rfl
theorem opC_one (u : Op3) : ∀ x ∈ opC u, x.oneCell' = true := by
  intro x hx
  simp only [opC, List.mem_cons, List.not_mem_nil, or_false] at hx
  rcases hx with rfl | rfl | rfl <;> rfl
theorem op_info : (Try.prog.info? 76).map (fun i => (i.zero, i.size, i.bytes)) = some (some (.agg #[.int .u8 0, .int .i64 0, .int .i64 0]), 3, 24) := by kernel_rfl
theorem op_parts : ∃ i0, Try.prog.info? 76 = some i0 ∧ i0.zero = some (.agg #[.int .u8 0, .int .i64 0, .int .i64 0]) ∧ i0.size = 3 ∧ i0.bytes = 24 := by
  have h := op_info
  cases hi : Try.prog.info? 76 with
  | none => rw [hi] at h; simp at h
  | some i0 =>
    rw [hi] at h
    simp at h
    exact ⟨i0, rfl, h.1, h.2.1, h.2.2⟩
/-- The stack lies in a row of the call's own, its top last. -/
def OpsAt (w : World) (base : Nat) (v : Value) (L : List Op3) : Prop := w.ownsRow base 76 3 v L.length (rowOf opC L.reverse)
theorem rowOf_top (u : Op3) (r : List Op3) : rowOf opC (u :: r).reverse = rowOf opC r.reverse ++ opC u := by rw [List.reverse_cons, rowOf_snoc]
theorem rowOf_rev (r : List Op3) : (rowOf opC r.reverse).length = r.length * 3 := by rw [rowOf_length opC_len, List.length_reverse]
section
variable {w W : World} {base g cap k : Nat} {v : Value} {u : Op3} {r L : List Op3}
theorem OpsAt.below (h : OpsAt w base v L) (hb : Below w.heap.size w W) : OpsAt W base v L := ownsRow_only (F := fun _ => False) h (Only.of_below hb) (fun _ _ h => h)
theorem OpsAt.shape (h : OpsAt w base v L) : ∃ a cap, v = .slice a L.length cap ∧ L.length ≤ cap ∧ cap ≤ 9223372036854775807 := ownsRow_shape h
theorem OpsAt.head (h : OpsAt w base v (u :: r)) : ∃ g cap, v = .slice (some ⟨g, 0, none⟩) (r.length + 1) cap ∧ base ≤ g ∧ g < w.heap.size ∧ r.length + 1 ≤ cap ∧ cap ≤ 9223372036854775807 := by
  obtain ⟨g, cap, e, h1, h2, h3, h4, _⟩ := ownsRow_head h (by simp)
  exact ⟨g, cap, e, h1, h2, h3, h4⟩
theorem OpsAt.cell (h : OpsAt w base (.slice (some ⟨g, 0, none⟩) (k + 1) cap) (u :: r)) (hk : k = r.length) (j : Nat) (hj : j < 3) : w.cell? ⟨g, k * 3 + j, none⟩ = (opC u)[j]? := by
  subst hk
  have hh := h
  unfold OpsAt at hh
  rw [World.ownsRow.cellAt (g := g) (cap := cap) hh (r.length * 3 + j) (by omega), rowOf_top, List.getElem?_append_right (by rw [rowOf_rev]; omega), rowOf_rev]
  congr 1
  omega
theorem OpsAt.frozen (h : OpsAt w base (.slice (some ⟨g, 0, none⟩) (k + 1) cap) (u :: r)) (hk : k = r.length) (j : Nat) : w.frozen? ⟨g, j, none⟩ = false := by
  subst hk
  exact World.ownsRow.frozenAt (n := (u :: r).length) h j
theorem OpsAt.pop (h : OpsAt w base (.slice (some ⟨g, 0, none⟩) (k + 1) cap) (u :: r)) (hk : k = r.length) : OpsAt w base (.slice (some ⟨g, 0, none⟩) k cap) r := by
  subst hk
  have := ownsRow_cut (m := r.length) (n := (u :: r).length) h (by simp)
  rw [rowOf_top, ← rowOf_rev, List.take_left] at this
  exact this
theorem OpsAt.came (h : OpsAt w base (.slice (some ⟨g, 0, none⟩) (k + 1) cap) (u :: r)) (hk : k = r.length) (z : Int) (hz : z = ((u.came + 1 : Nat) : Int)) :
    OpsAt (w.setCell ⟨g, k * 3 + 1, none⟩ (.int .i64 z)) base (.slice (some ⟨g, 0, none⟩) (k + 1) cap) (⟨u.op, u.came + 1, u.n⟩ :: r) := by
  subst hk hz
  have := World.ownsRow.stored (n := (u :: r).length) h (r.length * 3 + 1) (.int .i64 ((u.came + 1 : Nat) : Int))
  unfold OpsAt
  rw [rowOf_top] at this ⊢
  rw [List.set_append_right _ _ (by rw [rowOf_rev]; omega), rowOf_rev, show r.length * 3 + 1 - r.length * 3 = 1 by omega] at this
  exact this.1
end
/-- append(l, u): at the operation, behind the row of one. -/
theorem wpList_append_op {w : World} {base : Nat} {v : Value} {L : List Op3} {u : Op3} {ops : Array Oper} {rest : List Oper} {o : Oper} {a : Act} {Q : Exit → Act → World → Prop} (hgd : o.guard = none) (s x : Operand)
    (ho : o.op = .call { callee := .builtin .append, args := #[s, x], argTypes := #[73, 73] })
    (hs : a.eval s = v) (hown : OpsAt w base v L) {G : Nat} (hx : a.eval x = .slice (some ⟨G, 0, none⟩) 1 1) (hc : ∀ j, j < 3 → w.cell? ⟨G, j, none⟩ = (opC u)[j]?)
    (hk : L.length ≤ 1000000000) (hbase : base ≤ w.heap.size)
    (h : ∀ g cap w', OpsAt w' base (.slice (some ⟨g, 0, none⟩) (L.length + 1) cap) (u :: L) → Below base w w' → wpList Try.prog ops Q rest (a.put o.dst (.slice (some ⟨g, 0, none⟩) (L.length + 1) cap)) w') : wpList Try.prog ops Q (o :: rest) a w := by
  obtain ⟨i0, hi, hz0, hz1, hz2⟩ := op_parts
  refine wpList_append_own_at _ hgd s x 73 ho base 76 i0 (.agg #[.int .u8 0, .int .i64 0, .int .i64 0]) 3 24 Try.underlying73 hi hz0 hz1 hz2 rfl (by decide) v L.length (rowOf opC L.reverse) hs hown ⟨G, 0, none⟩ 1 1 (opC u) hx rfl ?_ (opC_one u) (by unfold maxLen; omega) (by omega) hbase ?_
  · intro j y hj
    have hj3 : j < 3 := (List.getElem?_eq_some_iff.1 hj).1
    rw [show (⟨G, 0, none⟩ : Addr).add j = ⟨G, j, none⟩ by simp [Addr.add]; omega, hc j hj3]
    exact hj
  · intro v' w' h2 h3 _ _
    rw [← rowOf_top] at h2
    obtain ⟨g, cap, e, _⟩ := ownsRow_head h2 (by omega)
    subst e
    exact h g cap w' h2 ((Below.refl base _).grown h3 hbase (fun k hk => (World.ownsRow.lt hown k hk).1))
/-- What the document's stack keeps to, inside its own loop and outside. -/
def GoodI (L : List Op3) : Prop := (∀ u ∈ L, u.op < 256 ∧ u.n ≤ 2048 ∧ u.came ≤ u.n) ∧ ∀ u ∈ L.tail, u.came < u.n
def GoodO (L : List Op3) : Prop := ∀ u ∈ L, u.op < 256 ∧ u.n ≤ 2048 ∧ u.came < u.n
theorem GoodO.push {L : List Op3} (h : GoodO L) (op n : Nat) (h1 : op < 256) (h2 : n ≤ 2048) : GoodI (⟨op, 0, n⟩ :: L) := by
  refine ⟨fun u hu => ?_, fun u hu => (h u hu).2.2⟩
  rcases List.mem_cons.1 hu with rfl | hu
  · exact ⟨h1, h2, Nat.zero_le _⟩
  · have := h u hu
    exact ⟨this.1, this.2.1, by omega⟩
theorem GoodI.out_nil : GoodO [] := fun _ h => by cases h
theorem GoodI.out {u : Op3} {r : List Op3} (h : GoodI (u :: r)) (hne : u.came ≠ u.n) : GoodO (u :: r) := by
  intro x hx
  have h1 := h.1 x hx
  rcases List.mem_cons.1 hx with rfl | hx
  · exact ⟨h1.1, h1.2.1, by omega⟩
  · exact ⟨h1.1, h1.2.1, h.2 x hx⟩
theorem GoodI.next {u v : Op3} {r : List Op3} (h : GoodI (u :: v :: r)) : GoodI (⟨v.op, v.came + 1, v.n⟩ :: r) := by
  have hv := h.2 v (by simp)
  have hv2 := h.1 v (by simp)
  refine ⟨fun x hx => ?_, fun x hx => h.2 x (by simp at hx ⊢; exact .inr hx)⟩
  rcases List.mem_cons.1 hx with rfl | hx
  · exact ⟨hv2.1, hv2.2.1, hv⟩
  · exact h.1 x (by simp [hx])
set_option maxRecDepth 20000 in
theorem run_headO (g n m cap : Nat) (h : n ≤ m) (hm : m ≤ cap) (hn : 0 < cap) : ∀ W, (Instr.slice 73 (.slice (some ⟨g, 0, none⟩) m cap) none (some (.int .i64 (n : Int))) none).run Try.prog W = .ok (.slice (some ⟨g, 0, none⟩) n cap) W := by
  intro W
  rw [run_slice_h (P := Try.prog) (w := W) 73 (some ⟨g, 0, none⟩) m cap Try.underlying73 .i64 n (by omega) (by omega)]
  obtain ⟨i0, hi, _, hz1, _⟩ := op_parts
  have he : Try.prog.elem 73 = 76 := by kernel_rfl
  have hs : (sizeOf (Try.prog.elem 73)).run Try.prog W = .ok 3 W := by rw [he]; simp [sizeOf, typeInfo, hi, hz1, Sem.run_bind, Result.andThen]
  rw [hs]
  simp only [Result.andThen, sliced, Int.toNat_natCast]
  rw [if_neg (by omega)]
  simp [Addr.add]
end Go.Proofs.Ytnghfjlmmmjekaa
