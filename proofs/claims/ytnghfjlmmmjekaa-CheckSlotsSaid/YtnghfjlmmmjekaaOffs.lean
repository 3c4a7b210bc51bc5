/- Rows of offsets of the call's own, cut of RKids. No condition. -/
import Derived.Test.YtnghfjlmmmjekaaRDEnd
import Derived.Test.YtnghfjlmmmjekaaRTws
namespace Go.Proofs.Ytnghfjlmmmjekaa
open Go.RowKit Go.Shelf

theorem in_info : (Try.prog.info? 3).map (fun i => (i.zero, i.size, i.bytes)) = some (some (.int .i64 0), 1, 8) := by kernel_rfl
theorem in_parts : ∃ i0, Try.prog.info? 3 = some i0 ∧ i0.zero = some (.int .i64 0) ∧ i0.size = 1 ∧ i0.bytes = 8 := by
  have h := in_info
  cases hi : Try.prog.info? 3 with
  | none => rw [hi] at h; simp at h
  | some i0 =>
    rw [hi] at h
    simp at h
    exact ⟨i0, rfl, h.1, h.2.1, h.2.2⟩
def natV (n : Nat) : Value := .int .i64 (n : Int)
/-- A row of whole numbers of the call's own. -/
def OffsAt (w : World) (base : Nat) (v : Value) (ns : List Nat) : Prop := w.ownsRow base 3 1 v ns.length (ns.map natV)
theorem OffsAt.below {w W : World} {base : Nat} {v : Value} {ns : List Nat} (h : OffsAt w base v ns) (hb : Below w.heap.size w W) : OffsAt W base v ns := ownsRow_only (F := fun _ => False) h (Only.of_below hb) (fun _ _ h => h)
theorem OffsAt.shape {w : World} {base : Nat} {v : Value} {ns : List Nat} (h : OffsAt w base v ns) : ∃ a cap, v = .slice a ns.length cap ∧ ns.length ≤ cap ∧ cap ≤ 9223372036854775807 := ownsRow_shape h
theorem OffsAt.owned {w : World} {base : Nat} {v : Value} {ns : List Nat} (h : OffsAt w base v ns) (h0 : 0 < ns.length) : ∃ g cap, v = .slice (some ⟨g, 0, none⟩) ns.length cap ∧ base ≤ g ∧ g < w.heap.size ∧ ∀ i (hi : i < ns.length), w.cell? ⟨g, i, none⟩ = some (natV ns[i]) := by
  obtain ⟨g, cap, e, h1, h2, h3, h4, _⟩ := ownsRow_head h h0
  refine ⟨g, cap, e, h1, h2, fun i hi => ?_⟩
  have hh := h
  unfold OffsAt at hh
  rw [e] at hh
  rw [World.ownsRow.cellAt (g := g) (cap := cap) hh i (by omega), List.getElem?_map, List.getElem?_eq_getElem hi]
  rfl
/-- append(l, n): at the operation, behind the row of one. -/
theorem wpList_append_nat {w : World} {base : Nat} {v : Value} {ns : List Nat} {n : Nat} {ops : Array Oper} {rest : List Oper} {o : Oper} {a : Act} {Q : Exit → Act → World → Prop} (hgd : o.guard = none) (s x : Operand)
    (ho : o.op = .call { callee := .builtin .append, args := #[s, x], argTypes := #[28, 28] })
    (hs : a.eval s = v) (hown : OffsAt w base v ns) {G : Nat} (hx : a.eval x = .slice (some ⟨G, 0, none⟩) 1 1) (hc : w.cell? ⟨G, 0, none⟩ = some (natV n))
    (hk : ns.length ≤ 1000000000) (hbase : base ≤ w.heap.size)
    (h : ∀ a' cap w', OffsAt w' base (.slice a' (ns.length + 1) cap) (ns ++ [n]) → Below base w w' → wpList Try.prog ops Q rest (a.put o.dst (.slice a' (ns.length + 1) cap)) w') : wpList Try.prog ops Q (o :: rest) a w := by
  obtain ⟨i0, hi, hz0, hz1, hz2⟩ := in_parts
  refine wpList_append_own_at _ hgd s x 28 ho base 3 i0 (.int .i64 0) 1 8 Try.underlying28 hi hz0 hz1 hz2 rfl (by decide) v ns.length (ns.map natV) hs hown ⟨G, 0, none⟩ 1 1 [natV n] hx rfl ?_ (fun y hy => by simp at hy; subst hy; rfl) (by unfold maxLen; omega) (by omega) hbase ?_
  · intro j y hj
    match j, hj with
    | 0, hj =>
      simp at hj
      subst hj
      simpa [Addr.add] using hc
  · intro v' w' h2 h3 _ _
    have hT : OffsAt w' base v' (ns ++ [n]) := by
      unfold OffsAt
      rw [List.length_append, List.length_singleton, List.map_append]
      exact h2
    obtain ⟨a', cap, e, _⟩ := hT.shape
    rw [List.length_append, List.length_singleton] at e
    subst e
    exact h a' cap w' hT ((Below.refl base _).grown h3 hbase (fun k hk => (World.ownsRow.lt hown k hk).1))
end Go.Proofs.Ytnghfjlmmmjekaa
