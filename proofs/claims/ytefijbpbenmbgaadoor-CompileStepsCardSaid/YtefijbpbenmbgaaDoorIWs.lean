/- Rows of instructions of a call's own, and appending instructions to them (layer 14). No condition. -/
import Derived.Test.YtefijbpbenmbgaaDoorIIn
import Derived.Maps.AppendAt
namespace Go.Proofs.YtefijbpbenmbgaaDoor
open Go.RowKit

theorem insC_len (t : Ins) : (insC t).length = 4 := rfl
theorem insC_one (t : Ins) : ∀ u ∈ insC t, u.oneCell' = true := by
  intro u hu
  simp only [insC, List.mem_cons, List.not_mem_nil, or_false] at hu
  rcases hu with rfl | rfl | rfl | rfl <;> rfl
theorem inss_one : ∀ (ts : List Ins), ∀ u ∈ rowOf insC ts, u.oneCell' = true
  | [], u, h => by cases h
  | x :: r, u, h => by
    rcases List.mem_append.1 (show u ∈ insC x ++ rowOf insC r from h) with h | h
    · exact insC_one x u h
    · exact inss_one r u h
theorem ins_info : (Tryd.prog.info? 36).map (fun i => (i.zero, i.size, i.bytes)) = some (some (.agg #[.int .u8 0, .int .i64 0, .int .i64 0, .string ⟨#[]⟩]), 4, 40) := by kernel_rfl
theorem ins_parts : ∃ i0, Tryd.prog.info? 36 = some i0 ∧ i0.zero = some (.agg #[.int .u8 0, .int .i64 0, .int .i64 0, .string ⟨#[]⟩]) ∧ i0.size = 4 ∧ i0.bytes = 40 := by
  have h := ins_info
  cases hi : Tryd.prog.info? 36 with
  | none => rw [hi] at h; simp at h
  | some i0 =>
    rw [hi] at h
    simp at h
    exact ⟨i0, rfl, h.1, h.2.1, h.2.2⟩
/-- A row of the call's own holds these instructions. -/
def InsAt (w : World) (base : Nat) (v : Value) (ts : List Ins) : Prop := w.ownsRow base 36 4 v ts.length (rowOf insC ts)
section
variable {w W : World} {base : Nat} {v : Value} {ts : List Ins}
theorem InsAt.below (h : InsAt w base v ts) (hb : Below w.heap.size w W) : InsAt W base v ts := ownsRow_only (F := fun _ => False) h (Only.of_below hb) (fun _ _ h => h)
theorem InsAt.shape (h : InsAt w base v ts) : ∃ a cap, v = .slice a ts.length cap ∧ ts.length ≤ cap ∧ cap ≤ 9223372036854775807 := ownsRow_shape h
theorem InsAt.insIn (h : InsAt w base v ts) : InsIn w v ts := by
  rcases h.2 with ⟨hv, h0⟩ | ⟨g, cap, cur, hv, hb, hg, hnc, hcm, hsz, ht⟩
  · exact ⟨none, 0, by rw [hv, h0], by omega, by omega, fun h => by omega⟩
  · refine ⟨_, cap, hv, hnc, by unfold maxLen at hcm; omega, fun h0 => ⟨g, 0, rfl, (Array.getElem?_eq_some_iff.1 hg).1, fun i hi c hc => ?_⟩⟩
    have hh := h
    unfold InsAt at hh
    rw [hv] at hh
    have := World.ownsRow.cellAt (g := g) (cap := cap) hh (i * 4 + c) (by omega)
    rw [Nat.zero_add, this]
    exact rowOf_get insC_len ts i c hi hc
end
set_option maxRecDepth 20000 in
/-- append(l, m...): at the operation; m lies behind an address. -/
theorem wpList_append_inss {w : World} {base : Nat} {v : Value} {ts us : List Ins} {ops : Array Oper} {rest : List Oper} {o : Oper} {a : Act} {Q : Exit → Act → World → Prop} (hgd : o.guard = none) (s x : Operand)
    (ho : o.op = .call { callee := .builtin .append, args := #[s, x], argTypes := #[25, 25] })
    (hs : a.eval s = v) (hown : InsAt w base v ts) {ad : Addr} {c : Nat} (hx : a.eval x = .slice (some ad) us.length c) (hu : InsIn w (.slice (some ad) us.length c) us)
    (hk : ts.length ≤ 1000000000) (hk2 : us.length ≤ 1000000000) (hbase : base ≤ w.heap.size)
    (h : ∀ a' cap w', InsAt w' base (.slice a' (ts.length + us.length) cap) (ts ++ us) → Below base w w' → wpList Tryd.prog ops Q rest (a.put o.dst (.slice a' (ts.length + us.length) cap)) w') : wpList Tryd.prog ops Q (o :: rest) a w := by
  obtain ⟨i0, hi, hz0, hz1, hz2⟩ := ins_parts
  refine wpList_append_own_at _ hgd s x 25 ho base 36 i0 (.agg #[.int .u8 0, .int .i64 0, .int .i64 0, .string ⟨#[]⟩]) 4 40 Tryd.underlying25 hi hz0 hz1 hz2 rfl (by decide) v ts.length (rowOf insC ts) hs hown ad us.length c (rowOf insC us) hx (rowOf_length insC_len us) ?_ (inss_one us) (by unfold maxLen; omega) (by omega) hbase ?_
  · intro j u hj
    obtain ⟨a0, cap, e, _, _, h3⟩ := hu
    have hjl : j < us.length * 4 := by rw [← rowOf_length insC_len us]; exact (List.getElem?_eq_some_iff.1 hj).1
    obtain ⟨g, off, e2, hg, hc⟩ := h3 (by omega)
    rw [e2] at e
    cases e
    have hd : j / 4 < us.length := by omega
    have := hc (j / 4) hd (j % 4) (Nat.mod_lt _ (by decide))
    rw [← rowOf_get insC_len us (j / 4) (j % 4) hd (Nat.mod_lt _ (by decide)), show j / 4 * 4 + j % 4 = j by omega, hj] at this
    rw [← this, show off + j / 4 * 4 + j % 4 = off + j by omega]
    congr 1
    show (⟨g, off, none⟩ : Addr).add j = ⟨g, off + j, none⟩
    simp [Addr.add]
  · intro v' w' h2 h3 _ _
    rw [← rowOf_append] at h2
    have h2' : InsAt w' base v' (ts ++ us) := by
      unfold InsAt
      rw [List.length_append]
      exact h2
    obtain ⟨a', cap, e, _⟩ := h2'.shape
    rw [List.length_append] at e
    subst e
    exact h a' cap w' h2' ((Below.refl base _).grown h3 hbase (fun k hk => (World.ownsRow.lt hown k hk).1))
end Go.Proofs.YtefijbpbenmbgaaDoor
