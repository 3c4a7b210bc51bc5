/- Rows of twigs of a call's own, and appending twigs to them (layer 8). No condition. -/
import Derived.Test.YtefijbpbenmbgaaDoorRPass
import Derived.Maps.AppendAt
namespace Go.Proofs.YtefijbpbenmbgaaDoor
open Go.RowKit Go.Shelf

theorem twC_len (t : Tw) : (twC t).length = 4 := rfl
theorem twC_one (t : Tw) : ∀ u ∈ twC t, u.oneCell' = true := by
  intro u hu
  simp only [twC, List.mem_cons, List.not_mem_nil, or_false] at hu
  rcases hu with rfl | rfl | rfl | rfl <;> rfl
theorem tws_one : ∀ (ts : List Tw), ∀ u ∈ rowOf twC ts, u.oneCell' = true
  | [], u, h => by cases h
  | x :: r, u, h => by
    rcases List.mem_append.1 (show u ∈ twC x ++ rowOf twC r from h) with h | h
    · exact twC_one x u h
    · exact tws_one r u h
theorem tw_info : (Tryd.prog.info? 34).map (fun i => (i.zero, i.size, i.bytes)) = some (some (.agg #[.int .u8 0, .int .i64 0, .int .i64 0, .string ⟨#[]⟩]), 4, 40) := by kernel_rfl
theorem tw_parts : ∃ i0, Tryd.prog.info? 34 = some i0 ∧ i0.zero = some (.agg #[.int .u8 0, .int .i64 0, .int .i64 0, .string ⟨#[]⟩]) ∧ i0.size = 4 ∧ i0.bytes = 40 := by
  have h := tw_info
  cases hi : Tryd.prog.info? 34 with
  | none => rw [hi] at h; simp at h
  | some i0 =>
    rw [hi] at h
    simp at h
    exact ⟨i0, rfl, h.1, h.2.1, h.2.2⟩
/-- A row of the call's own holds these twigs. -/
def TwsAt (w : World) (base : Nat) (v : Value) (ts : List Tw) : Prop := w.ownsRow base 34 4 v ts.length (rowOf twC ts)
section
variable {w W : World} {base : Nat} {v : Value} {ts : List Tw}
theorem TwsAt.below (h : TwsAt w base v ts) (hb : Below w.heap.size w W) : TwsAt W base v ts := ownsRow_only (F := fun _ => False) h (Only.of_below hb) (fun _ _ h => h)
theorem TwsAt.shape (h : TwsAt w base v ts) : ∃ a cap, v = .slice a ts.length cap ∧ ts.length ≤ cap ∧ cap ≤ 9223372036854775807 := ownsRow_shape h
theorem TwsAt.twIn (h : TwsAt w base v ts) : TwIn w v ts := by
  rcases h.2 with ⟨hv, h0⟩ | ⟨g, cap, cur, hv, hb, hg, hnc, hcm, hsz, ht⟩
  · exact ⟨none, 0, by rw [hv, h0], by omega, by omega, fun h => by omega⟩
  · refine ⟨_, cap, hv, hnc, by unfold maxLen at hcm; omega, fun h0 => ⟨g, 0, rfl, (Array.getElem?_eq_some_iff.1 hg).1, fun i hi c hc => ?_⟩⟩
    have hh := h
    unfold TwsAt at hh
    rw [hv] at hh
    have := World.ownsRow.cellAt (g := g) (cap := cap) hh (i * 4 + c) (by omega)
    rw [Nat.zero_add, this]
    exact rowOf_get twC_len ts i c hi hc
end
set_option maxRecDepth 20000 in
/-- append(l, m...): at the operation; m lies behind an address. -/
theorem wpList_append_tws {w : World} {base : Nat} {v : Value} {ts us : List Tw} {ops : Array Oper} {rest : List Oper} {o : Oper} {a : Act} {Q : Exit → Act → World → Prop} (hgd : o.guard = none) (s x : Operand)
    (ho : o.op = .call { callee := .builtin .append, args := #[s, x], argTypes := #[23, 23] })
    (hs : a.eval s = v) (hown : TwsAt w base v ts) {ad : Addr} {c : Nat} (hx : a.eval x = .slice (some ad) us.length c) (hu : TwIn w (.slice (some ad) us.length c) us)
    (hk : ts.length ≤ 1000000000) (hk2 : us.length ≤ 1000000000) (hbase : base ≤ w.heap.size)
    (h : ∀ a' cap w', TwsAt w' base (.slice a' (ts.length + us.length) cap) (ts ++ us) → Below base w w' → wpList Tryd.prog ops Q rest (a.put o.dst (.slice a' (ts.length + us.length) cap)) w') : wpList Tryd.prog ops Q (o :: rest) a w := by
  obtain ⟨i0, hi, hz0, hz1, hz2⟩ := tw_parts
  refine wpList_append_own_at _ hgd s x 23 ho base 34 i0 (.agg #[.int .u8 0, .int .i64 0, .int .i64 0, .string ⟨#[]⟩]) 4 40 Tryd.underlying23 hi hz0 hz1 hz2 rfl (by decide) v ts.length (rowOf twC ts) hs hown ad us.length c (rowOf twC us) hx (rowOf_length twC_len us) ?_ (tws_one us) (by unfold maxLen; omega) (by omega) hbase ?_
  · intro j u hj
    obtain ⟨a0, cap, e, _, _, h3⟩ := hu
    have hjl : j < us.length * 4 := by rw [← rowOf_length twC_len us]; exact (List.getElem?_eq_some_iff.1 hj).1
    obtain ⟨g, off, e2, hg, hc⟩ := h3 (by omega)
    rw [e2] at e
    cases e
    have hd : j / 4 < us.length := by omega
    have := hc (j / 4) hd (j % 4) (Nat.mod_lt _ (by decide))
    rw [← rowOf_get twC_len us (j / 4) (j % 4) hd (Nat.mod_lt _ (by decide)), show j / 4 * 4 + j % 4 = j by omega, hj] at this
    rw [← this, show off + j / 4 * 4 + j % 4 = off + j by omega]
    congr 1
    show (⟨g, off, none⟩ : Addr).add j = ⟨g, off + j, none⟩
    simp [Addr.add]
  · intro v' w' h2 h3 _ _
    rw [← rowOf_append] at h2
    have h2' : TwsAt w' base v' (ts ++ us) := by
      unfold TwsAt
      rw [List.length_append]
      exact h2
    obtain ⟨a', cap, e, _⟩ := h2'.shape
    rw [List.length_append] at e
    subst e
    exact h a' cap w' h2' ((Below.refl base _).grown h3 hbase (fun k hk => (World.ownsRow.lt hown k hk).1))
end Go.Proofs.YtefijbpbenmbgaaDoor
