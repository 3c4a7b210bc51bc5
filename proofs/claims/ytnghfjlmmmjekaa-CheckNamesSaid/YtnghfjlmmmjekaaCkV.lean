/- Rows of the document's variables (layer 11): append. No condition. -/
import Derived.Test.YtnghfjlmmmjekaaCkWk
import Derived.Deep.AppendSrc
namespace Go.Proofs.Ytnghfjlmmmjekaa
open Go.RowKit Go.Shelf

theorem var_info : (Try.prog.info? 56).map (fun i => (i.zero, i.size, i.bytes)) = some (some (.agg #[.string ⟨#[]⟩, .int .i64 0]), 2, 24) := by kernel_rfl
theorem var_parts : ∃ i0, Try.prog.info? 56 = some i0 ∧ i0.zero = some (.agg #[.string ⟨#[]⟩, .int .i64 0]) ∧ i0.size = 2 ∧ i0.bytes = 24 := by
  have h := var_info
  cases hi : Try.prog.info? 56 with
  | none => rw [hi] at h; simp at h
  | some i0 =>
    rw [hi] at h
    simp at h
    exact ⟨i0, rfl, h.1, h.2.1, h.2.2⟩
theorem varC_one (p : List UInt8 × Nat) : ∀ u ∈ varC p, u.oneCell' = true := by
  intro u hu
  simp only [varC, List.mem_cons, List.not_mem_nil, or_false] at hu
  rcases hu with rfl | rfl <;> rfl
theorem vars_one : ∀ (L : List (List UInt8 × Nat)), ∀ u ∈ rowOf varC L, u.oneCell' = true
  | [], u, h => by cases h
  | x :: r, u, h => by
    rcases List.mem_append.1 (show u ∈ varC x ++ rowOf varC r from h) with h | h
    · exact varC_one x u h
    · exact vars_one r u h
theorem vars_new (w : World) : VarsAt (w.alloc (.cells #[] 56)) w.heap.size (.slice (some ⟨w.heap.size, 0, none⟩) 0 0) [] :=
  ⟨rfl, .inr ⟨w.heap.size, 0, #[], rfl, Nat.le_refl _, heap_alloc_new w _, Nat.le_refl _, by unfold maxLen; omega, rfl, rfl⟩⟩
/-- append(l, m...) of rows of variables: at the operation. -/
theorem wpList_append_vars {w : World} {base : Nat} {v : Value} {L us : List (List UInt8 × Nat)} {ops : Array Oper} {rest : List Oper} {o : Oper} {a : Act} {Q : Exit → Act → World → Prop} (hgd : o.guard = none) (s x : Operand)
    (ho : o.op = .call { callee := .builtin .append, args := #[s, x], argTypes := #[54, 54] })
    (hs : a.eval s = v) (hown : VarsAt w base v L) {G : Nat} {c : Nat} (hx : a.eval x = .slice (some ⟨G, 0, none⟩) us.length c) (hu : ∀ j u, (rowOf varC us)[j]? = some u → w.cell? ⟨G, j, none⟩ = some u)
    (hk : L.length ≤ 1000000000) (hk2 : us.length ≤ 1000000000) (hbase : base ≤ w.heap.size)
    (h : ∀ a' cap w', VarsAt w' base (.slice a' (L.length + us.length) cap) (L ++ us) → Only (fun k => v.ownBlock = some k) w w' → wpList Try.prog ops Q rest (a.put o.dst (.slice a' (L.length + us.length) cap)) w') : wpList Try.prog ops Q (o :: rest) a w := by
  obtain ⟨i0, hi, hz0, hz1, hz2⟩ := var_parts
  refine wpList_append_own_at _ hgd s x 54 ho base 56 i0 (.agg #[.string ⟨#[]⟩, .int .i64 0]) 2 24 Try.underlying54 hi hz0 hz1 hz2 rfl (by decide) v L.length (rowOf varC L) hs hown ⟨G, 0, none⟩ us.length c (rowOf varC us) hx (rowOf_length varC_len us) ?_ (vars_one us) (by unfold maxLen; omega) (by omega) hbase ?_
  · intro j u hj
    have := hu j u hj
    by_cases h0 : j = 0
    · subst h0
      simpa [Addr.add] using this
    · simpa [Addr.add, h0] using this
  · intro v' w' h2 h3 _ _
    rw [← rowOf_append] at h2
    have h2' : VarsAt w' base v' (L ++ us) := by
      unfold VarsAt
      rw [List.length_append]
      exact h2
    obtain ⟨a', cap, e, _⟩ := h2'.shape
    rw [List.length_append] at e
    subst e
    exact h a' cap w' h2' (Only.of_grown h3 (fun k hk => hk))
theorem append_noneV (w : World) (ty : TypeId) (b cap : Nat) : (Builtin.append_ #[54, 54] ty #[.slice (some ⟨b, 0, none⟩) 0 0, .slice none 0 cap]).run Try.prog w = .ok (.slice (some ⟨b, 0, none⟩) 0 0) w := by
  obtain ⟨i0, hi, hz0, hz1, hz2⟩ := var_parts
  have h := run_append_room_src (P := Try.prog) w 54 54 ty 56 i0 Try.underlying54 hi b 0 0 0 (.slice none 0 cap) 0 [] (Src.ofNil w Try.underlying54 cap) (Nat.le_refl _) (by simp) (by simp)
  rw [h]
  rfl
theorem keepV {w0 w : World} {gs gl n cl : Nat} {tv : Value} {ts : List Tw} {S : D11} (h : SMem w0 w gs gl n cl tv ts S) : ∀ g, (g = gs ∨ g = gl) → ∀ cur t fr, w.heap[g]? = some (.cells cur t fr) → t ≠ 56 := by
  rintro g (rfl | rfl) cur t fr hc
  · rw [h.s] at hc
    injection hc with hc
    injection hc with _ hc _
    rw [← hc]
    decide
  · obtain ⟨_, _, cur2, h3⟩ := h.l.block (g := g) (by simp [Value.ownBlock])
    rw [h3] at hc
    injection hc with hc
    injection hc with _ hc _
    rw [← hc]
    decide
theorem offs_keep {w W : World} {base : Nat} {v : Value} {ns : List Nat} {F : Nat → Prop} (h : OffsAt w base v ns) (ho : Only F w W) (hF : ∀ k, F k → k < base) : OffsAt W base v ns :=
  ownsRow_only h ho (fun g hg e => by
    rcases h.2 with ⟨hv, _⟩ | ⟨g', cap, cur, hv, hb, hgg, _⟩
    · rw [hv] at hg; cases hg
    · rw [hv] at hg
      have e1 : g = g' := by simpa [Value.ownBlock] using hg.symm
      have := hF g e
      omega)
theorem VarsAt.block {w : World} {base : Nat} {v : Value} {L : List (List UInt8 × Nat)} (h : VarsAt w base v L) {g : Nat} (hg : v.ownBlock = some g) : base ≤ g ∧ g < w.heap.size ∧ ∃ cur, w.heap[g]? = some (.cells cur 56 (0, 0)) := by
  rcases h.2 with ⟨hv, _⟩ | ⟨g', cap, cur, hv, hb, hgg, _⟩
  · rw [hv] at hg; cases hg
  · rw [hv] at hg
    have e1 : g = g' := by simpa [Value.ownBlock] using hg.symm
    subst e1
    exact ⟨hb, (Array.getElem?_eq_some_iff.1 hgg).1, _, hgg⟩
theorem VarsAt.low {w : World} {base b : Nat} {v : Value} {L : List (List UInt8 × Nat)} (h : VarsAt w base v L) (hb : b ≤ base) : VarsAt w b v L := by
  refine ⟨h.1, ?_⟩
  rcases h.2 with h | ⟨g', cap, cur, hv, hbb, hr⟩
  · exact .inl h
  · exact .inr ⟨g', cap, cur, hv, Nat.le_trans hb hbb, hr⟩
theorem SMem.varKeep {w0 w W : World} {gs gl n cl : Nat} {tv : Value} {ts : List Tw} {S : D11} {base : Nat} {v : Value} {L : List (List UInt8 × Nat)} (h : SMem w0 w gs gl n cl tv ts S) (hv : VarsAt w base v L) (hb : w0.heap.size ≤ base) (ho : Only (fun k => v.ownBlock = some k) w W) : SMem w0 W gs gl n cl tv ts S := by
  refine h.keep ho (fun k e => Nat.le_trans hb (hv.block e).1) (fun e => ?_) (fun e => ?_)
  · obtain ⟨_, _, cur, h3⟩ := hv.block e
    exact keepV h gs (.inl rfl) _ _ _ h3 rfl
  · obtain ⟨_, _, cur, h3⟩ := hv.block e
    exact keepV h gl (.inr rfl) _ _ _ h3 rfl
theorem offs_keepT {w W : World} {base b2 : Nat} {v v2 : Value} {ns : List Nat} {L : List (List UInt8 × Nat)} (h : OffsAt w base v ns) (hv : VarsAt w b2 v2 L) (ho : Only (fun k => v2.ownBlock = some k) w W) : OffsAt W base v ns :=
  ownsRow_only h ho (fun g hg e => by
    obtain ⟨_, _, cur2, h3⟩ := hv.block e
    rcases h.2 with ⟨hw, _⟩ | ⟨g', cap, cur, hw, hb, hgg, _⟩
    · rw [hw] at hg; cases hg
    · rw [hw] at hg
      have e1 : g = g' := by simpa [Value.ownBlock] using hg.symm
      subst e1
      rw [h3] at hgg
      injection hgg with hgg
      injection hgg with _ hgg _
      exact absurd hgg (by decide))
end Go.Proofs.Ytnghfjlmmmjekaa
