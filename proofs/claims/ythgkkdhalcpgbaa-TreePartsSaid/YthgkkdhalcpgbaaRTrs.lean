/- Rows of trees of a call's own, and lists of lists of twigs; appending a tree (layer 8). No condition. -/
import Derived.Test.YthgkkdhalcpgbaaRCopy
namespace Go.Proofs.Ythgkkdhalcpgbaa
open Go.RowKit Go.Shelf

theorem tr_info : (Try.prog.info? 23).map (fun i => (i.zero, i.size, i.bytes)) = some (some (.slice none 0 0), 1, 24) := by kernel_rfl
theorem tr_parts : ∃ i0, Try.prog.info? 23 = some i0 ∧ i0.zero = some (.slice none 0 0) ∧ i0.size = 1 ∧ i0.bytes = 24 := by
  have h := tr_info
  cases hi : Try.prog.info? 23 with
  | none => rw [hi] at h; simp at h
  | some i0 =>
    rw [hi] at h
    simp at h
    exact ⟨i0, rfl, h.1, h.2.1, h.2.2⟩
/-- A row of the call's own, of rows of twigs of the call's own. -/
def Trs (w : World) (base : Nat) (v : Value) (ps : List (List Tw)) : Prop :=
  ∃ vs : List Value, vs.length = ps.length ∧ w.ownsRow base 23 1 v ps.length vs ∧ ∀ i, i < ps.length → ∃ u, vs[i]? = some u ∧ TwsAt w base u (ps.getD i [])
/-- Lists of twigs lie in memory as v. -/
def TrsIn (w : World) (v : Value) (ps : List (List Tw)) : Prop :=
  ∃ a cap, v = .slice a ps.length cap ∧ ps.length ≤ cap ∧ cap ≤ 9223372036854775807 ∧ (0 < ps.length → ∃ g off, a = some ⟨g, off, none⟩ ∧ g < w.heap.size ∧ ∀ i, i < ps.length → ∃ u, w.cell? ⟨g, off + i, none⟩ = some u ∧ TwIn w u (ps.getD i []))
theorem own_type {w : World} {base : Nat} {e : TypeId} {k n : Nat} {v : Value} {xs : List Value} (h : w.ownsRow base e k v n xs) {g : Nat} (hg : v.ownBlock = some g) : base ≤ g ∧ ∃ cur fr, w.heap[g]? = some (.cells cur e fr) := by
  rcases h.2 with ⟨hv, _⟩ | ⟨g', cap, cur, hv, hb, hgg, _⟩
  · rw [hv] at hg; cases hg
  · rw [hv] at hg
    have e1 : g = g' := by simpa [Value.ownBlock] using hg.symm
    subst e1
    exact ⟨hb, _, _, hgg⟩
theorem own_apart {w : World} {b1 b2 : Nat} {e1 e2 : TypeId} {k1 k2 n1 n2 : Nat} {v1 v2 : Value} {xs1 xs2 : List Value} (h1 : w.ownsRow b1 e1 k1 v1 n1 xs1) (h2 : w.ownsRow b2 e2 k2 v2 n2 xs2) (he : e1 ≠ e2) : ∀ g, v1.ownBlock = some g → ¬ v2.ownBlock = some g := by
  intro g hg hg2
  obtain ⟨_, c1, f1, x1⟩ := own_type h1 hg
  obtain ⟨_, c2, f2, x2⟩ := own_type h2 hg2
  rw [x1] at x2
  injection x2 with x2
  injection x2 with _ x2 _
  exact he x2
section
variable {w W : World} {base : Nat} {v : Value} {ps : List (List Tw)}
theorem Trs.below (h : Trs w base v ps) (hb : Below w.heap.size w W) : Trs W base v ps := by
  obtain ⟨vs, h1, h2, h3⟩ := h
  refine ⟨vs, h1, ownsRow_only (F := fun _ => False) h2 (Only.of_below hb) (fun _ _ h => h), fun i hi => ?_⟩
  obtain ⟨u, hu, hB⟩ := h3 i hi
  exact ⟨u, hu, hB.below hb⟩
theorem TrsIn.below (h : TrsIn w v ps) (hb : Below w.heap.size w W) : TrsIn W v ps := by
  obtain ⟨a, cap, rfl, h1, h2, h3⟩ := h
  refine ⟨a, cap, rfl, h1, h2, fun h0 => ?_⟩
  obtain ⟨g, off, rfl, hg, hc⟩ := h3 h0
  refine ⟨g, off, rfl, Nat.lt_of_lt_of_le hg hb.size, fun i hi => ?_⟩
  obtain ⟨u, hu, hT⟩ := hc i hi
  exact ⟨u, (hb.cell (p := ⟨g, off + i, none⟩) hg).trans hu, hT.below hb⟩
theorem Trs.shape (h : Trs w base v ps) : ∃ a cap, v = .slice a ps.length cap ∧ ps.length ≤ cap ∧ cap ≤ 9223372036854775807 := by
  obtain ⟨vs, h1, h2, h3⟩ := h
  exact ownsRow_shape h2
theorem Trs.trsIn (h : Trs w base v ps) : TrsIn w v ps := by
  obtain ⟨vs, h1, h2, h3⟩ := h
  rcases h2.2 with ⟨hv, h0⟩ | ⟨g, cap, cur, hv, hb, hg, hnc, hcm, hsz, ht⟩
  · exact ⟨none, 0, by rw [hv, h0], by omega, by omega, fun h => by omega⟩
  · refine ⟨_, cap, hv, hnc, by unfold maxLen at hcm; omega, fun h0 => ⟨g, 0, rfl, (Array.getElem?_eq_some_iff.1 hg).1, fun i hi => ?_⟩⟩
    obtain ⟨u, hu, hB⟩ := h3 i hi
    refine ⟨u, ?_, hB.twIn⟩
    have hh := h2
    rw [hv] at hh
    have := World.ownsRow.cellAt (g := g) (cap := cap) hh i (by omega)
    rw [Nat.zero_add, this]
    exact hu
theorem Trs.nil_made {W' : World} {g cap : Nat} (h : W'.ownsRow base 23 1 (.slice (some ⟨g, 0, none⟩) 0 cap) 0 []) : Trs W' base (.slice (some ⟨g, 0, none⟩) 0 cap) [] := ⟨[], rfl, h, fun i hi => by simp at hi⟩
end
/-- append(l, t): at the operation, behind the row of one. -/
theorem wpList_append_tr {w : World} {base : Nat} {v u : Value} {ps : List (List Tw)} {q : List Tw} {ops : Array Oper} {rest : List Oper} {o : Oper} {a : Act} {Q : Exit → Act → World → Prop} (hgd : o.guard = none) (s x : Operand)
    (ho : o.op = .call { callee := .builtin .append, args := #[s, x], argTypes := #[26, 26] })
    (hs : a.eval s = v) (hown : Trs w base v ps) {G : Nat} (hx : a.eval x = .slice (some ⟨G, 0, none⟩) 1 1) (hc : w.cell? ⟨G, 0, none⟩ = some u) (hu : TwsAt w base u q)
    (hk : ps.length ≤ 1000000000) (hbase : base ≤ w.heap.size)
    (h : ∀ a' cap w', Trs w' base (.slice a' (ps.length + 1) cap) (ps ++ [q]) → Below base w w' → Only (fun k => v.ownBlock = some k) w w' → wpList Try.prog ops Q rest (a.put o.dst (.slice a' (ps.length + 1) cap)) w') : wpList Try.prog ops Q (o :: rest) a w := by
  obtain ⟨i0, hi, hz0, hz1, hz2⟩ := tr_parts
  obtain ⟨vs, g1, g2, g3⟩ := hown
  obtain ⟨ua, ucap, hus, _⟩ := hu.shape
  refine wpList_append_own_at _ hgd s x 26 ho base 23 i0 (.slice none 0 0) 1 24 Try.underlying26 hi hz0 hz1 hz2 rfl (by decide) v ps.length vs hs g2 ⟨G, 0, none⟩ 1 1 [u] hx rfl ?_ (fun y hy => by simp at hy; subst hy; rw [hus]; rfl) (by unfold maxLen; omega) (by omega) hbase ?_
  · intro j y hj
    match j, hj with
    | 0, hj =>
      simp at hj
      subst hj
      simpa [Addr.add] using hc
  · intro v' w' h2 h3 _ _
    have hO : Only (fun k => v.ownBlock = some k) w w' := Only.of_grown h3 (fun k hk => hk)
    have hlen : vs.length = ps.length := g1
    have hT : Trs w' base v' (ps ++ [q]) := by
      refine ⟨vs ++ [u], by simp [g1], by rw [List.length_append]; exact h2, fun i hi => ?_⟩
      rw [List.length_append, List.length_singleton] at hi
      rcases Nat.lt_or_ge i ps.length with hlt | hge
      · obtain ⟨y, hy, hB⟩ := g3 i hlt
        refine ⟨y, by rw [List.getElem?_append_left (by omega)]; exact hy, ?_⟩
        have e : (ps ++ [q]).getD i [] = ps.getD i [] := by rw [List.getD_eq_getElem?_getD, List.getD_eq_getElem?_getD, List.getElem?_append_left hlt]
        rw [e]
        exact ownsRow_only hB hO (own_apart hB g2 (by decide))
      · obtain rfl : i = ps.length := by omega
        refine ⟨u, by rw [← g1, List.getElem?_append_right (Nat.le_refl _)]; simp, ?_⟩
        have e : (ps ++ [q]).getD ps.length [] = q := by rw [List.getD_eq_getElem?_getD, List.getElem?_append_right (Nat.le_refl _)]; simp
        rw [e]
        exact ownsRow_only hu hO (own_apart hu g2 (by decide))
    obtain ⟨a', cap, e, _⟩ := hT.shape
    rw [List.length_append, List.length_singleton] at e
    subst e
    exact h a' cap w' hT ((Below.refl base _).grown h3 hbase (fun k hk => (World.ownsRow.lt g2 k hk).1)) hO
section
variable {w : World} {g off cap : Nat} {p q : List Tw}
theorem TwIn.head (h : TwIn w (.slice (some ⟨g, off, none⟩) (p ++ q).length cap) (p ++ q)) {n : Nat} (hn : n = p.length) : TwIn w (.slice (some ⟨g, off, none⟩) n cap) p := by
  subst hn
  obtain ⟨a, c, e, h1, h2, h3⟩ := h
  cases e
  refine ⟨_, cap, rfl, by rw [List.length_append] at h1; omega, h2, fun h0 => ?_⟩
  obtain ⟨g', off', e, hg, hc⟩ := h3 (by rw [List.length_append]; omega)
  cases e
  refine ⟨g, off, rfl, hg, fun i hi c hc' => ?_⟩
  rw [hc i (by rw [List.length_append]; omega) c hc', List.getElem_append_left hi]
theorem TwIn.tail (h : TwIn w (.slice (some ⟨g, off, none⟩) (p ++ q).length cap) (p ++ q)) {m c2 o2 : Nat} {a2 : Option Addr} (hm : m = q.length) (hc2 : c2 = cap - p.length) (ho2 : o2 = off + p.length * 4) (ha : m = 0 ∨ a2 = some ⟨g, o2, none⟩) : TwIn w (.slice a2 m c2) q := by
  subst hm hc2 ho2
  obtain ⟨a, c, e, h1, h2, h3⟩ := h
  cases e
  rw [List.length_append] at h1
  refine ⟨_, _, rfl, by omega, by omega, fun h0 => ?_⟩
  obtain ⟨g', off', e, hg, hc⟩ := h3 (by rw [List.length_append]; omega)
  cases e
  rcases ha with ha | ha
  · omega
  · refine ⟨g, off + p.length * 4, ha, hg, fun i hi c hc' => ?_⟩
    have := hc (p.length + i) (by rw [List.length_append]; omega) c hc'
    rw [List.getElem_append_right (by omega)] at this
    rw [show off + p.length * 4 + i * 4 + c = off + (p.length + i) * 4 + c by rw [Nat.add_mul]; omega, this]
    congr 2
    congr 1
    omega
end
end Go.Proofs.Ythgkkdhalcpgbaa
