/- How an argument that is a list of twigs is opened, with what its texts weigh at most. -/
import Derived.Test.YtngbekhegnmfaaaROpen
namespace Go.Proofs.Ytngbekhegnmfaaa
open Go.RowKit Go.ChangeShapes Go.WideShapes Go.Deep

theorem weightsAll_mem {H : Type} {P : Program} {e : TypeId} {d : DataW H} : ∀ {l : List (DataW H)}, d ∈ l → ∀ n ∈ d.weights P e, n ∈ DataW.weightsAll P e l
  | x :: r, h, n, hn => by
    unfold DataW.weightsAll
    rcases List.mem_cons.1 h with rfl | h
    · exact List.mem_append.2 (.inl hn)
    · exact List.mem_append.2 (.inr (weightsAll_mem h n hn))
/-- A list of twigs, as an argument. -/
def TwsInZ (w : World) (v : Value) : Prop := ∃ ts, TwIn w v ts ∧ (∀ t ∈ ts, FitT t) ∧ (∀ t ∈ ts, t.text.length ≤ 140737488351232) ∧ ∀ len cap, v = .slice none len cap → len = 0 ∧ cap = 0

theorem twsInZ_of_trod {H : Type} {enc : TypeId × Value → H} {P : Program} {W : World} {t e : TypeId} {f0 f1 f2 f3 : Field} {v : Value} {d : DataW H} {ps : List MemPlace}
    (ht : P.underlying t = some (.slice e)) (he : P.underlying e = some (.struct #[f0, f1, f2, f3])) (hone : oneCellFields P #[f0, f1, f2, f3] = true) (hc : P.cellsOf e = 4)
    (h0 : P.underlying f0.type = some (.int .u8)) (h1 : P.underlying f1.type = some (.int .i64)) (h2 : P.underlying f2.type = some (.int .i64)) (h3 : P.underlying f3.type = some .string)
    (hz : ∀ n ∈ d.weights P t, n ≤ reachBytes) (hv : ∃ a len cap, v = .slice a len cap) (h : DataW.Trod enc P W 0 (fun _ => true) true t v d ps) : TwsInZ W v := by
  obtain ⟨a0, len, cap, rfl⟩ := hv
  obtain ⟨fuel, hf⟩ := h
  rcases open_slice_fields ht he hone hc hf with ⟨hcs, _⟩ | ⟨a, len', cap', m, Dt, Pl, hcs, _, hl, hm, hmm, hx, hi⟩
  · simp [Value.cells] at hcs
    obtain ⟨rfl, rfl, rfl⟩ := hcs
    exact ⟨[], ⟨none, 0, rfl, by simp, by omega, fun h => by simp at h⟩, by simp, by simp, fun len cap h => by cases h; exact ⟨rfl, rfl⟩⟩
  · simp [Value.cells] at hcs
    obtain ⟨rfl, rfl, rfl⟩ := hcs
    simp only [if_true] at hmm
    have key : ∀ j, ∃ s : Tw, j < len → (FitT s ∧ s.text.length ≤ 140737488351232) ∧ (W.cell? (a.add (j * 4)) = some (.int .u8 s.op) ∧ W.cell? (a.add (j * 4 + 1)) = some (.int .i64 s.kids) ∧ W.cell? (a.add (j * 4 + 2)) = some (.int .i64 s.num) ∧ W.cell? (a.add (j * 4 + 3)) = some (.string ⟨s.text.toArray⟩)) := by
      intro j
      by_cases hj : j < len
      · obtain ⟨ys, n, hD, _, hyl, hg⟩ := hi j (by omega)
        obtain ⟨v0, y0, c0, _, t0⟩ := hg 0 f0 rfl
        obtain ⟨v1, y1, c1, _, t1⟩ := hg 1 f1 rfl
        obtain ⟨v2, y2, c2, _, t2⟩ := hg 2 f2 rfl
        obtain ⟨v3, y3, c3, k3, t3⟩ := hg 3 f3 rfl
        obtain ⟨n0, e0, _, w0⟩ := DataW.trod_int h0 t0
        obtain ⟨n1, e1, _, w1⟩ := DataW.trod_int h1 t1
        obtain ⟨n2, e2, _, w2⟩ := DataW.trod_int h2 t2
        obtain ⟨s3, e3, x3, w3⟩ := DataW.trod_string h3 t3
        simp only [List.cons.injEq, and_true] at e0 e1 e2 e3
        subst e0; subst e1; subst e2; subst e3
        have hn0 : 0 ≤ n0 := by
          simp only [Lit.wf, Bool.and_eq_true, decide_eq_true_eq] at w0
          exact w0.1
        obtain ⟨k0, rfl⟩ := Int.eq_ofNat_of_zero_le hn0
        refine ⟨⟨k0, n1, n2, s3.data.toList⟩, fun _ => ⟨⟨⟨?_, i64_of_wf' w1, i64_of_wf' w2, ?_⟩, ?_⟩, c0, c1, c2, c3⟩⟩
        · show s3.data.toList.length ≤ _
          rw [Array.length_toList]
          unfold maxLen at w3
          exact w3
        · simp [Lit.wf, IntKind.min, IntKind.max, IntKind.signed, IntKind.bits] at w0
          show k0 < 256
          omega
        · show s3.data.toList.length ≤ _
          have hmem : s3.data.toList.length ∈ d.weights P t := by
            have hx1 : d = _ := congrArg Prod.fst hx
            rw [hx1]
            dsimp only
            unfold DataW.weights
            rw [ht]
            dsimp only
            refine List.mem_cons_of_mem _ (List.mem_append.2 (.inl (weightsAll_mem (d := Dt j) (List.mem_map.2 ⟨j, List.mem_range.2 hj, rfl⟩) _ ?_)))
            rw [hD]
            unfold DataW.weights
            rw [he]
            dsimp only
            refine DataW.weights_mem_each (j := 3) (t := f3.type) rfl (d := y3.1) (by rw [List.getElem?_map, k3]; rfl) _ ?_
            rw [x3]
            simp [DataW.weights]
          have := hz _ hmem
          have h2 : reachBytes = 140737488351232 := rfl
          omega
      · exact ⟨⟨0, 0, 0, []⟩, fun h => absurd h hj⟩
    obtain ⟨f, hf⟩ := Classical.axiomOfChoice key
    have hgl : ((List.range len).map f).length = len := by rw [List.length_map, List.length_range]
    refine ⟨(List.range len).map f, ⟨some a, cap, by rw [hgl], by rw [hgl]; exact hl, hm, ?_⟩, ?_, ?_, fun len cap h => by cases h⟩
    · intro hpos
      rw [hgl] at hpos
      obtain ⟨b, off, spot⟩ := a
      have hspot : spot = none := by simpa [Addr.add] using World.cell?_spot (hf 0 hpos).2.1
      subst hspot
      refine ⟨b, off, rfl, ?_, fun j hj c hc' => ?_⟩
      · have := (hf 0 hpos).2.1
        rw [add_plain] at this
        exact World.block_lt_of_cell? W _ this
      · have hj' : j < len := by simpa using hj
        obtain ⟨g0, g1, g2, g3⟩ := (hf j hj').2
        rw [add_plain] at g0 g1 g2 g3
        rw [List.getElem_map, List.getElem_range]
        match c, hc' with
        | 0, _ => exact g0
        | 1, _ => rw [Nat.add_assoc]; exact g1
        | 2, _ => rw [Nat.add_assoc]; exact g2
        | 3, _ => rw [Nat.add_assoc]; exact g3
    · intro s hs
      obtain ⟨j, hj, rfl⟩ := List.mem_map.1 hs
      exact (hf j (List.mem_range.1 hj)).1.1
    · intro s hs
      obtain ⟨j, hj, rfl⟩ := List.mem_map.1 hs
      exact (hf j (List.mem_range.1 hj)).1.2
end Go.Proofs.Ytngbekhegnmfaaa
