/- How an argument that is a list of lists of twigs, and one that is a twig, is opened; and that each list is within reach (layer 8). -/
import Derived.Test.YthgkkdhalcpgbaaROpen
import Derived.Test.YthgkkdhalcpgbaaRTrs
import Derived.Lib.SmallJoins
namespace Go.Proofs.Ythgkkdhalcpgbaa
open Go.RowKit Go.ChangeShapes Go.WideShapes Go.Deep

theorem weightsAll_mem {H : Type} {P : Program} {e : TypeId} : ∀ {l : List (DataW H)} {d : DataW H} {n : Nat}, d ∈ l → n ∈ d.weights P e → n ∈ DataW.weightsAll P e l
  | x :: r, d, n, h, hn => by
    unfold DataW.weightsAll
    rcases List.mem_cons.1 h with rfl | h
    · exact List.mem_append_left _ hn
    · exact List.mem_append_right _ (weightsAll_mem h hn)
theorem tree_len {H : Type} {enc : TypeId × Value → H} {P : Program} {W : World} {t e : TypeId} {u : Value} {fuel : Nat} {x : DataW H × List MemPlace} {R : Nat}
    (ht : P.underlying t = some (.slice e)) (h : DataW.trod enc P W 0 (fun _ => true) true fuel t [u] = some x) (hw : ∀ n ∈ DataW.weights P t x.1, n ≤ R) : ∃ a len cap, u = .slice a len cap ∧ len * P.bytesOf e ≤ R := by
  rcases open_slice ht h with ⟨h0, _⟩ | ⟨a, len, cap, m, n, D, Pl, hcs, _, hl, hm, hmm, hx, _⟩
  · exact ⟨_, _, _, List.head_eq_of_cons_eq h0, by omega⟩
  · refine ⟨_, _, _, List.head_eq_of_cons_eq hcs, ?_⟩
    rw [hx] at hw
    have := hw _ (by simp only [DataW.weights, ht]; exact List.mem_cons_self)
    refine Nat.le_trans (Nat.mul_le_mul_right _ ?_) this
    simp
/-- A list of lists of twigs, as an argument. -/
def TrsV (w : World) (v : Value) : Prop := ∃ ps, TrsIn w v ps ∧ (∀ p ∈ ps, ∀ y ∈ p, FitT y) ∧ ∀ p ∈ ps, p.length ≤ 4000000000000

theorem trsV_of_trod {H : Type} {enc : TypeId × Value → H} {P : Program} {W : World} {t e b : TypeId} {f0 f1 f2 f3 : Field} {v : Value} {d : DataW H} {ps : List MemPlace}
    (ht : P.underlying t = some (.slice e)) (he : P.underlying e = some (.slice b)) (hb : P.underlying b = some (.struct #[f0, f1, f2, f3])) (hone : oneCellFields P #[f0, f1, f2, f3] = true) (hce : P.cellsOf e = 1) (hcb : P.cellsOf b = 4) (hby : P.bytesOf b = 40)
    (h0 : P.underlying f0.type = some (.int .u8)) (h1 : P.underlying f1.type = some (.int .i64)) (h2 : P.underlying f2.type = some (.int .i64)) (h3 : P.underlying f3.type = some .string)
    (hw : ∀ n ∈ DataW.weights P t d, n ≤ reachBytes)
    (hv : ∃ a len cap, v = .slice a len cap) (h : DataW.Trod enc P W 0 (fun _ => true) true t v d ps) : TrsV W v := by
  obtain ⟨a0, len, cap, rfl⟩ := hv
  obtain ⟨fuel, hf⟩ := h
  rcases open_slice ht hf with ⟨hcs, _⟩ | ⟨a, len', cap', m, n, D, Pl, hcs, _, hl, hm, hmm, hx, hi⟩
  · simp [Value.cells] at hcs
    obtain ⟨rfl, rfl, rfl⟩ := hcs
    exact ⟨[], ⟨none, 0, rfl, by simp, by omega, fun h => by simp at h⟩, by simp, by simp⟩
  · simp [Value.cells] at hcs
    obtain ⟨rfl, rfl, rfl⟩ := hcs
    simp only [if_true] at hmm
    have hd : d = .slice ((List.range len).map D) ((List.range (m - len)).map fun j => D (len + j)) := by
      have := congrArg Prod.fst hx
      exact this
    have key : ∀ i, ∃ s : Value × List Tw, i < len → W.cell? (a.add i) = some s.1 ∧ TwIn W s.1 s.2 ∧ (∀ y ∈ s.2, FitT y) ∧ s.2.length ≤ 4000000000000 := by
      intro i
      by_cases hil : i < len
      · obtain ⟨cs', hcl, htr⟩ := hi i (by omega)
        rw [hce, Nat.mul_one] at hcl
        obtain ⟨_, hlen, hat⟩ := World.cells?_some hcl
        obtain ⟨u, rfl⟩ := List.length_eq_one_iff.1 (by omega : cs'.length = 1)
        have hat0 := hat 0 (by omega)
        obtain ⟨ua, ul, uc, hu, hle⟩ := tree_len (R := reachBytes) he htr (by
          intro z hz
          refine hw z ?_
          rw [hd]
          simp only [DataW.weights, ht]
          refine List.mem_cons_of_mem _ (List.mem_append_left _ (weightsAll_mem (List.mem_map_of_mem (List.mem_range.2 hil)) hz)))
        subst hu
        obtain ⟨ts, hT, hF, _⟩ := twsIn_of_trod (enc := enc) (v := .slice ua ul uc) he hb hone hcb h0 h1 h2 h3 ⟨_, _, _, rfl⟩ ⟨n, by simpa [Value.cells] using htr⟩
        have hlt : ts.length = ul := by
          obtain ⟨_, _, e1, _⟩ := hT
          injection e1 with _ e1 _
          exact e1.symm
        refine ⟨(.slice ua ul uc, ts), fun _ => ⟨by simpa [Addr.add] using hat0, hT, hF, ?_⟩⟩
        rw [hby] at hle
        have : reachBytes = 140737488351232 := rfl
        show ts.length ≤ _
        omega
      · exact ⟨(.bool true, []), fun h => absurd h hil⟩
    obtain ⟨f, hf'⟩ := Classical.axiomOfChoice key
    have hgl : ((List.range len).map fun i => (f i).2).length = len := by rw [List.length_map, List.length_range]
    refine ⟨(List.range len).map fun i => (f i).2, ⟨some a, cap, by rw [hgl], by rw [hgl]; exact hl, hm, ?_⟩, ?_, ?_⟩
    · rw [hgl]
      intro h0
      obtain ⟨b', off, spot⟩ := a
      have hspot : spot = none := by simpa [Addr.add] using World.cell?_spot (hf' 0 h0).1
      subst hspot
      refine ⟨b', off, rfl, ?_, fun i hil => ?_⟩
      · have := (hf' 0 h0).1
        rw [add_plain] at this
        exact World.block_lt_of_cell? W _ this
      · have h1 := hf' i hil
        rw [add_plain] at h1
        refine ⟨_, h1.1, ?_⟩
        have e : ((List.range len).map fun i => (f i).2).getD i [] = (f i).2 := by
          rw [List.getD_eq_getElem?_getD, List.getElem?_map, List.getElem?_range hil]
          rfl
        rw [e]
        exact h1.2.1
    · intro p hp
      obtain ⟨i, hil, rfl⟩ := List.mem_map.1 hp
      exact (hf' i (List.mem_range.1 hil)).2.2.1
    · intro p hp
      obtain ⟨i, hil, rfl⟩ := List.mem_map.1 hp
      exact (hf' i (List.mem_range.1 hil)).2.2.2
/-- A twig, as an argument. -/
theorem twig_of_trod {H : Type} {enc : TypeId × Value → H} {P : Program} {W : World} {t : TypeId} {f0 f1 f2 f3 : Field} {v : Value} {d : DataW H} {ps : List MemPlace} {b0 : Nat} {r : Reach}
    (ht : P.underlying t = some (.struct #[f0, f1, f2, f3])) (hone : oneCellFields P #[f0, f1, f2, f3] = true) (hc : P.cellsOf t = 4)
    (h0 : P.underlying f0.type = some (.int .u8)) (h1 : P.underlying f1.type = some (.int .i64)) (h2 : P.underlying f2.type = some (.int .i64)) (h3 : P.underlying f3.type = some .string)
    (hv : Value.okWide P W r b0 t v) (h : DataW.Trod enc P W 0 (fun _ => true) true t v d ps) : ∃ x : Tw, v = twV x ∧ FitT x := by
  obtain ⟨v0, v1, v2, v3, y0, y1, y2, y3, n, rfl, _, _, t0, t1, t2, t3⟩ := Joins.open_agg4 ht hone hc hv h
  obtain ⟨n0, e0, _, w0⟩ := DataW.trod_int h0 t0
  obtain ⟨n1, e1, _, w1⟩ := DataW.trod_int h1 t1
  obtain ⟨n2, e2, _, w2⟩ := DataW.trod_int h2 t2
  obtain ⟨s3, e3, _, w3⟩ := DataW.trod_string h3 t3
  simp only [List.cons.injEq, and_true] at e0 e1 e2 e3
  subst e0; subst e1; subst e2; subst e3
  have hn0 : 0 ≤ n0 := by
    simp only [Lit.wf, Bool.and_eq_true, decide_eq_true_eq] at w0
    exact w0.1
  obtain ⟨k0, rfl⟩ := Int.eq_ofNat_of_zero_le hn0
  refine ⟨⟨k0, n1, n2, s3.data.toList⟩, by simp [twV], ?_, i64_of_wf' w1, i64_of_wf' w2, ?_⟩
  · show s3.data.toList.length ≤ _
    rw [Array.length_toList]
    unfold maxLen at w3
    exact w3
  · simp [Lit.wf, IntKind.min, IntKind.max, IntKind.signed, IntKind.bits] at w0
    show k0 < 256
    omega
end Go.Proofs.Ythgkkdhalcpgbaa
