/- How an argument that is a list of twigs is opened. -/
import Derived.Test.YtefijbpbenmbgaaDoorRTws
import Derived.Deep.Slices
import Derived.Deep.Fields
import Derived.ChangeSame
import Derived.ProofKit
import Derived.OpenShut
import Derived.SizedLaws
import Derived.Carry
namespace Go.Proofs.YtefijbpbenmbgaaDoor
open Go.RowKit Go.ChangeShapes Go.WideShapes Go.Deep

section
variable {H : Type} {enc : TypeId × Value → H} {P : Program} {w : World} {base : Nat} {spare : Nat → Bool} {held : Bool}
theorem open_slice_fields {t e : TypeId} {fs : Array Field} {fuel : Nat} {cs : List Value} {x : DataW H × List MemPlace} (ht : P.underlying t = some (.slice e)) (he : P.underlying e = some (.struct fs))
    (hone : oneCellFields P fs = true) (hC : P.cellsOf e = fs.size) (h : DataW.trod enc P w base spare held fuel t cs = some x) :
    (cs = [.slice none 0 0] ∧ x = (.nil, [])) ∨
    ∃ (a : Addr) (len cap m : Nat) (D : Nat → DataW H) (Pl : Nat → List MemPlace), cs = [.slice (some a) len cap] ∧ base ≤ a.block ∧ len ≤ cap ∧ cap ≤ maxLen ∧ m = (if spare a.block then cap else len) ∧
      x = (.slice ((List.range len).map D) ((List.range (m - len)).map fun j => D (len + j)), MemPlace.row a (m * fs.size) ++ (List.range m).flatMap Pl) ∧
      ∀ i, i < m → ∃ (ys : List (DataW H × List MemPlace)) (n : Nat), D i = .agg (ys.map (·.1)) ∧ Pl i = ys.flatMap (·.2) ∧ ys.length = fs.size ∧
        ∀ (j : Nat) (f : Field), fs[j]? = some f → ∃ (v : Value) (y : DataW H × List MemPlace), w.cell? (a.add (i * fs.size + j)) = some v ∧ ys[j]? = some y ∧ DataW.trod enc P w base spare held n f.type [v] = some y := by
  rcases open_slice ht h with h0 | ⟨a, len, cap, m, n, D, Pl, hcs, hb, hl, hm, hmm, hx, hi⟩
  · exact .inl h0
  · refine .inr ⟨a, len, cap, m, D, Pl, hcs, hb, hl, hm, hmm, by rw [hC] at hx; exact hx, fun i him => ?_⟩
    obtain ⟨cs', hc, ht'⟩ := hi i him
    rw [hC] at hc
    obtain ⟨ys, n', hn', hy, hlen, hyl, hf⟩ := DataW.trod_struct he ht'
    obtain ⟨_, hcl, hat⟩ := World.cells?_some hc
    simp only [Prod.mk.injEq] at hy
    refine ⟨ys, n', hy.1, hy.2, hyl, fun j f hj => ?_⟩
    obtain ⟨ho, hk⟩ := hone_of hone j f hj
    have hjl : j < fs.size := (Array.getElem?_eq_some_iff.1 hj).1
    have hcell := hat j hjl
    have hv : cs'[j]? = some (cs'[j]'(by omega)) := List.getElem?_eq_getElem (by omega)
    have h1 := hf j f hj
    rw [ho, hk] at h1
    have hone' : (cs'.drop j).take 1 = [cs'[j]'(by omega)] := by
      rw [List.drop_eq_getElem_cons (by omega)]
      rfl
    rw [hone'] at h1
    have hys : ys[j]? = some (ys[j]'(by omega)) := List.getElem?_eq_getElem (by omega)
    refine ⟨_, _, ?_, hys, h1.trans hys⟩
    rw [← Go.Deep.add_add, hcell, hv]
end

theorem i64_of_wf' {a : Int} (h : (Lit.int .i64 a).wf = true) : I64 a := by
  simp [Lit.wf, IntKind.min, IntKind.max, IntKind.signed, IntKind.bits] at h
  exact ⟨by omega, by omega⟩
/-- A list of twigs, as an argument. -/
def TwsIn (w : World) (v : Value) : Prop := ∃ ts, TwIn w v ts ∧ (∀ t ∈ ts, FitT t) ∧ ∀ len cap, v = .slice none len cap → len = 0 ∧ cap = 0

theorem twsIn_of_trod {H : Type} {enc : TypeId × Value → H} {P : Program} {W : World} {t e : TypeId} {f0 f1 f2 f3 : Field} {v : Value} {d : DataW H} {ps : List MemPlace}
    (ht : P.underlying t = some (.slice e)) (he : P.underlying e = some (.struct #[f0, f1, f2, f3])) (hone : oneCellFields P #[f0, f1, f2, f3] = true) (hc : P.cellsOf e = 4)
    (h0 : P.underlying f0.type = some (.int .u8)) (h1 : P.underlying f1.type = some (.int .i64)) (h2 : P.underlying f2.type = some (.int .i64)) (h3 : P.underlying f3.type = some .string)
    (hv : ∃ a len cap, v = .slice a len cap) (h : DataW.Trod enc P W 0 (fun _ => true) true t v d ps) : TwsIn W v := by
  obtain ⟨a0, len, cap, rfl⟩ := hv
  obtain ⟨fuel, hf⟩ := h
  rcases open_slice_fields ht he hone hc hf with ⟨hcs, _⟩ | ⟨a, len', cap', m, Dt, Pl, hcs, _, hl, hm, hmm, _, hi⟩
  · simp [Value.cells] at hcs
    obtain ⟨rfl, rfl, rfl⟩ := hcs
    exact ⟨[], ⟨none, 0, rfl, by simp, by omega, fun h => by simp at h⟩, by simp, fun len cap h => by cases h; exact ⟨rfl, rfl⟩⟩
  · simp [Value.cells] at hcs
    obtain ⟨rfl, rfl, rfl⟩ := hcs
    simp only [if_true] at hmm
    have key : ∀ j, ∃ s : Tw, j < len → FitT s ∧ (W.cell? (a.add (j * 4)) = some (.int .u8 s.op) ∧ W.cell? (a.add (j * 4 + 1)) = some (.int .i64 s.kids) ∧ W.cell? (a.add (j * 4 + 2)) = some (.int .i64 s.num) ∧ W.cell? (a.add (j * 4 + 3)) = some (.string ⟨s.text.toArray⟩)) := by
      intro j
      by_cases hj : j < len
      · obtain ⟨ys, n, _, _, hyl, hg⟩ := hi j (by omega)
        obtain ⟨v0, y0, c0, _, t0⟩ := hg 0 f0 rfl
        obtain ⟨v1, y1, c1, _, t1⟩ := hg 1 f1 rfl
        obtain ⟨v2, y2, c2, _, t2⟩ := hg 2 f2 rfl
        obtain ⟨v3, y3, c3, _, t3⟩ := hg 3 f3 rfl
        obtain ⟨n0, e0, _, w0⟩ := DataW.trod_int h0 t0
        obtain ⟨n1, e1, _, w1⟩ := DataW.trod_int h1 t1
        obtain ⟨n2, e2, _, w2⟩ := DataW.trod_int h2 t2
        obtain ⟨s3, e3, _, w3⟩ := DataW.trod_string h3 t3
        simp only [List.cons.injEq, and_true] at e0 e1 e2 e3
        subst e0; subst e1; subst e2; subst e3
        have hn0 : 0 ≤ n0 := by
          simp only [Lit.wf, Bool.and_eq_true, decide_eq_true_eq] at w0
          exact w0.1
        obtain ⟨k0, rfl⟩ := Int.eq_ofNat_of_zero_le hn0
        refine ⟨⟨k0, n1, n2, s3.data.toList⟩, fun _ => ⟨⟨?_, i64_of_wf' w1, i64_of_wf' w2, ?_⟩, c0, c1, c2, c3⟩⟩
        · show s3.data.toList.length ≤ _
          rw [Array.length_toList]
          unfold maxLen at w3
          exact w3
        · simp [Lit.wf, IntKind.min, IntKind.max, IntKind.signed, IntKind.bits] at w0
          show k0 < 256
          omega
      · exact ⟨⟨0, 0, 0, []⟩, fun h => absurd h hj⟩
    obtain ⟨f, hf⟩ := Classical.axiomOfChoice key
    have hgl : ((List.range len).map f).length = len := by rw [List.length_map, List.length_range]
    refine ⟨(List.range len).map f, ⟨some a, cap, by rw [hgl], by rw [hgl]; exact hl, hm, ?_⟩, ?_, fun len cap h => by cases h⟩
    · intro hpos
      rw [hgl] at hpos
      obtain ⟨b, off, spot⟩ := a
      have hspot : spot = none := by simpa [Addr.add] using World.cell?_spot (hf 0 hpos).2.1
      subst hspot
      refine ⟨b, off, rfl, ?_, fun j hj c hc' => ?_⟩
      · have := (hf 0 hpos).2.1
        rw [add_plain] at this
        exact World.block_lt_of_cell? W _ this
      · have hj' : j < len := by simpa using hj
        obtain ⟨g0, g1, g2, g3⟩ := (hf j hj').2
        rw [add_plain] at g0 g1 g2 g3
        rw [List.getElem_map, List.getElem_range]
        match c, hc' with
        | 0, _ => exact g0
        | 1, _ => rw [Nat.add_assoc]; exact g1
        | 2, _ => rw [Nat.add_assoc]; exact g2
        | 3, _ => rw [Nat.add_assoc]; exact g3
    · intro s hs
      obtain ⟨j, hj, rfl⟩ := List.mem_map.1 hs
      exact (hf j (List.mem_range.1 hj)).1
end Go.Proofs.YtefijbpbenmbgaaDoor
