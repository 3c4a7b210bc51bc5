/- How an argument that is a list of bools is opened. -/
import Derived.Test.YtlhabgfgoainlaaDoorIOpen
namespace Go.Proofs.YtlhabgfgoainlaaDoor
open Go.RowKit Go.ChangeShapes Go.WideShapes Go.Deep

/-- A list of bools, as an argument. -/
def BoolsIn (w : World) (v : Value) : Prop :=
  ∃ a cap, ∃ bs : List Bool, v = .slice a bs.length cap ∧ bs.length ≤ cap ∧ cap ≤ 9223372036854775807 ∧ (0 < bs.length → ∃ g off, a = some ⟨g, off, none⟩ ∧ g < w.heap.size ∧ ∀ i (hi : i < bs.length), w.cell? ⟨g, off + i, none⟩ = some (.bool bs[i]))
theorem boolsIn_of_trod {H : Type} {enc : TypeId × Value → H} {P : Program} {W : World} {t e : TypeId} {v : Value} {d : DataW H} {ps : List MemPlace}
    (ht : P.underlying t = some (.slice e)) (he : P.underlying e = some .bool) (hC : P.cellsOf e = 1)
    (hv : ∃ a len cap, v = .slice a len cap) (h : DataW.Trod enc P W 0 (fun _ => true) true t v d ps) : BoolsIn W v := by
  obtain ⟨a0, len, cap, rfl⟩ := hv
  obtain ⟨fuel, hf⟩ := h
  rcases open_slice ht hf with ⟨hcs, _⟩ | ⟨a, len', cap', m, n, D, Pl, hcs, hb, hl, hm, hmm, hx, hi⟩
  · simp [Value.cells] at hcs
    obtain ⟨rfl, rfl, rfl⟩ := hcs
    exact ⟨none, 0, [], rfl, by simp, by omega, fun h => by simp at h⟩
  · simp [Value.cells] at hcs
    obtain ⟨rfl, rfl, rfl⟩ := hcs
    simp only [if_true] at hmm
    have key : ∀ j, ∃ b : Bool, j < len → W.cell? (a.add j) = some (.bool b) := by
      intro j
      by_cases hj : j < len
      · obtain ⟨cs', hc, ht'⟩ := hi j (by omega)
        rw [hC] at hc
        obtain ⟨_, hcl, hat⟩ := World.cells?_some hc
        obtain ⟨b, rfl, _⟩ := DataW.trod_bool he ht'
        refine ⟨b, fun _ => ?_⟩
        have := hat 0 (by omega)
        rw [Nat.mul_one] at this
        rw [show a.add j = (a.add j).add 0 by simp [Addr.add]]
        simpa using this
      · exact ⟨false, fun h => absurd h hj⟩
    obtain ⟨f, hf⟩ := Classical.axiomOfChoice key
    have hgl : ((List.range len).map f).length = len := by rw [List.length_map, List.length_range]
    refine ⟨some a, cap, (List.range len).map f, by rw [hgl], by rw [hgl]; exact hl, hm, fun hpos => ?_⟩
    rw [hgl] at hpos
    obtain ⟨b, off, spot⟩ := a
    have hspot : spot = none := by simpa [Addr.add] using World.cell?_spot (hf 0 hpos)
    subst hspot
    refine ⟨b, off, rfl, ?_, fun j hj => ?_⟩
    · have := hf 0 hpos
      rw [add_plain] at this
      exact World.block_lt_of_cell? W _ this
    · have hj' : j < len := by simpa using hj
      have := hf j hj'
      rw [add_plain] at this
      rw [List.getElem_map, List.getElem_range]
      exact this
end Go.Proofs.YtlhabgfgoainlaaDoor
