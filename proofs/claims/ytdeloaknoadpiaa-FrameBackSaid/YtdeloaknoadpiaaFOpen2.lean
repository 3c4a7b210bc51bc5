/- How an argument that is a list of lists of bytes is opened. -/
import Derived.Deep.Slices
import Derived.Deep.Fields
import Derived.Test.YtdeloaknoadpiaaFOpen
import Derived.Test.YtdeloaknoadpiaaFSame
namespace Go.Proofs.Ytdeloaknoadpiaa
open Go.RowKit Go.ChangeShapes Go.WideShapes Go.Deep

theorem bytesIn_of_fuel {H : Type} {enc : TypeId × Value → H} {P : Program} {W : World} {t e : TypeId} {u : Value} {fuel : Nat} {x : DataW H × List MemPlace}
    (ht : P.underlying t = some (.slice e)) (he : P.underlying e = some (.int .u8)) (hc : P.cellsOf e = 1) (h : DataW.trod enc P W 0 (fun _ => true) true fuel t [u] = some x) : BytesIn W u := by
  have hu : ∃ a len cap, u = .slice a len cap := by
    rcases open_slice ht h with ⟨h0, _⟩ | ⟨a, len, cap, m, n, D, Pl, hcs, _⟩
    · exact ⟨_, _, _, List.head_eq_of_cons_eq h0⟩
    · exact ⟨_, _, _, List.head_eq_of_cons_eq hcs⟩
  refine bytesIn_of_trod (enc := enc) (d := x.1) (ps := x.2) ht he hc hu ⟨fuel, ?_⟩
  obtain ⟨a, l, c, rfl⟩ := hu
  simpa [Value.cells] using h

/-- A list of lists of bytes, as an argument. -/
def RowsIn (w : World) (v : Value) : Prop := ∃ ls, Rows2 w v ls

theorem rowsIn_of_trod {H : Type} {enc : TypeId × Value → H} {P : Program} {W : World} {t e b : TypeId} {v : Value} {d : DataW H} {ps : List MemPlace}
    (ht : P.underlying t = some (.slice e)) (he : P.underlying e = some (.slice b)) (hb : P.underlying b = some (.int .u8)) (hce : P.cellsOf e = 1) (hcb : P.cellsOf b = 1)
    (hv : ∃ a len cap, v = .slice a len cap) (h : DataW.Trod enc P W 0 (fun _ => true) true t v d ps) : RowsIn W v := by
  obtain ⟨a0, len, cap, rfl⟩ := hv
  obtain ⟨fuel, hf⟩ := h
  rcases open_slice ht hf with ⟨hcs, _⟩ | ⟨a, len', cap', m, n, D, Pl, hcs, _, hl, hm, hmm, _, hi⟩
  · simp [Value.cells] at hcs
    obtain ⟨rfl, rfl, rfl⟩ := hcs
    exact ⟨[], none, 0, rfl, by simp, by omega, fun h => by simp at h⟩
  · simp [Value.cells] at hcs
    obtain ⟨rfl, rfl, rfl⟩ := hcs
    simp only [if_true] at hmm
    have key : ∀ i, ∃ s : Value × List Nat, i < len → W.cell? (a.add i) = some s.1 ∧ Bs W s.1 s.2 := by
      intro i
      by_cases hil : i < len
      · obtain ⟨cs', hcl, htr⟩ := hi i (by omega)
        rw [hce, Nat.mul_one] at hcl
        obtain ⟨_, hlen, hat⟩ := World.cells?_some hcl
        obtain ⟨u, rfl⟩ := List.length_eq_one_iff.1 (by omega : cs'.length = 1)
        obtain ⟨l, hB⟩ := (bytesIn_of_fuel he hb hcb htr).bs
        have := hat 0 (by omega)
        exact ⟨(u, l), fun _ => ⟨by simpa [Addr.add] using this, hB⟩⟩
      · exact ⟨(.bool true, []), fun h => absurd h hil⟩
    obtain ⟨f, hf'⟩ := Classical.axiomOfChoice key
    have hgl : ((List.range len).map fun i => (f i).2).length = len := by rw [List.length_map, List.length_range]
    refine ⟨(List.range len).map fun i => (f i).2, some a, cap, by rw [hgl], by rw [hgl]; exact hl, hm, ?_⟩
    rw [hgl]
    intro h0
    obtain ⟨b', off, spot⟩ := a
    have hspot : spot = none := by simpa [Addr.add] using World.cell?_spot (hf' 0 h0).1
    subst hspot
    refine ⟨b', off, rfl, ?_, fun i hil => ?_⟩
    · have := (hf' 0 h0).1
      rw [add_plain] at this
      exact World.block_lt_of_cell? W _ this
    · have h1 := hf' i hil
      rw [add_plain] at h1
      refine ⟨_, h1.1, ?_⟩
      have e : ((List.range len).map fun i => (f i).2).getD i [] = (f i).2 := by
        rw [List.getD_eq_getElem?_getD, List.getElem?_map, List.getElem?_range hil]
        rfl
      rw [e]
      exact h1.2
end Go.Proofs.Ytdeloaknoadpiaa
