/- How an argument that is a list of bytes is opened. -/
import Derived.Test.YtdeloaknoadpiaaFMem
import Derived.ProofKit
import Derived.OpenShut
import Derived.SizedLaws
import Derived.Carry
namespace Go.Proofs.Ytdeloaknoadpiaa
open Go.RowKit Go.ChangeShapes Go.WideShapes

/-- Bytes that lie in memory, as an argument. -/
def BytesIn (w : World) (v : Value) : Prop :=
  ∃ (a : Option Addr) (L cap : Nat) (f : Nat → Nat), v = .slice a L cap ∧ By w a L f ∧ L ≤ cap ∧ cap ≤ 9223372036854775807 ∧ (a = none → cap = 0)

theorem bytesIn_of_trod {H : Type} {enc : TypeId × Value → H} {P : Program} {W : World} {t e : TypeId} {v : Value} {d : DataW H} {ps : List MemPlace}
    (ht : P.underlying t = some (.slice e)) (he : P.underlying e = some (.int .u8)) (hc : P.cellsOf e = 1)
    (hv : ∃ a len cap, v = .slice a len cap) (h : DataW.Trod enc P W 0 (fun _ => true) true t v d ps) : BytesIn W v := by
  obtain ⟨a0, len, cap, rfl⟩ := hv
  obtain ⟨fuel, hf⟩ := h
  rcases open_ints ht he hc hf with ⟨hcs, _⟩ | ⟨a, len', cap', zs, hcs, _, hl, hm, hz, _, hcell, hwf⟩
  · simp [Value.cells] at hcs
    obtain ⟨rfl, rfl, rfl⟩ := hcs
    exact ⟨_, _, _, fun _ => 0, rfl, fun h => by omega, by omega, by omega, fun _ => rfl⟩
  · simp [Value.cells] at hcs
    obtain ⟨rfl, rfl, rfl⟩ := hcs
    simp only [if_true] at hz
    have hzl : len ≤ zs.length := by omega
    refine ⟨_, len, cap, fun j => (zs.getD j 0).toNat, rfl, fun h0 => ?_, hl, hm, fun h => by cases h⟩
    obtain ⟨b, off, spot⟩ := a
    have hspot : spot = none := by simpa [Addr.add] using World.cell?_spot (hcell 0 (by omega))
    subst hspot
    refine ⟨b, off, rfl, ?_, fun j hj => ?_⟩
    · have := hcell 0 (by omega)
      rw [add_plain] at this
      exact World.block_lt_of_cell? W _ this
    · have h1 := hcell j (by omega)
      rw [add_plain] at h1
      have hw := hwf (zs.getD j 0) (by rw [List.getD_eq_getElem?_getD, List.getElem?_eq_getElem (by omega)]; exact List.getElem_mem _)
      simp [Lit.wf, IntKind.min, IntKind.max, IntKind.signed, IntKind.bits] at hw
      have e1 : zs.getD j 0 = (((zs.getD j 0).toNat : Nat) : Int) := by
        have := hw.1
        simp [List.getD_eq_getElem?_getD] at this ⊢
        omega
      refine ⟨?_, ?_⟩
      · rw [h1, ← e1]
      · have := hw.2
        simp [List.getD_eq_getElem?_getD] at this ⊢
        omega

theorem BytesIn.bs {w : World} {v : Value} (h : BytesIn w v) : ∃ l, Bs w v l := by
  obtain ⟨a, L, cap, f, rfl, hB, h1, h2, h3⟩ := h
  refine ⟨(List.range L).map f, a, cap, by simp, ?_, by simpa using h1, h2, h3⟩
  simp only [List.length_map, List.length_range]
  intro h0
  obtain ⟨b, off, rfl, hb, hc⟩ := hB h0
  refine ⟨b, off, rfl, hb, fun j hj => ?_⟩
  have e : ((List.range L).map f).getD j 0 = f j := by
    rw [List.getD_eq_getElem?_getD, List.getElem?_map, List.getElem?_range hj]
    rfl
  dsimp only
  rw [e]
  exact hc j hj
end Go.Proofs.Ytdeloaknoadpiaa
