/- The two readers side by side (layer 6): what a write elsewhere leaves of them. -/
import Derived.Test.YtdeloaknoadpiaaFRefF
import Derived.Test.YtdeloaknoadpiaaFOpen2
namespace Go.Proofs.Ytdeloaknoadpiaa
open Go.RowKit Crc
section
variable {w W W' : World} {r s g taken fault left B p q : Nat} {v v1 v2 : Value} {rest l : List Nat} {F : Nat → Prop}
theorem RdAt.only (h : RdAt w r v rest left taken fault) (ho : Only F w W) (hr : ¬ F r) (hv : ∀ k, RowOf v k → ¬ F k) : RdAt W r v rest left taken fault :=
  ⟨(ho.block r h.lt hr).trans h.st, h.row.imp fun _ hB => hB.only ho hv, h.byte⟩
theorem SdAt.only (h : SdAt w s v rest taken fault) (ho : Only F w W) (hs : ¬ F s) (hv : ∀ k, RowOf v k → 0 < rest.length → ¬ F k) : SdAt W s v rest taken fault :=
  ⟨(ho.block s h.lt hs).trans h.st, h.row.only ho hv⟩
theorem SdAt.below (h : SdAt w s v rest taken fault) (hb : Below w.heap.size w W) : SdAt W s v rest taken fault :=
  h.only (F := fun _ => False) (Only.of_below hb) (fun h => h) (fun _ _ _ h => h)
theorem below_only (hb : Below B w W) (ho : Only F W W') (hB : B ≤ W.heap.size) (hF : ∀ k, k < B → ¬ F k) : Below B w W' :=
  have h2 := ho.below hB hF
  ⟨h2.os.trans hb.os, h2.tape.trans hb.tape, h2.output.trans hb.output, Nat.le_trans hb.size h2.size, fun k hk => (h2.block k hk).trans (hb.block k hk)⟩

/-- Both readers: frame's in block r, the document's in block s. -/
def Pair (W : World) (B r s : Nat) (rest : List Nat) (taken fault : Nat) : Prop :=
  B ≤ r ∧ r < s ∧ s < W.heap.size ∧ ∃ v1 v2 rest1, RdAt W r v1 rest1 rest.length taken fault ∧ SdAt W s v2 rest taken fault ∧ (fault = 0 → rest1 = rest) ∧ (∀ k, RowOf v1 k → B ≤ k ∧ k < W.heap.size ∧ k ≠ s) ∧ (∀ k, RowOf v2 k → 0 < rest.length → B ≤ k ∧ k < W.heap.size ∧ k ≠ r) ∧ (∀ k, RowOf v1 k → RowOf v2 k → 0 < rest.length → False)

theorem Pair.only (h : Pair W B r s rest taken fault) (ho : Only F W W') (hF : ∀ k, k < W.heap.size → ¬ F k) : Pair W' B r s rest taken fault := by
  obtain ⟨h1, h2, h3, v1, v2, rest1, hR, hS, he, hv1, hv2, hd⟩ := h
  have hz := ho.size
  exact ⟨h1, h2, by omega, v1, v2, rest1, hR.only ho (hF r (by omega)) (fun k hk => hF k (hv1 k hk).2.1), hS.only ho (hF s h3) (fun k hk h0 => hF k (hv2 k hk h0).2.1), he,
    fun k hk => by have := hv1 k hk; omega, fun k hk h0 => by have := hv2 k hk h0; omega, hd⟩
theorem Pair.below (h : Pair W B r s rest taken fault) (hb : Below W.heap.size W W') : Pair W' B r s rest taken fault := h.only (F := fun _ => False) (Only.of_below hb) (fun _ _ h => h)

/-- Both readers, neither touching the blocks of [p,q). -/
def PairX (W : World) (B r s : Nat) (rest : List Nat) (taken fault p q : Nat) : Prop :=
  B ≤ r ∧ r < s ∧ s < W.heap.size ∧ s < p ∧ ∃ v1 v2 rest1, RdAt W r v1 rest1 rest.length taken fault ∧ SdAt W s v2 rest taken fault ∧ (fault = 0 → rest1 = rest) ∧ (∀ k, RowOf v1 k → B ≤ k ∧ k < W.heap.size ∧ k ≠ s ∧ (k < p ∨ q ≤ k)) ∧ (∀ k, RowOf v2 k → 0 < rest.length → B ≤ k ∧ k < W.heap.size ∧ k ≠ r ∧ (k < p ∨ q ≤ k)) ∧ (∀ k, RowOf v1 k → RowOf v2 k → 0 < rest.length → False)
theorem PairX.pair (h : PairX W B r s rest taken fault p q) : Pair W B r s rest taken fault := by
  obtain ⟨h1, h2, h3, _, v1, v2, rest1, hR, hS, he, hv1, hv2, hd⟩ := h
  exact ⟨h1, h2, h3, v1, v2, rest1, hR, hS, he, fun k hk => by have := hv1 k hk; omega, fun k hk h0 => by have := hv2 k hk h0; omega, hd⟩
theorem PairX.only (h : PairX W B r s rest taken fault p q) (ho : Only F W W') (hF : ∀ k, k < W.heap.size → F k → p ≤ k ∧ k < q) : PairX W' B r s rest taken fault p q := by
  obtain ⟨h1, h2, h3, h4, v1, v2, rest1, hR, hS, he, hv1, hv2, hd⟩ := h
  have hz := ho.size
  refine ⟨h1, h2, by omega, h4, v1, v2, rest1, hR.only ho (fun hf => ?_) (fun k hk hf => ?_), hS.only ho (fun hf => ?_) (fun k hk h0 hf => ?_), he,
    fun k hk => by have := hv1 k hk; omega, fun k hk h0 => by have := hv2 k hk h0; omega, hd⟩
  · have := hF r (by omega) hf; omega
  · have h5 := hv1 k hk; have := hF k (by omega) hf; omega
  · have := hF s h3 hf; omega
  · have h5 := hv2 k hk h0; have := hF k (by omega) hf; omega

end
end Go.Proofs.Ytdeloaknoadpiaa
