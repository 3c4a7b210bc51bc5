/- Instructions in memory (layer 14). No condition. -/
import Derived.Test.YtefijbpbenmbgaaDoorIP
import Derived.Test.YtefijbpbenmbgaaDoorCFoot
import Derived.Below
import Derived.WalkKit
import Derived.WalkSpells
import Derived.WalkLawsBesides
import Derived.Handy
import Derived.Lib.Hide
namespace Go.Proofs.YtefijbpbenmbgaaDoor
open Go.RowKit

def insC (x : Ins) : List Value := [.int .u8 x.op, .int .i64 x.a, .int .i64 x.num, .string ⟨x.text.toArray⟩]
def insV (x : Ins) : Value := .agg #[.int .u8 x.op, .int .i64 x.a, .int .i64 x.num, .string ⟨x.text.toArray⟩]
/-- Twigs lie in memory as v. -/
def InsIn (w : World) (v : Value) (ts : List Ins) : Prop :=
  ∃ a cap, v = .slice a ts.length cap ∧ ts.length ≤ cap ∧ cap ≤ 9223372036854775807 ∧ (0 < ts.length → ∃ g off, a = some ⟨g, off, none⟩ ∧ g < w.heap.size ∧ ∀ i (hi : i < ts.length) (c : Nat), c < 4 → w.cell? ⟨g, off + i * 4 + c, none⟩ = (insC ts[i])[c]?)
/-- What a twig of a list may hold. -/
def FitIns (x : Ins) : Prop := x.text.length ≤ 9223372036854775807 ∧ I64 x.a ∧ I64 x.num ∧ x.op < 256
theorem InsIn.below {w W : World} {v : Value} {ts : List Ins} (h : InsIn w v ts) (hb : Below w.heap.size w W) : InsIn W v ts := by
  obtain ⟨a, cap, rfl, h1, h2, h3⟩ := h
  refine ⟨a, cap, rfl, h1, h2, fun h0 => ?_⟩
  obtain ⟨g, off, rfl, hg, hc⟩ := h3 h0
  exact ⟨g, off, rfl, Nat.lt_of_lt_of_le hg hb.size, fun i hi c hc' => (hb.cell (p := ⟨g, off + i * 4 + c, none⟩) hg).trans (hc i hi c hc')⟩
/-- The four cells of an instruction. -/
theorem ins_cells {w W : World} {g off : Nat} {ts : List Ins} (hg : g < w.heap.size) (hc : ∀ i (hi : i < ts.length) (c : Nat), c < 4 → w.cell? ⟨g, off + i * 4 + c, none⟩ = (insC ts[i])[c]?) (hb : Below w.heap.size w W) {i : Nat} (hi : i < ts.length) {op : Nat} {a x : Int} {tx : List UInt8} (ht : ts[i] = ⟨op, a, x, tx⟩) :
    W.cell? ⟨g, off + i * 4, none⟩ = some (.int .u8 op) ∧ W.cell? ⟨g, off + i * 4 + 1, none⟩ = some (.int .i64 a) ∧ W.cell? ⟨g, off + i * 4 + 2, none⟩ = some (.int .i64 x) ∧ W.cell? ⟨g, off + i * 4 + 3, none⟩ = some (.string ⟨tx.toArray⟩) := by
  have h0 := (hb.cell (p := ⟨g, off + i * 4 + 0, none⟩) hg).trans (hc i hi 0 (by omega))
  have h1 := (hb.cell (p := ⟨g, off + i * 4 + 1, none⟩) hg).trans (hc i hi 1 (by omega))
  have h2 := (hb.cell (p := ⟨g, off + i * 4 + 2, none⟩) hg).trans (hc i hi 2 (by omega))
  have h3 := (hb.cell (p := ⟨g, off + i * 4 + 3, none⟩) hg).trans (hc i hi 3 (by omega))
  rw [ht] at h0 h1 h2 h3
  exact ⟨h0, h1, h2, h3⟩
theorem inAt_get {code : List Ins} {i : Nat} (hi : i < code.length) : inAt code i = code[i] := by
  unfold inAt
  rw [List.getD_eq_getElem?_getD, List.getElem?_eq_getElem hi]; rfl
/-- The same, at a place that inAt tells. -/
theorem InsIn.cells {w W : World} {v : Value} {ts : List Ins} (h : InsIn w v ts) (hb : Below w.heap.size w W) {i : Nat} (hi : i < ts.length) {op : Nat} {a x : Int} {tx : List UInt8} (ht : inAt ts i = ⟨op, a, x, tx⟩) : ∃ g off cap, v = .slice (some ⟨g, off, none⟩) ts.length cap ∧ g < w.heap.size ∧
    W.cell? ⟨g, off + i * 4, none⟩ = some (.int .u8 op) ∧ W.cell? ⟨g, off + i * 4 + 1, none⟩ = some (.int .i64 a) ∧ W.cell? ⟨g, off + i * 4 + 2, none⟩ = some (.int .i64 x) ∧ W.cell? ⟨g, off + i * 4 + 3, none⟩ = some (.string ⟨tx.toArray⟩) := by
  obtain ⟨ad, cap, rfl, _, _, h3⟩ := h
  obtain ⟨g, off, rfl, hg, hc⟩ := h3 (by omega)
  exact ⟨g, off, cap, rfl, hg, ins_cells hg hc hb hi (by rw [← inAt_get hi]; exact ht)⟩
end Go.Proofs.YtefijbpbenmbgaaDoor
