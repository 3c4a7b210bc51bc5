/- Rows of values (layer 12): append; pairs in a row. (mkothree2.py) No condition. -/
import Derived.Test.YtnghfjlmmmjekaaOAsk
import Derived.Deep.RegionHeld3
import Derived.Maps.AppendAt
namespace Go.Proofs.Ytnghfjlmmmjekaa
open Go.RowKit

theorem val_info : (Try.prog.info? 39).map (fun i => (i.zero, i.size, i.bytes)) = some (some (.slice none 0 0), 1, 24) := by kernel_rfl
theorem val_parts : ∃ i0, Try.prog.info? 39 = some i0 ∧ i0.zero = some (.slice none 0 0) ∧ i0.size = 1 ∧ i0.bytes = 24 := by
  have h := val_info
  cases hi : Try.prog.info? 39 with
  | none => rw [hi] at h; simp at h
  | some i0 =>
    rw [hi] at h
    simp at h
    exact ⟨i0, rfl, h.1, h.2.1, h.2.2⟩
theorem wpList_append_vals {w : World} {base : Nat} {v : Value} {vs us : List Value} {ops : Array Oper} {rest : List Oper} {o : Oper} {a : Act} {Q : Exit → Act → World → Prop} (hgd : o.guard = none) (s x : Operand)
    (ho : o.op = .call { callee := .builtin .append, args := #[s, x], argTypes := #[41, 41] })
    (hs : a.eval s = v) (hown : w.ownsRow base 39 1 v vs.length vs) {G : Nat} {c : Nat} (hx : a.eval x = .slice (some ⟨G, 0, none⟩) us.length c) (hu : ∀ j u, us[j]? = some u → w.cell? ((⟨G, 0, none⟩ : Addr).add j) = some u) (h1 : ∀ u ∈ us, u.oneCell' = true)
    (h0 : 0 < us.length) (hk : vs.length ≤ 1000) (hk2 : us.length ≤ 1000) (hbase : base ≤ w.heap.size)
    (h : ∀ g cap w', w'.ownsRow base 39 1 (.slice (some ⟨g, 0, none⟩) (vs.length + us.length) cap) (vs.length + us.length) (vs ++ us) → Only (fun k => v.ownBlock = some k) w w' → wpList Try.prog ops Q rest (a.put o.dst (.slice (some ⟨g, 0, none⟩) (vs.length + us.length) cap)) w') : wpList Try.prog ops Q (o :: rest) a w := by
  obtain ⟨i0, hi, hz0, hz1, hz2⟩ := val_parts
  refine wpList_append_own_at _ hgd s x 41 ho base 39 i0 (.slice none 0 0) 1 24 Try.underlying41 hi hz0 hz1 hz2 rfl (by decide) v vs.length vs hs hown ⟨G, 0, none⟩ us.length c us hx (by simp) hu h1 (by unfold maxLen; omega) (by omega) hbase ?_
  intro v' w' h2 h3 _ _
  obtain ⟨g, cap, e, _⟩ := ownsRow_head h2 (by omega)
  subst e
  exact h g cap w' h2 (Only.of_grown h3 (fun k hk => hk))
/-- Four values, or two, in a row, of which each two are a pair. -/
def ThreeQ (W0 : World) (gl n : Nat) : Prop := ∀ i, (i = 0 ∨ i = 2) → i < n → ∃ va vb l s m, W0.cell? ⟨gl, i, none⟩ = some va ∧ W0.cell? ⟨gl, i + 1, none⟩ = some vb ∧ PairOK W0 va vb l s m
end Go.Proofs.Ytnghfjlmmmjekaa
