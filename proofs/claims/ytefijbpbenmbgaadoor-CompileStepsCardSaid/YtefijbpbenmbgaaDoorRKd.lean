/- Plain: what kinds of parts there are in the table of twigs (layer 8; cut of RSpec, so that no document's function is needed). No condition. -/
import Derived.Test.YtefijbpbenmbgaaDoorRLeaf
namespace Go.Proofs.YtefijbpbenmbgaaDoor
open Go.RowKit

theorem lookK_pair : ∀ {L : List (Nat × Kind)} {op : Nat} {k : Kind}, lookK L op = some k → (op, k) ∈ L
  | [], _, _, h => by cases h
  | p :: r, op, k, h => by
    unfold lookK at h
    split at h
    · rename_i e
      cases h
      subst e
      exact List.mem_cons_self ..
    · exact List.mem_cons_of_mem _ (lookK_pair h)
theorem kind_parts {up : Nat} {k : Kind} (h : kindOf up = some k) : k.part = 0 ∨ (k.part = 1 ∧ up ≠ 1 ∧ up ≠ 3 ∧ up ≠ 6 ∧ up ≠ 7 ∧ up ≠ 53) ∨ (k.part = 2 ∧ up = 1) ∨ (k.part = 3 ∧ up = 3) ∨ (k.part = 4 ∧ (up = 6 ∨ up = 7)) ∨ (k.part = 5 ∧ up = 53) := by
  have a : ∀ p ∈ kindsL, p.2.part = 0 ∨ (p.2.part = 1 ∧ p.1 ≠ 1 ∧ p.1 ≠ 3 ∧ p.1 ≠ 6 ∧ p.1 ≠ 7 ∧ p.1 ≠ 53) ∨ (p.2.part = 2 ∧ p.1 = 1) ∨ (p.2.part = 3 ∧ p.1 = 3) ∨ (p.2.part = 4 ∧ (p.1 = 6 ∨ p.1 = 7)) ∨ (p.2.part = 5 ∧ p.1 = 53) := by decide
  exact a _ (lookK_pair h)
end Go.Proofs.YtefijbpbenmbgaaDoor
