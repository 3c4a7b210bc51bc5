/- The document's number (layer 7): what the walk takes. (Made by tools/mkdoc9.py.) -/
import Derived.Test.YtmgbebpkkidooaaDoorTDoc9
import Derived.Test.YtmgbebpkkidooaaDoorTBackP
namespace Go.Proofs.YtmgbebpkkidooaaDoor
open Go.RowKit Tok

theorem numV_take_le {D : List UInt8} {m : Nat} : numV (D.take m) ≤ numV D := by
  have h := List.take_append_drop m D
  have : ∀ a b : List UInt8, numV a ≤ numV (a ++ b) := by
    intro a b
    have e : numV (a ++ b) = numV a * 10 ^ b.length + numV b := by
      unfold numV
      rw [List.foldl_append]
      exact numV_go b _
    rw [e]
    have := Nat.one_le_pow b.length 10 (by decide)
    have := Nat.mul_le_mul_left (numV a) this
    omega
  have h2 := this (D.take m) (D.drop m)
  rwa [h] at h2
theorem over_max {D : List UInt8} (h : D.all digC = true) (ho : overD D = false) : numV D ≤ 9223372036854775807 := by
  have hm : numV maxL = 9223372036854775807 := by decide +kernel
  have hlt := numV_lt h
  unfold overD at ho
  rcases Nat.lt_trichotomy D.length 19 with hl | hl | hl
  · have hp : 10 ^ D.length ≤ 10 ^ 18 := Nat.pow_le_pow_right (by decide) (by omega)
    omega
  · rw [decide_eq_false (by omega), decide_eq_true hl, numV_order (b := maxL) h (by decide) hl, hm, Bool.false_or, Bool.true_and] at ho
    simpa using ho
  · rw [decide_eq_true hl] at ho
    cases ho
/-- What a number comes to that is no 0 with a digit behind it. -/
def numW (D r : List UInt8) (k : Nat) : Res := if overD D = true then .bad 0 2 else match r with
  | [] => .ok 2 [] (numV D) k
  | d :: _ => if wordC d then .bad k 9 else .ok 2 [] (numV D) k
/-- How the document asks whether a number is too great. -/
theorem over_w {D : List UInt8} {n : Nat} (hn : D.length = n) :
    (overD D = true ∧ 19 < n) ∨ (overD D = true ∧ n = 19 ∧ Op.bytesLess D maxL = false ∧ (D == maxL) = false) ∨ (overD D = false ∧ n < 19) ∨ (overD D = false ∧ n = 19 ∧ Op.bytesLess D maxL = true) ∨ (overD D = false ∧ n = 19 ∧ Op.bytesLess D maxL = false ∧ (D == maxL) = true) := by
  unfold overD
  rw [hn]
  rcases Nat.lt_trichotomy n 19 with h | h | h
  · right; right; left
    rw [decide_eq_false (by omega), decide_eq_false (by omega)]
    exact ⟨rfl, h⟩
  · rw [decide_eq_false (by omega), decide_eq_true h]
    cases Op.bytesLess D maxL <;> cases D == maxL <;> simp [h]
  · left
    rw [decide_eq_true h]
    exact ⟨rfl, h⟩

/-- A number that is read, ahead of what stands behind it. -/
def NumOk (s : ByteArray) (i : Nat) (h : i < s.size) : Prop := (s[i].toNat ≠ 48 ∨ ¬ 1 < span digC (s.data.toList.drop i)) ∧ overD ((s.data.toList.drop i).take (span digC (s.data.toList.drop i))) = false
end Go.Proofs.YtmgbebpkkidooaaDoor
