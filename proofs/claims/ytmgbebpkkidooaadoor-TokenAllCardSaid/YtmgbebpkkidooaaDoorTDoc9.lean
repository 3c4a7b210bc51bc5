/- The document's number (layer 7), walked. No condition. -/
import Derived.Test.YtmgbebpkkidooaaDoorTDoc8
namespace Go.Proofs.YtmgbebpkkidooaaDoor
open Go.RowKit Tok

namespace Tok
theorem numV_go (l : List UInt8) : ∀ x, l.foldl (fun x c => 10 * x + (c.toNat - 48)) x = x * 10 ^ l.length + numV l := by
  induction l with
  | nil => intro x; simp [numV]
  | cons c l ih =>
    intro x
    unfold numV
    simp only [List.foldl_cons, List.length_cons]
    rw [ih, ih (10 * 0 + (c.toNat - 48)), Nat.pow_succ]
    simp only [Nat.mul_zero, Nat.zero_add]
    rw [Nat.add_mul, Nat.mul_comm 10 x, Nat.mul_assoc, Nat.mul_comm 10, Nat.add_assoc]
theorem numV_cons (c : UInt8) (l : List UInt8) : numV (c :: l) = (c.toNat - 48) * 10 ^ l.length + numV l := by
  have := numV_go l (10 * 0 + (c.toNat - 48))
  simp only [Nat.mul_zero, Nat.zero_add] at this
  unfold numV at this ⊢
  simp only [List.foldl_cons, Nat.mul_zero, Nat.zero_add]
  exact this
theorem numV_lt : ∀ {l : List UInt8}, l.all digC = true → numV l < 10 ^ l.length
  | [], _ => by simp [numV]
  | c :: l, h => by
    simp only [List.all_cons, Bool.and_eq_true] at h
    have h1 := of_decide_eq_true h.1
    have h2 := numV_lt h.2
    rw [numV_cons, List.length_cons, Nat.pow_succ]
    have h3 : (c.toNat - 48) * 10 ^ l.length ≤ 9 * 10 ^ l.length := Nat.mul_le_mul_right _ (by omega)
    omega
theorem numV_order : ∀ {a b : List UInt8}, a.all digC = true → b.all digC = true → a.length = b.length → (Op.bytesLess a b || (a == b)) = decide (numV a ≤ numV b)
  | [], [], _, _, _ => by simp [numV]
  | [], _ :: _, _, _, h => by simp at h
  | _ :: _, [], _, _, h => by simp at h
  | c :: a, d :: b, ha, hb, hl => by
    simp only [List.all_cons, Bool.and_eq_true] at ha hb
    simp only [List.length_cons, Nat.add_right_cancel_iff] at hl
    have c1 := of_decide_eq_true ha.1
    have d1 := of_decide_eq_true hb.1
    have ih := numV_order ha.2 hb.2 hl
    have la := numV_lt ha.2
    have lb := numV_lt hb.2
    rw [numV_cons, numV_cons, hl]
    rw [hl] at la
    generalize 10 ^ b.length = P at *
    generalize numV a = x at *
    generalize numV b = y at *
    show ((decide (c < d) || (c == d && Op.bytesLess a b)) || (c :: a == d :: b)) = _
    rcases Nat.lt_trichotomy c.toNat d.toNat with h | h | h
    · have h1 : c < d := UInt8.lt_iff_toNat_lt.2 h
      have h2 : (c.toNat - 48 + 1) * P ≤ (d.toNat - 48) * P := Nat.mul_le_mul_right _ (by omega)
      rw [Nat.add_mul] at h2
      rw [decide_eq_true h1, decide_eq_true (by omega : (c.toNat - 48) * P + x ≤ (d.toNat - 48) * P + y)]
      rfl
    · have h1 : c = d := UInt8.toNat.inj h
      subst h1
      have e : (c :: a == c :: b) = (a == b) := by simp
      rw [e, decide_eq_false (by simp : ¬ c < c), beq_self_eq_true, Bool.true_and, Bool.false_or, ih]
      exact decide_eq_decide.2 (by omega)
    · have h1 : ¬ c < d := fun hc => by have := UInt8.lt_iff_toNat_lt.1 hc; omega
      have hne : c ≠ d := fun hc => by subst hc; omega
      have h2 : (d.toNat - 48 + 1) * P ≤ (c.toNat - 48) * P := Nat.mul_le_mul_right _ (by omega)
      rw [Nat.add_mul] at h2
      rw [decide_eq_false h1, beq_eq_false_iff_ne.2 hne, decide_eq_false (by omega : ¬ (c.toNat - 48) * P + x ≤ (d.toNat - 48) * P + y)]
      simp [hne]
/-- The greatest number's digits. -/
def maxL : List UInt8 := [57, 50, 50, 51, 51, 55, 50, 48, 51, 54, 56, 53, 52, 55, 55, 53, 56, 48, 55]
/-- It is too great, as the document asks. -/
def overD (D : List UInt8) : Bool := decide (19 < D.length) || (decide (D.length = 19) && !(Op.bytesLess D maxL || (D == maxL)))
theorem over_is {c : UInt8} {D : List UInt8} (h : (c :: D).all digC = true) (h0 : c.toNat ≠ 48 ∨ D = []) : overD (c :: D) = decide (9223372036854775807 < numV (c :: D)) := by
  have hm : numV maxL = 9223372036854775807 := by decide +kernel
  have hlt := numV_lt h
  have hc : 48 ≤ c.toNat := by
    simp only [List.all_cons, Bool.and_eq_true] at h
    exact (of_decide_eq_true h.1).1
  unfold overD
  rcases Nat.lt_trichotomy (c :: D).length 19 with hl | hl | hl
  · have hp : 10 ^ (c :: D).length ≤ 10 ^ 18 := Nat.pow_le_pow_right (by decide) (by omega)
    rw [decide_eq_false (by omega), decide_eq_false (by omega : ¬ (c :: D).length = 19), decide_eq_false (by omega : ¬ 9223372036854775807 < numV (c :: D))]
    rfl
  · rw [decide_eq_false (by omega), decide_eq_true hl, numV_order (b := maxL) h (by decide) hl, hm, Bool.false_or, Bool.true_and]
    by_cases hv : numV (c :: D) ≤ 9223372036854775807
    · rw [decide_eq_true hv, decide_eq_false (by omega)]; rfl
    · rw [decide_eq_false hv, decide_eq_true (by omega)]; rfl
  · have h1 : c.toNat ≠ 48 := by
      rcases h0 with h0 | h0
      · exact h0
      · subst h0; simp at hl
    have hp : 10 ^ 19 ≤ 10 ^ D.length := Nat.pow_le_pow_right (by decide) (by simp only [List.length_cons] at hl; omega)
    have hq : 1 * 10 ^ D.length ≤ (c.toNat - 48) * 10 ^ D.length := Nat.mul_le_mul_right _ (by omega)
    have hv : 9223372036854775807 < numV (c :: D) := by rw [numV_cons]; omega
    rw [decide_eq_true hl, decide_eq_true hv]; rfl
theorem span_take {p : UInt8 → Bool} : ∀ l : List UInt8, (l.take (span p l)).all p = true ∧ (l.take (span p l)).length = span p l
  | [] => by simp [span]
  | c :: l => by
    have ih := span_take (p := p) l
    have e : span p (c :: l) = if p c = true then span p l + 1 else 0 := rfl
    rw [e]
    by_cases hc : p c = true
    · rw [if_pos hc]
      simp only [List.take_succ_cons, List.all_cons, List.length_cons]
      exact ⟨by rw [hc, ih.1]; rfl, by rw [ih.2]⟩
    · rw [if_neg hc]; simp
theorem numT_zero {c : UInt8} {r : List UInt8} (h : c.toNat = 48) (hn : 1 < span digC (c :: r)) : numT (c :: r) = .bad 1 9 := by
  have hN : numN (c :: r) = 1 := if_pos h
  have hc : c = 48 := UInt8.toNat.inj h
  have hd : digC c = true := by rw [hc]; decide
  have e : span digC (c :: r) = span digC r + 1 := if_pos hd
  unfold numT
  rw [hN]
  cases r with
  | nil => rw [e] at hn; simp [span] at hn
  | cons d r =>
    have hd2 : digC d = true := by
      cases hh : digC d with
      | true => rfl
      | false =>
        have : span digC (d :: r) = 0 := if_neg (by rw [hh]; simp)
        omega
    subst hc
    rw [show List.take 1 ((48 : UInt8) :: d :: r) = [48] from rfl, show List.drop 1 ((48 : UInt8) :: d :: r) = d :: r from rfl, if_neg (by decide)]
    simp only
    rw [if_pos (dig_word hd2)]
theorem numT_rest {c : UInt8} {r : List UInt8} (hd : digC c = true) (h : c.toNat ≠ 48 ∨ ¬ 1 < span digC (c :: r)) : numT (c :: r) = if overD ((c :: r).take (span digC (c :: r))) = true then .bad 0 2 else match (c :: r).drop (span digC (c :: r)) with
    | [] => .ok 2 [] (numV ((c :: r).take (span digC (c :: r)))) (span digC (c :: r))
    | d :: _ => if wordC d then .bad (span digC (c :: r)) 9 else .ok 2 [] (numV ((c :: r).take (span digC (c :: r)))) (span digC (c :: r)) := by
  have e : span digC (c :: r) = span digC r + 1 := if_pos hd
  have hN : numN (c :: r) = span digC (c :: r) := by
    show (if c.toNat = 48 then 1 else span digC (c :: r)) = _
    by_cases h48 : c.toNat = 48
    · rw [if_pos h48]; omega
    · rw [if_neg h48]
  obtain ⟨h1, h2⟩ := span_take (p := digC) (c :: r)
  have ho : overD ((c :: r).take (span digC (c :: r))) = decide (9223372036854775807 < numV ((c :: r).take (span digC (c :: r)))) := by
    rw [e] at h1 ⊢
    simp only [List.take_succ_cons] at h1 ⊢
    refine over_is h1 ?_
    rcases h with h | h
    · exact .inl h
    · right
      have : span digC r = 0 := by omega
      rw [this]; rfl
  unfold numT
  rw [hN, ho]
  by_cases hv : 9223372036854775807 < numV ((c :: r).take (span digC (c :: r)))
  · rw [if_pos hv, decide_eq_true hv, if_pos rfl]
  · rw [if_neg hv, decide_eq_false hv, if_neg (by simp)]
    cases List.drop (span digC (c :: r)) (c :: r) <;> rfl
end Tok
end Go.Proofs.YtmgbebpkkidooaaDoor
