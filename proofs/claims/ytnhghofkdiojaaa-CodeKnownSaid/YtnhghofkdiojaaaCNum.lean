/- Plain: what bytes say as a number from 0 on, and where they go wrong. No program stands in it. -/
import Derived.WalkKit
namespace Go.Proofs.Ytnhghofkdiojaaa
open Go.RowKit

/-- What is read: what it is, the place behind it (or of what is wrong), the error. -/
structure Rn where
  v : Nat
  to : Nat
  code : Nat

/-- A number: k more bytes may come, i were read, they are worth acc. -/
def numGo (f : Nat → Nat) (L p : Nat) : Nat → Nat → Nat → Rn
  | 0, _, _ => ⟨0, p, 3⟩
  | k + 1, i, acc =>
    if L ≤ p + i then ⟨0, L, 4⟩
    else if (0 < i ∧ f (p + i) = 0) ∨ (i = 9 ∧ f (p + i) ≠ 1) then ⟨0, p + i, 3⟩
    else if f (p + i) < 128 then ⟨acc + f (p + i) * 2 ^ (7 * i), p + i + 1, 0⟩
    else numGo f L p k (i + 1) (acc + (f (p + i) - 128) * 2 ^ (7 * i))
def numR (f : Nat → Nat) (L p : Nat) : Rn := numGo f L p 10 0 0

/-- i bytes were read ahead, worth acc: what is read is what is read from there on. -/
def NumAt (f : Nat → Nat) (L p i acc : Nat) : Prop := i ≤ 9 ∧ acc < 2 ^ (7 * i) ∧ numR f L p = numGo f L p (10 - i) i acc

theorem NumAt.start (f : Nat → Nat) (L p : Nat) : NumAt f L p 0 0 := ⟨by omega, by decide, rfl⟩

section
variable {f : Nat → Nat} {L p i acc : Nat}
theorem numGo_unfold (h : i ≤ 9) : numGo f L p (10 - i) i acc = if L ≤ p + i then ⟨0, L, 4⟩
    else if (0 < i ∧ f (p + i) = 0) ∨ (i = 9 ∧ f (p + i) ≠ 1) then ⟨0, p + i, 3⟩
    else if f (p + i) < 128 then ⟨acc + f (p + i) * 2 ^ (7 * i), p + i + 1, 0⟩
    else numGo f L p (9 - i) (i + 1) (acc + (f (p + i) - 128) * 2 ^ (7 * i)) := by
  rw [show 10 - i = (9 - i) + 1 by omega]; rfl
theorem NumAt.short (h : NumAt f L p i acc) (hs : L ≤ p + i) : numR f L p = ⟨0, L, 4⟩ := by
  rw [h.2.2, numGo_unfold h.1, if_pos hs]
theorem NumAt.shape (h : NumAt f L p i acc) (hs : p + i < L) (hb : (0 < i ∧ f (p + i) = 0) ∨ (i = 9 ∧ f (p + i) ≠ 1)) : numR f L p = ⟨0, p + i, 3⟩ := by
  rw [h.2.2, numGo_unfold h.1, if_neg (by omega), if_pos hb]
theorem NumAt.last (h : NumAt f L p i acc) (hs : p + i < L) (hb : ¬ ((0 < i ∧ f (p + i) = 0) ∨ (i = 9 ∧ f (p + i) ≠ 1))) (hl : f (p + i) < 128) : numR f L p = ⟨acc + f (p + i) * 2 ^ (7 * i), p + i + 1, 0⟩ := by
  rw [h.2.2, numGo_unfold h.1, if_neg (by omega), if_neg hb, if_pos hl]
theorem NumAt.next (h : NumAt f L p i acc) (hs : p + i < L) (hb : ¬ ((0 < i ∧ f (p + i) = 0) ∨ (i = 9 ∧ f (p + i) ≠ 1))) (hl : ¬ f (p + i) < 128) (hf : f (p + i) < 256) : NumAt f L p (i + 1) (acc + (f (p + i) - 128) * 2 ^ (7 * i)) := by
  have hi : i ≤ 8 := by
    have := h.1
    rcases Nat.lt_or_ge i 9 with h1 | h1
    · omega
    · exfalso; apply hb; right; omega
  refine ⟨by omega, ?_, ?_⟩
  · have h1 : (f (p + i) - 128) * 2 ^ (7 * i) ≤ 127 * 2 ^ (7 * i) := Nat.mul_le_mul_right _ (by omega)
    have h2 : 2 ^ (7 * (i + 1)) = 128 * 2 ^ (7 * i) := by
      rw [show 7 * (i + 1) = 7 * i + 7 by omega, Nat.pow_add]; omega
    have := h.2.1
    omega
  · rw [h.2.2, numGo_unfold h.1, if_neg (by omega), if_neg hb, if_neg hl, show 9 - i = 10 - (i + 1) by omega]
/-- The byte that is read is within its bounds, what was read ahead too. -/
theorem NumAt.range (h : NumAt f L p i acc) (hb : ¬ ((0 < i ∧ f (p + i) = 0) ∨ (i = 9 ∧ f (p + i) ≠ 1))) : acc < 2 ^ 63 ∧ (f (p + i) % 128) * 2 ^ (7 * i) < 2 ^ 64 ∧ acc + (f (p + i) % 128) * 2 ^ (7 * i) < 2 ^ 64 := by
  have h0 := h.1
  have h1 := h.2.1
  have h9 : acc < 2 ^ 63 := Nat.lt_of_lt_of_le h1 (Nat.pow_le_pow_right (by omega) (by omega))
  by_cases hi : i = 9
  · subst hi
    have : f (p + 9) = 1 := by
      rcases Nat.decEq (f (p + 9)) 1 with h2 | h2
      · exfalso; exact hb (.inr ⟨rfl, h2⟩)
      · exact h2
    rw [this]
    refine ⟨h9, by decide, ?_⟩
    have e : (2 : Nat) ^ 64 = 2 ^ 63 + 2 ^ 63 := by decide
    rw [show 1 % 128 * 2 ^ (7 * 9) = 2 ^ 63 by decide]
    omega
  · have h2 : (f (p + i) % 128) * 2 ^ (7 * i) ≤ 127 * 2 ^ (7 * i) := Nat.mul_le_mul_right _ (by omega)
    have h3 : 2 ^ (7 * i) ≤ 2 ^ 56 := Nat.pow_le_pow_right (by omega) (by omega)
    have e : (2 : Nat) ^ 64 = 256 * 2 ^ 56 := by decide
    have e63 : (2 : Nat) ^ 63 = 128 * 2 ^ 56 := by decide
    have e56 : (2 : Nat) ^ 56 = 72057594037927936 := by decide
    refine ⟨h9, by omega, by omega⟩
end

/-- What is read is within 64 bits, and its place within the bytes. -/
theorem numGo_range {f : Nat → Nat} {L p : Nat} : ∀ k i acc, k + i = 10 → acc < 2 ^ (7 * i) → p ≤ L → (∀ j, p ≤ j → j < L → f j < 256) →
    (numGo f L p k i acc).v < 2 ^ 64 ∧ (numGo f L p k i acc).to ≤ L ∧ ((numGo f L p k i acc).code = 0 ∧ p < (numGo f L p k i acc).to ∨ (numGo f L p k i acc).code = 4 ∧ (numGo f L p k i acc).to = L ∧ (numGo f L p k i acc).v = 0 ∨ (numGo f L p k i acc).code = 3 ∧ ((numGo f L p k i acc).to < L ∨ k = 0) ∧ (numGo f L p k i acc).v = 0)
  | 0, i, acc, _, _, hp, _ => ⟨Nat.two_pow_pos _, hp, .inr (.inr ⟨rfl, .inr rfl, rfl⟩)⟩
  | k + 1, i, acc, hk, ha, hp, hf => by
    unfold numGo
    by_cases h1 : L ≤ p + i
    · rw [if_pos h1]; exact ⟨Nat.two_pow_pos _, Nat.le_refl _, .inr (.inl ⟨rfl, rfl, rfl⟩)⟩
    · rw [if_neg h1]
      by_cases h2 : (0 < i ∧ f (p + i) = 0) ∨ (i = 9 ∧ f (p + i) ≠ 1)
      · rw [if_pos h2]; exact ⟨Nat.two_pow_pos _, by simp only; omega, .inr (.inr ⟨rfl, .inl (by simp only; omega), rfl⟩)⟩
      · rw [if_neg h2]
        have hfi := hf (p + i) (by omega) (by omega)
        by_cases h3 : f (p + i) < 128
        · rw [if_pos h3]
          refine ⟨?_, by simp only; omega, .inl ⟨rfl, by simp only; omega⟩⟩
          simp only
          by_cases hi : i = 9
          · subst hi
            have : f (p + 9) = 1 := by
              rcases Nat.decEq (f (p + 9)) 1 with h4 | h4
              · exfalso; exact h2 (.inr ⟨rfl, h4⟩)
              · exact h4
            rw [this]
            have e : (2 : Nat) ^ 64 = 2 ^ 63 + 2 ^ 63 := by decide
            rw [show 1 * 2 ^ (7 * 9) = 2 ^ 63 by decide]
            have : (2 : Nat) ^ (7 * 9) = 2 ^ 63 := by decide
            omega
          · have h4 : f (p + i) * 2 ^ (7 * i) ≤ 127 * 2 ^ (7 * i) := Nat.mul_le_mul_right _ (by omega)
            have h5 : 2 ^ (7 * i) ≤ 2 ^ 56 := Nat.pow_le_pow_right (by omega) (by omega)
            have e : (2 : Nat) ^ 64 = 256 * 2 ^ 56 := by decide
            omega
        · rw [if_neg h3]
          have hi : i ≤ 8 := by
            rcases Nat.lt_or_ge i 9 with h4 | h4
            · omega
            · exfalso; apply h2; right; omega
          have h4 : (f (p + i) - 128) * 2 ^ (7 * i) ≤ 127 * 2 ^ (7 * i) := Nat.mul_le_mul_right _ (by omega)
          have h5 : 2 ^ (7 * (i + 1)) = 128 * 2 ^ (7 * i) := by
            rw [show 7 * (i + 1) = 7 * i + 7 by omega, Nat.pow_add]; omega
          have ih := numGo_range (f := f) (L := L) (p := p) k (i + 1) (acc + (f (p + i) - 128) * 2 ^ (7 * i)) (by omega) (by omega) hp hf
          refine ⟨ih.1, ih.2.1, ?_⟩
          rcases ih.2.2 with h | h | ⟨a, b, c⟩
          · exact .inl h
          · exact .inr (.inl h)
          · rcases b with b | b
            · exact .inr (.inr ⟨a, .inl b, c⟩)
            · exfalso; omega
theorem numR_range {f : Nat → Nat} {L p : Nat} (hp : p ≤ L) (hf : ∀ j, p ≤ j → j < L → f j < 256) :
    (numR f L p).v < 18446744073709551616 ∧ (numR f L p).to ≤ L ∧ ((numR f L p).code = 0 ∧ p < (numR f L p).to ∨ (numR f L p).code = 4 ∧ (numR f L p).to = L ∧ (numR f L p).v = 0 ∨ (numR f L p).code = 3 ∧ (numR f L p).to < L ∧ (numR f L p).v = 0) := by
  have h := numGo_range (f := f) (L := L) (p := p) 10 0 0 (by omega) (by decide) hp hf
  refine ⟨h.1, h.2.1, ?_⟩
  rcases h.2.2 with a | a | ⟨a, b, c⟩
  · exact .inl a
  · exact .inr (.inl a)
  · exact .inr (.inr ⟨a, by rcases b with b | b; exact b; omega, c⟩)
end Go.Proofs.Ytnhghofkdiojaaa
