/- Plain: a number's bytes as a list; they are read as they were written, and what is read is what was written. -/
import Derived.Test.YtnhghofkdiojaaaCSpec
namespace Go.Proofs.Ytnhghofkdiojaaa
open Go.RowKit

/-- A number's bytes. -/
def uintL (n : Nat) : List Nat := if _h : n < 128 then [n] else (n % 128 + 128) :: uintL (n / 128)
termination_by n
decreasing_by omega
theorem uintL_small {n : Nat} (h : n < 128) : uintL n = [n] := by rw [uintL, dif_pos h]
theorem uintL_big {n : Nat} (h : ¬ n < 128) : uintL n = (n % 128 + 128) :: uintL (n / 128) := by rw [uintL, dif_neg h]
theorem uintL_pos (n : Nat) : 0 < (uintL n).length := by
  by_cases h : n < 128
  · rw [uintL_small h]; simp
  · rw [uintL_big h]; simp
theorem uintL_byte (n : Nat) : ∀ b ∈ uintL n, b < 256 := by
  induction n using Nat.strongRecOn with
  | ind n ih =>
    by_cases h : n < 128
    · rw [uintL_small h]; intro b hb; simp at hb; omega
    · rw [uintL_big h]; intro b hb
      rcases List.mem_cons.1 hb with h1 | h1
      · omega
      · exact ih (n / 128) (by omega) b h1
theorem uintL_len {k : Nat} : ∀ {n : Nat}, n < 128 ^ (k + 1) → (uintL n).length ≤ k + 1 := by
  induction k with
  | zero => intro n h; rw [uintL_small (by simpa using h)]; simp
  | succ k ih =>
    intro n h
    by_cases h1 : n < 128
    · rw [uintL_small h1]; simp
    · rw [uintL_big h1, List.length_cons]
      have : n / 128 < 128 ^ (k + 1) := by
        rw [Nat.div_lt_iff_lt_mul (by omega), ← Nat.pow_succ]; exact h
      have := ih this
      omega
theorem uintL_len10 {n : Nat} (h : n < 18446744073709551616) : (uintL n).length ≤ 10 := uintL_len (k := 9) (Nat.lt_of_lt_of_le h (by decide))
/-- A greater number has no fewer bytes. -/
theorem uintL_mono {a b : Nat} (h : a ≤ b) : (uintL a).length ≤ (uintL b).length := by
  induction a using Nat.strongRecOn generalizing b with
  | ind a ih =>
    by_cases h1 : a < 128
    · rw [uintL_small h1]; exact uintL_pos b
    · rw [uintL_big h1, uintL_big (n := b) (by omega), List.length_cons, List.length_cons]
      have := ih (a / 128) (by omega) (b := b / 128) (Nat.div_le_div_right h)
      omega

/-- Bytes l lie from a place on. -/
def LiesAt (f : Nat → Nat) (p : Nat) (l : List Nat) : Prop := ∀ j, j < l.length → f (p + j) = l.getD j 0
theorem LiesAt.head {f : Nat → Nat} {p x : Nat} {l : List Nat} (h : LiesAt f p (x :: l)) : f p = x := by
  have := h 0 (by simp)
  simpa using this
theorem LiesAt.tail {f : Nat → Nat} {p x : Nat} {l : List Nat} (h : LiesAt f p (x :: l)) : LiesAt f (p + 1) l := by
  intro j hj
  have := h (j + 1) (by simp; omega)
  rw [show p + 1 + j = p + (j + 1) by omega, this]
  simp
theorem LiesAt.cons {f : Nat → Nat} {p x : Nat} {l : List Nat} (h0 : f p = x) (h : LiesAt f (p + 1) l) : LiesAt f p (x :: l) := by
  intro j hj
  match j with
  | 0 => simpa using h0
  | j + 1 =>
    have := h j (by simpa using hj)
    rw [show p + (j + 1) = p + 1 + j by omega, this]
    simp
theorem LiesAt.append {f : Nat → Nat} {p : Nat} {l m : List Nat} (h1 : LiesAt f p l) (h2 : LiesAt f (p + l.length) m) : LiesAt f p (l ++ m) := by
  induction l generalizing p with
  | nil => simpa using h2
  | cons x l ih => exact LiesAt.cons h1.head (ih h1.tail (by rw [show p + 1 + l.length = p + (x :: l).length by simp; omega]; exact h2))
theorem LiesAt.left {f : Nat → Nat} {p : Nat} {l m : List Nat} (h : LiesAt f p (l ++ m)) : LiesAt f p l := by
  induction l generalizing p with
  | nil => intro j hj; simp at hj
  | cons x l ih => exact LiesAt.cons (LiesAt.head (l := l ++ m) h) (ih (LiesAt.tail (l := l ++ m) h))
theorem LiesAt.right {f : Nat → Nat} {p : Nat} {l m : List Nat} (h : LiesAt f p (l ++ m)) : LiesAt f (p + l.length) m := by
  induction l generalizing p with
  | nil => simpa using h
  | cons x l ih =>
    have := ih (LiesAt.tail (l := l ++ m) h)
    rw [show p + (x :: l).length = p + 1 + l.length by simp; omega]
    exact this

/-- What was written is read. -/
theorem numGo_wrote {f : Nat → Nat} {L p : Nat} : ∀ (k i acc m : Nat), k + 1 + i = 10 → m * 2 ^ (7 * i) < 18446744073709551616 → (0 < i → 0 < m) → LiesAt f (p + i) (uintL m) → p + i + (uintL m).length ≤ L →
    numGo f L p (k + 1) i acc = ⟨acc + m * 2 ^ (7 * i), p + i + (uintL m).length, 0⟩
  | k, i, acc, m, hk, hm, h0, hl, hL => by
    have hpos := uintL_pos m
    unfold numGo
    rw [if_neg (by omega)]
    by_cases hs : m < 128
    · rw [uintL_small hs] at hl hL ⊢
      have hb := hl.head
      rw [hb]
      have h9 : ¬ ((0 < i ∧ m = 0) ∨ (i = 9 ∧ m ≠ 1)) := by
        rintro (⟨h1, h2⟩ | ⟨h1, h2⟩)
        · have := h0 h1; omega
        · subst h1
          have := h0 (by omega)
          have e : (2 : Nat) ^ (7 * 9) = 9223372036854775808 := by decide
          rw [e] at hm
          omega
      rw [if_neg h9, if_pos hs]
      simp
    · rw [uintL_big hs] at hl hL ⊢
      have hb := hl.head
      rw [hb]
      have hi : i ≤ 8 := by
        rcases Nat.lt_or_ge i 9 with h1 | h1
        · omega
        · exfalso
          have hi9 : i = 9 := by omega
          subst hi9
          have e : (2 : Nat) ^ (7 * 9) = 9223372036854775808 := by decide
          rw [e] at hm
          omega
      have h9 : ¬ ((0 < i ∧ m % 128 + 128 = 0) ∨ (i = 9 ∧ m % 128 + 128 ≠ 1)) := by omega
      rw [if_neg h9, if_neg (by omega)]
      have e7 : 2 ^ (7 * (i + 1)) = 128 * 2 ^ (7 * i) := by rw [show 7 * (i + 1) = 7 * i + 7 by omega, Nat.pow_add]; omega
      have hdm : m = m % 128 + 128 * (m / 128) := by omega
      have em : m * 2 ^ (7 * i) = m % 128 * 2 ^ (7 * i) + m / 128 * 2 ^ (7 * (i + 1)) := by
        rw [e7]
        conv => lhs; rw [hdm]
        rw [Nat.add_mul, Nat.mul_comm 128 (m / 128), Nat.mul_assoc]
      match k, hk with
      | 0, hk => omega
      | k + 1, hk =>
        have ih := numGo_wrote (f := f) (L := L) (p := p) k (i + 1) (acc + (m % 128 + 128 - 128) * 2 ^ (7 * i)) (m / 128) (by omega) (by omega) (fun _ => by omega) (by rw [← Nat.add_assoc]; exact hl.tail) (by rw [List.length_cons] at hL; omega)
        rw [ih, List.length_cons, em, show m % 128 + 128 - 128 = m % 128 by omega]
        congr 1 <;> omega
theorem numR_wrote {f : Nat → Nat} {L p m : Nat} (hm : m < 18446744073709551616) (hl : LiesAt f p (uintL m)) (hL : p + (uintL m).length ≤ L) : numR f L p = ⟨m, p + (uintL m).length, 0⟩ := by
  have := numGo_wrote (f := f) (L := L) (p := p) 9 0 0 m (by omega) (by simpa using hm) (fun h => by omega) hl hL
  show numGo f L p 10 0 0 = _
  simpa using this

/-- What is read was written so. -/
theorem numGo_read {f : Nat → Nat} {L p : Nat} : ∀ (k i acc : Nat), k + i = 10 → (∀ j, p ≤ j → j < L → f j < 256) → (numGo f L p k i acc).code = 0 →
    ∃ m, (numGo f L p k i acc).v = acc + m * 2 ^ (7 * i) ∧ (numGo f L p k i acc).to = p + i + (uintL m).length ∧ LiesAt f (p + i) (uintL m) ∧ (0 < i → 0 < m)
  | 0, i, acc, _, _, h => by simp [numGo] at h
  | k + 1, i, acc, hk, hf, h => by
    unfold numGo at h ⊢
    by_cases h1 : L ≤ p + i
    · rw [if_pos h1] at h; simp at h
    · rw [if_neg h1] at h ⊢
      by_cases h2 : (0 < i ∧ f (p + i) = 0) ∨ (i = 9 ∧ f (p + i) ≠ 1)
      · rw [if_pos h2] at h; simp at h
      · rw [if_neg h2] at h ⊢
        by_cases h3 : f (p + i) < 128
        · rw [if_pos h3] at h ⊢
          refine ⟨f (p + i), rfl, by rw [uintL_small h3]; rfl, ?_, fun h0 => by omega⟩
          rw [uintL_small h3]
          exact LiesAt.cons rfl (fun j hj => by simp at hj)
        · rw [if_neg h3] at h ⊢
          have hfi := hf (p + i) (by omega) (by omega)
          obtain ⟨m, e1, e2, e3, e4⟩ := numGo_read (f := f) (L := L) (p := p) k (i + 1) (acc + (f (p + i) - 128) * 2 ^ (7 * i)) (by omega) hf h
          have hm := e4 (by omega)
          have e7 : 2 ^ (7 * (i + 1)) = 128 * 2 ^ (7 * i) := by rw [show 7 * (i + 1) = 7 * i + 7 by omega, Nat.pow_add]; omega
          have hb : ¬ (f (p + i) - 128 + 128 * m) < 128 := by omega
          have hL : uintL (f (p + i) - 128 + 128 * m) = f (p + i) :: uintL m := by
            rw [uintL_big hb, show (f (p + i) - 128 + 128 * m) % 128 + 128 = f (p + i) by omega, show (f (p + i) - 128 + 128 * m) / 128 = m by omega]
          refine ⟨f (p + i) - 128 + 128 * m, ?_, ?_, ?_, fun _ => by omega⟩
          · rw [e1, e7, Nat.add_mul, Nat.mul_comm 128 m, Nat.mul_assoc, ← Nat.add_assoc]
          · rw [e2, hL, List.length_cons]; omega
          · rw [hL]
            exact LiesAt.cons rfl (by rw [Nat.add_assoc]; exact e3)
theorem numR_read {f : Nat → Nat} {L p : Nat} (hf : ∀ j, p ≤ j → j < L → f j < 256) (h : (numR f L p).code = 0) :
    (numR f L p).to = p + (uintL (numR f L p).v).length ∧ LiesAt f p (uintL (numR f L p).v) := by
  obtain ⟨m, e1, e2, e3, _⟩ := numGo_read (f := f) (L := L) (p := p) 10 0 0 (by omega) hf h
  have : (numR f L p).v = m := by
    have := e1
    simp at this
    exact this
  rw [this]
  exact ⟨by show (numGo f L p 10 0 0).to = _; simpa using e2, by simpa using e3⟩

/-- A whole number, folded. -/
def foldN (i : Int) : Nat := if i < 0 then (-2 * i - 1).toNat else (2 * i).toNat
theorem unf_fold (i : Int) : unfN (foldN i) = i := by
  unfold foldN unfN
  split
  · rw [if_pos (by omega)]; omega
  · rw [if_neg (by omega)]; omega
theorem fold_unf (u : Nat) : foldN (unfN u) = u := by
  unfold unfN
  split
  · unfold foldN; rw [if_pos (by omega)]; omega
  · unfold foldN; rw [if_neg (by omega)]; omega
theorem foldN_lt {i : Int} (h1 : -9223372036854775808 ≤ i) (h2 : i ≤ 9223372036854775807) : foldN i < 18446744073709551616 := by
  unfold foldN
  split <;> omega
theorem foldN_inj {i k : Int} (h : foldN i = foldN k) : i = k := by rw [← unf_fold i, h, unf_fold]

/-- One of two numbers' bytes begin with the other's: they are the same. -/
theorem uintL_free {a b : Nat} (ha : a < 18446744073709551616) (hb : b < 18446744073709551616) {m n : List Nat} (h : uintL a ++ m = uintL b ++ n) : a = b ∧ m = n := by
  have h1 := numR_wrote (f := fun j => (uintL a ++ m).getD j 0) (L := (uintL a ++ m).length) (p := 0) ha (LiesAt.left (m := m) (fun j _ => by simp)) (by simp)
  have h2 := numR_wrote (f := fun j => (uintL a ++ m).getD j 0) (L := (uintL a ++ m).length) (p := 0) hb (LiesAt.left (m := n) (fun j _ => by rw [h]; simp)) (by rw [h]; simp)
  rw [h1] at h2
  injection h2 with h2 _ _
  subst h2
  exact ⟨rfl, List.append_cancel_left h⟩
end Go.Proofs.Ytnhghofkdiojaaa
