/- Plain: bits of a frame, turned one by one (layer 6). No program stands in it. -/
import Derived.Test.YtbcmmpdakeemdaaFrm2
namespace Go.Proofs.Ytbcmmpdakeemdaa.Crc

/-- Bytes with the bits of E turned. -/
def turned (l : List Nat) (E : Nat) : List Nat := turn l (le l.length E)
/-- One bit turned. -/
def flip (l : List Nat) (n : Nat) : List Nat := l.set (n / 8) (l.getD (n / 8) 0 ^^^ 2 ^ (n % 8))

theorem turn_zero : ∀ (l : List Nat) (k : Nat), turn l (le k 0) = l
  | [], _ => by simp [turn]
  | _ :: _, 0 => rfl
  | b :: l, k + 1 => by
    show (b ^^^ 0 % 256) :: turn l (le k (0 / 256)) = b :: l
    rw [Nat.zero_mod, Nat.zero_div, Nat.xor_zero, turn_zero l k]
theorem turned_zero (l : List Nat) : turned l 0 = l := turn_zero l _
theorem turned_length (l : List Nat) (E : Nat) : (turned l E).length = l.length := turn_length _ _
theorem turn_turn : ∀ (l a b : List Nat), l.length = a.length → a.length = b.length → turn (turn l a) b = turn l (turn a b)
  | [], _, _, _, _ => by simp [turn]
  | x :: l, [], _, h, _ => by simp at h
  | x :: l, y :: a, [], _, h => by simp at h
  | x :: l, y :: a, z :: b, h1, h2 => by
    show ((x ^^^ y) ^^^ z) :: turn (turn l a) b = (x ^^^ (y ^^^ z)) :: turn l (turn a b)
    rw [Nat.xor_assoc, turn_turn l a b (by simpa using h1) (by simpa using h2)]
theorem turned_turned (l : List Nat) (E D : Nat) : turned (turned l E) D = turned l (E ^^^ D) := by
  unfold turned
  rw [turn_length, turn_turn _ _ _ (by rw [le_length]) (by rw [le_length, le_length]), ← le_xor]
theorem turn_one : ∀ (l : List Nat) (n : Nat), n < 8 * l.length → turn l (le l.length (2 ^ n)) = flip l n
  | [], n, h => by simp at h
  | b :: l, n, h => by
    show (b ^^^ 2 ^ n % 256) :: turn l (le l.length (2 ^ n / 256)) = flip (b :: l) n
    rcases Nat.lt_or_ge n 8 with h8 | h8
    · have h1 : 2 ^ n < 256 := Nat.lt_of_lt_of_le (Nat.pow_lt_pow_right (by omega) h8) (by decide)
      rw [Nat.mod_eq_of_lt h1, Nat.div_eq_of_lt h1, turn_zero]
      unfold flip
      rw [Nat.div_eq_of_lt h8, Nat.mod_eq_of_lt h8]
      rfl
    · obtain ⟨m, rfl⟩ : ∃ m, n = m + 8 := ⟨n - 8, by omega⟩
      have h1 : 2 ^ (m + 8) = 2 ^ m * 256 := by rw [Nat.pow_add]
      rw [h1, Nat.mul_mod_left, Nat.mul_div_cancel _ (by omega), Nat.xor_zero, turn_one l m (by simp at h; omega)]
      unfold flip
      rw [show (m + 8) / 8 = m / 8 + 1 by omega, show (m + 8) % 8 = m % 8 by omega]
      rfl
theorem turned_flip {l : List Nat} {E n : Nat} (h : n < 8 * l.length) : flip (turned l E) n = turned l (E ^^^ 2 ^ n) := by
  rw [← turned_turned, ← turn_one _ _ (by rw [turned_length]; exact h)]
  rfl
theorem flip_one {l : List Nat} {n : Nat} (h : n < 8 * l.length) : flip l n = turned l (2 ^ n) := (turn_one l n h).symm
theorem flip_back {l : List Nat} {n : Nat} (h : n < 8 * l.length) : flip (flip l n) n = l := by
  rw [flip_one h, turned_flip h, Nat.xor_self, turned_zero]

theorem le_split : ∀ (j k E : Nat), le (j + k) E = le j E ++ le k (E / 256 ^ j)
  | 0, k, E => by rw [Nat.zero_add, Nat.pow_zero, Nat.div_one]; rfl
  | j + 1, k, E => by
    rw [show j + 1 + k = (j + k) + 1 by omega]
    show E % 256 :: le (j + k) (E / 256) = E % 256 :: (le j (E / 256) ++ le k (E / 256 ^ (j + 1)))
    rw [le_split j k, Nat.div_div_eq_div_mul, Nat.pow_succ, Nat.mul_comm 256]
theorem turn_append : ∀ (a b c d : List Nat), a.length = c.length → turn (a ++ b) (c ++ d) = turn a c ++ turn b d
  | [], b, [], d, _ => rfl
  | x :: a, b, y :: c, d, h => by
    show (x ^^^ y) :: turn (a ++ b) (c ++ d) = (x ^^^ y) :: (turn a c ++ turn b d)
    rw [turn_append a b c d (by simpa using h)]
  | [], _, _ :: _, _, h => by simp at h
  | _ :: _, _, [], _, h => by simp at h
theorem turned_append (a b : List Nat) (E : Nat) : turned (a ++ b) E = turned a E ++ turned b (E / 256 ^ a.length) := by
  unfold turned
  rw [List.length_append, le_split, turn_append _ _ _ _ (by rw [le_length])]
theorem turned_le (k T E : Nat) : turned (le k T) E = le k (T ^^^ E) := by
  unfold turned
  rw [le_length, le_xor]

theorem le_high : ∀ k X, le k (X * 256 ^ k) = le k 0
  | 0, _ => rfl
  | k + 1, X => by
    show X * 256 ^ (k + 1) % 256 :: le k (X * 256 ^ (k + 1) / 256) = 0 % 256 :: le k (0 / 256)
    have e : X * 256 ^ (k + 1) = (X * 256 ^ k) * 256 := by rw [Nat.pow_succ, ← Nat.mul_assoc]
    rw [e, Nat.mul_mod_left, Nat.mul_div_cancel _ (by omega), Nat.zero_div, le_high k X]
theorem turned_high (k T X : Nat) : turned (le k T) (X * 256 ^ k) = le k T := by
  unfold turned
  rw [le_length, le_high, turn_zero]
/-- Behind the first eight bytes. -/
theorem turned_body (b : List Nat) (M : Nat) : turned (frameL b) (M * 2 ^ 64) = bodyTurned b M := by
  have e0 : M * 2 ^ 64 = M * 256 ^ 4 * 256 ^ 4 := by rw [Nat.mul_assoc, show (256 : Nat) ^ 4 * 256 ^ 4 = 2 ^ 64 by decide]
  have e1 : M * 256 ^ 4 * 256 ^ 4 / 256 ^ 4 = M * 256 ^ 4 := Nat.mul_div_cancel _ (by decide)
  have e2 : M * 256 ^ 4 / 256 ^ 4 = M := Nat.mul_div_cancel _ (by decide)
  unfold frameL bodyTurned
  rw [turned_append, turned_append, turned_append, le_length, le_length, e0, e1, e2, turned_high, turned_high, turned_le]
  rfl

/-- Of a frame one bit turned is told. -/
theorem read_one {b : List Nat} {n : Nat} (hb : ∀ x ∈ b, x < 256) (hl : b.length ≤ 65536) (hn : n < 8 * (b.length + 12)) : (readL (flip (frameL b) n)).code = 8 := by
  rw [flip_one (by rw [frameL_length]; exact hn)]
  rcases Nat.lt_or_ge n 64 with h | h
  · have h1 : turned (frameL b) (2 ^ n) = turned (le 4 b.length) (2 ^ n) ++ (turned (le 4 (sum (le 4 b.length))) (2 ^ n / 256 ^ 4) ++ turned (b ++ le 4 (sum b)) (2 ^ n / 256 ^ 4 / 256 ^ (le 4 (sum (le 4 b.length))).length)) := by
      unfold frameL
      rw [turned_append, turned_append, le_length]
    rw [h1, turned_le 4 (sum (le 4 b.length))]
    have h2 := read_head_turned (n := b.length) (m := 1) (fr := n) (turned (b ++ le 4 (sum b)) (2 ^ n / 256 ^ 4 / 256 ^ (le 4 (sum (le 4 b.length))).length)) (by omega) (by omega) (by
      rw [Nat.one_mul, Nat.div_lt_iff_lt_mul (by decide), show 4294967296 * 256 ^ 4 = 2 ^ 64 by decide]
      exact Nat.pow_lt_pow_right (by omega) h)
    rw [Nat.one_mul] at h2
    have h3 : turned (le 4 b.length) (2 ^ n) = turn (le 4 b.length) (le 4 (2 ^ n)) := by unfold turned; rw [le_length]
    rw [h3, h2]
  · obtain ⟨f, rfl⟩ : ∃ f, n = f + 64 := ⟨n - 64, by omega⟩
    have h2 := read_turned (b := b) (m := 1) (fr := f) hb hl (by omega) (by omega) (by
      rw [Nat.one_mul, Nat.div_lt_iff_lt_mul (Nat.pow_pos (by omega)), show (4294967296 : Nat) = 2 ^ 32 by decide, show (256 : Nat) = 2 ^ 8 by decide, ← Nat.pow_mul, ← Nat.pow_add]
      exact Nat.pow_lt_pow_right (by omega) (by omega))
    rw [Nat.one_mul] at h2
    rw [Nat.pow_add, turned_body, h2]

/-- The first i bits of a mask, from a place on behind the first eight bytes. -/
def bits_ (mask i fr : Nat) : Nat := (mask % 2 ^ i) * 2 ^ fr * 2 ^ 64
theorem bits_next {mask i fr : Nat} (h : mask / 2 ^ i % 2 = 1) : bits_ mask i fr ^^^ 2 ^ (64 + fr + i) = bits_ mask (i + 1) fr := by
  have hm : mask % 2 ^ (i + 1) = 2 ^ i + mask % 2 ^ i := by
    have := Nat.mod_mul (x := mask) (a := 2 ^ i) (b := 2)
    rw [Nat.pow_succ, this, h]; omega
  have hlt : mask % 2 ^ i < 2 ^ i := Nat.mod_lt _ (Nat.two_pow_pos i)
  have hx : mask % 2 ^ i ^^^ 2 ^ i = 2 ^ i + mask % 2 ^ i := by
    apply Nat.eq_of_testBit_eq
    intro j
    rw [Nat.testBit_xor]
    have := Nat.testBit_two_pow_mul_add 1 hlt j
    rw [Nat.mul_one] at this
    rw [this, Nat.testBit_two_pow]
    by_cases hj : j < i
    · rw [if_pos hj]
      have : ¬ i = j := by omega
      simp [this]
    · rw [if_neg hj]
      have h0 : (mask % 2 ^ i).testBit j = false := Nat.testBit_lt_two_pow (Nat.lt_of_lt_of_le hlt (Nat.pow_le_pow_right (by omega) (by omega)))
      rw [h0]
      by_cases he : i = j
      · subst he; simp
      · have h1 : Nat.testBit 1 (j - i) = false := Nat.testBit_lt_two_pow (Nat.one_lt_two_pow (by omega))
        simp [he, h1]
  have hs : ∀ a b k : Nat, a * 2 ^ k ^^^ b * 2 ^ k = (a ^^^ b) * 2 ^ k := fun a b k => by
    rw [← Nat.shiftLeft_eq, ← Nat.shiftLeft_eq, ← Nat.shiftLeft_eq, Nat.shiftLeft_xor_distrib]
  unfold bits_
  rw [show 64 + fr + i = i + fr + 64 by omega, Nat.pow_add, Nat.pow_add, hs, hs, hx, hm]
theorem bits_same {mask i fr : Nat} (h : mask / 2 ^ i % 2 = 0) : bits_ mask i fr = bits_ mask (i + 1) fr := by
  have hm : mask % 2 ^ (i + 1) = mask % 2 ^ i := by
    have := Nat.mod_mul (x := mask) (a := 2 ^ i) (b := 2)
    rw [Nat.pow_succ, this, h]; omega
  unfold bits_
  rw [hm]
theorem bits_zero (mask fr : Nat) : bits_ mask 0 fr = 0 := by
  unfold bits_
  rw [Nat.pow_zero, Nat.mod_one, Nat.zero_mul, Nat.zero_mul]
theorem read_bits {b : List Nat} {mask i fr : Nat} (hb : ∀ x ∈ b, x < 256) (hl : b.length ≤ 65536) (hi : i ≤ 32) (hf : fr + i ≤ 8 * (b.length + 4)) (h0 : mask % 2 ^ i ≠ 0) :
    readL (turned (frameL b) (bits_ mask i fr)) = ⟨[], 8 + b.length, 8⟩ := by
  have hlt : mask % 2 ^ i < 2 ^ i := Nat.mod_lt _ (Nat.two_pow_pos i)
  have h32 : (2 : Nat) ^ i ≤ 2 ^ 32 := Nat.pow_le_pow_right (by omega) hi
  unfold bits_
  rw [turned_body]
  refine read_turned hb hl (by have : (2 : Nat) ^ 32 = 4294967296 := by decide
                               omega) h0 ?_
  rw [Nat.div_lt_iff_lt_mul (Nat.pow_pos (by omega)), show (4294967296 : Nat) = 2 ^ 32 by decide, show (256 : Nat) = 2 ^ 8 by decide, ← Nat.pow_mul, ← Nat.pow_add]
  have h1 : mask % 2 ^ i * 2 ^ fr < 2 ^ i * 2 ^ fr := Nat.mul_lt_mul_of_pos_right hlt (Nat.two_pow_pos fr)
  rw [← Nat.pow_add] at h1
  exact Nat.lt_of_lt_of_le h1 (Nat.pow_le_pow_right (by omega) (by omega))
theorem read_none {b : List Nat} {mask i fr : Nat} (hb : ∀ x ∈ b, x < 256) (hl : b.length ≤ 65536) (h0 : mask % 2 ^ i = 0) : readL (turned (frameL b) (bits_ mask i fr)) = ⟨b, b.length + 12, 0⟩ := by
  unfold bits_
  rw [h0, Nat.zero_mul, Nat.zero_mul, turned_zero, read_frame hb hl]
end Go.Proofs.Ytbcmmpdakeemdaa.Crc
