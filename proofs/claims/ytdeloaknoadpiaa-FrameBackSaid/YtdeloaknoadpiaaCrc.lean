/- Plain: the sum of 32 bits (layer 6), bit by bit on natural numbers: by a table, of bytes with bits turned, of bits within 32. No program stands in it. -/
import Derived.WalkKit
namespace Go.Proofs.Ytdeloaknoadpiaa.Crc

/-- One bit's step of the sum. -/
def stp (c : Nat) : Nat := if c % 2 = 1 then (c / 2) ^^^ 3988292384 else c / 2
theorem xor_half (x y : Nat) : (x ^^^ y) / 2 = x / 2 ^^^ y / 2 := by
  apply Nat.eq_of_testBit_eq
  intro i
  simp [Nat.testBit_div_two]
theorem xor_odd (x y : Nat) : (x ^^^ y) % 2 = (x + y) % 2 := by
  have h := Nat.testBit_xor x y 0
  simp only [Nat.testBit_zero] at h
  have h2 : ((x ^^^ y) % 2 = 1) ↔ ¬ (x % 2 = 1 ↔ y % 2 = 1) := by
    rcases Nat.mod_two_eq_zero_or_one x with hx | hx <;> rcases Nat.mod_two_eq_zero_or_one y with hy | hy <;> rw [hx, hy] at h <;> rw [hx, hy] <;> rcases Nat.mod_two_eq_zero_or_one (x ^^^ y) with hz | hz <;> rw [hz] at h ⊢ <;> revert h <;> decide
  omega
theorem xor_swap (a b c d : Nat) : (a ^^^ b) ^^^ (c ^^^ d) = (a ^^^ c) ^^^ (b ^^^ d) := by
  apply Nat.eq_of_testBit_eq
  intro i
  simp only [Nat.testBit_xor]
  cases a.testBit i <;> cases b.testBit i <;> cases c.testBit i <;> cases d.testBit i <;> rfl
theorem stp_xor (x y : Nat) : stp (x ^^^ y) = stp x ^^^ stp y := by
  unfold stp
  rw [xor_odd, xor_half]
  rcases Nat.mod_two_eq_zero_or_one x with hx | hx <;> rcases Nat.mod_two_eq_zero_or_one y with hy | hy
  · rw [if_neg (by omega), if_neg (by omega), if_neg (by omega)]
  · rw [if_pos (by omega), if_neg (by omega), if_pos (by omega), Nat.xor_assoc]
  · rw [if_pos (by omega), if_pos (by omega), if_neg (by omega), Nat.xor_assoc, Nat.xor_comm (y / 2), ← Nat.xor_assoc]
  · rw [if_neg (by omega), if_pos (by omega), if_pos (by omega), xor_swap, Nat.xor_self, Nat.xor_zero]
theorem stp_lt {c : Nat} (h : c < 4294967296) : stp c < 4294967296 := by
  unfold stp
  split
  · exact Nat.xor_lt_two_pow (n := 32) (by omega) (by omega)
  · omega
theorem stp_nil {c : Nat} (h : c < 4294967296) (h0 : stp c = 0) : c = 0 := by
  unfold stp at h0
  split at h0
  · have : c / 2 = 3988292384 := by
      have := congrArg (· ^^^ 3988292384) h0
      simpa [Nat.xor_assoc] using this
    omega
  · omega

/-- k such steps. -/
def stps : Nat → Nat → Nat
  | 0, c => c
  | k + 1, c => stps k (stp c)
theorem stps_add : ∀ (j k c : Nat), stps (j + k) c = stps k (stps j c)
  | 0, k, c => by rw [Nat.zero_add]; rfl
  | j + 1, k, c => by rw [show j + 1 + k = (j + k) + 1 by omega]; exact stps_add j k (stp c)
theorem stps_xor : ∀ (k x y : Nat), stps k (x ^^^ y) = stps k x ^^^ stps k y
  | 0, _, _ => rfl
  | k + 1, x, y => by show stps k (stp (x ^^^ y)) = _; rw [stp_xor]; exact stps_xor k _ _
theorem stps_lt : ∀ (k : Nat) {c : Nat}, c < 4294967296 → stps k c < 4294967296
  | 0, _, h => h
  | k + 1, _, h => stps_lt k (stp_lt h)
theorem stps_nil : ∀ (k : Nat) {c : Nat}, c < 4294967296 → stps k c = 0 → c = 0
  | 0, _, _, h0 => h0
  | k + 1, _, h, h0 => stp_nil h (stps_nil k (stp_lt h) h0)
theorem stps_zero : ∀ k, stps k 0 = 0
  | 0 => rfl
  | k + 1 => stps_zero k
theorem stps_high : ∀ (k t : Nat), stps k (t * 2 ^ k) = t
  | 0, t => by simp [stps]
  | k + 1, t => by
    show stps k (stp (t * 2 ^ (k + 1))) = t
    have e : t * 2 ^ (k + 1) = (t * 2 ^ k) * 2 := by rw [Nat.pow_succ, ← Nat.mul_assoc]
    have : stp (t * 2 ^ (k + 1)) = t * 2 ^ k := by
      unfold stp
      rw [e, if_neg (by omega), Nat.mul_div_cancel _ (by omega)]
    rw [this]
    exact stps_high k t
theorem split_xor (c k : Nat) : c = c % 2 ^ k ^^^ (c / 2 ^ k) * 2 ^ k := by
  apply Nat.eq_of_testBit_eq
  intro i
  rw [Nat.testBit_xor, Nat.testBit_mod_two_pow, Nat.mul_comm, Nat.testBit_two_pow_mul, Nat.testBit_div_two_pow]
  by_cases h : i < k
  · have : ¬ k ≤ i := by omega
    simp [h, this]
  · have h2 : k ≤ i := by omega
    have h3 : k + (i - k) = i ∧ i - k + k = i := by omega
    simp [h, h2, h3]
/-- By a table: the eight bits of least worth alone are looked up. -/
theorem stps8 (c : Nat) : stps 8 c = stps 8 (c % 256) ^^^ (c / 256) := by
  have h := split_xor c 8
  conv => lhs; rw [h]
  rw [stps_xor, stps_high]
theorem stps_split (k c : Nat) : stps k c = stps k (c % 2 ^ k) ^^^ (c / 2 ^ k) := by
  have h := split_xor c k
  conv => lhs; rw [h]
  rw [stps_xor, stps_high]

theorem stps8x (c M : Nat) : stps 8 (c ^^^ M) = stps 8 (c ^^^ M % 256) ^^^ (M / 256) := by
  have h := split_xor M 8
  have h2 := stps_high 8 (M / 2 ^ 8)
  generalize hx : M % 2 ^ 8 = x at h
  generalize hy : M / 2 ^ 8 = y at h h2
  rw [h, ← Nat.xor_assoc, stps_xor 8 (c ^^^ x), h2]

/-- The sum of bytes from a beginning on, without the last turn. -/
def run (c : Nat) : List Nat → Nat
  | [] => c
  | b :: l => run (stps 8 (c ^^^ b)) l
def sum (l : List Nat) : Nat := run 4294967295 l ^^^ 4294967295
theorem run_append : ∀ (l m : List Nat) (c : Nat), run c (l ++ m) = run (run c l) m
  | [], _, _ => rfl
  | _ :: l, m, _ => run_append l m _
theorem run_lt : ∀ (l : List Nat) {c : Nat}, c < 4294967296 → (∀ b ∈ l, b < 256) → run c l < 4294967296
  | [], _, h, _ => h
  | b :: l, c, h, hb => run_lt l (stps_lt 8 (Nat.xor_lt_two_pow (n := 32) h (by have := hb b (by simp); omega))) (fun x hx => hb x (by simp [hx]))
theorem sum_lt {l : List Nat} (h : ∀ b ∈ l, b < 256) : sum l < 4294967296 := Nat.xor_lt_two_pow (n := 32) (run_lt l (by omega) h) (by omega)

/-- The bytes of a number, as many as are told, those of least worth first. -/
def le : Nat → Nat → List Nat
  | 0, _ => []
  | n + 1, M => M % 256 :: le n (M / 256)
theorem le_length : ∀ n M, (le n M).length = n
  | 0, _ => rfl
  | n + 1, M => by show (le n (M / 256)).length + 1 = n + 1; rw [le_length n]
theorem le_byte : ∀ n M, ∀ b ∈ le n M, b < 256
  | 0, _, b, h => by simp [le] at h
  | n + 1, M, b, h => by
    simp only [le, List.mem_cons] at h
    rcases h with rfl | h
    · omega
    · exact le_byte n _ b h
/-- Bytes, and what stands behind them, as steps on one great number. -/
theorem run_le (n c M : Nat) : run c (le n M) ^^^ (M / 256 ^ n) = stps (8 * n) (c ^^^ M) := by
  induction n generalizing c M with
  | zero => rw [Nat.pow_zero, Nat.div_one]; rfl
  | succ n ih =>
    have h := ih (stps 8 (c ^^^ M % 256)) (M / 256)
    have e1 : M / 256 ^ (n + 1) = M / 256 / 256 ^ n := by rw [Nat.div_div_eq_div_mul, Nat.pow_succ, Nat.mul_comm]
    have e2 : stps (8 * (n + 1)) (c ^^^ M) = stps (8 * n) (stps 8 (c ^^^ M)) := by rw [show 8 * (n + 1) = 8 + 8 * n by omega, stps_add]
    rw [e1, e2, stps8x]
    exact h

/-- Bytes with bits turned. -/
def turn : List Nat → List Nat → List Nat
  | b :: l, e :: m => (b ^^^ e) :: turn l m
  | l, _ => l
theorem run_turn : ∀ (l m : List Nat) (c d : Nat), l.length = m.length → run (c ^^^ d) (turn l m) = run c l ^^^ run d m
  | [], [], _, _, _ => rfl
  | b :: l, e :: m, c, d, h => by
    show run (stps 8 ((c ^^^ d) ^^^ (b ^^^ e))) (turn l m) = run (stps 8 (c ^^^ b)) l ^^^ run (stps 8 (d ^^^ e)) m
    rw [xor_swap, stps_xor]
    exact run_turn l m _ _ (by simpa using h)
  | [], _ :: _, _, _, h => by simp at h
  | _ :: _, [], _, _, h => by simp at h
theorem xor_last (a b c : Nat) : (a ^^^ b) ^^^ c = (a ^^^ c) ^^^ b := by rw [Nat.xor_assoc, Nat.xor_comm b, ← Nat.xor_assoc]
theorem sum_turn (l m : List Nat) (h : l.length = m.length) : sum (turn l m) = sum l ^^^ run 0 m := by
  have key : ∀ K, run K (turn l m) ^^^ K = (run K l ^^^ K) ^^^ run 0 m := fun K => by
    have h1 := run_turn l m K 0 h
    rw [Nat.xor_zero] at h1
    rw [h1, xor_last]
  exact key _

/-- Bits that lie within 32 that follow one another are told: of n bytes and the four of their sum. -/
theorem burst {n fr m : Nat} (hm : m < 4294967296) (h0 : m ≠ 0) : run 0 (le n (m * 2 ^ fr)) ≠ m * 2 ^ fr / 256 ^ n := by
  intro h
  have h1 := run_le n 0 (m * 2 ^ fr)
  rw [h, Nat.xor_self, Nat.zero_xor] at h1
  by_cases hf : fr ≤ 8 * n
  · rw [show 8 * n = fr + (8 * n - fr) by omega, stps_add, stps_high] at h1
    exact h0 (stps_nil _ hm h1.symm)
  · have e : m * 2 ^ fr = (m * 2 ^ (fr - 8 * n)) * 2 ^ (8 * n) := by
      rw [Nat.mul_assoc, ← Nat.pow_add, show fr - 8 * n + 8 * n = fr by omega]
    rw [e, stps_high] at h1
    rcases Nat.mul_eq_zero.1 h1.symm with h2 | h2
    · exact h0 h2
    · have := Nat.two_pow_pos (fr - 8 * n); omega
end Go.Proofs.Ytdeloaknoadpiaa.Crc
