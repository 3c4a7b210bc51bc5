/- Plain: frames of which bits were turned (layer 6). No program stands in it. -/
import Derived.Test.YtbcmmpdakeemdaaFrm
namespace Go.Proofs.Ytbcmmpdakeemdaa.Crc

theorem xor_byte (x y : Nat) : (x ^^^ y) % 256 = x % 256 ^^^ y % 256 ∧ (x ^^^ y) / 256 = x / 256 ^^^ y / 256 := by
  constructor
  · apply Nat.eq_of_testBit_eq
    intro i
    rw [show (256 : Nat) = 2 ^ 8 by rfl]
    simp only [Nat.testBit_mod_two_pow, Nat.testBit_xor]
    by_cases h : i < 8 <;> simp [h]
  · apply Nat.eq_of_testBit_eq
    intro i
    rw [show (256 : Nat) = 2 ^ 8 by rfl]
    simp only [Nat.testBit_div_two_pow, Nat.testBit_xor]
theorem le_xor : ∀ (k S T : Nat), le k (S ^^^ T) = turn (le k S) (le k T)
  | 0, _, _ => rfl
  | k + 1, S, T => by
    show (S ^^^ T) % 256 :: le k ((S ^^^ T) / 256) = (S % 256 ^^^ T % 256) :: turn (le k (S / 256)) (le k (T / 256))
    rw [(xor_byte S T).1, (xor_byte S T).2, le_xor k]
theorem turn_length : ∀ (l m : List Nat), (turn l m).length = l.length
  | [], _ => by simp [turn]
  | _ :: _, [] => by simp [turn]
  | b :: l, e :: m => by show (turn l m).length + 1 = l.length + 1; rw [turn_length l m]
/-- Turned bits that lie within 32: the four bytes of the sum are not the turned bytes' sum. -/
theorem caught {b : List Nat} {m fr : Nat} (hm : m < 4294967296) (h0 : m ≠ 0) :
    sum b ^^^ m * 2 ^ fr / 256 ^ b.length ≠ sum (turn b (le b.length (m * 2 ^ fr))) := by
  intro h
  rw [sum_turn b _ (by rw [le_length])] at h
  have h1 : m * 2 ^ fr / 256 ^ b.length = run 0 (le b.length (m * 2 ^ fr)) := by
    have := congrArg (sum b ^^^ ·) h
    simpa [← Nat.xor_assoc] using this
  exact burst hm h0 h1.symm
/-- A frame of which bits of the body and the last four bytes were turned. -/
def bodyTurned (b : List Nat) (M : Nat) : List Nat := le 4 b.length ++ (le 4 (sum (le 4 b.length)) ++ (turn b (le b.length M) ++ le 4 (sum b ^^^ M / 256 ^ b.length)))
theorem read_turned {b : List Nat} {m fr : Nat} (hb : ∀ x ∈ b, x < 256) (hl : b.length ≤ 65536) (hm : m < 4294967296) (h0 : m ≠ 0) (hM : m * 2 ^ fr / 256 ^ b.length < 4294967296) :
    readL (bodyTurned b (m * 2 ^ fr)) = ⟨[], 8 + b.length, 8⟩ := by
  have hc := caught (b := b) (fr := fr) hm h0
  have hs := sum_lt hb
  have hs4 := sum_lt (le_byte 4 b.length)
  have hx : sum b ^^^ m * 2 ^ fr / 256 ^ b.length < 4294967296 := Nat.xor_lt_two_pow (n := 32) hs hM
  have hlt := turn_length b (le b.length (m * 2 ^ fr))
  unfold bodyTurned
  generalize sum b ^^^ m * 2 ^ fr / 256 ^ b.length = t at hc hx
  generalize turn b (le b.length (m * 2 ^ fr)) = c at hc hlt
  generalize hF : le 4 b.length ++ (le 4 (sum (le 4 b.length)) ++ (c ++ le 4 t)) = F
  have hlen : F.length = b.length + 12 := by rw [← hF]; simp only [List.length_append, le_length]; omega
  have hn : num4 F = b.length := by rw [← hF]; exact num4_le (by omega) _
  have h4 : F.take 4 = le 4 b.length := by
    have := List.take_left (l₁ := le 4 b.length) (l₂ := le 4 (sum (le 4 b.length)) ++ (c ++ le 4 t))
    rw [le_length, hF] at this; exact this
  have d4 : F.drop 4 = le 4 (sum (le 4 b.length)) ++ (c ++ le 4 t) := by
    have := List.drop_left (l₁ := le 4 b.length) (l₂ := le 4 (sum (le 4 b.length)) ++ (c ++ le 4 t))
    rw [le_length, hF] at this; exact this
  have d8 : F.drop 8 = c ++ le 4 t := by
    have h1 : F.drop 8 = (F.drop 4).drop 4 := by rw [List.drop_drop]
    have := List.drop_left (l₁ := le 4 (sum (le 4 b.length))) (l₂ := c ++ le 4 t)
    rw [le_length] at this
    rw [h1, d4, this]
  have dn : F.drop (8 + b.length) = le 4 t := by
    have h1 : F.drop (8 + b.length) = (F.drop 8).drop b.length := by rw [List.drop_drop]
    rw [h1, d8, ← hlt, List.drop_left]
  have et : num4 (le 4 t) = t := by have := num4_le hx []; rwa [List.append_nil] at this
  unfold readL
  rw [if_neg (by omega), hn, h4, d4, d8, dn, num4_le hs4, if_neg (by simp), if_neg (by omega), if_neg (by omega), et, show (c ++ le 4 t).take b.length = c by rw [← hlt, List.take_left], if_pos hc]
/-- A frame of which bits of the first eight bytes were turned. -/
theorem read_head_turned {n m fr : Nat} (rest : List Nat) (hm : m < 4294967296) (h0 : m ≠ 0) (hM : m * 2 ^ fr / 256 ^ 4 < 4294967296) :
    readL (turn (le 4 n) (le 4 (m * 2 ^ fr)) ++ (le 4 (sum (le 4 n) ^^^ m * 2 ^ fr / 256 ^ 4) ++ rest)) = ⟨[], 4, 8⟩ := by
  have hc := caught (b := le 4 n) (fr := fr) hm h0
  rw [le_length] at hc
  have hs4 := sum_lt (le_byte 4 n)
  have hx : sum (le 4 n) ^^^ m * 2 ^ fr / 256 ^ 4 < 4294967296 := Nat.xor_lt_two_pow (n := 32) hs4 hM
  have hlt : (turn (le 4 n) (le 4 (m * 2 ^ fr))).length = 4 := by rw [turn_length, le_length]
  generalize sum (le 4 n) ^^^ m * 2 ^ fr / 256 ^ 4 = t at hc hx
  generalize turn (le 4 n) (le 4 (m * 2 ^ fr)) = c at hc hlt
  have h4 : (c ++ (le 4 t ++ rest)).take 4 = c := by rw [← hlt, List.take_left]
  have d4 : (c ++ (le 4 t ++ rest)).drop 4 = le 4 t ++ rest := by rw [← hlt, List.drop_left]
  unfold readL
  rw [if_neg (by simp only [List.length_append, le_length, hlt]; omega), h4, d4, num4_le hx, if_pos hc]
end Go.Proofs.Ytbcmmpdakeemdaa.Crc
