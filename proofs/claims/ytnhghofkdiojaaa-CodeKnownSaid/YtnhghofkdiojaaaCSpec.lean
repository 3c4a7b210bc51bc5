/- Plain: what bytes say as a whole number, a text, a complex number. -/
import Derived.Test.YtnhghofkdiojaaaCNum
namespace Go.Proofs.Ytnhghofkdiojaaa
open Go.RowKit

/-- The whole number of which u is the folded one. -/
def unfN (u : Nat) : Int := if u % 2 = 1 then -((u / 2 : Nat) : Int) - 1 else ((u / 2 : Nat) : Int)
/-- Bytes from a place on, as a text. -/
def textL (f : Nat → Nat) (p n : Nat) : List UInt8 := (List.range n).map fun j => (f (p + j)).toUInt8
def textB (f : Nat → Nat) (p n : Nat) : ByteArray := ⟨(textL f p n).toArray⟩
theorem textL_length (f : Nat → Nat) (p n : Nat) : (textL f p n).length = n := by simp [textL]
theorem textB_size (f : Nat → Nat) (p n : Nat) : (textB f p n).size = n := by
  show (textL f p n).toArray.size = n
  simp [textL]

/-- What is told of a text: its place and error; the text is that of so many bytes from a place on. -/
def textTo (L : Nat) (r : Rn) : Nat := if r.code = 0 then (if L - r.to < r.v then L else r.to + r.v) else r.to
def textCode (L : Nat) (r : Rn) : Nat := if r.code = 0 then (if L - r.to < r.v then 4 else 0) else r.code

/-- k bytes from p on, those of most worth first. -/
def be (f : Nat → Nat) (p : Nat) : Nat → Nat
  | 0 => 0
  | k + 1 => be f p k * 256 + f (p + k)
theorem be_lt {f : Nat → Nat} {p : Nat} : ∀ k, (∀ j, j < k → f (p + j) < 256) → be f p k < 256 ^ k
  | 0, _ => by show 0 < 256 ^ 0; decide
  | k + 1, h => by
    have h1 := be_lt (f := f) (p := p) k (fun j hj => h j (by omega))
    have h2 := h k (by omega)
    unfold be
    rw [Nat.pow_succ]
    have h3 : be f p k + 1 ≤ 256 ^ k := h1
    have := Nat.mul_le_mul_right 256 h3
    omega
theorem be_lt8 {f : Nat → Nat} {p k : Nat} (hk : k ≤ 8) (h : ∀ j, j < k → f (p + j) < 256) : be f p k < 18446744073709551616 := by
  have h1 := be_lt (f := f) (p := p) k h
  have h2 : 256 ^ k ≤ 256 ^ 8 := Nat.pow_le_pow_right (by omega) hk
  have e : (256 : Nat) ^ 8 = 18446744073709551616 := by decide
  omega
theorem be_lt7 {f : Nat → Nat} {p k : Nat} (hk : k ≤ 7) (h : ∀ j, j < k → f (p + j) < 256) : be f p k < 72057594037927936 := by
  have h1 := be_lt (f := f) (p := p) k h
  have h2 : 256 ^ k ≤ 256 ^ 7 := Nat.pow_le_pow_right (by omega) hk
  have e : (256 : Nat) ^ 7 = 72057594037927936 := by decide
  omega

/-- A complex number's place and error, so many bytes there are, be it fine or not. -/
def numTo (L p : Nat) (fine : Bool) : Nat := if L < p + 16 then L else if fine then p + 16 else p
def numCode (L p : Nat) (fine : Bool) : Nat := if L < p + 16 then 4 else if fine then 0 else 20
end Go.Proofs.Ytnhghofkdiojaaa
