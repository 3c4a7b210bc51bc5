/- Plain: what bytes say as a value, node by node. -/
import Derived.Test.YtnhghofkdiojaaaCLst
import Derived.Test.YtnhghofkdiojaaaRd3
import Derived.Test.YtnhghofkdiojaaaPut
namespace Go.Proofs.Ytnhghofkdiojaaa
open Go.RowKit

/-- A node. -/
structure Nd where
  k : Nat
  kids : Nat
  n : Int
  s : ByteArray
  x : Nat
  y : Nat
def nd0 (k : Nat) : Nd := ⟨k, 0, 0, ⟨#[]⟩, 0, 0⟩
instance : Inhabited Nd := ⟨nd0 0⟩
/-- What is read as a node. -/
structure Rv where
  nd : Nd
  to : Nat
  code : Nat

/-- What stands behind a node's kind k; its text may have room bytes. -/
def nodeR (f : Nat → Nat) (L p k room : Nat) : Rv :=
  if k = 0 then ⟨nd0 0, p, 0⟩
  else if k = 1 then (if L ≤ p then ⟨nd0 1, L, 4⟩ else if 1 < f p then ⟨nd0 1, p, 3⟩ else ⟨⟨1, 0, f p, ⟨#[]⟩, 0, 0⟩, p + 1, 0⟩)
  else if k = 2 then ⟨⟨2, 0, unfN (numR f L p).v, ⟨#[]⟩, 0, 0⟩, (numR f L p).to, (numR f L p).code⟩
  else if k = 3 then (if (numR f L p).code = 0 then (if room < (numR f L p).v then ⟨nd0 3, p, 2⟩ else ⟨⟨3, 0, 0, textB f (numR f L p).to (numR f L p).v, 0, 0⟩, textTo L (numR f L p), textCode L (numR f L p)⟩) else ⟨nd0 3, (numR f L p).to, (numR f L p).code⟩)
  else if k = 4 then ⟨⟨4, 0, 0, ⟨#[]⟩, be f p 8, be f (p + 8) 8⟩, numTo L p (fineB (be f p 8) (be f (p + 8) 8)), numCode L p (fineB (be f p 8) (be f (p + 8) 8))⟩
  else if k = 5 then (if (numR f L p).code = 0 then (if 1024 < (numR f L p).v then ⟨nd0 5, p, 2⟩ else ⟨⟨5, (numR f L p).v, 0, ⟨#[]⟩, 0, 0⟩, (numR f L p).to, 0⟩) else ⟨nd0 5, (numR f L p).to, (numR f L p).code⟩)
  else ⟨nd0 k, p - 1, 3⟩

/-- Is a node right? -/
def RightNd (d : Nd) : Prop :=
  (d.k = 0 ∧ d = nd0 0) ∨ (d.k = 1 ∧ (d = ⟨1, 0, 0, ⟨#[]⟩, 0, 0⟩ ∨ d = ⟨1, 0, 1, ⟨#[]⟩, 0, 0⟩)) ∨ (d.k = 2 ∧ d = ⟨2, 0, d.n, ⟨#[]⟩, 0, 0⟩ ∧ I64 d.n) ∨ (d.k = 3 ∧ d = ⟨3, 0, 0, d.s, 0, 0⟩) ∨
    (d.k = 4 ∧ d = ⟨4, 0, 0, ⟨#[]⟩, d.x, d.y⟩ ∧ fineB d.x d.y = true ∧ d.x < 18446744073709551616 ∧ d.y < 18446744073709551616) ∨ (d.k = 5 ∧ d = ⟨5, d.kids, 0, ⟨#[]⟩, 0, 0⟩)

/-- The eight bytes of a float. -/
def beL (x : Nat) : List Nat := [x / 72057594037927936 % 256, x / 281474976710656 % 256, x / 1099511627776 % 256, x / 4294967296 % 256, x / 16777216 % 256, x / 65536 % 256, x / 256 % 256, x % 256]
theorem beL_byte (x : Nat) : ∀ b ∈ beL x, b < 256 := by
  intro b hb
  simp only [beL, List.mem_cons, List.mem_nil_iff, or_false] at hb
  omega
theorem be_div {f : Nat → Nat} {p k : Nat} : ∀ m, (∀ j, j < k + m → f (p + j) < 256) → be f p (k + m) / 256 ^ m = be f p k
  | 0, _ => by simp
  | m + 1, h => by
    have ih := be_div (f := f) (p := p) (k := k) m (fun j hj => h j (by omega))
    have hl := h (k + m) (by omega)
    show (be f p (k + m) * 256 + f (p + (k + m))) / 256 ^ (m + 1) = _
    rw [Nat.pow_succ, Nat.mul_comm (256 ^ m) 256, ← Nat.div_div_eq_div_mul, show (be f p (k + m) * 256 + f (p + (k + m))) / 256 = be f p (k + m) by omega, ih]
theorem be_byte {f : Nat → Nat} {p k m : Nat} (h : ∀ j, j < k + 1 + m → f (p + j) < 256) : be f p (k + 1 + m) / 256 ^ m % 256 = f (p + k) := by
  rw [be_div m h]
  show (be f p k * 256 + f (p + k)) % 256 = _
  have := h k (by omega)
  omega
theorem be_lies {f : Nat → Nat} {p : Nat} (hf : ∀ j, j < 8 → f (p + j) < 256) : LiesAt f p (beL (be f p 8)) := by
  intro j hj
  have hj8 : j < 8 := hj
  rcases (show j = 0 ∨ j = 1 ∨ j = 2 ∨ j = 3 ∨ j = 4 ∨ j = 5 ∨ j = 6 ∨ j = 7 by omega) with rfl | rfl | rfl | rfl | rfl | rfl | rfl | rfl
  · have h := be_byte (f := f) (p := p) (k := 0) (m := 7) hf
    rw [← h]; rfl
  · have h := be_byte (f := f) (p := p) (k := 1) (m := 6) hf
    rw [← h]; rfl
  · have h := be_byte (f := f) (p := p) (k := 2) (m := 5) hf
    rw [← h]; rfl
  · have h := be_byte (f := f) (p := p) (k := 3) (m := 4) hf
    rw [← h]; rfl
  · have h := be_byte (f := f) (p := p) (k := 4) (m := 3) hf
    rw [← h]; rfl
  · have h := be_byte (f := f) (p := p) (k := 5) (m := 2) hf
    rw [← h]; rfl
  · have h := be_byte (f := f) (p := p) (k := 6) (m := 1) hf
    rw [← h]; rfl
  · have h := be_byte (f := f) (p := p) (k := 7) (m := 0) hf
    rw [← h]
    show be f p 8 / 256 ^ 0 % 256 = be f p 8 % 256
    simp

/-- A node's bytes. -/
def nodeL (d : Nd) : List Nat :=
  d.k :: (if d.k = 1 then [d.n.toNat] else if d.k = 2 then uintL (foldN d.n) else if d.k = 3 then uintL d.s.size ++ strN d.s else if d.k = 4 then beL d.x ++ beL d.y else if d.k = 5 then uintL d.kids else [])
end Go.Proofs.Ytnhghofkdiojaaa
