/- Plain: where trees one behind the other end, cut of RTwigs. No condition. -/
import Derived.Test.YtnghfjlmmmjekaaRPass
namespace Go.Proofs.Ytnghfjlmmmjekaa
open Go.RowKit Go.Shelf

/-- Where so many trees one behind the other end. -/
def endL : List Tw → Nat → Option Nat
  | _, 0 => some 0
  | [], _ + 1 => none
  | x :: r, m + 1 => (endL r (m + x.kids.toNat)).map (· + 1)
theorem endL_zero (ts : List Tw) : endL ts 0 = some 0 := by cases ts <;> rfl
theorem endL_le : ∀ (ts : List Tw) (m n : Nat), endL ts m = some n → n ≤ ts.length
  | ts, 0, n, h => by rw [endL_zero] at h; cases h; exact Nat.zero_le _
  | [], m + 1, n, h => by cases h
  | x :: r, m + 1, n, h => by
    unfold endL at h
    rcases he : endL r (m + x.kids.toNat) with _ | k
    · rw [he] at h; cases h
    · rw [he] at h
      cases h
      have := endL_le r _ _ he
      simp only [List.length_cons]
      omega
end Go.Proofs.Ytnghfjlmmmjekaa
