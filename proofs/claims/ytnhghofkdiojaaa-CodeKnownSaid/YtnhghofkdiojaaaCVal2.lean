/- Plain: what bytes say as a value: node by node, from the beginning on. -/
import Derived.Test.YtnhghofkdiojaaaNode3
namespace Go.Proofs.Ytnhghofkdiojaaa
open Go.RowKit

structure Vr where
  d : List Nd
  to : Nat
  code : Nat

/-- What is read: d are the nodes so far, of that size, left values must still come. -/
def valGo (f : Nat → Nat) (L : Nat) : Nat → Nat → List Nd → Nat → Nat → Vr
  | 0, _, _, _, _ => ⟨[], L, 4⟩
  | k + 1, p, d, size, left =>
    if left = 0 then ⟨d, p, 0⟩
    else if L ≤ p then ⟨[], L, 4⟩
    else if d.length = 1024 ∨ size = 4096 then ⟨[], p, 2⟩
    else if (nodeR f L (p + 1) (f p) (4095 - size)).code = 0 then
      valGo f L k (nodeR f L (p + 1) (f p) (4095 - size)).to (d ++ [(nodeR f L (p + 1) (f p) (4095 - size)).nd]) (size + 1 + (nodeR f L (p + 1) (f p) (4095 - size)).nd.s.size) (left - 1 + (nodeR f L (p + 1) (f p) (4095 - size)).nd.kids)
    else ⟨[], (nodeR f L (p + 1) (f p) (4095 - size)).to, (nodeR f L (p + 1) (f p) (4095 - size)).code⟩
def valR (f : Nat → Nat) (L : Nat) : Vr := valGo f L (L + 2) 0 [] 0 1

/-- So far: what is read is what is read from there on. -/
structure ValAt (f : Nat → Nat) (L p : Nat) (d : List Nd) (size left : Nat) : Prop where
  go : ∃ k, L + 2 ≤ k + p ∧ valR f L = valGo f L k p d size left
  len : d.length ≤ 1024
  sz : size ≤ 4096
  lf : left ≤ 1 + 1024 * d.length
  le : p ≤ L

/-- A node that was read. -/
theorem nodeR_range {f : Nat → Nat} {L p k room : Nat} (hp : p ≤ L) (hf : ∀ j, p ≤ j → j < L → f j < 256) :
    (nodeR f L p k room).to ≤ L ∧ ((nodeR f L p k room).code = 0 → p ≤ (nodeR f L p k room).to ∧ (nodeR f L p k room).nd.kids ≤ 1024 ∧ (nodeR f L p k room).nd.s.size ≤ room) := by
  have hr := numR_range hp hf
  rcases (show k = 0 ∨ k = 1 ∨ k = 2 ∨ k = 3 ∨ k = 4 ∨ k = 5 ∨ 5 < k by omega) with rfl | rfl | rfl | rfl | rfl | rfl | hk
  · exact ⟨hp, fun _ => ⟨Nat.le_refl _, by show 0 ≤ 1024; omega, by show 0 ≤ room; omega⟩⟩
  · obtain ⟨q1, q2, q3⟩ := nodeR_1 (f := f) (L := L) (p := p) (room := room)
    refine ⟨?_, fun h => ?_⟩
    · rw [q1]; unfold bitTo; split; omega; split <;> omega
    · rw [q2] at h
      rw [q1, q3 h]
      refine ⟨?_, by show 0 ≤ 1024; omega, by show 0 ≤ room; omega⟩
      unfold bitTo; split; omega; split <;> omega
  · rw [nodeR_2]
    refine ⟨hr.2.1, fun h => ⟨?_, by show 0 ≤ 1024; omega, by show 0 ≤ room; omega⟩⟩
    rcases hr.2.2 with h1 | h1 | h1
    · exact Nat.le_of_lt h1.2
    · have : (numR f L p).code = 0 := h; omega
    · have : (numR f L p).code = 0 := h; omega
  · rw [nodeR_3]
    by_cases hc : mostCode room (numR f L p) = 0
    · rw [if_pos hc]
      have hcode : (numR f L p).code = 0 := by
        unfold mostCode at hc
        by_cases h1 : (numR f L p).code = 0
        · exact h1
        · rw [if_neg h1] at hc; exact hc
      have hv : (numR f L p).v ≤ room := by
        unfold mostCode at hc; rw [if_pos hcode] at hc
        by_cases h1 : room < (numR f L p).v
        · rw [if_pos h1] at hc; cases hc
        · omega
      have ht := hr.2.1
      have hlt : p < (numR f L p).to := by
        rcases hr.2.2 with h1 | h1 | h1
        · exact h1.2
        · omega
        · omega
      refine ⟨?_, fun _ => ⟨?_, by show 0 ≤ 1024; omega, ?_⟩⟩
      · show textTo L (numR f L p) ≤ L
        unfold textTo; rw [if_pos hcode]; split <;> omega
      · show p ≤ textTo L (numR f L p)
        unfold textTo; rw [if_pos hcode]; split <;> omega
      · show (textB f (numR f L p).to (numR f L p).v).size ≤ room
        rw [textB_size]; exact hv
    · rw [if_neg hc]
      refine ⟨?_, fun h => absurd h hc⟩
      show mostTo p room (numR f L p) ≤ L
      have ht := hr.2.1
      unfold mostTo; split
      · split <;> omega
      · omega
  · rw [nodeR_4]
    refine ⟨?_, fun h => ⟨?_, by show 0 ≤ 1024; omega, by show 0 ≤ room; omega⟩⟩
    · show numTo L p _ ≤ L
      unfold numTo; split; omega; split <;> omega
    · show p ≤ numTo L p _
      unfold numTo; split; omega; split <;> omega
  · obtain ⟨q1, q2, q3⟩ := nodeR_5 (f := f) (L := L) (p := p) (room := room)
    have ht := hr.2.1
    refine ⟨?_, fun h => ?_⟩
    · rw [q1]; unfold mostTo; split
      · split <;> omega
      · omega
    · rw [q2] at h
      have hcode : (numR f L p).code = 0 := by
        unfold mostCode at h
        by_cases h1 : (numR f L p).code = 0
        · exact h1
        · rw [if_neg h1] at h; exact h
      have hv : (numR f L p).v ≤ 1024 := by
        have h' := h
        unfold mostCode at h'; rw [if_pos hcode] at h'
        by_cases h1 : 1024 < (numR f L p).v
        · rw [if_pos h1] at h'; cases h'
        · omega
      have hlt : p < (numR f L p).to := by
        rcases hr.2.2 with h1 | h1 | h1
        · exact h1.2
        · omega
        · omega
      rw [q1, q3 h]
      refine ⟨?_, hv, by show 0 ≤ room; omega⟩
      unfold mostTo; rw [if_pos hcode]; split <;> omega
  · rw [nodeR_x hk]
    exact ⟨by show p - 1 ≤ L; omega, fun h => by cases h⟩

section
variable {f : Nat → Nat} {L p size left : Nat} {d : List Nd}
theorem ValAt.start (f : Nat → Nat) (L : Nat) : ValAt f L 0 [] 0 1 := ⟨⟨L + 2, by omega, rfl⟩, by simp, by omega, by simp, by omega⟩
theorem ValAt.unfold (h : ValAt f L p d size left) : ∃ k, L + 1 ≤ k + p ∧ valR f L = if left = 0 then ⟨d, p, 0⟩
    else if L ≤ p then ⟨[], L, 4⟩
    else if d.length = 1024 ∨ size = 4096 then ⟨[], p, 2⟩
    else if (nodeR f L (p + 1) (f p) (4095 - size)).code = 0 then
      valGo f L k (nodeR f L (p + 1) (f p) (4095 - size)).to (d ++ [(nodeR f L (p + 1) (f p) (4095 - size)).nd]) (size + 1 + (nodeR f L (p + 1) (f p) (4095 - size)).nd.s.size) (left - 1 + (nodeR f L (p + 1) (f p) (4095 - size)).nd.kids)
    else ⟨[], (nodeR f L (p + 1) (f p) (4095 - size)).to, (nodeR f L (p + 1) (f p) (4095 - size)).code⟩ := by
  obtain ⟨k, hk, hg⟩ := h.go
  have := h.le
  match k, hk, hg with
  | 0, hk, _ => omega
  | k + 1, hk, hg => exact ⟨k, by omega, hg⟩
theorem ValAt.done (h : ValAt f L p d size 0) : valR f L = ⟨d, p, 0⟩ := by
  obtain ⟨k, _, e⟩ := h.unfold
  rw [e, if_pos rfl]
theorem ValAt.short (h : ValAt f L p d size left) (hl : left ≠ 0) (hp : L ≤ p) : valR f L = ⟨[], L, 4⟩ := by
  obtain ⟨k, _, e⟩ := h.unfold
  rw [e, if_neg hl, if_pos hp]
theorem ValAt.many (h : ValAt f L p d size left) (hl : left ≠ 0) (hp : p < L) (hm : d.length = 1024 ∨ size = 4096) : valR f L = ⟨[], p, 2⟩ := by
  obtain ⟨k, _, e⟩ := h.unfold
  rw [e, if_neg hl, if_neg (by omega), if_pos hm]
theorem ValAt.bad (h : ValAt f L p d size left) (hl : left ≠ 0) (hp : p < L) (hm : ¬ (d.length = 1024 ∨ size = 4096)) {r : Rv} (hr : nodeR f L (p + 1) (f p) (4095 - size) = r) (hc : r.code ≠ 0) : valR f L = ⟨[], r.to, r.code⟩ := by
  obtain ⟨k, _, e⟩ := h.unfold
  rw [e, if_neg hl, if_neg (by omega), if_neg hm, hr, if_neg hc]
theorem ValAt.next (h : ValAt f L p d size left) (hf : ∀ j, j < L → f j < 256) (hl : left ≠ 0) (hp : p < L) (hm : ¬ (d.length = 1024 ∨ size = 4096)) {r : Rv} (hr : nodeR f L (p + 1) (f p) (4095 - size) = r) (hc : r.code = 0) :
    ValAt f L r.to (d ++ [r.nd]) (size + 1 + r.nd.s.size) (left - 1 + r.nd.kids) := by
  obtain ⟨k, hk, e⟩ := h.unfold
  have hR := nodeR_range (f := f) (L := L) (p := p + 1) (k := f p) (room := 4095 - size) (by omega) (fun j _ hj => hf j hj)
  rw [hr] at hR
  obtain ⟨h1, h2, h3⟩ := hR.2 hc
  have hlen := h.len
  have hsz := h.sz
  have hlf := h.lf
  refine ⟨⟨k, by omega, ?_⟩, ?_, by omega, ?_, hR.1⟩
  · rw [e, if_neg hl, if_neg (by omega), if_neg hm, hr, if_pos hc]
  · simp; omega
  · simp; omega
end
end Go.Proofs.Ytnhghofkdiojaaa
