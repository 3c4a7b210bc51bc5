/- A part of the proof: CNum, CSpec, JSpec. No condition. -/
import Derived.WalkKit
import Derived.Test.YtfajfflbplnagaaDoorQ03
set_option linter.unusedVariables false
set_option linter.unusedSimpArgs false
namespace Go.Proofs.YtfajfflbplnagaaDoor
open Go.RowKit
structure Rn where
 v : Nat
 to : Nat
 code : Nat
def numGo (f : Nat → Nat) (L p : Nat) : Nat → Nat → Nat → Rn
 | 0, _, _ => ⟨0, p, 3⟩
 | k + 1, i, acc =>
   if L ≤ p + i then ⟨0, L, 4⟩
   else if (0 < i ∧ f (p + i) = 0) ∨ (i = 9 ∧ f (p + i) ≠ 1) then ⟨0, p + i, 3⟩
   else if f (p + i) < 128 then ⟨acc + f (p + i) * 2 ^ (7 * i), p + i + 1, 0⟩
   else numGo f L p k (i + 1) (acc + (f (p + i) - 128) * 2 ^ (7 * i))
def numR (f : Nat → Nat) (L p : Nat) : Rn := numGo f L p 10 0 0
def NumAt (f : Nat → Nat) (L p i acc : Nat) : Prop := i ≤ 9 ∧ acc < 2 ^ (7 * i) ∧ numR f L p = numGo f L p (10 - i) i acc
theorem NumAt.start (f : Nat → Nat) (L p : Nat) : NumAt f L p 0 0 := ⟨by omega, by decide, rfl⟩
section
variable {f : Nat → Nat} {L p i acc : Nat}
theorem numGo_unfold (h : i ≤ 9) : numGo f L p (10 - i) i acc = if L ≤ p + i then ⟨0, L, 4⟩
   else if (0 < i ∧ f (p + i) = 0) ∨ (i = 9 ∧ f (p + i) ≠ 1) then ⟨0, p + i, 3⟩
   else if f (p + i) < 128 then ⟨acc + f (p + i) * 2 ^ (7 * i), p + i + 1, 0⟩
   else numGo f L p (9 - i) (i + 1) (acc + (f (p + i) - 128) * 2 ^ (7 * i)) := by
 rw [show 10 - i = (9 - i) + 1 by omega]; rfl
theorem NumAt.short (h : NumAt f L p i acc) (hs : L ≤ p + i) : numR f L p = ⟨0, L, 4⟩ := by
 rw [h.2.2, numGo_unfold h.1, if_pos hs]
theorem NumAt.shape (h : NumAt f L p i acc) (hs : p + i < L) (hb : (0 < i ∧ f (p + i) = 0) ∨ (i = 9 ∧ f (p + i) ≠ 1)) : numR f L p = ⟨0, p + i, 3⟩ := by
 rw [h.2.2, numGo_unfold h.1, if_neg (by omega), if_pos hb]
theorem NumAt.last (h : NumAt f L p i acc) (hs : p + i < L) (hb : ¬ ((0 < i ∧ f (p + i) = 0) ∨ (i = 9 ∧ f (p + i) ≠ 1))) (hl : f (p + i) < 128) : numR f L p = ⟨acc + f (p + i) * 2 ^ (7 * i), p + i + 1, 0⟩ := by
 rw [h.2.2, numGo_unfold h.1, if_neg (by omega), if_neg hb, if_pos hl]
theorem NumAt.next (h : NumAt f L p i acc) (hs : p + i < L) (hb : ¬ ((0 < i ∧ f (p + i) = 0) ∨ (i = 9 ∧ f (p + i) ≠ 1))) (hl : ¬ f (p + i) < 128) (hf : f (p + i) < 256) : NumAt f L p (i + 1) (acc + (f (p + i) - 128) * 2 ^ (7 * i)) := by
 have hi : i ≤ 8 := by
   have := h.1;rcases Nat.lt_or_ge i 9 with h1 | h1
   · omega
   · exfalso; apply hb; right; omega
 refine ⟨by omega, ?_, ?_⟩
 · have h1 : (f (p + i) - 128) * 2 ^ (7 * i) ≤ 127 * 2 ^ (7 * i) := Nat.mul_le_mul_right _ (by omega)
   have h2 : 2 ^ (7 * (i + 1)) = 128 * 2 ^ (7 * i) := by
     rw [show 7 * (i + 1) = 7 * i + 7 by omega, Nat.pow_add]; omega
   have := h.2.1;omega
 · rw [h.2.2, numGo_unfold h.1, if_neg (by omega), if_neg hb, if_neg hl, show 9 - i = 10 - (i + 1) by omega]
theorem NumAt.range (h : NumAt f L p i acc) (hb : ¬ ((0 < i ∧ f (p + i) = 0) ∨ (i = 9 ∧ f (p + i) ≠ 1))) : acc < 2 ^ 63 ∧ (f (p + i) % 128) * 2 ^ (7 * i) < 2 ^ 64 ∧ acc + (f (p + i) % 128) * 2 ^ (7 * i) < 2 ^ 64 := by
 have h0 := h.1;have h1 := h.2.1;have h9 : acc < 2 ^ 63 := Nat.lt_of_lt_of_le h1 (Nat.pow_le_pow_right (by omega) (by omega));by_cases hi : i = 9
 · subst hi
   have : f (p + 9) = 1 := by
     rcases Nat.decEq (f (p + 9)) 1 with h2 | h2
     · exfalso; exact hb (.inr ⟨rfl, h2⟩)
     · exact h2
   rw [this];refine ⟨h9, by decide, ?_⟩;have e : (2 : Nat) ^ 64 = 2 ^ 63 + 2 ^ 63 := by decide
   rw [show 1 % 128 * 2 ^ (7 * 9) = 2 ^ 63 by decide];omega
 · have h2 : (f (p + i) % 128) * 2 ^ (7 * i) ≤ 127 * 2 ^ (7 * i) := Nat.mul_le_mul_right _ (by omega)
   have h3 : 2 ^ (7 * i) ≤ 2 ^ 56 := Nat.pow_le_pow_right (by omega) (by omega);have e : (2 : Nat) ^ 64 = 256 * 2 ^ 56 := by decide
   have e63 : (2 : Nat) ^ 63 = 128 * 2 ^ 56 := by decide
   have e56 : (2 : Nat) ^ 56 = 72057594037927936 := by decide
   refine ⟨h9, by omega, by omega⟩
end
theorem numGo_range {f : Nat → Nat} {L p : Nat} : ∀ k i acc, k + i = 10 → acc < 2 ^ (7 * i) → p ≤ L → (∀ j, p ≤ j → j < L → f j < 256) →
   (numGo f L p k i acc).v < 2 ^ 64 ∧ (numGo f L p k i acc).to ≤ L ∧ ((numGo f L p k i acc).code = 0 ∧ p < (numGo f L p k i acc).to ∨ (numGo f L p k i acc).code = 4 ∧ (numGo f L p k i acc).to = L ∧ (numGo f L p k i acc).v = 0 ∨ (numGo f L p k i acc).code = 3 ∧ ((numGo f L p k i acc).to < L ∨ k = 0) ∧ (numGo f L p k i acc).v = 0)
 | 0, i, acc, _, _, hp, _ => ⟨Nat.two_pow_pos _, hp, .inr (.inr ⟨rfl, .inr rfl, rfl⟩)⟩
 | k + 1, i, acc, hk, ha, hp, hf => by
   unfold numGo;by_cases h1 : L ≤ p + i
   · rw [if_pos h1]; exact ⟨Nat.two_pow_pos _, Nat.le_refl _, .inr (.inl ⟨rfl, rfl, rfl⟩)⟩
   · rw [if_neg h1]
     by_cases h2 : (0 < i ∧ f (p + i) = 0) ∨ (i = 9 ∧ f (p + i) ≠ 1)
     · rw [if_pos h2]; exact ⟨Nat.two_pow_pos _, by simp only; omega, .inr (.inr ⟨rfl, .inl (by simp only; omega), rfl⟩)⟩
     · rw [if_neg h2]
       have hfi := hf (p + i) (by omega) (by omega);by_cases h3 : f (p + i) < 128
       · rw [if_pos h3]
         refine ⟨?_, by simp only; omega, .inl ⟨rfl, by simp only; omega⟩⟩;simp only
         by_cases hi : i = 9
         · subst hi
           have : f (p + 9) = 1 := by
             rcases Nat.decEq (f (p + 9)) 1 with h4 | h4
             · exfalso; exact h2 (.inr ⟨rfl, h4⟩)
             · exact h4
           rw [this];have e : (2 : Nat) ^ 64 = 2 ^ 63 + 2 ^ 63 := by decide
           rw [show 1 * 2 ^ (7 * 9) = 2 ^ 63 by decide];have : (2 : Nat) ^ (7 * 9) = 2 ^ 63 := by decide
           omega
         · have h4 : f (p + i) * 2 ^ (7 * i) ≤ 127 * 2 ^ (7 * i) := Nat.mul_le_mul_right _ (by omega)
           have h5 : 2 ^ (7 * i) ≤ 2 ^ 56 := Nat.pow_le_pow_right (by omega) (by omega);have e : (2 : Nat) ^ 64 = 256 * 2 ^ 56 := by decide
           omega
       · rw [if_neg h3]
         have hi : i ≤ 8 := by
           rcases Nat.lt_or_ge i 9 with h4 | h4
           · omega
           · exfalso; apply h2; right; omega
         have h4 : (f (p + i) - 128) * 2 ^ (7 * i) ≤ 127 * 2 ^ (7 * i) := Nat.mul_le_mul_right _ (by omega);have h5 : 2 ^ (7 * (i + 1)) = 128 * 2 ^ (7 * i) := by
           rw [show 7 * (i + 1) = 7 * i + 7 by omega, Nat.pow_add]; omega
         have ih := numGo_range (f := f) (L := L) (p := p) k (i + 1) (acc + (f (p + i) - 128) * 2 ^ (7 * i)) (by omega) (by omega) hp hf;refine ⟨ih.1, ih.2.1, ?_⟩;rcases ih.2.2 with h | h | ⟨a, b, c⟩
         · exact .inl h
         · exact .inr (.inl h)
         · rcases b with b | b
           · exact .inr (.inr ⟨a, .inl b, c⟩)
           · exfalso; omega
theorem numR_range {f : Nat → Nat} {L p : Nat} (hp : p ≤ L) (hf : ∀ j, p ≤ j → j < L → f j < 256) :
   (numR f L p).v < 18446744073709551616 ∧ (numR f L p).to ≤ L ∧ ((numR f L p).code = 0 ∧ p < (numR f L p).to ∨ (numR f L p).code = 4 ∧ (numR f L p).to = L ∧ (numR f L p).v = 0 ∨ (numR f L p).code = 3 ∧ (numR f L p).to < L ∧ (numR f L p).v = 0) := by
 have h := numGo_range (f := f) (L := L) (p := p) 10 0 0 (by omega) (by decide) hp hf;refine ⟨h.1, h.2.1, ?_⟩;rcases h.2.2 with a | a | ⟨a, b, c⟩
 · exact .inl a
 · exact .inr (.inl a)
 · exact .inr (.inr ⟨a, by rcases b with b | b; exact b; omega, c⟩)
end Go.Proofs.YtfajfflbplnagaaDoor
namespace Go.Proofs.YtfajfflbplnagaaDoor
open Go.RowKit
def unfN (u : Nat) : Int := if u % 2 = 1 then -((u / 2 : Nat) : Int) - 1 else ((u / 2 : Nat) : Int)
def textL (f : Nat → Nat) (p n : Nat) : List UInt8 := (List.range n).map fun j => (f (p + j)).toUInt8
def textB (f : Nat → Nat) (p n : Nat) : ByteArray := ⟨(textL f p n).toArray⟩
theorem textL_length (f : Nat → Nat) (p n : Nat) : (textL f p n).length = n := by simp [textL]
def textTo (L : Nat) (r : Rn) : Nat := if r.code = 0 then (if L - r.to < r.v then L else r.to + r.v) else r.to
def textCode (L : Nat) (r : Rn) : Nat := if r.code = 0 then (if L - r.to < r.v then 4 else 0) else r.code
end Go.Proofs.YtfajfflbplnagaaDoor
namespace Go.Proofs.YtfajfflbplnagaaDoor
open Go.RowKit
def offF (f : Nat → Nat) (p : Nat) : Nat → Nat := fun j => f (p + j)
theorem numGo_off {f : Nat → Nat} {L p : Nat} (hp : p ≤ L) : ∀ k i acc, numGo f L p k i acc = ⟨(numGo (offF f p) (L - p) 0 k i acc).v, p + (numGo (offF f p) (L - p) 0 k i acc).to, (numGo (offF f p) (L - p) 0 k i acc).code⟩
 | 0, i, acc => rfl
 | k + 1, i, acc => by
   have e : offF f p (0 + i) = f (p + i) := by unfold offF; rw [Nat.zero_add]
   unfold numGo;rw [e];by_cases c1 : L ≤ p + i
   · rw [if_pos c1, if_pos (show L - p ≤ 0 + i by omega)]
     show (⟨0, L, 4⟩ : Rn) = ⟨0, p + (L - p), 4⟩
     rw [show p + (L - p) = L by omega]
   · rw [if_neg c1, if_neg (show ¬ L - p ≤ 0 + i by omega)]
     by_cases c2 : (0 < i ∧ f (p + i) = 0) ∨ (i = 9 ∧ f (p + i) ≠ 1)
     · rw [if_pos c2, if_pos c2]
       show (⟨0, p + i, 3⟩ : Rn) = ⟨0, p + (0 + i), 3⟩
       rw [Nat.zero_add]
     · rw [if_neg c2, if_neg c2]
       by_cases c3 : f (p + i) < 128
       · rw [if_pos c3, if_pos c3]
         show (⟨_, p + i + 1, 0⟩ : Rn) = ⟨_, p + (0 + i + 1), 0⟩
         rw [show p + (0 + i + 1) = p + i + 1 by omega]
       · rw [if_neg c3, if_neg c3]
         exact numGo_off hp k _ _
theorem numR_off {f : Nat → Nat} {L p : Nat} (hp : p ≤ L) : numR f L p = ⟨(numR (offF f p) (L - p) 0).v, p + (numR (offF f p) (L - p) 0).to, (numR (offF f p) (L - p) 0).code⟩ := numGo_off hp 10 0 0
theorem textTo_off {L p : Nat} (hp : p ≤ L) (r : Rn) (hr : r.to ≤ L - p) : textTo L ⟨r.v, p + r.to, r.code⟩ = p + textTo (L - p) r := by
 unfold textTo;dsimp only;by_cases c : r.code = 0
 · rw [if_pos c, if_pos c]
   by_cases d : L - p - r.to < r.v
   · rw [if_pos (by omega), if_pos d]; omega
   · rw [if_neg (by omega), if_neg d]; omega
 · rw [if_neg c, if_neg c]
theorem textCode_off {L p : Nat} (r : Rn) : textCode L ⟨r.v, p + r.to, r.code⟩ = textCode (L - p) r := by
 unfold textCode;dsimp only;by_cases c : r.code = 0
 · rw [if_pos c, if_pos c]
   by_cases d : L - p - r.to < r.v
   · rw [if_pos (by omega), if_pos d]
   · rw [if_neg (by omega), if_neg d]
 · rw [if_neg c, if_neg c]
theorem textL_off (f : Nat → Nat) (p q n : Nat) : textL f (p + q) n = textL (offF f p) q n := by
 unfold textL offF
 congr 1
 funext j
 rw [Nat.add_assoc]
def noneR (p : Nat) : Rn := ⟨0, p, 0⟩
def aR (f : Nat → Nat) (L op p : Nat) : Rn := if akI op = 0 then noneR p else numR f L p
def nR (f : Nat → Nat) (L op p : Nat) : Rn := if op = 23 then numR f L p else noneR p
def hasText (op : Nat) : Bool := op == 24 || nameI op
def tTo (f : Nat → Nat) (L op p : Nat) : Nat := if hasText op = true then textTo L (numR f L p) else p
def tCode (f : Nat → Nat) (L op p : Nat) : Nat := if hasText op = true then textCode L (numR f L p) else 0
def tText (f : Nat → Nat) (L op p : Nat) : List UInt8 := if hasText op = true then textL f (numR f L p).to (numR f L p).v else []
structure InR where
 x : Ins
 to : Nat
 code : Nat
def zeroI : Ins := ⟨0, 0, 0, []⟩
def insR (f : Nat → Nat) (L n p : Nat) : InR :=
 if L ≤ p then ⟨zeroI, L, 4⟩
 else if (aR f L (f p) (p + 1)).code ≠ 0 then ⟨zeroI, (aR f L (f p) (p + 1)).to, (aR f L (f p) (p + 1)).code⟩
 else if (nR f L (f p) (aR f L (f p) (p + 1)).to).code ≠ 0 then ⟨zeroI, (nR f L (f p) (aR f L (f p) (p + 1)).to).to, (nR f L (f p) (aR f L (f p) (p + 1)).to).code⟩
 else if tCode f L (f p) (nR f L (f p) (aR f L (f p) (p + 1)).to).to ≠ 0 then ⟨zeroI, tTo f L (f p) (nR f L (f p) (aR f L (f p) (p + 1)).to).to, tCode f L (f p) (nR f L (f p) (aR f L (f p) (p + 1)).to).to⟩
 else if rightI ⟨f p, (aR f L (f p) (p + 1)).v, unfN (nR f L (f p) (aR f L (f p) (p + 1)).to).v, tText f L (f p) (nR f L (f p) (aR f L (f p) (p + 1)).to).to⟩ n = true then
   ⟨⟨f p, (aR f L (f p) (p + 1)).v, unfN (nR f L (f p) (aR f L (f p) (p + 1)).to).v, tText f L (f p) (nR f L (f p) (aR f L (f p) (p + 1)).to).to⟩, tTo f L (f p) (nR f L (f p) (aR f L (f p) (p + 1)).to).to, 0⟩
 else ⟨zeroI, p, 3⟩
def goR (f : Nat → Nat) (L n : Nat) : Nat → Nat → List Ins → List Ins × Nat × Nat
 | 0, p, l => if p < L then ([], p, 3) else (l, p, 0)
 | k + 1, p, l => if (insR f L n p).code ≠ 0 then ([], (insR f L n p).to, (insR f L n p).code) else goR f L n k (insR f L n p).to (l ++ [(insR f L n p).x])
def readR (f : Nat → Nat) (L : Nat) : List Ins × Nat × Nat :=
 if (numR f L 0).code ≠ 0 then ([], (numR f L 0).to, (numR f L 0).code)
 else if 8192 < (numR f L 0).v then ([], 0, 2)
 else goR f L (numR f L 0).v (numR f L 0).v (numR f L 0).to []
theorem aOK_min {k : Nat} {n : Int} (hn : n ≤ 8192) (v : Nat) : aOK k n ((min v 8192 : Nat) : Int) = aOK k n (v : Int) := by
 unfold aOK;rcases Nat.le_total v 8192 with h | h
 · rw [Nat.min_eq_left h]
 · rw [Nat.min_eq_right h]
   split
   · rw [Bool.eq_iff_iff, decide_eq_true_iff, decide_eq_true_iff]; omega
   · split
     · rw [Bool.eq_iff_iff, decide_eq_true_iff, decide_eq_true_iff]; omega
     · split <;> (rw [Bool.eq_iff_iff, decide_eq_true_iff, decide_eq_true_iff]; omega)
theorem right_min {op v : Nat} {num n : Int} {text : List UInt8} (hn : n ≤ 8192) : rightI ⟨op, ((min v 8192 : Nat) : Int), num, text⟩ n = rightI ⟨op, (v : Int), num, text⟩ n := by
 unfold rightI;dsimp only;rw [aOK_min hn]
theorem right_small {op v : Nat} {num n : Int} {text : List UInt8} (hn : n ≤ 8192) (h : rightI ⟨op, (v : Int), num, text⟩ n = true) : v < 8192 := by
 unfold rightI at h;simp only [Bool.and_eq_true] at h;have h1 := h.1.1.2;unfold aOK at h1;split at h1
 · simp only [decide_eq_true_eq] at h1; omega
 · split at h1
   · simp only [decide_eq_true_eq] at h1; omega
   · split at h1 <;> (simp only [decide_eq_true_eq] at h1; omega)
theorem numR_to {f : Nat → Nat} {L p : Nat} (hp : p ≤ L) (hf : ∀ j, p ≤ j → j < L → f j < 256) : (numR f L p).to ≤ L ∧ ((numR f L p).code = 0 → p < (numR f L p).to) := by
 have h := numR_range hp hf;refine ⟨h.2.1, fun e => ?_⟩;rcases h.2.2 with h1 | h1 | h1
 · exact h1.2
 · rw [h1.1] at e; cases e
 · rw [h1.1] at e; cases e
end Go.Proofs.YtfajfflbplnagaaDoor
