/- Plain facts on what a text says as a number: no program stands in them, no condition. -/
import Derived.Test.YtkhbgmdjfkkkcaaDoorNum
import Derived.Lib.ItoaLen
namespace Go.Proofs.YtkhbgmdjfkkkcaaDoor
open Go.RowKit

/-- A byte that is a digit. -/
def dig (c : UInt8) : Bool := decide (48 ≤ c.toNat ∧ c.toNat ≤ 57)
/-- What is left behind a minus, and whether there was one. -/
def cutL : List UInt8 → List UInt8 × Bool
  | [] => ([], false)
  | c :: r => if c.toNat = 45 then (r, true) else (c :: r, false)
/-- Whether digits, behind a minus or none, are written as a number's. -/
def isNumB (l : List UInt8) (m : Bool) : Bool :=
  match l with
  | [] => false
  | c :: r => if c.toNat = 48 then r.isEmpty && !m else (c :: r).all dig
/-- The number that digits say. -/
def valN (l : List UInt8) : Nat := l.foldl (fun a c => 10 * a + (c.toNat - 48)) 0
def roomN (b : Bool) : Nat := if b = true then 9223372036854775808 else 9223372036854775807
def signN (n : Nat) (b : Bool) : Int := if b = true then -(n : Int) else n
/-- What a text says, and what is wrong. -/
def readV (l : List UInt8) : Int × Int :=
  if isNumB (cutL l).1 (cutL l).2 = false then (0, 9)
  else if valN (cutL l).1 ≤ roomN (cutL l).2 then (signN (valN (cutL l).1) (cutL l).2, 0) else (0, 2)

theorem valN_snoc (l : List UInt8) (c : UInt8) : valN (l ++ [c]) = 10 * valN l + (c.toNat - 48) := by
  unfold valN; rw [List.foldl_append]; rfl
theorem fold_ge (l : List UInt8) : ∀ a : Nat, a ≤ l.foldl (fun a c => 10 * a + (c.toNat - 48)) a := by
  induction l with
  | nil => intro a; exact Nat.le_refl _
  | cons c r ih =>
    intro a
    have := ih (10 * a + (c.toNat - 48))
    simp only [List.foldl_cons]
    omega
theorem valN_take_le (l : List UInt8) (k : Nat) : valN (l.take k) ≤ valN l := by
  have h : valN l = (l.drop k).foldl (fun a c => 10 * a + (c.toNat - 48)) (valN (l.take k)) := by
    unfold valN
    rw [← List.foldl_append, List.take_append_drop]
  rw [h]
  exact fold_ge _ _
theorem take_more (l : List UInt8) (k : Nat) (h : k < l.length) : l.take (k + 1) = l.take k ++ [l[k]] := by
  rw [List.take_succ_eq_append_getElem h]
theorem all_take_more (l : List UInt8) (k : Nat) (h : k < l.length) (ha : (l.take k).all dig = true) (hd : dig l[k] = true) : (l.take (k + 1)).all dig = true := by
  rw [take_more l k h, List.all_append, ha]; simp [hd]
theorem all_false_at (l : List UInt8) (k : Nat) (h : k < l.length) (hd : dig l[k] = false) : l.all dig = false := by
  rw [Bool.eq_false_iff]
  intro ha
  rw [List.all_eq_true] at ha
  have := ha l[k] (List.getElem_mem h)
  rw [hd] at this
  cases this
theorem dig_at (l : List UInt8) (k : Nat) (h : k < l.length) (ha : l.all dig = true) : 48 ≤ l[k].toNat ∧ l[k].toNat ≤ 57 := by
  rw [List.all_eq_true] at ha
  have := ha l[k] (List.getElem_mem h)
  simpa [dig] using this

theorem isNum_all {l : List UInt8} {m : Bool} (h : isNumB l m = true) : l.all dig = true := by
  unfold isNumB at h
  cases l with
  | nil => cases h
  | cons c r =>
    simp only at h
    split at h
    · rename_i h48
      simp at h
      rw [h.1]
      simp [dig, h48]
    · exact h

/-! Text of what was read; read of a text. -/
theorem dec_val : ∀ (n : Nat), (Lib.decDigits n).all dig = true ∧ valN (Lib.decDigits n) = n := by
  intro n
  induction n using Nat.strongRecOn with
  | ind n ih =>
    rw [Lib.decDigits]
    split
    · rename_i h
      have e : (UInt8.ofNat (48 + n)).toNat = 48 + n := by simp; omega
      constructor
      · simp [dig]; omega
      · simp [valN]; omega
    · rename_i h
      obtain ⟨h1, h2⟩ := ih (n / 10) (by omega)
      have e : (UInt8.ofNat (48 + n % 10)).toNat = 48 + n % 10 := by simp; omega
      constructor
      · rw [List.all_append, h1]; simp [dig]; omega
      · rw [valN_snoc, h2, e]; omega

theorem dec_head : ∀ (n : Nat), 1 ≤ n → ∃ c r, Lib.decDigits n = c :: r ∧ c.toNat ≠ 48 ∧ c.toNat ≠ 45 := by
  intro n
  induction n using Nat.strongRecOn with
  | ind n ih =>
    intro hn
    rw [Lib.decDigits]
    split
    · rename_i h
      have e : (UInt8.ofNat (48 + n)).toNat = 48 + n := by simp; omega
      exact ⟨_, _, rfl, by rw [e]; omega, by rw [e]; omega⟩
    · rename_i h
      obtain ⟨c, r, h1, h2, h3⟩ := ih (n / 10) (by omega) (by omega)
      exact ⟨c, r ++ [UInt8.ofNat (48 + n % 10)], by rw [h1]; rfl, h2, h3⟩

theorem dec_isNum (n : Nat) (m : Bool) (h : 1 ≤ n ∨ m = false) : isNumB (Lib.decDigits n) m = true := by
  by_cases hn : 1 ≤ n
  · obtain ⟨c, r, h1, h2, _⟩ := dec_head n hn
    have := (dec_val n).1
    rw [h1] at this ⊢
    unfold isNumB
    simp only
    rw [if_neg h2]
    exact this
  · obtain rfl : n = 0 := by omega
    obtain rfl : m = false := by rcases h with h | h; omega; exact h
    rw [Lib.decDigits_one (by omega)]
    decide

theorem read_text (a : Int) (h : I64 a) : readV (Lib.itoa a) = (a, 0) := by
  obtain ⟨h1, h2⟩ := h
  unfold Lib.itoa
  by_cases hn : a < 0
  · rw [if_pos hn]
    have hc : cutL (45 :: Lib.decDigits a.natAbs) = (Lib.decDigits a.natAbs, true) := by unfold cutL; simp
    unfold readV
    rw [hc]
    simp only
    rw [dec_isNum _ _ (Or.inl (by omega)), (dec_val _).2, if_neg (by simp), if_pos (by unfold roomN; simp; omega)]
    unfold signN
    simp
    omega
  · rw [if_neg hn]
    have hc : cutL (Lib.decDigits a.toNat) = (Lib.decDigits a.toNat, false) := by
      by_cases hz : 1 ≤ a.toNat
      · obtain ⟨c, r, e1, _, e3⟩ := dec_head a.toNat hz
        rw [e1]
        unfold cutL
        simp only
        rw [if_neg e3]
      · rw [show a.toNat = 0 by omega, Lib.decDigits_one (by omega)]
        rfl
    unfold readV
    rw [hc]
    simp only
    rw [dec_isNum _ _ (Or.inr rfl), (dec_val _).2, if_neg (by simp), if_pos (by unfold roomN; simp; omega)]
    unfold signN
    simp
    omega

theorem dec_of_val : ∀ (k : Nat) (l : List UInt8), l.length = k → ∀ c r, l = c :: r → c.toNat ≠ 48 → l.all dig = true → Lib.decDigits (valN l) = l ∧ 1 ≤ valN l := by
  intro k
  induction k with
  | zero => intro l hl c r e; rw [e] at hl; cases hl
  | succ k ih =>
    intro l hl c r e h48 hall
    by_cases hr : r = []
    · subst hr
      subst e
      have hd : 48 ≤ c.toNat ∧ c.toNat ≤ 57 := by simpa [dig] using hall
      have hv : valN [c] = c.toNat - 48 := by simp [valN]
      rw [hv, Lib.decDigits_one (by omega)]
      refine ⟨?_, by omega⟩
      rw [show 48 + (c.toNat - 48) = c.toNat by omega]
      simp
    · obtain ⟨r0, x, hx⟩ : ∃ r0 x, r = r0 ++ [x] := ⟨r.dropLast, r.getLast hr, (List.dropLast_concat_getLast hr).symm⟩
      have e2 : l = (c :: r0) ++ [x] := by rw [e, hx]; rfl
      have hall2 := hall
      rw [e2, List.all_append, Bool.and_eq_true] at hall2
      obtain ⟨ha1, ha2⟩ := hall2
      have hd : 48 ≤ x.toNat ∧ x.toNat ≤ 57 := by simpa [dig] using ha2
      obtain ⟨i1, i2⟩ := ih (c :: r0) (by rw [e2] at hl; simp at hl ⊢; omega) c r0 rfl h48 ha1
      have hv : valN l = 10 * valN (c :: r0) + (x.toNat - 48) := by rw [e2, valN_snoc]
      refine ⟨?_, by omega⟩
      rw [hv, Lib.decDigits, dif_neg (by omega), show (10 * valN (c :: r0) + (x.toNat - 48)) / 10 = valN (c :: r0) by omega, i1,
        show 48 + (10 * valN (c :: r0) + (x.toNat - 48)) % 10 = x.toNat by omega, e2]
      simp

/-- What is read is told as it stands. -/
theorem text_read (l : List UInt8) (h : (readV l).2 = 0) : Lib.itoa (readV l).1 = l ∧ I64 (readV l).1 := by
  unfold readV at h ⊢
  split at h
  · cases h
  · rename_i hn
    rw [if_neg hn]
    split at h
    · rename_i hr
      rw [if_pos hr]
      simp only
      have hn' : isNumB (cutL l).1 (cutL l).2 = true := by simpa using hn
      cases l with
      | nil => cases hn'
      | cons c r =>
        by_cases h45 : c.toNat = 45
        · have hc : cutL (c :: r) = (r, true) := by unfold cutL; simp [h45]
          rw [hc] at hn' hr ⊢
          simp only at hn' hr ⊢
          have ha := isNum_all hn'
          cases r with
          | nil => cases hn'
          | cons d t =>
            have hd : d.toNat ≠ 48 := by
              intro e
              unfold isNumB at hn'
              simp [e] at hn'
            obtain ⟨v1, v2⟩ := dec_of_val _ (d :: t) rfl d t rfl hd ha
            have hce : c = 45 := UInt8.toNat_inj.1 (by rw [h45]; rfl)
            unfold roomN at hr
            unfold signN Lib.itoa
            simp at hr ⊢
            rw [if_pos (by omega)]
            refine ⟨by rw [hce, v1], ?_⟩
            unfold I64; omega
        · have hc : cutL (c :: r) = (c :: r, false) := by unfold cutL; simp [h45]
          rw [hc] at hn' hr ⊢
          simp only at hn' hr ⊢
          have ha := isNum_all hn'
          unfold roomN at hr
          unfold signN Lib.itoa
          simp at hr ⊢
          rw [if_neg (by omega)]
          refine ⟨?_, by unfold I64; omega⟩
          by_cases h48 : c.toNat = 48
          · have hre : r = [] := by
              unfold isNumB at hn'
              simp [h48] at hn'
              exact hn'
            subst hre
            have hv : valN [c] = 0 := by simp [valN, h48]
            rw [hv]
            have hce : c = 48 := UInt8.toNat_inj.1 (by rw [h48]; rfl)
            rw [hce, Lib.decDigits_one (by omega)]
            rfl
          · exact (dec_of_val _ (c :: r) rfl c r rfl h48 ha).1
    · cases h

/-- What is wrong is one of two. -/
theorem read_wrong (l : List UInt8) (h : (readV l).2 ≠ 0) : (readV l).1 = 0 ∧ ((readV l).2 = 9 ∨ (readV l).2 = 2) := by
  unfold readV at h ⊢
  split <;> (try split) <;> simp_all

theorem valN_lt (l : List UInt8) (ha : l.all dig = true) : ∀ k, k ≤ l.length → valN (l.take k) < 10 ^ k := by
  intro k
  induction k with
  | zero => intro _; simp [valN]
  | succ k ih =>
    intro hk
    have h1 := ih (by omega)
    have h2 := dig_at l k (by omega) ha
    rw [take_more l k (by omega), valN_snoc, Nat.pow_succ]
    omega

/-- A number that is too long for 64 bits has more than 18 digits. -/
theorem long_read (l : List UInt8) (h : (readV l).2 = 2) : 18 < l.length := by
  unfold readV at h
  split at h
  · cases h
  · rename_i hn
    split at h
    · cases h
    · rename_i hr
      have hn' : isNumB (cutL l).1 (cutL l).2 = true := by simpa using hn
      have hv := valN_lt _ (isNum_all hn') _ (Nat.le_refl _)
      rw [List.take_length] at hv
      have hc : (cutL l).1.length ≤ l.length := by
        cases l with
        | nil => exact Nat.le_refl _
        | cons c r =>
          unfold cutL
          simp only
          split <;> simp
      have hroom : 9223372036854775807 ≤ roomN (cutL l).2 := by unfold roomN; split <;> omega
      apply Nat.lt_of_not_le
      intro hl
      have h3 : (10 : Nat) ^ (cutL l).1.length ≤ 10 ^ 18 := Nat.pow_le_pow_right (by decide) (by omega)
      have h4 : (10 : Nat) ^ 18 = 1000000000000000000 := by decide
      omega
end Go.Proofs.YtkhbgmdjfkkkcaaDoor
