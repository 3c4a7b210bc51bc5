/- Plain: what is read as a value is right, and its bytes are those that were taken. -/
import Derived.Test.YtnhghofkdiojaaaCVal2
namespace Go.Proofs.Ytnhghofkdiojaaa
open Go.RowKit

theorem unfN_i64 {u : Nat} (h : u < 18446744073709551616) : I64 (unfN u) := by
  unfold unfN I64
  split <;> omega
theorem strN_textB {f : Nat → Nat} {p n : Nat} (hf : ∀ j, j < n → f (p + j) < 256) : strN (textB f p n) = (List.range n).map fun j => f (p + j) := by
  unfold strN textB textL
  simp only [List.map_map]
  apply List.map_congr_left
  intro j hj
  have := hf j (by simpa using hj)
  simp; omega
theorem lies_text {f : Nat → Nat} {p n : Nat} : LiesAt f p ((List.range n).map fun j => f (p + j)) := by
  intro j hj
  simp at hj
  simp [List.getD_eq_getElem?_getD, List.getElem?_range hj]

theorem nodeR_right {f : Nat → Nat} {L p room : Nat} (hp : p < L) (hf : ∀ j, j < L → f j < 256) (hc : (nodeR f L (p + 1) (f p) room).code = 0) :
    RightNd (nodeR f L (p + 1) (f p) room).nd ∧ LiesAt f p (nodeL (nodeR f L (p + 1) (f p) room).nd) ∧ (nodeR f L (p + 1) (f p) room).to = p + (nodeL (nodeR f L (p + 1) (f p) room).nd).length := by
  have hr := numR_range (f := f) (L := L) (p := p + 1) (by omega) (fun j _ hj => hf j hj)
  have hrd := fun h => numR_read (f := f) (L := L) (p := p + 1) (fun j _ hj => hf j hj) h
  obtain ⟨k, hk⟩ : ∃ k, f p = k := ⟨_, rfl⟩
  rw [hk] at hc ⊢
  rcases (show k = 0 ∨ k = 1 ∨ k = 2 ∨ k = 3 ∨ k = 4 ∨ k = 5 ∨ 5 < k by omega) with rfl | rfl | rfl | rfl | rfl | rfl | h5
  · exact ⟨.inl ⟨rfl, rfl⟩, LiesAt.cons hk (fun j hj => by simp [nodeR, nd0] at hj), rfl⟩
  · obtain ⟨q1, q2, q3⟩ := nodeR_1 (f := f) (L := L) (p := p + 1) (room := room)
    rw [q2] at hc
    rw [q1, q3 hc]
    have h1 : ¬ L ≤ p + 1 := by intro h; unfold bitCode at hc; rw [if_pos h] at hc; cases hc
    have h2 : ¬ 1 < f (p + 1) := by intro h; unfold bitCode at hc; rw [if_neg h1, if_pos h] at hc; cases hc
    have et : bitTo f L (p + 1) = p + 2 := by unfold bitTo; rw [if_neg h1, if_neg h2]
    refine ⟨.inr (.inl ⟨rfl, ?_⟩), LiesAt.cons hk (LiesAt.cons (by simp) (fun j hj => by simp at hj)), by rw [et]; rfl⟩
    rcases (show f (p + 1) = 0 ∨ f (p + 1) = 1 by omega) with h | h
    · left; rw [h]; rfl
    · right; rw [h]; rfl
  · rw [nodeR_2] at hc ⊢
    have hc' : (numR f L (p + 1)).code = 0 := hc
    obtain ⟨e1, e2⟩ := hrd hc'
    refine ⟨.inr (.inr (.inl ⟨rfl, rfl, unfN_i64 hr.1⟩)), LiesAt.cons hk ?_, ?_⟩
    · show LiesAt f (p + 1) (uintL (foldN (unfN (numR f L (p + 1)).v)))
      rw [fold_unf]; exact e2
    · show (numR f L (p + 1)).to = p + ((uintL (foldN (unfN (numR f L (p + 1)).v))).length + 1)
      rw [fold_unf]; omega
  · rw [nodeR_3] at hc ⊢
    by_cases hm : mostCode room (numR f L (p + 1)) = 0
    · rw [if_pos hm] at hc ⊢
      have hcode : (numR f L (p + 1)).code = 0 := by
        unfold mostCode at hm
        by_cases h1 : (numR f L (p + 1)).code = 0
        · exact h1
        · rw [if_neg h1] at hm; exact hm
      have hlt : ¬ L - (numR f L (p + 1)).to < (numR f L (p + 1)).v := by
        intro h
        have : textCode L (numR f L (p + 1)) = 0 := hc
        unfold textCode at this; rw [if_pos hcode, if_pos h] at this; cases this
      obtain ⟨e1, e2⟩ := hrd hcode
      have ht := hr.2.1
      have et : textTo L (numR f L (p + 1)) = (numR f L (p + 1)).to + (numR f L (p + 1)).v := by unfold textTo; rw [if_pos hcode, if_neg hlt]
      refine ⟨.inr (.inr (.inr (.inl ⟨rfl, rfl⟩))), LiesAt.cons hk ?_, ?_⟩
      · show LiesAt f (p + 1) (uintL (textB f (numR f L (p + 1)).to (numR f L (p + 1)).v).size ++ strN (textB f (numR f L (p + 1)).to (numR f L (p + 1)).v))
        rw [textB_size, strN_textB (fun j hj => hf _ (by omega))]
        exact LiesAt.append e2 (by rw [← e1]; exact lies_text)
      · show textTo L (numR f L (p + 1)) = p + ((uintL (textB f (numR f L (p + 1)).to (numR f L (p + 1)).v).size ++ strN (textB f (numR f L (p + 1)).to (numR f L (p + 1)).v)).length + 1)
        rw [et, List.length_append, strN_length, textB_size]; omega
    · rw [if_neg hm] at hc; exact absurd hc hm
  · rw [nodeR_4] at hc ⊢
    have hc' : numCode L (p + 1) (fineB (be f (p + 1) 8) (be f (p + 1 + 8) 8)) = 0 := hc
    have h1 : ¬ L < p + 1 + 16 := by intro h; unfold numCode at hc'; rw [if_pos h] at hc'; cases hc'
    have h2 : fineB (be f (p + 1) 8) (be f (p + 1 + 8) 8) = true := by
      unfold numCode at hc'; rw [if_neg h1] at hc'
      cases hb : fineB (be f (p + 1) 8) (be f (p + 1 + 8) 8) with
      | true => rfl
      | false => rw [hb] at hc'; cases hc'
    have l1 := be_lies (f := f) (p := p + 1) (fun j hj => hf _ (by omega))
    have l2 := be_lies (f := f) (p := p + 1 + 8) (fun j hj => hf _ (by omega))
    refine ⟨.inr (.inr (.inr (.inr (.inl ⟨rfl, rfl, h2, be_lt8 (by omega) (fun j hj => hf _ (by omega)), be_lt8 (by omega) (fun j hj => hf _ (by omega))⟩)))), LiesAt.cons hk (LiesAt.append l1 l2), ?_⟩
    show numTo L (p + 1) _ = p + 17
    unfold numTo; rw [if_neg h1, h2]; rfl
  · obtain ⟨q1, q2, q3⟩ := nodeR_5 (f := f) (L := L) (p := p + 1) (room := room)
    rw [q2] at hc
    rw [q1, q3 hc]
    have hcode : (numR f L (p + 1)).code = 0 := by
      unfold mostCode at hc
      by_cases h1 : (numR f L (p + 1)).code = 0
      · exact h1
      · rw [if_neg h1] at hc; exact hc
    have hv : ¬ 1024 < (numR f L (p + 1)).v := by intro h; unfold mostCode at hc; rw [if_pos hcode, if_pos h] at hc; cases hc
    obtain ⟨e1, e2⟩ := hrd hcode
    refine ⟨.inr (.inr (.inr (.inr (.inr ⟨rfl, rfl⟩)))), LiesAt.cons hk e2, ?_⟩
    show mostTo (p + 1) 1024 (numR f L (p + 1)) = p + ((uintL (numR f L (p + 1)).v).length + 1)
    unfold mostTo; rw [if_pos hcode, if_neg hv]; omega
  · rw [nodeR_x h5] at hc; cases hc

/-- A value's bytes. -/
def valL : List Nd → List Nat
  | [] => []
  | x :: d => nodeL x ++ valL d
theorem valL_append : ∀ (a b : List Nd), valL (a ++ b) = valL a ++ valL b
  | [], _ => rfl
  | x :: a, b => by show nodeL x ++ valL (a ++ b) = _; rw [valL_append a b, ← List.append_assoc]; rfl
/-- How many values must still come behind nodes. -/
def leftN : List Nd → Int
  | [] => 1
  | x :: d => leftN d + x.kids - 1
theorem leftN_append : ∀ (a b : List Nd), leftN (a ++ b) = leftN a + leftN b - 1
  | [], b => by show leftN b = 1 + leftN b - 1; omega
  | x :: a, b => by show leftN (a ++ b) + x.kids - 1 = leftN a + x.kids - 1 + leftN b - 1; rw [leftN_append a b]; omega
theorem leftN_snoc (a : List Nd) (x : Nd) : leftN (a ++ [x]) = leftN a + x.kids - 1 := by
  rw [leftN_append]
  show leftN a + (1 + x.kids - 1) - 1 = _
  omega
/-- The size of nodes. -/
def sizeN : List Nd → Nat
  | [] => 0
  | x :: d => 1 + x.s.size + sizeN d
theorem sizeN_append : ∀ (a b : List Nd), sizeN (a ++ b) = sizeN a + sizeN b
  | [], b => by show sizeN b = 0 + sizeN b; omega
  | x :: a, b => by show 1 + x.s.size + sizeN (a ++ b) = 1 + x.s.size + sizeN a + sizeN b; rw [sizeN_append a b]; omega

/-- What was read so far. -/
structure ValInv (f : Nat → Nat) (p : Nat) (d : List Nd) (size left : Nat) : Prop where
  nodes : ∀ x ∈ d, RightNd x
  lies : LiesAt f 0 (valL d)
  place : (valL d).length = p
  sz : sizeN d = size
  small : size ≤ 4096
  few : d.length ≤ 1024
  lf : leftN d = left
  pos : ∀ i, i < d.length → 0 < leftN (d.take i)

theorem valGo_inv {f : Nat → Nat} {L : Nat} (hf : ∀ j, j < L → f j < 256) : ∀ (k p : Nat) (d : List Nd) (size left : Nat), ValInv f p d size left → p ≤ L → (valGo f L k p d size left).code = 0 →
    (∃ size', ValInv f (valGo f L k p d size left).to (valGo f L k p d size left).d size' 0) ∧ (valGo f L k p d size left).to ≤ L
  | 0, p, d, size, left, _, _, hc => by cases hc
  | k + 1, p, d, size, left, hI, hp, hc => by
    unfold valGo at hc ⊢
    by_cases h0 : left = 0
    · rw [if_pos h0]
      subst h0
      exact ⟨⟨size, hI⟩, hp⟩
    · rw [if_neg h0] at hc ⊢
      by_cases h1 : L ≤ p
      · rw [if_pos h1] at hc; cases hc
      · rw [if_neg h1] at hc ⊢
        by_cases h2 : d.length = 1024 ∨ size = 4096
        · rw [if_pos h2] at hc; cases hc
        · rw [if_neg h2] at hc ⊢
          by_cases h3 : (nodeR f L (p + 1) (f p) (4095 - size)).code = 0
          · rw [if_pos h3] at hc ⊢
            have hr := nodeR_right (by omega) hf h3
            have hrg := nodeR_range (f := f) (L := L) (p := p + 1) (k := f p) (room := 4095 - size) (by omega) (fun j _ hj => hf j hj)
            generalize nodeR f L (p + 1) (f p) (4095 - size) = r at hr hrg h3 hc ⊢
            obtain ⟨q1, q2, q3⟩ := hrg.2 h3
            have hsm := hI.small
            have hfw := hI.few
            have hlf := hI.lf
            refine valGo_inv hf k r.to (d ++ [r.nd]) (size + 1 + r.nd.s.size) (left - 1 + r.nd.kids) ⟨?_, ?_, ?_, ?_, by omega, by simp; omega, ?_, ?_⟩ hrg.1 hc
            · intro x hx
              rcases List.mem_append.1 hx with h | h
              · exact hI.nodes x h
              · simp at h; subst h; exact hr.1
            · rw [valL_append]
              refine LiesAt.append hI.lies ?_
              rw [hI.place, Nat.zero_add]
              show LiesAt f p (nodeL r.nd ++ [])
              rw [List.append_nil]; exact hr.2.1
            · rw [valL_append, List.length_append, hI.place, hr.2.2]
              show p + (nodeL r.nd ++ []).length = _
              rw [List.append_nil]
            · rw [sizeN_append, hI.sz]
              show size + (1 + r.nd.s.size + 0) = _
              omega
            · rw [leftN_snoc, hlf]; omega
            · intro i hi
              simp at hi
              by_cases hid : i < d.length
              · rw [List.take_append_of_le_length (by omega)]
                exact hI.pos i hid
              · have : i = d.length := by omega
                subst this
                rw [List.take_left, hlf]; omega
          · rw [if_neg h3] at hc; exact absurd hc h3
theorem valR_inv {f : Nat → Nat} {L : Nat} (hf : ∀ j, j < L → f j < 256) (hc : (valR f L).code = 0) : (∃ size, ValInv f (valR f L).to (valR f L).d size 0) ∧ (valR f L).to ≤ L :=
  valGo_inv hf (L + 2) 0 [] 0 1 ⟨fun x hx => by simp at hx, fun j hj => by simp [valL] at hj, rfl, rfl, by omega, by simp, rfl, fun i hi => by simp at hi⟩ (Nat.zero_le _) hc

theorem nodeR_err {f : Nat → Nat} {L p k room : Nat} (hp : p < L) (hf : ∀ j, j < L → f j < 256) (hc : (nodeR f L (p + 1) k room).code ≠ 0) :
    (nodeR f L (p + 1) k room).to = L ↔ (nodeR f L (p + 1) k room).code = 4 := by
  have hr := numR_range (f := f) (L := L) (p := p + 1) (by omega) (fun j _ hj => hf j hj)
  have hnum : (numR f L (p + 1)).code ≠ 0 → ((numR f L (p + 1)).to = L ↔ (numR f L (p + 1)).code = 4) := by
    intro h
    rcases hr.2.2 with h1 | h1 | h1 <;> omega
  have hpos : (numR f L (p + 1)).code = 0 → p + 1 < L := by
    intro h
    have := hr.2.1
    rcases hr.2.2 with h1 | h1 | h1 <;> omega
  rcases (show k = 0 ∨ k = 1 ∨ k = 2 ∨ k = 3 ∨ k = 4 ∨ k = 5 ∨ 5 < k by omega) with rfl | rfl | rfl | rfl | rfl | rfl | h5
  · exact absurd rfl hc
  · obtain ⟨q1, q2, q3⟩ := nodeR_1 (f := f) (L := L) (p := p + 1) (room := room)
    rw [q2] at hc
    rw [q1, q2]
    unfold bitTo bitCode at *
    by_cases h1 : L ≤ p + 1
    · rw [if_pos h1, if_pos h1]; omega
    · rw [if_neg h1] at hc ⊢
      rw [if_neg h1]
      by_cases h2 : 1 < f (p + 1)
      · rw [if_pos h2, if_pos h2]; omega
      · rw [if_neg h2] at hc; exact absurd rfl hc
  · rw [nodeR_2] at hc ⊢
    exact hnum hc
  · rw [nodeR_3] at hc ⊢
    by_cases hcode : (numR f L (p + 1)).code = 0
    · have hlt := hpos hcode
      by_cases hv : room < (numR f L (p + 1)).v
      · have em : mostCode room (numR f L (p + 1)) = 2 := by unfold mostCode; rw [if_pos hcode, if_pos hv]
        have et : mostTo (p + 1) room (numR f L (p + 1)) = p + 1 := by unfold mostTo; rw [if_pos hcode, if_pos hv]
        rw [em, if_neg (by decide), et]
        show p + 1 = L ↔ (2 : Nat) = 4
        omega
      · have em : mostCode room (numR f L (p + 1)) = 0 := by unfold mostCode; rw [if_pos hcode, if_neg hv]
        rw [em, if_pos rfl] at hc ⊢
        have hc' : textCode L (numR f L (p + 1)) ≠ 0 := hc
        show textTo L (numR f L (p + 1)) = L ↔ textCode L (numR f L (p + 1)) = 4
        unfold textCode at hc' ⊢
        unfold textTo
        rw [if_pos hcode] at hc' ⊢
        rw [if_pos hcode]
        by_cases h1 : L - (numR f L (p + 1)).to < (numR f L (p + 1)).v
        · rw [if_pos h1, if_pos h1]; omega
        · rw [if_neg h1] at hc'; exact absurd rfl hc'
    · have em : mostCode room (numR f L (p + 1)) = (numR f L (p + 1)).code := by unfold mostCode; rw [if_neg hcode]
      have et : mostTo (p + 1) room (numR f L (p + 1)) = (numR f L (p + 1)).to := by unfold mostTo; rw [if_neg hcode]
      rw [em, if_neg hcode, et]
      exact hnum hcode
  · rw [nodeR_4] at hc ⊢
    have hc' : numCode L (p + 1) (fineB (be f (p + 1) 8) (be f (p + 1 + 8) 8)) ≠ 0 := hc
    show numTo L (p + 1) (fineB (be f (p + 1) 8) (be f (p + 1 + 8) 8)) = L ↔ numCode L (p + 1) (fineB (be f (p + 1) 8) (be f (p + 1 + 8) 8)) = 4
    generalize fineB (be f (p + 1) 8) (be f (p + 1 + 8) 8) = b at hc' ⊢
    unfold numTo numCode at *
    by_cases h1 : L < p + 1 + 16
    · rw [if_pos h1, if_pos h1]; omega
    · rw [if_neg h1] at hc' ⊢
      rw [if_neg h1]
      cases b
      · show p + 1 = L ↔ (20 : Nat) = 4
        omega
      · exact absurd rfl hc'
  · obtain ⟨q1, q2, q3⟩ := nodeR_5 (f := f) (L := L) (p := p + 1) (room := room)
    rw [q2] at hc
    rw [q1, q2]
    unfold mostTo mostCode at *
    by_cases hcode : (numR f L (p + 1)).code = 0
    · have hlt := hpos hcode
      rw [if_pos hcode] at hc ⊢
      rw [if_pos hcode]
      by_cases hv : 1024 < (numR f L (p + 1)).v
      · rw [if_pos hv, if_pos hv]; omega
      · rw [if_neg hv] at hc; exact absurd rfl hc
    · rw [if_neg hcode, if_neg hcode]
      exact hnum hcode
  · rw [nodeR_x h5]
    show p + 1 - 1 = L ↔ (3 : Nat) = 4
    omega

/-- Beside an error nothing is told; its place is within the bytes, and their end just if they end too early. -/
theorem valGo_err {f : Nat → Nat} {L : Nat} (hf : ∀ j, j < L → f j < 256) : ∀ (k p : Nat) (d : List Nd) (size left : Nat), p ≤ L → (valGo f L k p d size left).code ≠ 0 →
    (valGo f L k p d size left).d = [] ∧ (valGo f L k p d size left).to ≤ L ∧ ((valGo f L k p d size left).to = L ↔ (valGo f L k p d size left).code = 4)
  | 0, p, d, size, left, _, _ => ⟨rfl, Nat.le_refl _, fun _ => rfl, fun _ => rfl⟩
  | k + 1, p, d, size, left, hp, hc => by
    unfold valGo at hc ⊢
    by_cases h0 : left = 0
    · rw [if_pos h0] at hc; exact absurd rfl hc
    · rw [if_neg h0] at hc ⊢
      by_cases h1 : L ≤ p
      · rw [if_pos h1]; exact ⟨rfl, Nat.le_refl _, fun _ => rfl, fun _ => rfl⟩
      · rw [if_neg h1] at hc ⊢
        by_cases h2 : d.length = 1024 ∨ size = 4096
        · rw [if_pos h2]; exact ⟨rfl, by show p ≤ L; omega, fun h => by have : p = L := h; omega, fun h => by cases h⟩
        · rw [if_neg h2] at hc ⊢
          by_cases h3 : (nodeR f L (p + 1) (f p) (4095 - size)).code = 0
          · rw [if_pos h3] at hc ⊢
            have hrg := nodeR_range (f := f) (L := L) (p := p + 1) (k := f p) (room := 4095 - size) (by omega) (fun j _ hj => hf j hj)
            exact valGo_err hf k _ _ _ _ hrg.1 hc
          · rw [if_neg h3]
            have hrg := nodeR_range (f := f) (L := L) (p := p + 1) (k := f p) (room := 4095 - size) (by omega) (fun j _ hj => hf j hj)
            exact ⟨rfl, hrg.1, nodeR_err (by omega) hf h3⟩
theorem valR_err {f : Nat → Nat} {L : Nat} (hf : ∀ j, j < L → f j < 256) (hc : (valR f L).code ≠ 0) : (valR f L).d = [] ∧ (valR f L).to ≤ L ∧ ((valR f L).to = L ↔ (valR f L).code = 4) :=
  valGo_err hf (L + 2) 0 [] 0 1 (Nat.zero_le _) hc
end Go.Proofs.Ytnhghofkdiojaaa
