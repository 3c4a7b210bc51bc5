/- Plain: each name means a variable of that name that was made ahead of it (layer 11, check). No condition. -/
import Derived.Test.YtefijbpbenmbgaaDoorCkP
namespace Go.Proofs.YtefijbpbenmbgaaDoor
open Go.RowKit Go.Shelf

def makesB (x : Tw) : Bool := x.op == 2 || x.op == 4
def usesB (x : Tw) : Bool := x.op == 5 || x.op == 26
/-- The names of the variables that twigs make, in their order. -/
def namesL (l : List Tw) : List (List UInt8) := (l.filter makesB).map (·.text)
theorem namesL_app (a b : List Tw) : namesL (a ++ b) = namesL a ++ namesL b := by simp [namesL]
theorem namesL_one (x : Tw) : namesL [x] = if makesB x then [x.text] else [] := by
  unfold namesL
  cases h : makesB x <;> simp [h]
def BoundAt (ns : List (List UInt8)) (x : Tw) (s : Int) : Prop :=
  if makesB x then s = (ns.length : Int) ∧ ns.length < 100 else if usesB x then ∃ k : Nat, s = (k : Int) ∧ ns[k]? = some x.text else s = -1
structure BInv (pre : List Tw) (st : CSt) : Prop where
  len : st.l.length = pre.length
  made : st.made = (namesL pre).length
  few : st.made ≤ 100
  seen : ∀ p ∈ st.seen, (namesL pre)[p.2]? = some p.1
  bound : ∀ (i : Nat) (x : Tw) (s : Int), pre[i]? = some x → st.l[i]? = some s → BoundAt (namesL (pre.take i)) x s
theorem slot_bound {pre : List Tw} {st : CSt} {x : Tw} (h : BInv pre st) (hE : ¬ (slotC st x).2.2 ≠ 0) : BInv (pre ++ [x]) ⟨st.l ++ [(slotC st x).1], st.seen, (slotC st x).2.1⟩ ∧ (makesB x = true → (slotC st x).1 = ((namesL pre).length : Int)) := by
  have key : BoundAt (namesL pre) x (slotC st x).1 ∧ (slotC st x).2.1 = (namesL (pre ++ [x])).length ∧ (slotC st x).2.1 ≤ 100 ∧ (makesB x = true → (slotC st x).1 = ((namesL pre).length : Int)) := by
    rw [namesL_app, namesL_one]
    unfold BoundAt
    unfold slotC at hE ⊢
    by_cases c : x.op = 2 ∨ x.op = 4
    · have hm : makesB x = true := by unfold makesB; rcases c with c | c <;> simp [c]
      rw [if_pos c] at hE ⊢
      rw [if_pos hm, hm]
      simp only [↓reduceIte]
      cases hF : (findL st.seen x.text).isSome with
      | true => rw [hF] at hE; exact absurd (by simp) hE
      | false =>
        rw [hF] at hE
        simp only [Bool.false_eq_true, ↓reduceIte] at hE ⊢
        by_cases c2 : st.made = 100
        · rw [if_pos c2] at hE; exact absurd (by simp) hE
        · rw [if_neg c2]
          have h1 := h.made
          have h2 := h.few
          refine ⟨⟨by show (st.made : Int) = _; rw [h1], by omega⟩, ?_, by show st.made + 1 ≤ 100; omega, fun _ => by show (st.made : Int) = _; rw [h1]⟩
          show st.made + 1 = _
          rw [List.length_append, List.length_singleton, h1]
    · have hm : makesB x = false := by unfold makesB; simp only [Bool.or_eq_false_iff, beq_eq_false_iff_ne]; omega
      rw [if_neg c] at hE ⊢
      rw [hm]
      simp only [Bool.false_eq_true, ↓reduceIte]
      by_cases c2 : x.op = 5 ∨ x.op = 26
      · have hu : usesB x = true := by unfold usesB; rcases c2 with c2 | c2 <;> simp [c2]
        rw [if_pos c2] at hE ⊢
        rw [hu]
        simp only [↓reduceIte]
        cases hF : findL st.seen x.text with
        | none => rw [hF] at hE; exact absurd (by simp) hE
        | some v =>
          refine ⟨⟨v, rfl, h.seen _ (findL_mem hF)⟩, ?_, h.few, fun e => by cases e⟩
          show st.made = _
          rw [List.append_nil, h.made]
      · have hu : usesB x = false := by unfold usesB; simp only [Bool.or_eq_false_iff, beq_eq_false_iff_ne]; omega
        rw [if_neg c2, hu]
        simp only [Bool.false_eq_true, ↓reduceIte]
        refine ⟨trivial, ?_, h.few, fun e => by cases e⟩
        rw [List.append_nil, h.made]
  obtain ⟨k1, k2, k3, k4⟩ := key
  refine ⟨⟨?_, k2, k3, ?_, ?_⟩, k4⟩
  · show (st.l ++ [_]).length = _
    rw [List.length_append, List.length_append, h.len]
    rfl
  · intro p hp
    rw [namesL_app]
    have := h.seen p hp
    rw [List.getElem?_append_left (by exact (List.getElem?_eq_some_iff.1 this).1)]
    exact this
  · intro i y s hy hs
    have hs' : (st.l ++ [(slotC st x).1])[i]? = some s := hs
    rcases Nat.lt_or_ge i pre.length with hi | hi
    · rw [List.getElem?_append_left hi] at hy
      rw [List.getElem?_append_left (by rw [h.len]; exact hi)] at hs'
      rw [List.take_append_of_le_length (by omega)]
      exact h.bound i y s hy hs'
    · have hi2 : i = pre.length := by
        have := (List.getElem?_eq_some_iff.1 hy).1
        rw [List.length_append, List.length_singleton] at this
        omega
      subst hi2
      rw [List.getElem?_append_right (Nat.le_refl _), Nat.sub_self] at hy
      rw [List.getElem?_append_right (by rw [h.len]; exact Nat.le_refl _), h.len, Nat.sub_self] at hs'
      simp at hy hs'
      subst hy hs'
      rw [List.take_left]
      exact k1
theorem BInv.end {pre : List Tw} {st : CSt} (h : BInv pre st) (x : Tw) (s : Int) (n : Nat) (hx : makesB x = true → (namesL pre)[s.toNat]? = some x.text) : BInv pre (endC x s n st) := by
  unfold endC
  split
  · rename_i c
    have hm : makesB x = true := by unfold makesB; rcases c with c | c <;> simp [c]
    refine ⟨h.len, h.made, h.few, fun p hp => ?_, h.bound⟩
    rcases List.mem_append.1 (show p ∈ st.seen ++ [(x.text, s.toNat)] from hp) with hp | hp
    · exact h.seen p hp
    · simp at hp
      subst hp
      exact hx hm
  · split
    · exact ⟨h.len, h.made, h.few, fun p hp => h.seen p (List.mem_of_mem_take hp), h.bound⟩
    · exact h
theorem trees_bound : ∀ (F : Fs) (pre : List Tw) (st : CSt), BInv pre st → (treesC F st).2 = 0 → BInv (pre ++ F.flat) (treesC F st).1
  | .nil, pre, st, h, _ => by rw [show Fs.nil.flat = [] from rfl, List.append_nil]; exact h
  | .cons x k r, pre, st, h, he => by
    unfold treesC at he ⊢
    by_cases h1 : (slotC st x).2.2 ≠ 0
    · rw [if_pos h1] at he; exact absurd he h1
    · rw [if_neg h1] at he ⊢
      obtain ⟨b1, b2⟩ := slot_bound h h1
      have ih := trees_bound k (pre ++ [x]) _ b1
      generalize treesC k ⟨st.l ++ [(slotC st x).1], st.seen, (slotC st x).2.1⟩ = R at *
      by_cases h2 : R.2 ≠ 0
      · rw [if_pos h2] at he; exact absurd he h2
      · rw [if_neg h2] at he ⊢
        have i1 := ih (by omega)
        have i2 : BInv (pre ++ [x] ++ k.flat) (endC x (slotC st x).1 st.seen.length R.1) := by
          refine i1.end _ _ _ (fun hm => ?_)
          rw [b2 hm, Int.toNat_natCast, namesL_app, namesL_app, namesL_one, if_pos hm]
          rw [List.append_assoc, List.getElem?_append_right (Nat.le_refl _), Nat.sub_self]
          rfl
        have := trees_bound r _ _ i2 he
        rw [show (Fs.cons x k r).flat = x :: (k.flat ++ r.flat) from rfl]
        rw [show pre ++ x :: (k.flat ++ r.flat) = pre ++ [x] ++ k.flat ++ r.flat by simp]
        exact this
end Go.Proofs.YtefijbpbenmbgaaDoor
