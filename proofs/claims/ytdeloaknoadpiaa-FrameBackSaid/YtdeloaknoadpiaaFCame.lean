/- Plain: what comes of bytes, frame by frame, and what is split (layer 6). No program stands in it. -/
import Derived.Test.YtdeloaknoadpiaaFrm
namespace Go.Proofs.Ytdeloaknoadpiaa.Crc

/-- What comes: frames, and at last what is wrong, if something is. -/
def cameGo : Nat → List Nat → List Fr
  | 0, _ => []
  | k + 1, l => if l = [] then [] else readL l :: (if (readL l).code = 0 then cameGo k (l.drop (readL l).n) else [])
def came (l : List Nat) : List Fr := cameGo l.length l
theorem cameGo_fuel : ∀ (j k : Nat) (l : List Nat), l.length ≤ j → l.length ≤ k → cameGo j l = cameGo k l
  | 0, 0, _, _, _ => rfl
  | 0, k + 1, l, h, _ => by have : l = [] := List.eq_nil_of_length_eq_zero (by omega); subst this; simp [cameGo]
  | j + 1, 0, l, _, h => by have : l = [] := List.eq_nil_of_length_eq_zero (by omega); subst this; simp [cameGo]
  | j + 1, k + 1, l, h1, h2 => by
    unfold cameGo
    by_cases h0 : l = []
    · rw [if_pos h0, if_pos h0]
    rw [if_neg h0, if_neg h0]
    by_cases hc : (readL l).code = 0
    · rw [if_pos hc, if_pos hc]
      have hr := read_le hc
      rw [cameGo_fuel j k (l.drop (readL l).n) (by rw [List.length_drop]; omega) (by rw [List.length_drop]; omega)]
    · rw [if_neg hc, if_neg hc]
theorem came_nil : came [] = [] := rfl
theorem came_step {l : List Nat} (h0 : l ≠ []) (hc : (readL l).code = 0) : came l = readL l :: came (l.drop (readL l).n) := by
  have hr := read_le hc
  have hl : 0 < l.length := List.length_pos_iff.2 h0
  obtain ⟨k, hk⟩ : ∃ k, l.length = k + 1 := ⟨l.length - 1, by omega⟩
  have e : came l = cameGo (k + 1) l := by unfold came; rw [hk]
  rw [e]
  unfold cameGo
  rw [if_neg h0, if_pos hc, show came (l.drop (readL l).n) = cameGo k (l.drop (readL l).n) from cameGo_fuel _ _ _ (Nat.le_refl _) (by rw [List.length_drop]; omega)]
theorem came_stop {l : List Nat} (h0 : l ≠ []) (hc : (readL l).code ≠ 0) : came l = [readL l] := by
  have hl : 0 < l.length := List.length_pos_iff.2 h0
  obtain ⟨k, hk⟩ : ∃ k, l.length = k + 1 := ⟨l.length - 1, by omega⟩
  have e : came l = cameGo (k + 1) l := by unfold came; rw [hk]
  rw [e]
  unfold cameGo
  rw [if_neg h0, if_neg hc]
theorem read_len {l : List Nat} (h : (readL l).code = 0) : (readL l).n = (readL l).body.length + 12 := by
  unfold readL at h ⊢
  repeat' split
  all_goals first | (simp_all; done) | (simp only [List.length_take, List.length_drop]; omega)
/-- How long frames are together. -/
def lensL : List Fr → Nat
  | [] => 0
  | y :: r => y.n + lensL r
theorem lensL_snoc (q : List Fr) (x : Fr) : lensL (q ++ [x]) = lensL q + x.n := by
  induction q with
  | nil => simp [lensL]
  | cons y q ih => simp [lensL, ih]; omega
/-- All that came, or all but the last, are right. -/
theorem came_split : ∀ (k : Nat) (l : List Nat), l.length ≤ k →
    ((∀ y ∈ came l, y.code = 0) → splitL l = ⟨(came l).map (·.body), lensL (came l), 0⟩) ∧
    (∀ q x, came l = q ++ [x] → x.code ≠ 0 → splitL l = ⟨q.map (·.body), lensL q, x.code⟩ ∧ ∀ y ∈ q, y.code = 0)
  | k, l, hk => by
    by_cases h0 : l = []
    · subst h0
      exact ⟨fun _ => rfl, fun q x h => by rw [came_nil] at h; simp at h⟩
    by_cases hc : (readL l).code = 0
    · have hr := read_le hc
      match k with
      | 0 => omega
      | k + 1 =>
        obtain ⟨i1, i2⟩ := came_split k (l.drop (readL l).n) (by rw [List.length_drop]; omega)
        rw [came_step h0 hc, splitL_step h0 hc]
        constructor
        · intro h
          rw [i1 (fun y hy => h y (by simp [hy]))]
          rfl
        · intro q x h hx
          cases q with
          | nil =>
            simp only [List.nil_append, List.cons.injEq] at h
            rw [← h.1] at hx
            exact absurd hc hx
          | cons y q =>
            simp only [List.cons_append, List.cons.injEq] at h
            obtain ⟨rfl, h⟩ := h
            obtain ⟨e1, e2⟩ := i2 q x h hx
            rw [e1]
            refine ⟨rfl, fun z hz => ?_⟩
            rcases List.mem_cons.1 hz with rfl | hz
            · exact hc
            · exact e2 z hz
    · rw [came_stop h0 hc, splitL_stop h0 hc]
      constructor
      · intro h
        exact absurd (h _ (by simp)) hc
      · intro q x h hx
        cases q with
        | nil =>
          simp only [List.nil_append, List.cons.injEq, and_true] at h
          subst h
          exact ⟨rfl, fun y hy => by simp at hy⟩
        | cons y q =>
          simp at h
theorem came_length : ∀ (k : Nat) (l : List Nat), l.length ≤ k → (came l).length ≤ l.length
  | k, l, hk => by
    by_cases h0 : l = []
    · subst h0; exact Nat.le_refl _
    have hl : 0 < l.length := List.length_pos_iff.2 h0
    by_cases hc : (readL l).code = 0
    · have hr := read_le hc
      match k with
      | 0 => omega
      | k + 1 =>
        have := came_length k (l.drop (readL l).n) (by rw [List.length_drop]; omega)
        rw [List.length_drop] at this
        rw [came_step h0 hc, List.length_cons]
        omega
    · rw [came_stop h0 hc]; exact hl
end Go.Proofs.Ytdeloaknoadpiaa.Crc
