/- What the law ParseGoesOn asks of what is read, plain. -/
import Derived.Test.YtkmhdhnoghbkgaaGreatDoorPRightP
import Derived.Test.YtkmhdhnoghbkgaaGreatDoorPPre
import Derived.Test.YtkmhdhnoghbkgaaGreatDoorPNear
set_option linter.unusedVariables false
namespace Go.Proofs.YtkmhdhnoghbkgaaGreatDoor
open Go.RowKit Go.Shelf Tok

theorem lookF_code (ts : List Tw) : (lookF ts).2.2 = 0 ∨ (lookF ts).2.2 = 2 ∨ (lookF ts).2.2 = 3 := by
  unfold lookF
  split
  · exact .inr (.inl rfl)
  · split
    · exact .inr (.inr rfl)
    · split
      · exact .inr (.inr rfl)
      · split
        · exact .inr (.inl rfl)
        · exact .inl rfl
theorem tk_place {s : List UInt8} {ks : List Tk} (hT : allT s = ⟨ks, 0, 0⟩) (j : Nat) : (tkAt ks j).at_ ≤ s.length := by
  rcases Nat.lt_or_ge j ks.length with hj | hj
  · rw [tkAt_get hj]
    have := (allT_good hT _ (List.getElem_mem hj)).2
    omega
  · unfold tkAt
    rw [List.getD_eq_getElem?_getD, List.getElem?_eq_none hj]
    exact Nat.zero_le _
theorem plOf_in {s : List UInt8} {ks : List Tk} (hT : allT s = ⟨ks, 0, 0⟩) (j : Nat) : (plOf ks s.length j).1 ≤ s.length ∧ ((plOf ks s.length j).2 = 4 → (plOf ks s.length j).1 = s.length) := by
  unfold plOf
  split
  · exact ⟨Nat.le_refl _, fun _ => rfl⟩
  · exact ⟨tk_place hT j, fun h => by dsimp only at h; omega⟩
/-- A fault lies within the source; what ends too early, at its end. -/
theorem readR_place (l : List UInt8) (q : NT) : 0 ≤ (readR l q).2.1 ∧ (readR l q).2.1 ≤ l.length ∧ ((readR l q).2.2 = 4 → (readR l q).2.1 = l.length) := by
  obtain ⟨⟨ks, a, e⟩, hT⟩ : ∃ T, allT l = T := ⟨_, rfl⟩
  unfold readR
  rw [hT]
  dsimp only
  rcases Cut.allT_ends hT with ⟨rfl, rfl⟩ | ⟨rfl, h2, h3, h4⟩
  · rw [if_neg (by omega)]
    unfold readK
    cases hg : gP ks (fuelP ks q) q 0 with
    | out => dsimp only; exact ⟨by omega, by omega, fun h => by omega⟩
    | bad j =>
      obtain ⟨p1, p2⟩ := plOf_in hT j
      dsimp only
      exact ⟨by omega, by omega, fun h => by have := p2 (by omega); omega⟩
    | ok c j =>
      obtain ⟨p1, p2⟩ := plOf_in hT j
      dsimp only
      split
      · dsimp only
        exact ⟨by omega, by omega, fun h => by have := p2 (by omega); omega⟩
      · split
        · dsimp only; exact ⟨by omega, by omega, fun h => by omega⟩
        · have := lookF_code c.ts
          dsimp only
          exact ⟨by omega, by omega, fun h => by omega⟩
  · rw [if_pos (by omega)]
    dsimp only
    exact ⟨by omega, by omega, fun h => by have := h4 (by omega); omega⟩
/-- Where what was read of tokens ends, or goes wrong. -/
def St.at_ {α : Type} : St α → Nat
  | .ok _ j => j
  | .bad j => j
  | .out => 0
/-- A fault in the grammar: it lies at the token that the rule stands at. -/
theorem readR_text {l : List UInt8} {q : NT} (h : (readR l q).2.2 = 9) {ks : List Tk} (hT : allT l = ⟨ks, 0, 0⟩) : (gP ks (fuelP ks q) q 0).at_ ≠ ks.length ∧ (readR l q).2.1 = (tkAt ks (gP ks (fuelP ks q) q 0).at_).at_ ∧ gP ks (fuelP ks q) q 0 ≠ .out := by
  unfold readR at h ⊢
  rw [hT] at h ⊢
  dsimp only at h ⊢
  rw [if_neg (by omega)] at h ⊢
  unfold readK at h ⊢
  cases hg : gP ks (fuelP ks q) q 0 with
  | out => rw [hg] at h; dsimp only at h; omega
  | bad j =>
    rw [hg] at h
    dsimp only [St.at_] at h ⊢
    unfold plOf at h ⊢
    split at h
    · dsimp only at h; omega
    · rename_i hj
      rw [if_neg hj]
      exact ⟨hj, rfl, fun e => by cases e⟩
  | ok c j =>
    rw [hg] at h
    dsimp only [St.at_] at h ⊢
    by_cases hl : j < ks.length
    · rw [if_pos hl] at h ⊢
      unfold plOf at h ⊢
      rw [if_neg (by omega)]
      exact ⟨by omega, rfl, fun e => by cases e⟩
    · rw [if_neg hl] at h
      have := lookF_code c.ts
      split at h
      · dsimp only at h; omega
      · dsimp only at h; omega
theorem readR_goes {l : List UInt8} {ks : List Tk} (hT : allT l = ⟨ks, 0, 0⟩) {d : Nat} (h9 : (readR l .flow).2.2 = 9) (hd : (d : Int) ≤ (readR l .flow).2.1) (h9' : (readR (l.take d) .flow).2.2 = 9) : (d : Int) - 24 ≤ (readR (l.take d) .flow).2.1 := by
  obtain ⟨a1, a2, a3⟩ := readR_text h9 hT
  rcases Cut.allT_cut hT d with ⟨j, hc⟩ | ⟨us, ms, m, e1, e2, e3, e4, e5⟩
  · exfalso
    unfold readR at h9'
    rw [hc] at h9'
    dsimp only at h9'
    rw [if_pos (by omega)] at h9'
    dsimp only at h9'
    omega
  · obtain ⟨b1, b2, b3⟩ := readR_text h9' e1
    have hpre : ∀ i, i < us.length → ks[i]? = (us ++ m)[i]? := fun i hi => by
      rw [e2, List.getElem?_append_left hi, List.getElem?_append_left hi]
    have hus : ∀ i, i < us.length → ks[i]? = us[i]? := fun i hi => by rw [e2, List.getElem?_append_left hi]
    have hlen : ks.length = us.length + ms.length := by rw [e2, List.length_append]
    have hJ : us.length ≤ (gP ks (fuelP ks .flow) .flow 0).at_ := by
      rw [a2] at hd
      generalize (gP ks (fuelP ks .flow) .flow 0).at_ = J at hd ⊢
      rcases Nat.lt_or_ge J us.length with hlt | hge
      · exfalso
        have hlk : J < ks.length := by omega
        rw [tkAt_get hlk] at hd
        have hm : ks[J] ∈ us := by
          have := hus J hlt
          rw [List.getElem?_eq_getElem hlk, List.getElem?_eq_getElem hlt] at this
          injection this with this
          rw [this]
          exact List.getElem_mem hlt
        have := e3 _ hm
        omega
      · exact hge
    have hsim := (gP_sim hpre (fuelP ks .flow) (fuelP (us ++ m) .flow) .flow 0).1
    have hJ' : us.length ≤ (gP (us ++ m) (fuelP (us ++ m) .flow) .flow 0).at_ := by
      rcases hsim with h | h | h | ⟨_, h⟩
      · exact absurd h a3
      · exact absurd h b3
      · rw [← h]; exact hJ
      · cases hg : gP (us ++ m) (fuelP (us ++ m) .flow) .flow 0 with
        | out => exact absurd hg b3
        | ok c j => rw [hg] at h; exact h
        | bad j => rw [hg] at h; exact h
    have hnear := gP_near (us ++ m) (fuelP (us ++ m) .flow) .flow 0 trivial (Nat.zero_le _)
    have hle : (gP (us ++ m) (fuelP (us ++ m) .flow) .flow 0).at_ ≤ (us ++ m).length := by
      cases hg : gP (us ++ m) (fuelP (us ++ m) .flow) .flow 0 with
      | out => exact absurd hg b3
      | ok c j => rw [hg] at hnear; exact hnear
      | bad j => rw [hg] at hnear; exact hnear
    rw [b2]
    have hlt : (gP (us ++ m) (fuelP (us ++ m) .flow) .flow 0).at_ < (us ++ m).length := by omega
    rw [tkAt_get hlt]
    have hm : (us ++ m)[(gP (us ++ m) (fuelP (us ++ m) .flow) .flow 0).at_] ∈ m := by
      rw [List.getElem_append_right hJ']
      exact List.getElem_mem _
    have := e5 _ hm
    omega
end Go.Proofs.YtkmhdhnoghbkgaaGreatDoor
