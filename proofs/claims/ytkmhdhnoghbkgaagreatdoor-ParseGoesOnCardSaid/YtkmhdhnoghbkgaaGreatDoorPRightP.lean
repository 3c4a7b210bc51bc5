/- What the laws of layer 9 ask of what is read, plain. -/
import Derived.Test.YtkmhdhnoghbkgaaGreatDoorQ36
import Derived.Test.YtkmhdhnoghbkgaaGreatDoorPShape
import Derived.Test.YtkmhdhnoghbkgaaGreatDoorPSame
import Derived.Test.YtkmhdhnoghbkgaaGreatDoorRAlike
import Derived.Test.YtkmhdhnoghbkgaaGreatDoorPLaid
import Derived.Test.YtkmhdhnoghbkgaaGreatDoorTPow
set_option linter.unusedVariables false
namespace Go.Proofs.YtkmhdhnoghbkgaaGreatDoor
open Go.RowKit Go.Shelf Tok

theorem plOf_ne (ks : List Tk) (n j : Nat) : ((plOf ks n j).2 : Int) ≠ 0 := by
  unfold plOf
  split <;> simp
/-- What is read without a fault. -/
theorem readR_ok {l : List UInt8} {q : NT} (hq : q.wf) (h : (readR l q).2.2 = 0) :
    ∃ ks c, allT l = ⟨ks, 0, 0⟩ ∧ gP ks (fuelP ks q) q 0 = .ok c ks.length ∧ (lookF c.ts).2.2 = 0 ∧ readR l q = (c.ts, 0, 0) := by
  unfold readR at h ⊢
  by_cases hc : (allT l).code ≠ 0
  · rw [if_pos hc] at h
    dsimp only at h
    omega
  · rw [if_neg hc] at h ⊢
    obtain ⟨⟨ks, at_, cd⟩, hT⟩ : ∃ T, allT l = T := ⟨_, rfl⟩
    rw [hT] at hc h ⊢
    obtain rfl : cd = 0 := by dsimp only at hc; omega
    obtain ⟨hk, rfl⟩ := Cut.allT_few hT
    dsimp only at h ⊢
    have hfine := gP_fine ks (fuelP ks q) q 0 hq (Nat.zero_le _) (by unfold fuelP; omega)
    unfold readK at h ⊢
    cases hg : gP ks (fuelP ks q) q 0 with
    | out => exact absurd hg hfine.1
    | bad j => rw [hg] at h; exact absurd h (plOf_ne _ _ _)
    | ok c j =>
      have hj := (hfine.2 c j hg).2
      rw [hg] at h
      dsimp only at h ⊢
      by_cases hl : j < ks.length
      · rw [if_pos hl] at h; exact absurd h (plOf_ne _ _ _)
      · obtain rfl : j = ks.length := by omega
        rw [if_neg hl] at h ⊢
        by_cases hf : (lookF c.ts).2.2 = 0
        · rw [if_pos hf]
          exact ⟨ks, c, rfl, hg, hf, rfl⟩
        · rw [if_neg hf] at h
          exact absurd h hf
/-- What is read with a fault is nothing. -/
theorem readR_bad {l : List UInt8} {q : NT} (h : (readR l q).2.2 ≠ 0) : (readR l q).1 = [] := by
  unfold readR at h ⊢
  split
  · rfl
  · rename_i hc
    rw [if_neg hc] at h
    unfold readK at h ⊢
    cases hg : gP (allT l).toks (fuelP (allT l).toks q) q 0 with
    | out => rfl
    | bad j => rfl
    | ok c j =>
      rw [hg] at h
      dsimp only at h ⊢
      split
      · rfl
      · rename_i hj
        rw [if_neg hj] at h
        split
        · rename_i hf
          rw [if_pos hf] at h
          exact absurd rfl h
        · rfl
theorem flow_first {ks : List Tk} {f i j : Nat} {c : Ch} (h : gP ks (f + 1) .flow i = .ok c j) : ∃ x r, c.ts = x :: r ∧ x.op = 1 := by
  obtain ⟨_, k, _, h⟩ := st_ok h
  obtain ⟨nm, k, h0, h⟩ := st_ok h
  obtain ⟨ps, k, h1, h⟩ := st_ok h
  obtain ⟨b, k, h2, h⟩ := st_ok h
  obtain ⟨rfl, rfl⟩ := ok_eq h
  exact ⟨_, _, rfl, rfl⟩
theorem expr_first {ks : List Tk} (hk : ∀ x ∈ ks, TokOK x) {f i j : Nat} {c : Ch} (h : gP ks f .expr i = .ok c j) : ∃ x r, c.ts = x :: r ∧ exprB x.op = true := by
  obtain ⟨ps, e1, e2, e3, o, e4, e5⟩ := gP_trees hk f .expr i c j trivial trivial h
  match ps, e4 with
  | [p], e4 =>
    obtain ⟨⟨x, r, hx, ho⟩, _⟩ := e3 p List.mem_cons_self
    simp at e4
    refine ⟨x, r, ?_, ?_⟩
    · rw [e1]; unfold flatP; simp [hx]
    · rw [ho, e4]; exact e5
theorem key_bare {ks ls : List Tk} (h : ls.map (bareG ∘ toG) = ks.map (bareG ∘ toG)) : ks.map keyT = ls.map keyT := by
  have hf : ∀ t : Tk, keyT t = (fun g : Tg => (g.kind, g.text, g.num.toNat)) ((bareG ∘ toG) t) := fun t => by simp [keyT, bareG, toG]
  have : ∀ l : List Tk, l.map keyT = (l.map (bareG ∘ toG)).map (fun g : Tg => (g.kind, g.text, g.num.toNat)) := fun l => by
    rw [List.map_map]
    exact List.map_congr_left (fun t _ => hf t)
  rw [this, this, h]
/-- Spelled and read again, it is the same tree. -/
theorem readR_again {ks : List Tk} {c : Ch} {q : NT} {s : List UInt8} (hT : allT s = ⟨ks, 0, 0⟩) (hg : gP ks (fuelP ks q) q 0 = .ok c ks.length) (hf : (lookF c.ts).2.2 = 0) (hl : (joinL (ks.map toG)).length ≤ 16384) :
    readR (joinL (ks.map toG)) q = (c.ts, 0, 0) := by
  obtain ⟨ls, h1, h2⟩ := join_back (ts := ks.map toG) (fun t ht => by
    obtain ⟨x, hx, rfl⟩ := List.mem_map.1 ht
    have := (allT_good hT x hx).1
    exact ⟨this.1, by show (x.num : Int) ≤ _; have := this.2.1; omega⟩) hl
  rw [List.map_map] at h2
  have hk := key_bare h2
  have hlen : ls.length = ks.length := by have := congrArg List.length hk; simpa using this.symm
  unfold readR
  rw [h1]
  dsimp only
  rw [if_neg (by omega)]
  unfold readK fuelP
  rw [hlen, ← gP_same hk]
  unfold fuelP at hg
  rw [hg]
  dsimp only
  rw [if_neg (Nat.lt_irrefl _), if_pos hf]
theorem tgIn_of {w : World} {v : Value} {ks : List Tk} (h : TkIn w v ks) : TgIn w v (ks.map toG) := by
  obtain ⟨a, cap, rfl, h1, h2, h3⟩ := h
  refine ⟨a, cap, by rw [List.length_map], by rw [List.length_map]; exact h1, h2, fun h0 => ?_⟩
  rw [List.length_map] at h0
  obtain ⟨g, off, rfl, hg, hc⟩ := h3 h0
  refine ⟨g, off, rfl, hg, fun i hi c hc' => ?_⟩
  rw [List.length_map] at hi
  rw [hc i hi c hc', List.getElem_map]
  rfl
theorem fit_all {ks : List Tk} {s : List UInt8} (hT : allT s = ⟨ks, 0, 0⟩) : ∀ t ∈ ks.map toG, Fit t := by
  intro t ht
  obtain ⟨x, hx, rfl⟩ := List.mem_map.1 ht
  have hg := (allT_good hT x hx).1
  have hl := told_len hg.1
  exact ⟨by omega, by unfold I64 toG; have := hg.2.1; dsimp only; omega⟩
theorem told_all {ks : List Tk} {s : List UInt8} (hT : allT s = ⟨ks, 0, 0⟩) : (ks.map toG).all told = true := by
  rw [List.all_eq_true]
  intro t ht
  obtain ⟨x, hx, rfl⟩ := List.mem_map.1 ht
  exact (allT_good hT x hx).1.1
theorem readR_long {l : List UInt8} (h : 16384 < l.length) (q : NT) : (readR l q).2.2 ≠ 0 := by
  unfold readR
  have hT : allT l = ⟨[], 0, 2⟩ := if_pos h
  rw [hT]
  dsimp only
  rw [if_pos (by decide)]
  decide
theorem fit_of {ks : List Tk} {s : List UInt8} {q : NT} {c : Ch} {f i j : Nat} (hT : allT s = ⟨ks, 0, 0⟩) (hq : q.wf ∧ q.fits) (hg : gP ks f q i = .ok c j) : ∀ x ∈ c.ts, FitT x := gP_fit (allT_fits hT) _ _ _ _ _ hq.1 hq.2 hg
end Go.Proofs.YtkmhdhnoghbkgaaGreatDoor
