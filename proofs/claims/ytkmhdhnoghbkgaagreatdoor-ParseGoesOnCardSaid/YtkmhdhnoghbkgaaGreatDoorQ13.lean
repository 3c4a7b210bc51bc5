/- The grammar of layer 9, plain: each rule reads no more trees than tokens, and goes no further than the tokens go. No condition. -/
import Derived.Test.YtkmhdhnoghbkgaaGreatDoorQ12
set_option linter.unusedVariables false
/- The grammar of layer 9, plain: each rule reads no more trees than tokens, and goes no further than the tokens go. No condition. -/
namespace Go.Proofs.YtkmhdhnoghbkgaaGreatDoor
open Go.RowKit Tok

def NT.low : NT → Nat
  | .stmts | .stmtsGo _ | .rowGo _ _ _ | .postGo _ => 0
  | _ => 1
def NT.had : NT → Nat
  | .stmtsGo a | .listGo _ _ a | .rowGo _ _ a | .postGo a => a.n
  | _ => 0
/-- The twigs that a rule bears; tokens that it takes and makes no twig of. -/
def NT.hadT : NT → Nat
  | .stmtsGo a | .listGo _ _ a | .rowGo _ _ a | .postGo a => a.ts.length
  | _ => 0
def NT.sl : NT → Nat
  | .list _ _ _ | .listGo _ _ _ | .between _ _ _ => 1
  | _ => 0
theorem st_ok {α β : Type} {s : St α} {f : α → Nat → St β} {b : β} {j : Nat} (h : s.and f = .ok b j) : ∃ a k, s = .ok a k ∧ f a k = .ok b j := by
  cases s with
  | ok a k => exact ⟨a, k, rfl, h⟩
  | bad k => cases h
  | out => cases h
theorem ok_eq {α : Type} {a b : α} {i j : Nat} (h : St.ok a i = St.ok b j) : a = b ∧ i = j := by cases h; exact ⟨rfl, rfl⟩
theorem want_step {ks : List Tk} {m : List UInt8} {i j : Nat} {u : Unit} (hm : m ≠ []) (h : wantT ks m i = .ok u j) : j = i + 1 ∧ i + 1 ≤ ks.length := by
  unfold wantT at h
  split at h
  · rename_i hq
    have := mark_lt hq hm
    cases h
    exact ⟨rfl, this⟩
  · cases h
theorem own_step {ks : List Tk} {i j : Nat} {x : List UInt8} (h : ownT ks i = .ok x j) : j = i + 1 ∧ i + 1 ≤ ks.length := by
  have := own_fine (ks := ks) (i := i)
  have h2 := this.2 x j h
  unfold ownT at h
  split at h
  · split at h
    · cases h; exact ⟨rfl, h2.2⟩
    · cases h
  · cases h
/-- What a rule read goes from i to j, and is no more trees than that. -/
def Bnd (ks : List Tk) (q : NT) (i : Nat) (c : Ch) (j : Nat) : Prop := q.low + i ≤ j ∧ c.n + i ≤ q.had + j ∧ (j ≤ i ∨ j ≤ ks.length) ∧ c.ts.length + i + q.sl ≤ q.hadT + j
theorem gM_bnd {ks : List Tk} {G : NT → Nat → St Ch} (hG : ∀ q i c j, q.wf → G q i = .ok c j → Bnd ks q i c j) {m : List UInt8} {i : Nat} {c : Ch} {j : Nat} (h : gM ks G m i = .ok c j) : Bnd ks .prim i c j := by
  show 1 + i ≤ j ∧ c.n + i ≤ 0 + j ∧ (j ≤ i ∨ j ≤ ks.length) ∧ c.ts.length + i + 0 ≤ 0 + j
  unfold gM at h
  split at h
  · obtain ⟨a, k, h1, h2⟩ := st_ok h
    obtain ⟨rfl, rfl⟩ := ok_eq h2
    obtain ⟨b1, b2, b3⟩ := hG (.list B.lsq .expr B.rsq) _ _ _ ⟨by decide, by decide, .inr rfl⟩ h1
    simp only [NT.low, NT.had, NT.hadT, NT.sl, Ch.under, List.length_cons] at *
    omega
  split at h
  · obtain ⟨b1, b2, b3⟩ := hG (.between B.opn .expr B.cls) _ _ _ ⟨by decide, by decide, .inr (.inl rfl)⟩ h
    simp only [NT.low, NT.had, NT.hadT, NT.sl] at *
    omega
  split at h
  · rename_i hm
    obtain ⟨a, k, h1, h2⟩ := st_ok h
    obtain ⟨rfl, rfl⟩ := ok_eq h2
    have := want_step (by rcases hm with rfl | rfl | rfl | rfl <;> decide) h1
    simp only [Ch.under, Ch.none, List.length_cons, List.length_nil] at *
    omega
  split at h
  · rename_i hm
    obtain ⟨_, k, h0, h⟩ := st_ok h
    have := want_step (by rcases hm with rfl | rfl | rfl | rfl | rfl <;> decide) h0
    obtain ⟨a, l, h1, h2⟩ := st_ok h
    obtain ⟨rfl, rfl⟩ := ok_eq h2
    obtain ⟨b1, b2, b3⟩ := hG (.between B.opn .expr B.cls) _ _ _ ⟨by decide, by decide, .inr (.inl rfl)⟩ h1
    simp only [NT.low, NT.had, NT.hadT, NT.sl, Ch.under, List.length_cons] at *
    omega
  split at h
  · rename_i hm
    obtain ⟨_, k, h0, h⟩ := st_ok h
    have := want_step (by rw [hm]; decide) h0
    obtain ⟨a, l, h1, h2⟩ := st_ok h
    obtain ⟨rfl, rfl⟩ := ok_eq h2
    obtain ⟨b1, b2, b3⟩ := hG (.between B.opn .two B.cls) _ _ _ ⟨by decide, by decide, .inr (.inr rfl)⟩ h1
    simp only [NT.low, NT.had, NT.hadT, NT.sl, Ch.under, List.length_cons] at *
    omega
  split at h
  · rename_i hm
    obtain ⟨_, k, h0, h⟩ := st_ok h
    have := want_step (by rcases hm with rfl | rfl <;> decide) h0
    obtain ⟨nm, k2, h3, h⟩ := st_ok h
    have := own_step h3
    obtain ⟨a, l, h1, h2⟩ := st_ok h
    obtain ⟨rfl, rfl⟩ := ok_eq h2
    obtain ⟨b1, b2, b3⟩ := hG (.list B.opn .expr B.cls) _ _ _ ⟨by decide, by decide, .inr rfl⟩ h1
    simp only [NT.low, NT.had, NT.hadT, NT.sl, Ch.under, List.length_cons] at *
    omega
  split at h
  · rename_i hm
    obtain ⟨_, k, h0, h⟩ := st_ok h
    have := want_step (by rw [hm]; decide) h0
    obtain ⟨a, l, h1, h2⟩ := st_ok h
    obtain ⟨rfl, rfl⟩ := ok_eq h2
    obtain ⟨b1, b2, b3⟩ := hG .block _ _ _ trivial h1
    simp only [NT.low, NT.had, NT.hadT, NT.sl, Ch.under, List.length_cons] at *
    omega
  split at h
  · rename_i hm
    obtain ⟨_, k, h0, h⟩ := st_ok h
    have := want_step (by rw [hm]; decide) h0
    obtain ⟨nm, k2, h3, h2⟩ := st_ok h
    have := own_step h3
    obtain ⟨rfl, rfl⟩ := ok_eq h2
    simp only [Ch.under, Ch.none, List.length_cons, List.length_nil] at *
    omega
  · obtain ⟨nm, k2, h3, h2⟩ := st_ok h
    have := own_step h3
    obtain ⟨rfl, rfl⟩ := ok_eq h2
    simp only [Ch.under, Ch.none, List.length_cons, List.length_nil] at *
    omega
theorem gP_bnd (ks : List Tk) : ∀ f q i c j, q.wf → gP ks f q i = .ok c j → Bnd ks q i c j
  | 0, q, i, c, j, _, h => by cases h
  | f + 1, q, i, c, j, hw, h => by
    have ih := gP_bnd ks f
    cases q with
    | flow =>
      obtain ⟨_, k, h0, h⟩ := st_ok h
      have := want_step (by decide) h0
      obtain ⟨nm, k, h0, h⟩ := st_ok h
      have := own_step h0
      obtain ⟨ps, k, h1, h⟩ := st_ok h
      obtain ⟨b, k, h2, h⟩ := st_ok h
      obtain ⟨rfl, rfl⟩ := ok_eq h
      obtain ⟨b1, b2, b3⟩ := ih (.list B.opn .param B.cls) _ _ _ ⟨by decide, by decide, .inl rfl⟩ h1
      obtain ⟨b4, b5, b6⟩ := ih .block _ _ _ trivial h2
      unfold Bnd
      simp only [NT.low, NT.had, NT.hadT, NT.sl, Ch.under, Ch.then, List.length_cons, List.length_append] at *
      omega
    | param =>
      obtain ⟨nm, k, h0, h⟩ := st_ok h
      have := own_step h0
      obtain ⟨rfl, rfl⟩ := ok_eq h
      unfold Bnd
      simp only [NT.low, NT.had, NT.hadT, NT.sl, Ch.under, Ch.none, List.length_cons, List.length_nil] at *
      omega
    | block =>
      obtain ⟨a, k, h1, h⟩ := st_ok h
      obtain ⟨rfl, rfl⟩ := ok_eq h
      obtain ⟨b1, b2, b3⟩ := ih (.between B.lbr .stmts B.rbr) _ _ _ ⟨by decide, by decide, .inl rfl⟩ h1
      unfold Bnd
      simp only [NT.low, NT.had, NT.hadT, NT.sl, Ch.under, List.length_cons] at *
      omega
    | stmts =>
      obtain ⟨b1, b2, b3⟩ := ih (.stmtsGo Ch.none) _ _ _ trivial h
      unfold Bnd
      simp only [NT.low, NT.had, NT.hadT, NT.sl, Ch.none, List.length_nil] at *
      omega
    | stmtsGo a =>
      unfold gP at h
      dsimp only at h
      split at h
      · obtain ⟨rfl, rfl⟩ := ok_eq h
        unfold Bnd
        simp only [NT.low, NT.had, NT.hadT, NT.sl] at *
        omega
      · obtain ⟨x, k, h1, h⟩ := st_ok h
        obtain ⟨b1, b2, b3⟩ := ih .stmt _ _ _ trivial h1
        obtain ⟨b4, b5, b6⟩ := ih (.stmtsGo (a.then x)) _ _ _ trivial h
        unfold Bnd
        simp only [NT.low, NT.had, NT.hadT, NT.sl, Ch.then, List.length_append] at *
        omega
    | stmt =>
      unfold gP at h
      dsimp only at h
      split at h
      · obtain ⟨_, k, h0, h⟩ := st_ok h
        have := want_step (by decide) h0
        obtain ⟨b1, b2, b3⟩ := ih (.set 4) _ _ _ trivial h
        unfold Bnd
        simp only [NT.low, NT.had, NT.hadT, NT.sl] at *
        omega
      split at h
      · exact ih .choice _ _ _ trivial h
      split at h
      · obtain ⟨_, k, h0, h⟩ := st_ok h
        have := want_step (by decide) h0
        obtain ⟨x, k, h1, h⟩ := st_ok h
        obtain ⟨b, k, h2, h⟩ := st_ok h
        obtain ⟨rfl, rfl⟩ := ok_eq h
        obtain ⟨b1, b2, b3⟩ := ih .expr _ _ _ trivial h1
        obtain ⟨b4, b5, b6⟩ := ih .block _ _ _ trivial h2
        unfold Bnd
        simp only [NT.low, NT.had, NT.hadT, NT.sl, Ch.under, Ch.then, List.length_cons, List.length_append] at *
        omega
      split at h
      · rename_i hm
        obtain ⟨_, k, h0, h⟩ := st_ok h
        have := want_step (by rcases hm with hm | hm | hm | hm <;> rw [hm] <;> decide) h0
        obtain ⟨x, k, h1, h⟩ := st_ok h
        obtain ⟨rfl, rfl⟩ := ok_eq h
        obtain ⟨b1, b2, b3⟩ := ih .expr _ _ _ trivial h1
        unfold Bnd
        simp only [NT.low, NT.had, NT.hadT, NT.sl, Ch.under, List.length_cons] at *
        omega
      · exact ih (.set 5) _ _ _ trivial h
    | choice =>
      obtain ⟨_, k, h0, h⟩ := st_ok h
      have := want_step (by decide) h0
      obtain ⟨x, k, h1, h⟩ := st_ok h
      obtain ⟨b, k, h2, h⟩ := st_ok h
      obtain ⟨b1, b2, b3⟩ := ih .expr _ _ _ trivial h1
      obtain ⟨b4, b5, b6⟩ := ih .block _ _ _ trivial h2
      split at h
      · obtain ⟨_, k, h3, h⟩ := st_ok h
        have := want_step (by decide) h3
        obtain ⟨d, k, h4, h⟩ := st_ok h
        obtain ⟨rfl, rfl⟩ := ok_eq h
        obtain ⟨b7, b8, b9⟩ := ih .block _ _ _ trivial h4
        unfold Bnd
        simp only [NT.low, NT.had, NT.hadT, NT.sl, Ch.under, Ch.then, List.length_cons, List.length_append] at *
        omega
      · obtain ⟨rfl, rfl⟩ := ok_eq h
        unfold Bnd
        simp only [NT.low, NT.had, NT.hadT, NT.sl, Ch.under, Ch.then, List.length_cons, List.length_append] at *
        omega
    | expr => exact ih (.row .and [B.or]) _ _ _ ⟨.inr (.inr (.inr rfl)), by decide⟩ h
    | and => exact ih (.row .not [B.and]) _ _ _ ⟨.inr (.inr (.inl rfl)), by decide⟩ h
    | not =>
      unfold gP at h
      dsimp only at h
      split at h
      · obtain ⟨_, k, h0, h⟩ := st_ok h
        have := want_step (by decide) h0
        obtain ⟨x, k, h1, h⟩ := st_ok h
        obtain ⟨rfl, rfl⟩ := ok_eq h
        obtain ⟨b1, b2, b3⟩ := ih .not _ _ _ trivial h1
        unfold Bnd
        simp only [NT.low, NT.had, NT.hadT, NT.sl, Ch.under, List.length_cons] at *
        omega
      · exact ih .cmp _ _ _ trivial h
    | cmp =>
      obtain ⟨x, k, h1, h⟩ := st_ok h
      obtain ⟨b1, b2, b3⟩ := ih .sum _ _ _ trivial h1
      split at h
      · rename_i hm
        obtain ⟨_, l, h0, h⟩ := st_ok h
        have := want_step (by rcases hm with hm | hm | hm | hm <;> rw [hm] <;> decide) h0
        obtain ⟨y, l, h2, h⟩ := st_ok h
        obtain ⟨rfl, rfl⟩ := ok_eq h
        obtain ⟨b4, b5, b6⟩ := ih .sum _ _ _ trivial h2
        unfold Bnd
        simp only [NT.low, NT.had, NT.hadT, NT.sl, Ch.under, Ch.then, List.length_cons, List.length_append] at *
        omega
      · obtain ⟨rfl, rfl⟩ := ok_eq h
        exact ⟨b1, b2, b3⟩
    | sum => exact ih (.row .term addS) _ _ _ ⟨.inr (.inl rfl), by decide⟩ h
    | term => exact ih (.row .pre mulS) _ _ _ ⟨.inl rfl, by decide⟩ h
    | pre =>
      unfold gP at h
      dsimp only at h
      split at h
      · obtain ⟨_, k, h0, h⟩ := st_ok h
        have := want_step (by decide) h0
        obtain ⟨x, k, h1, h⟩ := st_ok h
        obtain ⟨rfl, rfl⟩ := ok_eq h
        obtain ⟨b1, b2, b3⟩ := ih .pre _ _ _ trivial h1
        unfold Bnd
        simp only [NT.low, NT.had, NT.hadT, NT.sl, Ch.under, List.length_cons] at *
        omega
      split at h
      · rename_i hm
        obtain ⟨_, k, h0, h⟩ := st_ok h
        have := want_step (by rcases hm with hm | hm <;> rw [hm] <;> decide) h0
        obtain ⟨x, k, h1, h⟩ := st_ok h
        obtain ⟨rfl, rfl⟩ := ok_eq h
        obtain ⟨b1, b2, b3⟩ := ih .pre _ _ _ trivial h1
        unfold Bnd
        simp only [NT.low, NT.had, NT.hadT, NT.sl, Ch.under, List.length_cons] at *
        omega
      · exact ih .post _ _ _ trivial h
    | post =>
      obtain ⟨x, k, h1, h⟩ := st_ok h
      obtain ⟨b1, b2, b3⟩ := ih .prim _ _ _ trivial h1
      obtain ⟨b4, b5, b6⟩ := ih (.postGo x) _ _ _ trivial h
      unfold Bnd
      simp only [NT.low, NT.had, NT.hadT, NT.sl] at *
      omega
    | postGo a =>
      unfold gP at h
      dsimp only at h
      split at h
      · obtain ⟨x, k, h1, h⟩ := st_ok h
        obtain ⟨b1, b2, b3⟩ := ih (.between B.lsq .expr B.rsq) _ _ _ ⟨by decide, by decide, .inr (.inl rfl)⟩ h1
        obtain ⟨b4, b5, b6⟩ := ih (.postGo ((a.then x).under 42 0 [])) _ _ _ trivial h
        unfold Bnd
        simp only [NT.low, NT.had, NT.hadT, NT.sl, Ch.under, Ch.then, List.length_cons, List.length_append] at *
        omega
      · obtain ⟨rfl, rfl⟩ := ok_eq h
        unfold Bnd
        simp only [NT.low, NT.had, NT.hadT, NT.sl] at *
        omega
    | prim =>
      unfold gP at h
      dsimp only at h
      split at h
      · rename_i x hx
        have hl := (List.getElem?_eq_some_iff.1 hx).1
        split at h
        · obtain ⟨rfl, rfl⟩ := ok_eq h
          unfold Bnd
          simp only [NT.low, NT.had, NT.hadT, NT.sl, Ch.under, Ch.none, List.length_cons, List.length_nil] at *
          omega
        split at h
        · obtain ⟨rfl, rfl⟩ := ok_eq h
          unfold Bnd
          simp only [NT.low, NT.had, NT.hadT, NT.sl, Ch.under, Ch.none, List.length_cons, List.length_nil] at *
          omega
        · exact gM_bnd ih h
      · exact gM_bnd ih h
    | two =>
      obtain ⟨x, k, h1, h⟩ := st_ok h
      obtain ⟨_, k, h0, h⟩ := st_ok h
      have := want_step (by decide) h0
      obtain ⟨y, k, h2, h⟩ := st_ok h
      obtain ⟨rfl, rfl⟩ := ok_eq h
      obtain ⟨b1, b2, b3⟩ := ih .expr _ _ _ trivial h1
      obtain ⟨b4, b5, b6⟩ := ih .expr _ _ _ trivial h2
      unfold Bnd
      simp only [NT.low, NT.had, NT.hadT, NT.sl, Ch.then, List.length_append] at *
      omega
    | set op =>
      obtain ⟨nm, k, h0, h⟩ := st_ok h
      have := own_step h0
      obtain ⟨_, k, h0, h⟩ := st_ok h
      have := want_step (by decide) h0
      obtain ⟨x, k, h1, h⟩ := st_ok h
      obtain ⟨rfl, rfl⟩ := ok_eq h
      obtain ⟨b1, b2, b3⟩ := ih .expr _ _ _ trivial h1
      unfold Bnd
      simp only [NT.low, NT.had, NT.hadT, NT.sl, Ch.under, List.length_cons] at *
      omega
    | list o p e =>
      obtain ⟨ho, he, hp⟩ := hw
      obtain ⟨_, k, h0, h⟩ := st_ok h
      have := want_step ho h0
      split at h
      · obtain ⟨_, k, h1, h⟩ := st_ok h
        have := want_step he h1
        obtain ⟨rfl, rfl⟩ := ok_eq h
        unfold Bnd
        simp only [NT.low, NT.had, NT.hadT, NT.sl, Ch.none, List.length_nil] at *
        omega
      · obtain ⟨x, k, h1, h⟩ := st_ok h
        have hl : p.wf ∧ p.had = 0 ∧ p.low = 1 ∧ p.hadT = 0 ∧ p.sl = 0 := by rcases hp with rfl | rfl <;> exact ⟨trivial, rfl, rfl, rfl, rfl⟩
        obtain ⟨b1, b2, b3⟩ := ih p _ _ _ hl.1 h1
        obtain ⟨b4, b5, b6⟩ := ih (.listGo p e x) _ _ _ ⟨he, hp⟩ h
        rw [hl.2.1] at b2
        rw [hl.2.2.1] at b1
        rw [hl.2.2.2.1, hl.2.2.2.2] at b3
        unfold Bnd
        simp only [NT.low, NT.had, NT.hadT, NT.sl] at *
        omega
    | listGo p e a =>
      obtain ⟨he, hp⟩ := hw
      have hl : p.wf ∧ p.had = 0 ∧ p.low = 1 ∧ p.hadT = 0 ∧ p.sl = 0 := by rcases hp with rfl | rfl <;> exact ⟨trivial, rfl, rfl, rfl, rfl⟩
      unfold gP at h
      dsimp only at h
      split at h
      · obtain ⟨_, k, h0, h⟩ := st_ok h
        have := want_step (by decide) h0
        obtain ⟨x, k, h1, h⟩ := st_ok h
        obtain ⟨b1, b2, b3⟩ := ih p _ _ _ hl.1 h1
        obtain ⟨b4, b5, b6⟩ := ih (.listGo p e (a.then x)) _ _ _ ⟨he, hp⟩ h
        rw [hl.2.1] at b2
        rw [hl.2.2.1] at b1
        rw [hl.2.2.2.1, hl.2.2.2.2] at b3
        unfold Bnd
        simp only [NT.low, NT.had, NT.hadT, NT.sl, Ch.then, List.length_append] at *
        omega
      · obtain ⟨_, k, h0, h⟩ := st_ok h
        have := want_step he h0
        obtain ⟨rfl, rfl⟩ := ok_eq h
        unfold Bnd
        simp only [NT.low, NT.had, NT.hadT, NT.sl] at *
        omega
    | between o p e =>
      obtain ⟨ho, he, hp⟩ := hw
      obtain ⟨_, k, h0, h⟩ := st_ok h
      have := want_step ho h0
      obtain ⟨x, k, h1, h⟩ := st_ok h
      obtain ⟨_, k, h2, h⟩ := st_ok h
      have := want_step he h2
      obtain ⟨rfl, rfl⟩ := ok_eq h
      have hl : p.wf ∧ p.had = 0 ∧ p.hadT = 0 ∧ p.sl = 0 := by rcases hp with rfl | rfl | rfl <;> exact ⟨trivial, rfl, rfl, rfl⟩
      obtain ⟨b1, b2, b3⟩ := ih p _ _ _ hl.1 h1
      rw [hl.2.1] at b2
      rw [hl.2.2.1, hl.2.2.2] at b3
      unfold Bnd
      simp only [NT.low, NT.had, NT.hadT, NT.sl] at *
      omega
    | row p ms =>
      obtain ⟨x, k, h1, h⟩ := st_ok h
      have hl : p.wf ∧ p.had = 0 ∧ p.low = 1 ∧ p.hadT = 0 ∧ p.sl = 0 := by rcases hw.1 with rfl | rfl | rfl | rfl <;> exact ⟨trivial, rfl, rfl, rfl, rfl⟩
      obtain ⟨b1, b2, b3⟩ := ih p _ _ _ hl.1 h1
      obtain ⟨b4, b5, b6⟩ := ih (.rowGo p ms x) _ _ _ hw h
      rw [hl.2.1] at b2
      rw [hl.2.2.1] at b1
      rw [hl.2.2.2.1, hl.2.2.2.2] at b3
      unfold Bnd
      simp only [NT.low, NT.had, NT.hadT, NT.sl] at *
      omega
    | rowGo p ms a =>
      have hl : p.wf ∧ p.had = 0 ∧ p.low = 1 ∧ p.hadT = 0 ∧ p.sl = 0 := by rcases hw.1 with rfl | rfl | rfl | rfl <;> exact ⟨trivial, rfl, rfl, rfl, rfl⟩
      unfold gP at h
      dsimp only at h
      split at h
      · rename_i hm
        obtain ⟨_, k, h0, h⟩ := st_ok h
        have := want_step (hw.2 _ hm) h0
        obtain ⟨x, k, h1, h⟩ := st_ok h
        obtain ⟨b1, b2, b3⟩ := ih p _ _ _ hl.1 h1
        obtain ⟨b4, b5, b6⟩ := ih (.rowGo p ms ((a.then x).under (opOfT (markT ks i)) 0 [])) _ _ _ hw h
        rw [hl.2.1] at b2
        rw [hl.2.2.1] at b1
        rw [hl.2.2.2.1, hl.2.2.2.2] at b3
        unfold Bnd
        simp only [NT.low, NT.had, NT.hadT, NT.sl, Ch.under, Ch.then, List.length_cons, List.length_append] at *
        omega
      · obtain ⟨rfl, rfl⟩ := ok_eq h
        unfold Bnd
        simp only [NT.low, NT.had, NT.hadT, NT.sl] at *
        omega
/-- How many trees a rule reads at most. -/
theorem gP_few {ks : List Tk} (hk : ks.length ≤ 1000000) {f i j : Nat} {q : NT} {c : Ch} (hw : q.wf) (hh : q.had = 0) (h : gP ks f q i = .ok c j) : c.n ≤ 1000000 := by
  obtain ⟨b1, b2, b3⟩ := gP_bnd ks f q i c j hw h
  rw [hh] at b2
  omega
/-- How many twigs at most. -/
theorem gP_short {ks : List Tk} (hk : ks.length ≤ 1000000) {f i j : Nat} {q : NT} {c : Ch} (hw : q.wf) (hh : q.hadT = 0) (h : gP ks f q i = .ok c j) : c.ts.length ≤ 1000000 := by
  obtain ⟨b1, b2, b3⟩ := gP_bnd ks f q i c j hw h
  rw [hh] at b3
  omega
end Go.Proofs.YtkmhdhnoghbkgaaGreatDoor
