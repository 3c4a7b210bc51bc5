/- A part of the proof: PBound, PCut, RLook. No condition. -/
import Derived.OwnWalk
import Derived.Test.YtjiemkidmlgbeaaGreatDoorQ01
import Derived.Test.YtjiemkidmlgbeaaGreatDoorQ07
import Derived.Test.YtjiemkidmlgbeaaGreatDoorQ09
set_option linter.unusedVariables false
set_option linter.unusedSimpArgs false
namespace Go.Proofs.YtjiemkidmlgbeaaGreatDoor
open Go.RowKit Tok
def NT.low : NT → Nat
 | .stmts | .stmtsGo _ | .rowGo _ _ _ | .postGo _ => 0
 | _ => 1
def NT.had : NT → Nat
 | .stmtsGo a | .listGo _ _ a | .rowGo _ _ a | .postGo a => a.n
 | _ => 0
def NT.hadT : NT → Nat
 | .stmtsGo a | .listGo _ _ a | .rowGo _ _ a | .postGo a => a.ts.length
 | _ => 0
def NT.sl : NT → Nat
 | .list _ _ _ | .listGo _ _ _ | .between _ _ _ => 1
 | _ => 0
theorem st_ok {α β : Type} {s : St α} {f : α → Nat → St β} {b : β} {j : Nat} (h : s.and f = .ok b j) : ∃ a k, s = .ok a k ∧ f a k = .ok b j := by
 cases s with
 | ok a k => exact ⟨a, k, rfl, h⟩
 | bad k => cases h
 | out => cases h
theorem ok_eq {α : Type} {a b : α} {i j : Nat} (h : St.ok a i = St.ok b j) : a = b ∧ i = j := by cases h; exact ⟨rfl, rfl⟩
theorem want_step {ks : List Tk} {m : List UInt8} {i j : Nat} {u : Unit} (hm : m ≠ []) (h : wantT ks m i = .ok u j) : j = i + 1 ∧ i + 1 ≤ ks.length := by
 unfold wantT at h;split at h
 · rename_i hq
   have := mark_lt hq hm;cases h
   exact ⟨rfl, this⟩
 · cases h
theorem own_step {ks : List Tk} {i j : Nat} {x : List UInt8} (h : ownT ks i = .ok x j) : j = i + 1 ∧ i + 1 ≤ ks.length := by
 have := own_fine (ks := ks) (i := i);have h2 := this.2 x j h;unfold ownT at h;split at h
 · split at h
   · cases h; exact ⟨rfl, h2.2⟩
   · cases h
 · cases h
def Bnd (ks : List Tk) (q : NT) (i : Nat) (c : Ch) (j : Nat) : Prop := q.low + i ≤ j ∧ c.n + i ≤ q.had + j ∧ (j ≤ i ∨ j ≤ ks.length) ∧ c.ts.length + i + q.sl ≤ q.hadT + j
theorem gM_bnd {ks : List Tk} {G : NT → Nat → St Ch} (hG : ∀ q i c j, q.wf → G q i = .ok c j → Bnd ks q i c j) {m : List UInt8} {i : Nat} {c : Ch} {j : Nat} (h : gM ks G m i = .ok c j) : Bnd ks .prim i c j := by
 show 1 + i ≤ j ∧ c.n + i ≤ 0 + j ∧ (j ≤ i ∨ j ≤ ks.length) ∧ c.ts.length + i + 0 ≤ 0 + j
 unfold gM at h;split at h
 · obtain ⟨a, k, h1, h2⟩ := st_ok h
   obtain ⟨rfl, rfl⟩ := ok_eq h2;obtain ⟨b1, b2, b3⟩ := hG (.list B.lsq .expr B.rsq) _ _ _ ⟨by decide, by decide, .inr rfl⟩ h1;simp only [NT.low, NT.had, NT.hadT, NT.sl, Ch.under, List.length_cons] at *;omega
 split at h
 · obtain ⟨b1, b2, b3⟩ := hG (.between B.opn .expr B.cls) _ _ _ ⟨by decide, by decide, .inr (.inl rfl)⟩ h
   simp only [NT.low, NT.had, NT.hadT, NT.sl] at *;omega
 split at h
 · rename_i hm
   obtain ⟨a, k, h1, h2⟩ := st_ok h;obtain ⟨rfl, rfl⟩ := ok_eq h2;have := want_step (by rcases hm with rfl | rfl | rfl | rfl <;> decide) h1;simp only [Ch.under, Ch.none, List.length_cons, List.length_nil] at *;omega
 split at h
 · rename_i hm
   obtain ⟨_, k, h0, h⟩ := st_ok h;have := want_step (by rcases hm with rfl | rfl | rfl | rfl | rfl <;> decide) h0;obtain ⟨a, l, h1, h2⟩ := st_ok h;obtain ⟨rfl, rfl⟩ := ok_eq h2;obtain ⟨b1, b2, b3⟩ := hG (.between B.opn .expr B.cls) _ _ _ ⟨by decide, by decide, .inr (.inl rfl)⟩ h1;simp only [NT.low, NT.had, NT.hadT, NT.sl, Ch.under, List.length_cons] at *;omega
 split at h
 · rename_i hm
   obtain ⟨_, k, h0, h⟩ := st_ok h;have := want_step (by rw [hm]; decide) h0;obtain ⟨a, l, h1, h2⟩ := st_ok h;obtain ⟨rfl, rfl⟩ := ok_eq h2;obtain ⟨b1, b2, b3⟩ := hG (.between B.opn .two B.cls) _ _ _ ⟨by decide, by decide, .inr (.inr rfl)⟩ h1;simp only [NT.low, NT.had, NT.hadT, NT.sl, Ch.under, List.length_cons] at *;omega
 split at h
 · rename_i hm
   obtain ⟨_, k, h0, h⟩ := st_ok h;have := want_step (by rcases hm with rfl | rfl <;> decide) h0;obtain ⟨nm, k2, h3, h⟩ := st_ok h;have := own_step h3;obtain ⟨a, l, h1, h2⟩ := st_ok h;obtain ⟨rfl, rfl⟩ := ok_eq h2;obtain ⟨b1, b2, b3⟩ := hG (.list B.opn .expr B.cls) _ _ _ ⟨by decide, by decide, .inr rfl⟩ h1;simp only [NT.low, NT.had, NT.hadT, NT.sl, Ch.under, List.length_cons] at *;omega
 split at h
 · rename_i hm
   obtain ⟨_, k, h0, h⟩ := st_ok h;have := want_step (by rw [hm]; decide) h0;obtain ⟨a, l, h1, h2⟩ := st_ok h;obtain ⟨rfl, rfl⟩ := ok_eq h2;obtain ⟨b1, b2, b3⟩ := hG .block _ _ _ trivial h1;simp only [NT.low, NT.had, NT.hadT, NT.sl, Ch.under, List.length_cons] at *;omega
 split at h
 · rename_i hm
   obtain ⟨_, k, h0, h⟩ := st_ok h;have := want_step (by rw [hm]; decide) h0;obtain ⟨nm, k2, h3, h2⟩ := st_ok h;have := own_step h3;obtain ⟨rfl, rfl⟩ := ok_eq h2;simp only [Ch.under, Ch.none, List.length_cons, List.length_nil] at *;omega
 · obtain ⟨nm, k2, h3, h2⟩ := st_ok h
   have := own_step h3;obtain ⟨rfl, rfl⟩ := ok_eq h2;simp only [Ch.under, Ch.none, List.length_cons, List.length_nil] at *;omega
theorem gP_bnd (ks : List Tk) : ∀ f q i c j, q.wf → gP ks f q i = .ok c j → Bnd ks q i c j
 | 0, q, i, c, j, _, h => by cases h
 | f + 1, q, i, c, j, hw, h => by
   have ih := gP_bnd ks f;cases q with
   | flow =>
     obtain ⟨_, k, h0, h⟩ := st_ok h;have := want_step (by decide) h0;obtain ⟨nm, k, h0, h⟩ := st_ok h;have := own_step h0;obtain ⟨ps, k, h1, h⟩ := st_ok h;obtain ⟨b, k, h2, h⟩ := st_ok h;obtain ⟨rfl, rfl⟩ := ok_eq h;obtain ⟨b1, b2, b3⟩ := ih (.list B.opn .param B.cls) _ _ _ ⟨by decide, by decide, .inl rfl⟩ h1;obtain ⟨b4, b5, b6⟩ := ih .block _ _ _ trivial h2;unfold Bnd;simp only [NT.low, NT.had, NT.hadT, NT.sl, Ch.under, Ch.then, List.length_cons, List.length_append] at *;omega
   | param =>
     obtain ⟨nm, k, h0, h⟩ := st_ok h;have := own_step h0;obtain ⟨rfl, rfl⟩ := ok_eq h;unfold Bnd;simp only [NT.low, NT.had, NT.hadT, NT.sl, Ch.under, Ch.none, List.length_cons, List.length_nil] at *;omega
   | block =>
     obtain ⟨a, k, h1, h⟩ := st_ok h;obtain ⟨rfl, rfl⟩ := ok_eq h;obtain ⟨b1, b2, b3⟩ := ih (.between B.lbr .stmts B.rbr) _ _ _ ⟨by decide, by decide, .inl rfl⟩ h1;unfold Bnd;simp only [NT.low, NT.had, NT.hadT, NT.sl, Ch.under, List.length_cons] at *;omega
   | stmts =>
     obtain ⟨b1, b2, b3⟩ := ih (.stmtsGo Ch.none) _ _ _ trivial h;unfold Bnd;simp only [NT.low, NT.had, NT.hadT, NT.sl, Ch.none, List.length_nil] at *;omega
   | stmtsGo a =>
     unfold gP at h;dsimp only at h;split at h
     · obtain ⟨rfl, rfl⟩ := ok_eq h
       unfold Bnd;simp only [NT.low, NT.had, NT.hadT, NT.sl] at *;omega
     · obtain ⟨x, k, h1, h⟩ := st_ok h
       obtain ⟨b1, b2, b3⟩ := ih .stmt _ _ _ trivial h1;obtain ⟨b4, b5, b6⟩ := ih (.stmtsGo (a.then x)) _ _ _ trivial h;unfold Bnd;simp only [NT.low, NT.had, NT.hadT, NT.sl, Ch.then, List.length_append] at *;omega
   | stmt =>
     unfold gP at h;dsimp only at h;split at h
     · obtain ⟨_, k, h0, h⟩ := st_ok h
       have := want_step (by decide) h0;obtain ⟨b1, b2, b3⟩ := ih (.set 4) _ _ _ trivial h;unfold Bnd;simp only [NT.low, NT.had, NT.hadT, NT.sl] at *;omega
     split at h
     · exact ih .choice _ _ _ trivial h
     split at h
     · obtain ⟨_, k, h0, h⟩ := st_ok h
       have := want_step (by decide) h0;obtain ⟨x, k, h1, h⟩ := st_ok h;obtain ⟨b, k, h2, h⟩ := st_ok h;obtain ⟨rfl, rfl⟩ := ok_eq h;obtain ⟨b1, b2, b3⟩ := ih .expr _ _ _ trivial h1;obtain ⟨b4, b5, b6⟩ := ih .block _ _ _ trivial h2;unfold Bnd;simp only [NT.low, NT.had, NT.hadT, NT.sl, Ch.under, Ch.then, List.length_cons, List.length_append] at *;omega
     split at h
     · rename_i hm
       obtain ⟨_, k, h0, h⟩ := st_ok h;have := want_step (by rcases hm with hm | hm | hm | hm <;> rw [hm] <;> decide) h0;obtain ⟨x, k, h1, h⟩ := st_ok h;obtain ⟨rfl, rfl⟩ := ok_eq h;obtain ⟨b1, b2, b3⟩ := ih .expr _ _ _ trivial h1;unfold Bnd;simp only [NT.low, NT.had, NT.hadT, NT.sl, Ch.under, List.length_cons] at *;omega
     · exact ih (.set 5) _ _ _ trivial h
   | choice =>
     obtain ⟨_, k, h0, h⟩ := st_ok h;have := want_step (by decide) h0;obtain ⟨x, k, h1, h⟩ := st_ok h;obtain ⟨b, k, h2, h⟩ := st_ok h;obtain ⟨b1, b2, b3⟩ := ih .expr _ _ _ trivial h1;obtain ⟨b4, b5, b6⟩ := ih .block _ _ _ trivial h2;split at h
     · obtain ⟨_, k, h3, h⟩ := st_ok h
       have := want_step (by decide) h3;obtain ⟨d, k, h4, h⟩ := st_ok h;obtain ⟨rfl, rfl⟩ := ok_eq h;obtain ⟨b7, b8, b9⟩ := ih .block _ _ _ trivial h4;unfold Bnd;simp only [NT.low, NT.had, NT.hadT, NT.sl, Ch.under, Ch.then, List.length_cons, List.length_append] at *;omega
     · obtain ⟨rfl, rfl⟩ := ok_eq h
       unfold Bnd;simp only [NT.low, NT.had, NT.hadT, NT.sl, Ch.under, Ch.then, List.length_cons, List.length_append] at *;omega
   | expr => exact ih (.row .and [B.or]) _ _ _ ⟨.inr (.inr (.inr rfl)), by decide⟩ h
   | and => exact ih (.row .not [B.and]) _ _ _ ⟨.inr (.inr (.inl rfl)), by decide⟩ h
   | not =>
     unfold gP at h;dsimp only at h;split at h
     · obtain ⟨_, k, h0, h⟩ := st_ok h
       have := want_step (by decide) h0;obtain ⟨x, k, h1, h⟩ := st_ok h;obtain ⟨rfl, rfl⟩ := ok_eq h;obtain ⟨b1, b2, b3⟩ := ih .not _ _ _ trivial h1;unfold Bnd;simp only [NT.low, NT.had, NT.hadT, NT.sl, Ch.under, List.length_cons] at *;omega
     · exact ih .cmp _ _ _ trivial h
   | cmp =>
     obtain ⟨x, k, h1, h⟩ := st_ok h;obtain ⟨b1, b2, b3⟩ := ih .sum _ _ _ trivial h1;split at h
     · rename_i hm
       obtain ⟨_, l, h0, h⟩ := st_ok h;have := want_step (by rcases hm with hm | hm | hm | hm <;> rw [hm] <;> decide) h0;obtain ⟨y, l, h2, h⟩ := st_ok h;obtain ⟨rfl, rfl⟩ := ok_eq h;obtain ⟨b4, b5, b6⟩ := ih .sum _ _ _ trivial h2;unfold Bnd;simp only [NT.low, NT.had, NT.hadT, NT.sl, Ch.under, Ch.then, List.length_cons, List.length_append] at *;omega
     · obtain ⟨rfl, rfl⟩ := ok_eq h
       exact ⟨b1, b2, b3⟩
   | sum => exact ih (.row .term addS) _ _ _ ⟨.inr (.inl rfl), by decide⟩ h
   | term => exact ih (.row .pre mulS) _ _ _ ⟨.inl rfl, by decide⟩ h
   | pre =>
     unfold gP at h;dsimp only at h;split at h
     · obtain ⟨_, k, h0, h⟩ := st_ok h
       have := want_step (by decide) h0;obtain ⟨x, k, h1, h⟩ := st_ok h;obtain ⟨rfl, rfl⟩ := ok_eq h;obtain ⟨b1, b2, b3⟩ := ih .pre _ _ _ trivial h1;unfold Bnd;simp only [NT.low, NT.had, NT.hadT, NT.sl, Ch.under, List.length_cons] at *;omega
     split at h
     · rename_i hm
       obtain ⟨_, k, h0, h⟩ := st_ok h;have := want_step (by rcases hm with hm | hm <;> rw [hm] <;> decide) h0;obtain ⟨x, k, h1, h⟩ := st_ok h;obtain ⟨rfl, rfl⟩ := ok_eq h;obtain ⟨b1, b2, b3⟩ := ih .pre _ _ _ trivial h1;unfold Bnd;simp only [NT.low, NT.had, NT.hadT, NT.sl, Ch.under, List.length_cons] at *;omega
     · exact ih .post _ _ _ trivial h
   | post =>
     obtain ⟨x, k, h1, h⟩ := st_ok h;obtain ⟨b1, b2, b3⟩ := ih .prim _ _ _ trivial h1;obtain ⟨b4, b5, b6⟩ := ih (.postGo x) _ _ _ trivial h;unfold Bnd;simp only [NT.low, NT.had, NT.hadT, NT.sl] at *;omega
   | postGo a =>
     unfold gP at h;dsimp only at h;split at h
     · obtain ⟨x, k, h1, h⟩ := st_ok h
       obtain ⟨b1, b2, b3⟩ := ih (.between B.lsq .expr B.rsq) _ _ _ ⟨by decide, by decide, .inr (.inl rfl)⟩ h1;obtain ⟨b4, b5, b6⟩ := ih (.postGo ((a.then x).under 42 0 [])) _ _ _ trivial h;unfold Bnd;simp only [NT.low, NT.had, NT.hadT, NT.sl, Ch.under, Ch.then, List.length_cons, List.length_append] at *;omega
     · obtain ⟨rfl, rfl⟩ := ok_eq h
       unfold Bnd;simp only [NT.low, NT.had, NT.hadT, NT.sl] at *;omega
   | prim =>
     unfold gP at h;dsimp only at h;split at h
     · rename_i x hx
       have hl := (List.getElem?_eq_some_iff.1 hx).1;split at h
       · obtain ⟨rfl, rfl⟩ := ok_eq h
         unfold Bnd;simp only [NT.low, NT.had, NT.hadT, NT.sl, Ch.under, Ch.none, List.length_cons, List.length_nil] at *;omega
       split at h
       · obtain ⟨rfl, rfl⟩ := ok_eq h
         unfold Bnd;simp only [NT.low, NT.had, NT.hadT, NT.sl, Ch.under, Ch.none, List.length_cons, List.length_nil] at *;omega
       · exact gM_bnd ih h
     · exact gM_bnd ih h
   | two =>
     obtain ⟨x, k, h1, h⟩ := st_ok h;obtain ⟨_, k, h0, h⟩ := st_ok h;have := want_step (by decide) h0;obtain ⟨y, k, h2, h⟩ := st_ok h;obtain ⟨rfl, rfl⟩ := ok_eq h;obtain ⟨b1, b2, b3⟩ := ih .expr _ _ _ trivial h1;obtain ⟨b4, b5, b6⟩ := ih .expr _ _ _ trivial h2;unfold Bnd;simp only [NT.low, NT.had, NT.hadT, NT.sl, Ch.then, List.length_append] at *;omega
   | set op =>
     obtain ⟨nm, k, h0, h⟩ := st_ok h;have := own_step h0;obtain ⟨_, k, h0, h⟩ := st_ok h;have := want_step (by decide) h0;obtain ⟨x, k, h1, h⟩ := st_ok h;obtain ⟨rfl, rfl⟩ := ok_eq h;obtain ⟨b1, b2, b3⟩ := ih .expr _ _ _ trivial h1;unfold Bnd;simp only [NT.low, NT.had, NT.hadT, NT.sl, Ch.under, List.length_cons] at *;omega
   | list o p e =>
     obtain ⟨ho, he, hp⟩ := hw;obtain ⟨_, k, h0, h⟩ := st_ok h;have := want_step ho h0;split at h
     · obtain ⟨_, k, h1, h⟩ := st_ok h
       have := want_step he h1;obtain ⟨rfl, rfl⟩ := ok_eq h;unfold Bnd;simp only [NT.low, NT.had, NT.hadT, NT.sl, Ch.none, List.length_nil] at *;omega
     · obtain ⟨x, k, h1, h⟩ := st_ok h
       have hl : p.wf ∧ p.had = 0 ∧ p.low = 1 ∧ p.hadT = 0 ∧ p.sl = 0 := by rcases hp with rfl | rfl <;> exact ⟨trivial, rfl, rfl, rfl, rfl⟩
       obtain ⟨b1, b2, b3⟩ := ih p _ _ _ hl.1 h1;obtain ⟨b4, b5, b6⟩ := ih (.listGo p e x) _ _ _ ⟨he, hp⟩ h;rw [hl.2.1] at b2;rw [hl.2.2.1] at b1;rw [hl.2.2.2.1, hl.2.2.2.2] at b3;unfold Bnd;simp only [NT.low, NT.had, NT.hadT, NT.sl] at *;omega
   | listGo p e a =>
     obtain ⟨he, hp⟩ := hw;have hl : p.wf ∧ p.had = 0 ∧ p.low = 1 ∧ p.hadT = 0 ∧ p.sl = 0 := by rcases hp with rfl | rfl <;> exact ⟨trivial, rfl, rfl, rfl, rfl⟩
     unfold gP at h;dsimp only at h;split at h
     · obtain ⟨_, k, h0, h⟩ := st_ok h
       have := want_step (by decide) h0;obtain ⟨x, k, h1, h⟩ := st_ok h;obtain ⟨b1, b2, b3⟩ := ih p _ _ _ hl.1 h1;obtain ⟨b4, b5, b6⟩ := ih (.listGo p e (a.then x)) _ _ _ ⟨he, hp⟩ h;rw [hl.2.1] at b2;rw [hl.2.2.1] at b1;rw [hl.2.2.2.1, hl.2.2.2.2] at b3;unfold Bnd;simp only [NT.low, NT.had, NT.hadT, NT.sl, Ch.then, List.length_append] at *;omega
     · obtain ⟨_, k, h0, h⟩ := st_ok h
       have := want_step he h0;obtain ⟨rfl, rfl⟩ := ok_eq h;unfold Bnd;simp only [NT.low, NT.had, NT.hadT, NT.sl] at *;omega
   | between o p e =>
     obtain ⟨ho, he, hp⟩ := hw;obtain ⟨_, k, h0, h⟩ := st_ok h;have := want_step ho h0;obtain ⟨x, k, h1, h⟩ := st_ok h;obtain ⟨_, k, h2, h⟩ := st_ok h;have := want_step he h2;obtain ⟨rfl, rfl⟩ := ok_eq h;have hl : p.wf ∧ p.had = 0 ∧ p.hadT = 0 ∧ p.sl = 0 := by rcases hp with rfl | rfl | rfl <;> exact ⟨trivial, rfl, rfl, rfl⟩
     obtain ⟨b1, b2, b3⟩ := ih p _ _ _ hl.1 h1;rw [hl.2.1] at b2;rw [hl.2.2.1, hl.2.2.2] at b3;unfold Bnd;simp only [NT.low, NT.had, NT.hadT, NT.sl] at *;omega
   | row p ms =>
     obtain ⟨x, k, h1, h⟩ := st_ok h;have hl : p.wf ∧ p.had = 0 ∧ p.low = 1 ∧ p.hadT = 0 ∧ p.sl = 0 := by rcases hw.1 with rfl | rfl | rfl | rfl <;> exact ⟨trivial, rfl, rfl, rfl, rfl⟩
     obtain ⟨b1, b2, b3⟩ := ih p _ _ _ hl.1 h1;obtain ⟨b4, b5, b6⟩ := ih (.rowGo p ms x) _ _ _ hw h;rw [hl.2.1] at b2;rw [hl.2.2.1] at b1;rw [hl.2.2.2.1, hl.2.2.2.2] at b3;unfold Bnd;simp only [NT.low, NT.had, NT.hadT, NT.sl] at *;omega
   | rowGo p ms a =>
     have hl : p.wf ∧ p.had = 0 ∧ p.low = 1 ∧ p.hadT = 0 ∧ p.sl = 0 := by rcases hw.1 with rfl | rfl | rfl | rfl <;> exact ⟨trivial, rfl, rfl, rfl, rfl⟩
     unfold gP at h;dsimp only at h;split at h
     · rename_i hm
       obtain ⟨_, k, h0, h⟩ := st_ok h;have := want_step (hw.2 _ hm) h0;obtain ⟨x, k, h1, h⟩ := st_ok h;obtain ⟨b1, b2, b3⟩ := ih p _ _ _ hl.1 h1;obtain ⟨b4, b5, b6⟩ := ih (.rowGo p ms ((a.then x).under (opOfT (markT ks i)) 0 [])) _ _ _ hw h;rw [hl.2.1] at b2;rw [hl.2.2.1] at b1;rw [hl.2.2.2.1, hl.2.2.2.2] at b3;unfold Bnd;simp only [NT.low, NT.had, NT.hadT, NT.sl, Ch.under, Ch.then, List.length_cons, List.length_append] at *;omega
     · obtain ⟨rfl, rfl⟩ := ok_eq h
       unfold Bnd;simp only [NT.low, NT.had, NT.hadT, NT.sl] at *;omega
theorem gP_few {ks : List Tk} (hk : ks.length ≤ 1000000) {f i j : Nat} {q : NT} {c : Ch} (hw : q.wf) (hh : q.had = 0) (h : gP ks f q i = .ok c j) : c.n ≤ 1000000 := by
 obtain ⟨b1, b2, b3⟩ := gP_bnd ks f q i c j hw h;rw [hh] at b2;omega
theorem gP_short {ks : List Tk} (hk : ks.length ≤ 1000000) {f i j : Nat} {q : NT} {c : Ch} (hw : q.wf) (hh : q.hadT = 0) (h : gP ks f q i = .ok c j) : c.ts.length ≤ 1000000 := by
 obtain ⟨b1, b2, b3⟩ := gP_bnd ks f q i c j hw h;rw [hh] at b3;omega
end Go.Proofs.YtjiemkidmlgbeaaGreatDoor
namespace Go.Proofs.YtjiemkidmlgbeaaGreatDoor.Cut
open Go.RowKit Tok
theorem span_len {p : UInt8 → Bool} : ∀ l : List UInt8, span p l ≤ l.length
 | [] => Nat.le_refl _
 | c :: l => by
   show (if p c then span p l + 1 else 0) ≤ _
   have := span_len (p := p) l;split <;> simp <;> omega
theorem fold_ge : ∀ (l : List UInt8) (x : Nat), 10 ^ l.length * x ≤ l.foldl (fun x c => 10 * x + (c.toNat - 48)) x
 | [], x => by simp
 | c :: l, x => by
   rw [List.foldl_cons];refine Nat.le_trans ?_ (fold_ge l _);rw [List.length_cons, Nat.pow_succ, Nat.mul_assoc];exact Nat.mul_le_mul_left _ (by omega)
theorem hex_cut {r : List UInt8} {b : UInt8} {j : Nat} (h : hexT r = .ok b j) (e : Nat) : j = 4 ∧ (2 ≤ e → hexT (r.take e) = .ok b j) ∧ (e < 2 → ∃ x, hexT (r.take e) = .bad x 4) := by
 unfold hexT at h
 match r, h with
 | [], h => cases h
 | c :: r, h =>
   dsimp only at h;cases hc : hexV c with
   | none => rw [hc] at h; cases h
   | some x =>
     rw [hc] at h
     match r, h with
     | [], h => cases h
     | f :: r, h =>
       dsimp only at h;cases hf : hexV f with
       | none => rw [hf] at h; cases h
       | some y =>
         rw [hf] at h;cases h
         refine ⟨rfl, fun he => ?_, fun he => ?_⟩
         · obtain ⟨e', rfl⟩ : ∃ e', e = e' + 2 := ⟨e - 2, by omega⟩
           rw [List.take_succ_cons, List.take_succ_cons];unfold hexT;dsimp only;rw [hc];dsimp only;rw [hf]
         · match e, he with
           | 0, _ => exact ⟨2, rfl⟩
           | 1, _ =>
             refine ⟨3, ?_⟩;rw [List.take_succ_cons, List.take_zero];unfold hexT;dsimp only;rw [hc]
theorem item_cut {c : UInt8} {r : List UInt8} {b : UInt8} {j : Nat} (h : itemT c r = .ok b j) (e : Nat) : (j ≤ e + 1 → itemT c (r.take e) = .ok b j) ∧ (e + 1 < j → ∃ x, itemT c (r.take e) = .bad x 4) := by
 unfold itemT at h ⊢;by_cases h1 : plainC c = false
 · rw [if_pos h1] at h; cases h
 · rw [if_neg h1] at h
   simp only [if_neg h1];by_cases h2 : c.toNat ≠ 92
   · rw [if_pos h2] at h
     simp only [if_pos h2];cases h
     exact ⟨fun _ => rfl, fun h => by omega⟩
   · rw [if_neg h2] at h
     simp only [if_neg h2]
     match r, h with
     | [], h => cases h
     | d :: r, h =>
       match e with
       | 0 =>
         refine ⟨fun hj => ?_, fun _ => ⟨1, rfl⟩⟩;exfalso
         dsimp only at h
         repeat' split at h
         all_goals first
           | (cases h; omega)
           | (have := (hex_cut h 0).1; omega)
           | (cases h)
       | e + 1 =>
         rw [List.take_succ_cons];dsimp only at h ⊢;by_cases h3 : d.toNat = 34 ∨ d.toNat = 92
         · rw [if_pos h3] at h
           simp only [if_pos h3];cases h
           exact ⟨fun _ => rfl, fun h => by omega⟩
         · rw [if_neg h3] at h
           simp only [if_neg h3];by_cases h4 : d.toNat = 110
           · rw [if_pos h4] at h
             simp only [if_pos h4];cases h
             exact ⟨fun _ => rfl, fun h => by omega⟩
           · rw [if_neg h4] at h
             simp only [if_neg h4];by_cases h5 : d.toNat = 120
             · rw [if_pos h5] at h
               simp only [if_pos h5];obtain ⟨rfl, a1, a2⟩ := hex_cut h e;exact ⟨fun h => a1 (by omega), fun h => a2 (by omega)⟩
             · rw [if_neg h5] at h; cases h
theorem signGo_cut : ∀ (ss : List (List UInt8)) (l : List UInt8) {kd : Nat} {tx : List UInt8} {x i : Nat}, signGo ss l = .ok kd tx x i → tx ∈ ss ∧ i = tx.length ∧ kd = 4 ∧ x = 0 ∧ tx <+: l ∧ ∀ d, i ≤ d → signGo ss (l.take d) = .ok kd tx x i
 | [], l, _, _, _, _, h => (noneT_bad l h).elim
 | s :: ss, l, kd, tx, x, i, h => by
   unfold signGo at h;by_cases hs : s.isPrefixOf l
   · rw [if_pos hs] at h
     cases h
     have hp := List.isPrefixOf_iff_prefix.1 hs;refine ⟨List.mem_cons_self, rfl, rfl, rfl, hp, fun d hd => ?_⟩;unfold signGo;rw [if_pos];exact List.isPrefixOf_iff_prefix.2 (List.prefix_take_iff.2 ⟨hp, hd⟩)
   · rw [if_neg hs] at h
     obtain ⟨h1, h2, h3, h4, h5, h6⟩ := signGo_cut ss l h;refine ⟨List.mem_cons_of_mem _ h1, h2, h3, h4, h5, fun d hd => ?_⟩;unfold signGo;rw [if_neg]
     · exact h6 d hd
     · intro hc
       exact hs (List.isPrefixOf_iff_prefix.2 ((List.isPrefixOf_iff_prefix.1 hc).trans (List.take_prefix _ _)))
theorem hex_len {r : List UInt8} {b : UInt8} {j : Nat} (h : hexT r = .ok b j) : j ≤ r.length + 2 := by
 have := (hex_cut h 0).1;unfold hexT at h
 match r, h with
 | [], h => cases h
 | c :: r, h =>
   dsimp only at h;split at h
   · cases h
   · match r, h with
     | [], h => cases h
     | f :: r, h => rw [List.length_cons, List.length_cons]; omega
theorem item_len {c : UInt8} {r : List UInt8} {b : UInt8} {j : Nat} (h : itemT c r = .ok b j) : j ≤ r.length + 1 := by
 unfold itemT at h;split at h
 · cases h
 · split at h
   · cases h; omega
   · match r, h with
     | [], h => cases h
     | d :: r, h =>
       dsimp only at h;rw [List.length_cons];split at h
       · cases h; omega
       · split at h
         · cases h; omega
         · split at h
           · have := hex_len h; omega
           · cases h
theorem hex_bad {r : List UInt8} {i e : Nat} (h : hexT r = .bad i e) : (e = 4 ∨ e = 9) ∧ i ≤ r.length + 2 ∧ (e = 4 → i = r.length + 2) := by
 unfold hexT at h
 match r, h with
 | [], h => cases h; exact ⟨.inl rfl, by simp, fun _ => rfl⟩
 | c :: r, h =>
   dsimp only at h;split at h
   · cases h; exact ⟨.inr rfl, by simp, fun e => by omega⟩
   · match r, h with
     | [], h => cases h; exact ⟨.inl rfl, by simp, fun _ => rfl⟩
     | f :: r, h =>
       dsimp only at h;split at h
       · cases h; exact ⟨.inr rfl, by simp, fun e => by omega⟩
       · cases h
theorem item_bad {c : UInt8} {r : List UInt8} {i e : Nat} (h : itemT c r = .bad i e) : (e = 4 ∨ e = 9) ∧ i ≤ r.length + 1 ∧ (e = 4 → i = r.length + 1) := by
 unfold itemT at h;split at h
 · cases h; exact ⟨.inr rfl, by omega, fun e => by omega⟩
 · split at h
   · cases h
   · match r, h with
     | [], h => cases h; exact ⟨.inl rfl, by simp, fun _ => rfl⟩
     | d :: r, h =>
       dsimp only at h;split at h
       · cases h
       · split at h
         · cases h
         · split at h
           · obtain ⟨h1, h2, h3⟩ := hex_bad h
             rw [List.length_cons];exact ⟨h1, by omega, fun e => by have := h3 e; omega⟩
           · cases h; exact ⟨.inr rfl, by rw [List.length_cons]; omega, fun e => by omega⟩
theorem text_bad : ∀ (k : Nat) (l acc : List UInt8) (n : Nat) {i e : Nat}, textGo k l acc n = .bad i e → l.length < k → (e = 2 ∨ e = 4 ∨ e = 9) ∧ i ≤ n + l.length ∧ (e = 4 → i = n + l.length)
 | 0, _, _, _, _, _, _, hl => by omega
 | k + 1, l, acc, n, i, e, h, hl => by
   unfold textGo at h
   match l, h, hl with
   | [], h, _ => cases h; exact ⟨.inr (.inl rfl), Nat.le_refl _, fun _ => rfl⟩
   | c :: r, h, hl =>
     rw [List.length_cons] at hl;dsimp only at h;split at h
     · cases h
     · cases hi : itemT c r with
       | bad j e =>
         rw [hi] at h;cases h
         obtain ⟨h1, h2, h3⟩ := item_bad hi;rw [List.length_cons];exact ⟨.inr h1, by omega, fun e => by have := h3 e; omega⟩
       | ok b j =>
         rw [hi] at h;dsimp only at h;have hj := itemT_pos hi;split at h
         · cases h; exact ⟨.inl rfl, by omega, fun e => by omega⟩
         · obtain ⟨h1, h2, h3⟩ := text_bad k _ _ _ h (by rw [List.length_drop, List.length_cons]; omega)
           have hjr : j ≤ r.length + 1 := by
             rcases Nat.lt_or_ge (r.length + 1) j with hlt | hge
             · have := item_len hi
               omega
             · exact hge
           rw [List.length_drop, List.length_cons] at h2 h3;rw [List.length_cons];exact ⟨h1, by omega, fun e => by have := h3 e; omega⟩
theorem tokT_bad {c : UInt8} {r : List UInt8} {i e : Nat} (h : tokT (c :: r) = .bad i e) : (e = 2 ∨ e = 4 ∨ e = 9) ∧ i ≤ r.length + 1 ∧ (e = 4 → i = r.length + 1) := by
 rw [tokT_cons] at h;split at h
 · unfold wordT at h
   split at h
   · cases h; exact ⟨.inl rfl, by omega, fun e => by omega⟩
   · cases h
 · split at h
   · have hnl : numN (c :: r) ≤ (c :: r).length := by
       show (if c.toNat = 48 then 1 else span digC (c :: r)) ≤ _
       split
       · simp
       · exact span_len _
     rw [List.length_cons] at hnl;unfold numT at h;split at h
     · cases h; exact ⟨.inl rfl, by omega, fun e => by omega⟩
     · split at h
       · cases h
       · split at h
         · cases h; exact ⟨.inr (.inr rfl), hnl, fun e => by omega⟩
         · cases h
   · split at h
     · unfold textT textR at h
       rw [List.drop_succ_cons, List.drop_zero] at h;obtain ⟨h1, h2, h3⟩ := text_bad _ _ _ _ h (by omega);exact ⟨h1, by omega, fun e => by have := h3 e; omega⟩
     · have hg : ∀ (ss : List (List UInt8)), signGo ss (c :: r) = .bad i e → (e = 2 ∨ e = 4 ∨ e = 9) ∧ i ≤ r.length + 1 ∧ (e = 4 → i = r.length + 1) := by
         intro ss
         induction ss with
         | nil =>
           intro h;have h' : (if c.toNat ≠ 33 then Res.bad 0 9 else if r = [] then .bad 1 4 else .bad 1 9) = .bad i e := h;split at h'
           · cases h'; exact ⟨.inr (.inr rfl), by omega, fun e => by omega⟩
           · split at h'
             · rename_i hr
               cases h'
               subst hr;exact ⟨.inr (.inl rfl), by simp, fun _ => rfl⟩
             · cases h'; exact ⟨.inr (.inr rfl), by omega, fun e => by omega⟩
         | cons s ss ih =>
           intro h;unfold signGo at h;split at h
           · cases h
           · exact ih h
       exact hg signs h
theorem text_len : ∀ (k : Nat) (l acc : List UInt8) (n : Nat) {kd : Nat} {tx : List UInt8} {x i : Nat}, textGo k l acc n = .ok kd tx x i → i ≤ n + l.length
 | 0, _, _, _, _, _, _, _, h => by unfold textGo at h; cases h
 | k + 1, l, acc, n, kd, tx, x, i, h => by
   unfold textGo at h
   match l, h with
   | [], h => cases h
   | c :: r, h =>
     dsimp only at h;rw [List.length_cons];split at h
     · cases h; omega
     · cases hi : itemT c r with
       | bad j e => rw [hi] at h; cases h
       | ok b j =>
         rw [hi] at h;dsimp only at h;have hj := item_len hi;split at h
         · cases h
         · have := text_len k _ _ _ h
           rw [List.length_drop, List.length_cons] at this;omega
theorem tokT_len {c : UInt8} {r : List UInt8} {kd : Nat} {tx : List UInt8} {x i : Nat} (h : tokT (c :: r) = .ok kd tx x i) : i ≤ r.length + 1 := by
 rw [tokT_cons] at h;split at h
 · unfold wordT at h
   split at h
   · cases h
   · cases h
     exact span_len (p := wordC) (c :: r)
 · split at h
   · have hnl : numN (c :: r) ≤ (c :: r).length := by
       show (if c.toNat = 48 then 1 else span digC (c :: r)) ≤ _
       split
       · simp
       · exact span_len _
     unfold numT at h;split at h
     · cases h
     · split at h
       · cases h; exact hnl
       · split at h
         · cases h
         · cases h; exact hnl
   · split at h
     · unfold textT textR at h
       rw [List.drop_succ_cons, List.drop_zero] at h;have := text_len _ _ _ _ h;omega
     · obtain ⟨_, rfl, _, _, a5, _⟩ := signGo_cut _ _ h
       have := a5.length_le;rw [List.length_cons] at this;exact this
theorem allGo_more : ∀ (k : Nat) (l : List UInt8) (n : Nat) (ts ks : List Tk), allGo k l n ts = ⟨ks, 0, 0⟩ → l.length < k → (∃ ms, ks = ts ++ ms)
 | 0, _, _, _, _, _, hl => by omega
 | k + 1, l, n, ts, ks, h, hl => by
   unfold allGo at h
   match l, h, hl with
   | [], h, _ => cases h; exact ⟨[], by simp⟩
   | c :: r, h, hl =>
     rw [List.length_cons] at hl;dsimp only at h;split at h
     · exact allGo_more k _ _ _ _ h (by omega)
     · split at h
       · exact allGo_more k _ _ _ _ h (by have := toLine_le r; omega)
       · cases hi : tokT (c :: r) with
         | bad i e =>
           rw [hi] at h;have := (tokT_bad hi).1;injection h with _ _ h;omega
         | ok kd tx x i =>
           rw [hi] at h;dsimp only at h;have := tokT_pos hi;obtain ⟨ms, hm⟩ := allGo_more k _ _ _ _ h (by rw [List.length_drop, List.length_cons]; omega);exact ⟨_ :: ms, by rw [hm, List.append_assoc]; rfl⟩
theorem allGo_ends : ∀ (k : Nat) (l : List UInt8) (n : Nat) (ts ks : List Tk) (a e : Nat), allGo k l n ts = ⟨ks, a, e⟩ → l.length < k → (a = 0 ∧ e = 0) ∨ (ks = [] ∧ (e = 2 ∨ e = 4 ∨ e = 9) ∧ a ≤ n + l.length ∧ (e = 4 → a = n + l.length))
 | 0, _, _, _, _, _, _, _, hl => by omega
 | k + 1, l, n, ts, ks, a, e, h, hl => by
   unfold allGo at h
   match l, h, hl with
   | [], h, _ => cases h; exact .inl ⟨rfl, rfl⟩
   | c :: r, h, hl =>
     rw [List.length_cons] at hl;dsimp only at h;split at h
     · rcases allGo_ends k _ _ _ _ _ _ h (by omega) with h1 | ⟨h1, h2, h3, h4⟩
       · exact .inl h1
       · rw [List.length_cons]
         exact .inr ⟨h1, h2, by omega, fun e => by have := h4 e; omega⟩
     · split at h
       · have hle := toLine_le r
         rcases allGo_ends k _ _ _ _ _ _ h (by omega) with h1 | ⟨h1, h2, h3, h4⟩
         · exact .inl h1
         · rw [List.length_cons]
           exact .inr ⟨h1, h2, by omega, fun e => by have := h4 e; omega⟩
       · cases hi : tokT (c :: r) with
         | bad i e' =>
           rw [hi] at h;cases h
           obtain ⟨h1, h2, h3⟩ := tokT_bad hi;rw [List.length_cons];exact .inr ⟨rfl, h1, by omega, fun e => by have := h3 e; omega⟩
         | ok kd tx x i =>
           rw [hi] at h;dsimp only at h;have hp := tokT_pos hi;have hle := tokT_len hi;rcases allGo_ends k _ _ _ _ _ _ h (by rw [List.length_drop, List.length_cons]; omega) with h1 | ⟨h1, h2, h3, h4⟩
           · exact .inl h1
           · rw [List.length_drop, List.length_cons] at h3 h4
             rw [List.length_cons];exact .inr ⟨h1, h2, by omega, fun e => by have := h4 e; omega⟩
theorem allT_ends {s : List UInt8} {ks : List Tk} {a e : Nat} (h : allT s = ⟨ks, a, e⟩) : (a = 0 ∧ e = 0) ∨ (ks = [] ∧ (e = 2 ∨ e = 4 ∨ e = 9) ∧ a ≤ s.length ∧ (e = 4 → a = s.length)) := by
 unfold allT at h;split at h
 · cases h; exact .inr ⟨rfl, .inl rfl, Nat.zero_le _, fun e => by omega⟩
 · rcases allGo_ends _ _ _ _ _ _ _ h (by omega) with h1 | ⟨h1, h2, h3, h4⟩
   · exact .inl h1
   · exact .inr ⟨h1, h2, by omega, fun e => by have := h4 e; omega⟩
theorem allGo_few : ∀ (k : Nat) (l : List UInt8) (n : Nat) (ts ks : List Tk), allGo k l n ts = ⟨ks, 0, 0⟩ → l.length < k → ks.length ≤ ts.length + l.length
 | 0, _, _, _, _, _, hl => by omega
 | k + 1, l, n, ts, ks, h, hl => by
   unfold allGo at h
   match l, h, hl with
   | [], h, _ => cases h; simp
   | c :: r, h, hl =>
     rw [List.length_cons] at hl ⊢;dsimp only at h;split at h
     · have := allGo_few k _ _ _ _ h (by omega); omega
     · split at h
       · have hle := toLine_le r
         have := allGo_few k _ _ _ _ h (by omega);omega
       · cases hi : tokT (c :: r) with
         | bad i e =>
           rw [hi] at h;have := (tokT_bad hi).1;injection h with _ _ h;omega
         | ok kd tx x i =>
           rw [hi] at h;dsimp only at h;have hp := tokT_pos hi;have := allGo_few k _ _ _ _ h (by rw [List.length_drop, List.length_cons]; omega);rw [List.length_append, List.length_singleton, List.length_drop, List.length_cons] at this;omega
theorem allT_few {s : List UInt8} {ks : List Tk} {a : Nat} (h : allT s = ⟨ks, a, 0⟩) : ks.length ≤ 16384 ∧ a = 0 := by
 rcases allT_ends h with ⟨h1, _⟩ | ⟨h1, h2, _⟩
 · subst h1
   unfold allT at h;split at h
   · cases h
   · have := allGo_few _ _ _ _ _ h (by omega)
     rw [List.length_nil] at this;exact ⟨by omega, rfl⟩
 · omega
end Go.Proofs.YtjiemkidmlgbeaaGreatDoor.Cut
namespace Go.Proofs.YtjiemkidmlgbeaaGreatDoor
open Go.RowKit Go.Shelf
def lookF (ts : List Tw) : Nat × Nat × Int :=
 if 2048 < ts.length then (0, 0, 2) else if ts.length = 0 then (0, 0, 3) else
   if (passF ts.length ts 1 ⟨0, 0, 0⟩).1 = false ∨ (passF ts.length ts 1 ⟨0, 0, 0⟩).2.gone < ts.length then ((passF ts.length ts 1 ⟨0, 0, 0⟩).2.gone, 0, 3)
   else if 0 < (passF ts.length ts 1 ⟨0, 0, 0⟩).2.tooDeep then ((passF ts.length ts 1 ⟨0, 0, 0⟩).2.tooDeep, 0, 2) else (0, (passF ts.length ts 1 ⟨0, 0, 0⟩).2.deepest, 0)
def Held (w : World) (p : Addr) (v : Value) : Prop := w.cell? p = some v ∧ w.frozen? p = false
theorem Held.up {w : World} {p : Addr} {v : Value} (h : Held w p v) (o : Obj) : Held (w.alloc o) p v :=
 ⟨cell_on h.1 ((Below.refl _ w).alloc (Nat.le_refl _) o), frozen_on h.1 h.2 ((Below.refl _ w).alloc (Nat.le_refl _) o)⟩
theorem held_new {w : World} {n : Nat} (hn : w.heap.size = n) (v : Value) (t : TypeId) : Held (w.alloc (.cells #[v] t)) ⟨n, 0, none⟩ v := by
 subst hn;exact ⟨one_cell w #[v] t 0, by have h := heap_alloc_new w (.cells #[v] t); unfold World.frozen?; dsimp only; rw [h]; rfl⟩
theorem look_mem (w : World) {v : Value} {ts : List Tw} {b : Nat} (hT : TwIn w v ts) (hK : KMap w b tabL) (t0 t1 t2 t3 t4 t5 : TypeId) (W : World) (hW : W = ((((((w.alloc (.cells #[.map (some b)] t0)).alloc (.cells #[v] t1)).alloc (.cells #[.int .i64 0] t2)).alloc (.cells #[.int .i64 0] t3)).alloc (.cells #[.int .i64 0] t4)).alloc (.cells #[.func (.func 31) #[] #[.pointer (some ⟨w.heap.size + 1, 0, none⟩), .pointer (some ⟨w.heap.size + 1 + 1, 0, none⟩), .pointer (some ⟨w.heap.size, 0, none⟩), .pointer (some ⟨w.heap.size + 1 + 1 + 1 + 1, 0, none⟩), .pointer (some ⟨w.heap.size + 1 + 1 + 1, 0, none⟩), .pointer (some ⟨w.heap.size + 1 + 1 + 1 + 1 + 1, 0, none⟩)]] t5))) :
   PMem W (w.heap.size + 1) w.heap.size (w.heap.size + 1 + 1) (w.heap.size + 1 + 1 + 1) (w.heap.size + 1 + 1 + 1 + 1) (w.heap.size + 1 + 1 + 1 + 1 + 1) v ts ⟨0, 0, 0⟩ ∧ Below w.heap.size w W := by
 have hB : Below w.heap.size w W := by
   rw [hW];refine ((((((Below.refl _ w).alloc ?_ _).alloc ?_ _).alloc ?_ _).alloc ?_ _).alloc ?_ _).alloc ?_ _ <;> (simp; try omega)
 refine ⟨⟨?_, ⟨b, ?_, hK.below hB hK.lt⟩, ?_, ?_, ?_, ?_, hT.below hB⟩, hB⟩ <;> rw [hW]
 · exact (((((held_new (by simp) v t1).up _).up _).up _).up _).1
 · exact ((((((held_new rfl _ t0).up _).up _).up _).up _).up _).1
 · exact ((((held_new (by simp) _ t2).up _).up _).up _)
 · exact (((held_new (by simp) _ t3).up _).up _)
 · exact ((held_new (by simp) _ t4).up _)
 · exact (held_new (by simp) _ t5).1
set_option maxRecDepth 20000 in
set_option maxHeartbeats 4000000 in
theorem look_any {v : Value} {ts : List Tw} {b : Nat} (w : World) (hT : TwIn w v ts) (hf : ∀ x ∈ ts, FitT x) (hK : KMap w b tabL) :
   Calls Tryz.prog 16 #[.map (some b), v] w fun e w' => e = .returned (.tuple #[.int .i64 (lookF ts).1, .int .i64 (lookF ts).2.1, .int .i64 (lookF ts).2.2]) ∧ Below w.heap.size w w' := by
 obtain ⟨Z, hZ⟩ := exHid (lookF ts);rw [hZ.out];have hT' := Lib.hid hT;have hsf := fun c => sv_any (v := .func (.func 31) #[] c) rfl
 obtain ⟨a, cap, rfl, htc, htm, hcells⟩ := id hT;have hz := hZ.out;unfold lookF at hz;clear hZ;by_cases h1 : 2048 < ts.length
 · rw [if_pos h1] at hz
   have h1i : (2048 : Int) < (ts.length : Int) := by omega
   replace hz := Lib.hid hz;clear hcells hT;go_enter Tryz.func16, Tryz.ntmps16
   go_wp2_with fail
   refine bodyPost_ret (results_tmp3 rfl _ _ _) rfl ?_;rw [← hz.out];exact ⟨rfl, by go_grown⟩
 · rw [if_neg h1] at hz
   have h1i : ¬ (2048 : Int) < (ts.length : Int) := by omega
   by_cases h0 : ts.length = 0
   · rw [if_pos h0] at hz
     have h0i : ((ts.length : Int) == 0) = true := by rw [h0]; rfl
     replace hz := Lib.hid hz;replace h0 := Lib.hid h0;clear hcells hT;go_enter Tryz.func16, Tryz.ntmps16
     go_wp2_with fail
     refine bodyPost_ret (results_tmp3 rfl _ _ _) rfl ?_;rw [← hz.out];exact ⟨rfl, by go_grown⟩
   · rw [if_neg h0] at hz
     have h0i : ((ts.length : Int) == 0) = false := beq_eq_false_iff_ne.2 (by omega);obtain ⟨g, off, rfl, hg, hc⟩ := hcells (by omega);clear hc;replace hz := Lib.hid hz;replace h0 := Lib.hid h0;replace hT := Lib.hid hT;go_enter Tryz.func16, Tryz.ntmps16
     go_wp2_with fail
     generalize hW : (World.alloc _ _) = W;have hM := look_mem w hT.out hK _ _ _ _ _ _ W hW.symm;clear hW;obtain ⟨hP, hB⟩ := hM;have hne : PNe (w.heap.size + 1) w.heap.size (w.heap.size + 1 + 1) (w.heap.size + 1 + 1 + 1) (w.heap.size + 1 + 1 + 1 + 1) (w.heap.size + 1 + 1 + 1 + 1 + 1) (.slice (some ⟨g, off, none⟩) ts.length cap) := by
       refine ⟨by omega, by omega, by omega, by omega, by omega, by omega, ?_⟩;intro g' off' l c e;cases e
       omega
     have kP := pass_any hne hf (by omega) ts.length 1 ⟨0, 0, 0⟩ W (by show 0 < _; have := h0.out; omega) (Nat.sub_le _ _) (by omega) (Nat.zero_le _) hP;have mono := pass_mono_at ts ts.length 1 1000000 ⟨0, 0, 0⟩ (by show 0 < _; have := h0.out; omega) (Nat.zero_le _) (by omega);replace hz := hz.out;generalize passF ts.length ts 1 ⟨0, 0, 0⟩ = R at kP mono hz;obtain ⟨rb, s5⟩ := R;dsimp only at kP mono hz;have hBs := hB.size;refine kP.mono ?_;rintro e w5 ⟨rfl, hP5, hO5⟩;have hB5 : Below w.heap.size w w5 := hB.trans (hO5.below hB.size (by intro k hk; omega));clear kP hP hO5;have pg := hP5.g.1;have pt := hP5.t;have pd := hP5.d.1;have px := hP5.x.1;rcases rb with _ | _
     · rw [if_pos (Or.inl rfl)] at hz
       replace hz := Lib.hid hz;replace hP5 := Lib.hid hP5;replace hB5 := Lib.hid hB5;go_wp2_with fail
       refine bodyPost_ret (results_tmp3 rfl _ _ _) rfl ?_;rw [← hz.out];exact ⟨rfl, hB5.out⟩
     · by_cases hgo : s5.gone < ts.length
       · rw [if_pos (Or.inr hgo)] at hz
         have hgi : (s5.gone : Int) < (ts.length : Int) := by omega
         replace hz := Lib.hid hz;replace hP5 := Lib.hid hP5;replace hB5 := Lib.hid hB5;go_wp2_with fail
         refine bodyPost_ret (results_tmp3 rfl _ _ _) rfl ?_;rw [← hz.out];exact ⟨rfl, hB5.out⟩
       · rw [if_neg (by simp; omega)] at hz
         have hgi : ¬ (s5.gone : Int) < (ts.length : Int) := by omega
         by_cases hx : 0 < s5.tooDeep
         · rw [if_pos hx] at hz
           have hxi : (0 : Int) < (s5.tooDeep : Int) := by omega
           replace hz := Lib.hid hz;replace hP5 := Lib.hid hP5;replace hB5 := Lib.hid hB5;go_wp2_with fail
           refine bodyPost_ret (results_tmp3 rfl _ _ _) rfl ?_;rw [← hz.out];exact ⟨rfl, hB5.out⟩
         · rw [if_neg hx] at hz
           have hxi : ¬ (0 : Int) < (s5.tooDeep : Int) := by omega
           replace hz := Lib.hid hz;replace hP5 := Lib.hid hP5;replace hB5 := Lib.hid hB5;replace hx := Lib.hid hx;go_wp2_with fail
           go_quiet (fail)
           go_wp2_with fail
           refine bodyPost_ret (results_tmp3 rfl _ _ _) rfl ?_;rw [← hz.out];exact ⟨rfl, below_drewN hB5.out _⟩
end Go.Proofs.YtjiemkidmlgbeaaGreatDoor
