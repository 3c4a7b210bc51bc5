/- The grammar of layer 9, plain: no rule goes behind the end of the tokens, nor gives up behind it. No condition. -/
import Derived.Test.YtkmhdhnoghbkgaaGreatDoorQ12
set_option linter.unusedVariables false
namespace Go.Proofs.YtkmhdhnoghbkgaaGreatDoor
open Go.RowKit Tok

def Near {α : Type} (L : Nat) (s : St α) : Prop := match s with
  | .ok _ j => j ≤ L
  | .bad j => j ≤ L
  | .out => True
theorem Near.and {α β : Type} {L : Nat} {s : St α} {f : α → Nat → St β} (h : Near L s) (hf : ∀ a k, k ≤ L → Near L (f a k)) : Near L (s.and f) := by
  cases s with
  | ok a k => exact hf a k h
  | bad k => exact h
  | out => exact trivial
theorem Near.ok {α : Type} {L k : Nat} {a : α} (h : k ≤ L) : Near L (St.ok a k) := h
section
variable {ks : List Tk} {i : Nat}
theorem near_want {m : List UInt8} (hm : m ≠ []) (hi : i ≤ ks.length) : Near ks.length (wantT ks m i) := by
  unfold wantT
  split
  · rename_i h
    exact mark_lt h hm
  · exact hi
theorem near_own (hi : i ≤ ks.length) : Near ks.length (ownT ks i) := by
  unfold ownT
  split
  · rename_i x h
    have := (List.getElem?_eq_some_iff.1 h).1
    split
    · exact this
    · exact hi
  · exact hi
end
theorem gP_near (ks : List Tk) : ∀ f q i, q.wf → i ≤ ks.length → Near ks.length (gP ks f q i)
  | 0, q, i, _, _ => trivial
  | f + 1, q, i, hw, hi => by
    have ih := gP_near ks f
    have nop : (NT.list B.opn .expr B.cls).wf := ⟨by decide, by decide, .inr rfl⟩
    have bop : (NT.between B.opn .expr B.cls).wf := ⟨by decide, by decide, .inr (.inl rfl)⟩
    have hM : ∀ m, Near ks.length (gM ks (gP ks f) m i) := by
      intro m
      unfold gM
      split
      · exact (ih (.list B.lsq .expr B.rsq) i ⟨by decide, by decide, .inr rfl⟩ hi).and (fun _ k h => Near.ok h)
      split
      · exact ih _ i bop hi
      split
      · rename_i hm
        exact (near_want (by rcases hm with rfl | rfl | rfl | rfl <;> decide) hi).and (fun _ k h => Near.ok h)
      split
      · rename_i hm
        exact (near_want (by rcases hm with rfl | rfl | rfl | rfl | rfl <;> decide) hi).and (fun _ k h => (ih _ k bop h).and (fun _ k h => Near.ok h))
      split
      · rename_i hm
        exact (near_want (by rw [hm]; decide) hi).and (fun _ k h => (ih (.between B.opn .two B.cls) k ⟨by decide, by decide, .inr (.inr rfl)⟩ h).and (fun _ k h => Near.ok h))
      split
      · rename_i hm
        exact (near_want (by rcases hm with rfl | rfl <;> decide) hi).and (fun _ k h => (near_own h).and (fun _ k h => (ih _ k nop h).and (fun _ k h => Near.ok h)))
      split
      · rename_i hm
        exact (near_want (by rw [hm]; decide) hi).and (fun _ k h => (ih .block k trivial h).and (fun _ k h => Near.ok h))
      split
      · rename_i hm
        exact (near_want (by rw [hm]; decide) hi).and (fun _ k h => (near_own h).and (fun _ k h => Near.ok h))
      · exact (near_own hi).and (fun _ k h => Near.ok h)
    cases q with
    | flow => exact (near_want (by decide) hi).and fun _ k h => (near_own h).and fun _ k h => (ih (.list B.opn .param B.cls) k ⟨by decide, by decide, .inl rfl⟩ h).and fun _ k h => (ih .block k trivial h).and fun _ k h => Near.ok h
    | param => exact (near_own hi).and fun _ k h => Near.ok h
    | block => exact (ih (.between B.lbr .stmts B.rbr) i ⟨by decide, by decide, .inl rfl⟩ hi).and fun _ k h => Near.ok h
    | stmts => exact ih (.stmtsGo Ch.none) i trivial hi
    | stmtsGo a =>
      unfold gP
      dsimp only
      split
      · exact Near.ok hi
      · exact (ih .stmt i trivial hi).and fun _ k h => ih (.stmtsGo _) k trivial h
    | stmt =>
      unfold gP
      dsimp only
      split
      · exact (near_want (by decide) hi).and fun _ k h => ih (.set 4) k trivial h
      split
      · exact ih .choice i trivial hi
      split
      · exact (near_want (by decide) hi).and fun _ k h => (ih .expr k trivial h).and fun _ k h => (ih .block k trivial h).and fun _ k h => Near.ok h
      split
      · rename_i hm
        exact (near_want (by rcases hm with hm | hm | hm | hm <;> rw [hm] <;> decide) hi).and fun _ k h => (ih .expr k trivial h).and fun _ k h => Near.ok h
      · exact ih (.set 5) i trivial hi
    | choice =>
      refine (near_want (by decide) hi).and fun _ k h => (ih .expr k trivial h).and fun _ k h => (ih .block k trivial h).and fun _ k h => ?_
      split
      · exact (near_want (by decide) h).and fun _ k h => (ih .block k trivial h).and fun _ k h => Near.ok h
      · exact Near.ok h
    | expr => exact ih (.row .and [B.or]) i ⟨.inr (.inr (.inr rfl)), by decide⟩ hi
    | and => exact ih (.row .not [B.and]) i ⟨.inr (.inr (.inl rfl)), by decide⟩ hi
    | not =>
      unfold gP
      dsimp only
      split
      · exact (near_want (by decide) hi).and fun _ k h => (ih .not k trivial h).and fun _ k h => Near.ok h
      · exact ih .cmp i trivial hi
    | cmp =>
      refine (ih .sum i trivial hi).and fun _ k h => ?_
      split
      · rename_i hm
        exact (near_want (by rcases hm with hm | hm | hm | hm <;> rw [hm] <;> decide) h).and fun _ k h => (ih .sum k trivial h).and fun _ k h => Near.ok h
      · exact Near.ok h
    | sum => exact ih (.row .term addS) i ⟨.inr (.inl rfl), by decide⟩ hi
    | term => exact ih (.row .pre mulS) i ⟨.inl rfl, by decide⟩ hi
    | pre =>
      unfold gP
      dsimp only
      split
      · exact (near_want (by decide) hi).and fun _ k h => (ih .pre k trivial h).and fun _ k h => Near.ok h
      split
      · rename_i hm
        exact (near_want (by rcases hm with hm | hm <;> rw [hm] <;> decide) hi).and fun _ k h => (ih .pre k trivial h).and fun _ k h => Near.ok h
      · exact ih .post i trivial hi
    | post => exact (ih .prim i trivial hi).and fun _ k h => ih (.postGo _) k trivial h
    | postGo a =>
      unfold gP
      dsimp only
      split
      · exact (ih (.between B.lsq .expr B.rsq) i ⟨by decide, by decide, .inr (.inl rfl)⟩ hi).and fun _ k h => ih (.postGo _) k trivial h
      · exact Near.ok hi
    | prim =>
      unfold gP
      dsimp only
      split
      · rename_i x hx
        have hl := (List.getElem?_eq_some_iff.1 hx).1
        split
        · exact Near.ok hl
        split
        · exact Near.ok hl
        · exact hM _
      · exact hM _
    | two => exact (ih .expr i trivial hi).and fun _ k h => (near_want (by decide) h).and fun _ k h => (ih .expr k trivial h).and fun _ k h => Near.ok h
    | set op => exact (near_own hi).and fun _ k h => (near_want (by decide) h).and fun _ k h => (ih .expr k trivial h).and fun _ k h => Near.ok h
    | list o p e =>
      obtain ⟨ho, he, hp⟩ := hw
      have hpw : p.wf := by rcases hp with rfl | rfl <;> exact trivial
      refine (near_want ho hi).and fun _ k h => ?_
      split
      · exact (near_want he h).and fun _ k h => Near.ok h
      · exact (ih p k hpw h).and fun _ k h => ih (.listGo p e _) k ⟨he, hp⟩ h
    | listGo p e a =>
      obtain ⟨he, hp⟩ := hw
      have hpw : p.wf := by rcases hp with rfl | rfl <;> exact trivial
      unfold gP
      dsimp only
      split
      · exact (near_want (by decide) hi).and fun _ k h => (ih p k hpw h).and fun _ k h => ih (.listGo p e _) k ⟨he, hp⟩ h
      · exact (near_want he hi).and fun _ k h => Near.ok h
    | between o p e =>
      obtain ⟨ho, he, hp⟩ := hw
      have hpw : p.wf := by rcases hp with rfl | rfl | rfl <;> exact trivial
      exact (near_want ho hi).and fun _ k h => (ih p k hpw h).and fun _ k h => (near_want he h).and fun _ k h => Near.ok h
    | row p ms =>
      have hpw : p.wf := by rcases hw.1 with rfl | rfl | rfl | rfl <;> exact trivial
      exact (ih p i hpw hi).and fun _ k h => ih (.rowGo p ms _) k hw h
    | rowGo p ms a =>
      have hpw : p.wf := by rcases hw.1 with rfl | rfl | rfl | rfl <;> exact trivial
      unfold gP
      dsimp only
      split
      · rename_i hm
        exact (near_want (hw.2 _ hm) hi).and fun _ k h => (ih p k hpw h).and fun _ k h => ih (.rowGo p ms _) k hw h
      · exact Near.ok hi
end Go.Proofs.YtkmhdhnoghbkgaaGreatDoor
