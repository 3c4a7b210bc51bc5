/- Plain: the program's table says what the document's functions say of each Op (layer 8). No condition. -/
import Derived.Test.YtnghfjlmmmjekaaRDoc2
namespace Go.Proofs.Ytnghfjlmmmjekaa
open Go.RowKit Go.Shelf

theorem lookK_pair : ∀ {L : List (Nat × Kind)} {op : Nat} {k : Kind}, lookK L op = some k → (op, k) ∈ L
  | [], _, _, h => by cases h
  | p :: r, op, k, h => by
    unfold lookK at h
    split at h
    · rename_i e
      cases h
      subst e
      exact List.mem_cons_self ..
    · exact List.mem_cons_of_mem _ (lookK_pair h)
theorem kind_parts {up : Nat} {k : Kind} (h : kindOf up = some k) : k.part = 0 ∨ (k.part = 1 ∧ up ≠ 1 ∧ up ≠ 3 ∧ up ≠ 6 ∧ up ≠ 7 ∧ up ≠ 53) ∨ (k.part = 2 ∧ up = 1) ∨ (k.part = 3 ∧ up = 3) ∨ (k.part = 4 ∧ (up = 6 ∨ up = 7)) ∨ (k.part = 5 ∧ up = 53) := by
  have a : ∀ p ∈ kindsL, p.2.part = 0 ∨ (p.2.part = 1 ∧ p.1 ≠ 1 ∧ p.1 ≠ 3 ∧ p.1 ≠ 6 ∧ p.1 ≠ 7 ∧ p.1 ≠ 53) ∨ (p.2.part = 2 ∧ p.1 = 1) ∨ (p.2.part = 3 ∧ p.1 = 3) ∨ (p.2.part = 4 ∧ (p.1 = 6 ∨ p.1 = 7)) ∨ (p.2.part = 5 ∧ p.1 = 53) := by decide
  exact a _ (lookK_pair h)
/-- A part is what the document lets it be. -/
theorem part_doc {up : Nat} {k : Kind} (h : kindOf up = some k) (h0 : k.part ≠ 0) (op : Nat) {i n : Int} (hi : 0 ≤ i) (hn : i < n) : partOK k.part op i n = partR up i n op := by
  rcases kind_parts h with e | ⟨e, e1, e3, e6, e7, e53⟩ | ⟨e, rfl⟩ | ⟨e, rfl⟩ | ⟨e, e2⟩ | ⟨e, rfl⟩
  · exact absurd e h0
  · rw [e]
    unfold partOK partR
    rw [if_pos rfl, if_neg e1, if_neg e3, if_neg (fun c => c.1.elim e6 e7), if_neg e53]
    rfl
  · rw [e]
    unfold partOK partR
    rw [if_neg (by decide), if_pos rfl, if_pos rfl]
    by_cases c : i = n - 1
    · rw [if_pos c, if_neg (by omega)]
    · rw [if_neg c, if_pos (by omega)]
  · rw [e]; rfl
  · rw [e]
    unfold partOK partR
    rw [if_neg (by decide), if_neg (by decide), if_neg (by decide), if_pos rfl, if_neg (show ¬ up = 1 by rcases e2 with rfl | rfl <;> decide), if_neg (show ¬ up = 3 by rcases e2 with rfl | rfl <;> decide)]
    by_cases c : i = 0
    · rw [if_pos c, if_neg (by omega), if_neg (show ¬ up = 53 by rcases e2 with rfl | rfl <;> decide)]
      rfl
    · rw [if_neg c, if_pos ⟨e2, by omega⟩]
  · rw [e]
    unfold partOK partR
    rw [if_neg (by decide), if_neg (by decide), if_neg (by decide), if_neg (by decide), if_neg (by decide), if_neg (by decide), if_neg (by simp), if_pos rfl]
/-- Is a twig by itself as the document's table says? -/
def fineB (x : Tw) : Bool :=
  (exprB x.op || stmtB x.op || (decide (1 ≤ x.op) && decide (x.op ≤ 3))) &&
  (if namedB x.op then textOK 1 x.text else if x.op = 24 then textOK 2 x.text else textOK 0 x.text) &&
  !(decide (x.num < 0) || (decide (0 < x.num) && x.op != 23)) &&
  (decide (leastN x.op ≤ x.kids) && ((decide (mostN x.op < 0) && decide (x.kids ≤ 2048)) || decide (x.kids ≤ mostN x.op)))
def anyK (op : Nat) : Bool := exprB op || stmtB op || (decide (1 ≤ op) && decide (op ≤ 3))
def kfB (op : Nat) : Option Kind → Bool
  | none => !anyK op
  | some k => anyK op && k.text == (if namedB op then 1 else if op = 24 then 2 else 0) && decide ((k.least : Int) = leastN op) && ((decide (mostN op = -1) && k.most == 2048) || (decide (0 ≤ mostN op) && decide ((k.most : Int) = mostN op)))
theorem kfB_all : ∀ op, op < 256 → kfB op (kindOf op) = true := by decide +kernel
theorem kind_facts : ∀ op, op < 256 → match kindOf op with
    | none => anyK op = false
    | some k => anyK op = true ∧ k.text = (if namedB op then 1 else if op = 24 then 2 else 0) ∧ (k.least : Int) = leastN op ∧ ((mostN op = -1 ∧ k.most = 2048) ∨ (0 ≤ mostN op ∧ (k.most : Int) = mostN op)) := by
  intro op h
  have a := kfB_all op h
  revert a
  cases kindOf op with
  | none => intro a; simpa [kfB] using a
  | some k =>
    intro a
    simp only [kfB, Bool.and_eq_true, Bool.or_eq_true, decide_eq_true_eq, beq_iff_eq] at a
    exact ⟨a.1.1.1, a.1.1.2, a.1.2, a.2⟩
theorem fine_doc {x : Tw} (h : x.op < 256) : fineB x = match kindOf x.op with
    | none => false
    | some k => allowsB k x := by
  have f := kind_facts x.op h
  rcases hk : kindOf x.op with _ | k
  · rw [hk] at f
    have f' : (exprB x.op || stmtB x.op || (decide (1 ≤ x.op) && decide (x.op ≤ 3))) = false := f
    unfold fineB
    rw [f', Bool.false_and, Bool.false_and, Bool.false_and]
  · rw [hk] at f
    obtain ⟨f1, f2, f3, f4⟩ := f
    have f1' : (exprB x.op || stmtB x.op || (decide (1 ≤ x.op) && decide (x.op ≤ 3))) = true := f1
    have ft : (if namedB x.op then textOK 1 x.text else if x.op = 24 then textOK 2 x.text else textOK 0 x.text) = textOK k.text x.text := by
      rw [f2]
      by_cases a : namedB x.op = true
      · rw [if_pos a, if_pos a]
      · rw [if_neg a, if_neg a]
        by_cases b : x.op = 24
        · rw [if_pos b, if_pos b]
        · rw [if_neg b, if_neg b]
    unfold fineB
    rw [f1', ft, Bool.true_and]
    show _ = allowsB k x
    unfold allowsB
    rw [← f3]
    have fn : (!(decide (x.num < 0) || (decide (0 < x.num) && x.op != 23))) = (x.num == 0 || ((x.op : Int) == 23 && decide (0 < x.num))) := by
      by_cases a : x.num < 0
      · have b1 : (x.num == 0) = false := beq_eq_false_iff_ne.2 (by omega)
        have b2 : ¬ 0 < x.num := by omega
        simp [a, b1, b2]
      · by_cases b : x.num = 0
        · simp [b]
        · have b1 : (x.num == 0) = false := beq_eq_false_iff_ne.2 b
          have b2 : 0 < x.num := by omega
          by_cases c : x.op = 23
          · simp [a, b1, b2, c]
          · have c1 : ((x.op : Int) == 23) = false := beq_eq_false_iff_ne.2 (by omega)
            simp [a, b1, b2, c, c1]
    have fk : ((decide (mostN x.op < 0) && decide (x.kids ≤ 2048)) || decide (x.kids ≤ mostN x.op)) = decide (x.kids ≤ (k.most : Int)) ∨ ¬ (k.least : Int) ≤ x.kids := by
      rcases f4 with ⟨m1, m2⟩ | ⟨m1, m2⟩
      · by_cases c : (k.least : Int) ≤ x.kids
        · refine .inl ?_
          rw [m1, m2]
          have : (0 : Int) ≤ k.least := by omega
          have c2 : ¬ x.kids ≤ -1 := by omega
          simp [c2]
        · exact .inr c
      · refine .inl ?_
        rw [m2]
        have : ¬ mostN x.op < 0 := by omega
        simp [this]
    rw [fn]
    rcases fk with fk | fk
    · rw [fk]
      cases textOK k.text x.text <;> cases (x.num == 0 || ((x.op : Int) == 23 && decide (0 < x.num))) <;> cases decide ((k.least : Int) ≤ x.kids) <;> cases decide (x.kids ≤ (k.most : Int)) <;> rfl
    · have g : decide ((k.least : Int) ≤ x.kids) = false := decide_eq_false fk
      rw [g]
      simp
end Go.Proofs.Ytnghfjlmmmjekaa
