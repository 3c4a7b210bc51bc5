/- What the grammar of layer 9 reads are right trees, rule by rule (plain). No condition. -/
import Derived.Test.YtkmhdhnoghbkgaaGreatDoorQ35
set_option linter.unusedVariables false
namespace Go.Proofs.YtkmhdhnoghbkgaaGreatDoor
open Go.RowKit Go.Shelf Tok

theorem fine_many {op n : Nat} (ho : op = 3 ∨ op = 25) (hn : n ≤ 2048) : fineB ⟨op, (n : Int), ((0 : Nat) : Int), []⟩ = true := by
  rcases ho with rfl | rfl <;> simp [fineB, exprB, stmtB, namedB, leastN, mostN, textOK] <;> omega
theorem fine_named {op n : Nat} {nm : List UInt8} (ho : op = 50 ∨ op = 51) (hn : n ≤ 2048) (h : textOK 1 nm = true) : fineB ⟨op, (n : Int), ((0 : Nat) : Int), nm⟩ = true := by
  rcases ho with rfl | rfl <;> simp [fineB, exprB, stmtB, namedB, leastN, mostN, h] <;> omega
theorem fine_flow {n : Nat} {nm : List UInt8} (h1 : 1 ≤ n) (hn : n ≤ 2048) (h : textOK 1 nm = true) : fineB ⟨1, (n : Int), ((0 : Nat) : Int), nm⟩ = true := by
  simp [fineB, exprB, stmtB, namedB, leastN, mostN, h]
  omega
theorem fine_set {op : Nat} {nm : List UInt8} (ho : op = 4 ∨ op = 5) (h : textOK 1 nm = true) : fineB ⟨op, 1, ((0 : Nat) : Int), nm⟩ = true := by
  rcases ho with rfl | rfl <;> simp [fineB, exprB, stmtB, namedB, leastN, mostN, h]
theorem fine_leaf {op : Nat} {nm : List UInt8} (ho : op = 2 ∨ op = 26 ∨ op = 56) (h : textOK 1 nm = true) : fineB ⟨op, 0, ((0 : Nat) : Int), nm⟩ = true := by
  rcases ho with rfl | rfl | rfl <;> simp [fineB, exprB, stmtB, namedB, leastN, mostN, h]
theorem fine_int (n : Nat) : fineB ⟨23, 0, (n : Int), []⟩ = true := by
  simp [fineB, exprB, stmtB, namedB, leastN, mostN, textOK]
theorem fine_text {t : List UInt8} (h : textOK 2 t = true) : fineB ⟨24, 0, ((0 : Nat) : Int), t⟩ = true := by
  simp [fineB, exprB, stmtB, namedB, leastN, mostN, h]
theorem leaf_ok {op num : Nat} {text : List UInt8} (h : fineB ⟨op, 0, (num : Int), text⟩ = true) : Trees (Ch.none.under op num text) (fun l => l = [op]) := by
  refine Trees.none.under ?_
  rintro l rfl
  exact ⟨fun _ => h, fun k hk => by simp at hk⟩
theorem leaf_expr {op num : Nat} {text : List UInt8} (h : fineB ⟨op, 0, (num : Int), text⟩ = true) (he : exprB op = true) : Trees (Ch.none.under op num text) oneE := (leaf_ok h).mono (by rintro l rfl; exact ⟨op, rfl, he⟩)
/-- A node over one expression. -/
theorem over_ok {c : Ch} (hc : Trees c oneE) {op : Nat} {text : List UInt8} (h0 : fineB ⟨op, 1, ((0 : Nat) : Int), text⟩ = true) (h1 : op ≠ 1 ∧ op ≠ 3 ∧ op ≠ 6 ∧ op ≠ 7 ∧ op ≠ 53) : Trees (c.under op 0 text) (fun l => l = [op]) := by
  refine hc.under ?_
  rintro l ⟨o, rfl, ho⟩
  refine ⟨fun _ => h0, fun k hk => ?_⟩
  simp only [List.length_cons, List.length_nil] at hk
  obtain rfl : k = 0 := by omega
  exact part_expr h1.1 h1.2.1 h1.2.2.1 h1.2.2.2.1 h1.2.2.2.2 _ _ o ho
theorem over_expr {c : Ch} (hc : Trees c oneE) {op : Nat} (h0 : fineB ⟨op, 1, ((0 : Nat) : Int), []⟩ = true) (h1 : op ≠ 1 ∧ op ≠ 3 ∧ op ≠ 6 ∧ op ≠ 7 ∧ op ≠ 53) (he : exprB op = true) : Trees (c.under op 0 []) oneE := (over_ok hc h0 h1).mono (by rintro l rfl; exact ⟨op, rfl, he⟩)
theorem over_stmt {c : Ch} (hc : Trees c oneE) {op : Nat} {text : List UInt8} (h0 : fineB ⟨op, 1, ((0 : Nat) : Int), text⟩ = true) (h1 : op ≠ 1 ∧ op ≠ 3 ∧ op ≠ 6 ∧ op ≠ 7 ∧ op ≠ 53) (he : stmtB op = true) : Trees (c.under op 0 text) oneS := (over_ok hc h0 h1).mono (by rintro l rfl; exact ⟨op, rfl, he⟩)
theorem block_ok {c : Ch} (hc : Trees c allS) : Trees (c.under 3 0 []) (fun l => l = [3]) := by
  refine hc.under (fun l hl => ⟨fun hn => fine_many (.inl rfl) hn, fun k hk => ?_⟩)
  unfold partR
  rw [if_neg (by decide), if_pos rfl]
  exact hl _ (List.getElem_mem hk)
theorem many_ok {c : Ch} (hc : Trees c allE) {op : Nat} {nm : List UInt8} (ho : (op = 25 ∧ nm = []) ∨ ((op = 50 ∨ op = 51) ∧ textOK 1 nm = true)) : Trees (c.under op 0 nm) oneE := by
  refine (hc.under (fun l hl => ⟨fun hn => ?_, fun k hk => ?_⟩)).mono (Q := oneE) ?_
  · rcases ho with ⟨rfl, rfl⟩ | ⟨ho, h⟩
    · exact fine_many (.inr rfl) hn
    · exact fine_named ho hn h
  · exact part_expr (by omega) (by omega) (by omega) (by omega) (by omega) _ _ _ (hl _ (List.getElem_mem hk))
  · rintro l rfl
    exact ⟨op, rfl, by rcases ho with ⟨rfl, _⟩ | ⟨rfl | rfl, _⟩ <;> decide⟩
theorem flow_ok {ps b : Ch} (hp : Trees ps allP) (hb : Trees b (fun l => l = [3])) {nm : List UInt8} (h : textOK 1 nm = true) : Trees ((ps.then b).under 1 0 nm) (fun l => l = [1]) := by
  refine (hp.then hb (R := fun l => ∃ a, l = a ++ [3] ∧ allP a) (fun a b h1 h2 => ⟨a, by rw [h2], h1⟩)).under ?_
  rintro l ⟨a, rfl, ha⟩
  refine ⟨fun hn => fine_flow (by simp) hn h, fun k hk => ?_⟩
  rw [List.length_append, List.length_singleton] at hk
  unfold partR
  rw [if_pos rfl]
  rcases Nat.lt_or_ge k a.length with hlt | hge
  · rw [if_neg (by rw [List.length_append, List.length_singleton]; omega), List.getElem_append_left hlt, ha _ (List.getElem_mem hlt)]
    rfl
  · obtain rfl : k = a.length := by omega
    rw [if_pos (by rw [List.length_append, List.length_singleton]; omega), List.getElem_append_right (Nat.le_refl _)]
    simp
theorem cond_part {op : Nat} (ho : op = 6 ∨ op = 7) {l : List Nat} {o : Nat} (he : exprB o = true) (hl : l = [o, 3] ∨ l = [o, 3, 3]) (k : Nat) (hk : k < l.length) : partR op (k : Int) (l.length : Int) l[k] = true := by
  have h0 : partR op ((0 : Nat) : Int) (l.length : Int) o = true := by
    unfold partR
    rcases ho with rfl | rfl <;> simp [he]
  have h1 : ∀ j : Nat, 0 < j → partR op (j : Int) (l.length : Int) 3 = true := by
    intro j hj
    unfold partR
    rcases ho with rfl | rfl <;> simp [hj]
  rcases hl with rfl | rfl
  · simp only [List.length_cons, List.length_nil] at hk
    rcases (show k = 0 ∨ k = 1 by omega) with rfl | rfl
    · exact h0
    · exact h1 1 (by omega)
  · simp only [List.length_cons, List.length_nil] at hk
    rcases (show k = 0 ∨ k = 1 ∨ k = 2 by omega) with rfl | rfl | rfl
    · exact h0
    · exact h1 1 (by omega)
    · exact h1 2 (by omega)
theorem cond_two {c b : Ch} (hc : Trees c oneE) (hb : Trees b (fun l => l = [3])) {op : Nat} (ho : op = 6 ∨ op = 7) : Trees ((c.then b).under op 0 []) oneS := by
  refine ((hc.then hb (R := fun l => ∃ o, l = [o, 3] ∧ exprB o = true) ?_).under ?_).mono (Q := oneS) ?_
  · rintro x y ⟨o, rfl, h⟩ rfl
    exact ⟨o, rfl, h⟩
  · rintro l ⟨o, rfl, h⟩
    have h2 : fineB ⟨op, 2, 0, []⟩ = true := by rcases ho with rfl | rfl <;> decide
    exact ⟨fun _ => h2, fun k hk => cond_part ho h (.inl rfl) k hk⟩
  · rintro l rfl
    exact ⟨op, rfl, by rcases ho with rfl | rfl <;> decide⟩
theorem cond_three {c b d : Ch} (hc : Trees c oneE) (hb : Trees b (fun l => l = [3])) (hd : Trees d (fun l => l = [3])) : Trees (((c.then b).then d).under 6 0 []) oneS := by
  refine (((hc.then hb (R := fun l => ∃ o, l = [o, 3] ∧ exprB o = true) ?_).then hd (R := fun l => ∃ o, l = [o, 3, 3] ∧ exprB o = true) ?_).under ?_).mono (Q := oneS) ?_
  · rintro x y ⟨o, rfl, h⟩ rfl
    exact ⟨o, rfl, h⟩
  · rintro x y ⟨o, rfl, h⟩ rfl
    exact ⟨o, rfl, h⟩
  · rintro l ⟨o, rfl, h⟩
    have h2 : fineB ⟨6, 3, 0, []⟩ = true := by decide
    exact ⟨fun _ => h2, fun k hk => cond_part (.inl rfl) h (.inr rfl) k hk⟩
  · rintro l rfl
    exact ⟨6, rfl, by decide⟩
theorem fork_ok {b : Ch} (hb : Trees b (fun l => l = [3])) : Trees (b.under 53 0 []) oneE := by
  refine (hb.under ?_).mono (Q := oneE) ?_
  · rintro l rfl
    refine ⟨fun _ => by decide, fun k hk => ?_⟩
    simp only [List.length_cons, List.length_nil] at hk
    obtain rfl : k = 0 := by omega
    rfl
  · rintro l rfl
    exact ⟨53, rfl, by decide⟩
theorem num_ok {c : Ch} (hc : Trees c (fun l => ∃ o p, l = [o, p] ∧ exprB o = true ∧ exprB p = true)) : Trees (c.under 41 0 []) oneE :=
  (hc.under (node_two (two_fine 41 (by omega) (by omega)) (fun i o ho => part_expr (by omega) (by omega) (by omega) (by omega) (by omega) i 2 o ho))).mono (by rintro l rfl; exact ⟨41, rfl, by decide⟩)
theorem at_ok {a c : Ch} (ha : Trees a oneE) (hc : Trees c oneE) : Trees ((a.then c).under 42 0 []) oneE := two_ok ha hc (by omega) (by omega)
end Go.Proofs.YtkmhdhnoghbkgaaGreatDoor
