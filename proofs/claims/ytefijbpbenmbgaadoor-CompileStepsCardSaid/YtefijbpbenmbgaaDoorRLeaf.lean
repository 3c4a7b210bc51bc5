/- What a twig may be, as functions on data; tree's isEmpty, isOwn, isShort, Expression, Statement, of.. (layer 8), walked. No condition. -/
import Derived.Test.YtefijbpbenmbgaaDoorRTab
import Derived.Test.YtefijbpbenmbgaaDoorNm
import Derived.Test.YtefijbpbenmbgaaDoorKw
namespace Go.Proofs.YtefijbpbenmbgaaDoor
open Go.RowKit

/-- What a text may be: 0 empty, 1 a word of one's own, 2 short. -/
def ownL (s : List UInt8) : Bool := nameL s && !kwB s
def textOK (k : Nat) (s : List UInt8) : Bool := if k = 0 then s == [] else if k = 1 then ownL s else decide (s.length ≤ 4095)
def exprB (op : Nat) : Bool := decide (20 ≤ op ∧ op ≤ 26) || decide (30 ≤ op ∧ op ≤ 48) || decide (50 ≤ op ∧ op ≤ 57)
def stmtB (op : Nat) : Bool := decide (4 ≤ op ∧ op ≤ 11)
/-- What a part may be: 0 none, 1 expressions, 2 a flow's, 3 statements, 4 a condition's, 5 a fork's. -/
def partOK (k : Nat) (op place parts : Int) : Bool :=
  if k = 1 then exprB op.toNat
  else if k = 2 then (if place < parts - 1 then op == 2 else op == 3)
  else if k = 3 then stmtB op.toNat
  else if k = 4 then (if place = 0 then exprB op.toNat else op == 3)
  else op == 3
structure Kind where
  text : Nat
  least : Nat
  most : Nat
  part : Nat
def textF (k : Nat) : Value := .func (.func (if k = 0 then 51 else if k = 1 then 52 else 57)) #[] #[]
def partF (k : Nat) : Value := if k = 0 then .nilFunc else .func (.func (if k = 1 then 53 else if k = 2 then 54 else if k = 3 then 55 else if k = 4 then 56 else 58)) #[] #[]
def kindV (k : Kind) : Value := .agg #[textF k.text, .int .i64 k.least, .int .i64 k.most, partF k.part]
def kindsL : List (Nat × Kind) := [(1, ⟨1, 1, 2048, 2⟩), (2, ⟨1, 0, 0, 0⟩), (3, ⟨0, 0, 2048, 3⟩), (4, ⟨1, 1, 1, 1⟩), (5, ⟨1, 1, 1, 1⟩), (6, ⟨0, 2, 3, 4⟩), (7, ⟨0, 2, 2, 4⟩), (8, ⟨0, 1, 1, 1⟩), (9, ⟨0, 1, 1, 1⟩), (10, ⟨0, 1, 1, 1⟩), (11, ⟨0, 1, 1, 1⟩),
  (20, ⟨0, 0, 0, 0⟩), (21, ⟨0, 0, 0, 0⟩), (22, ⟨0, 0, 0, 0⟩), (23, ⟨0, 0, 0, 0⟩), (24, ⟨2, 0, 0, 0⟩), (25, ⟨0, 0, 2048, 1⟩), (26, ⟨1, 0, 0, 0⟩), (50, ⟨1, 0, 2048, 1⟩), (51, ⟨1, 0, 2048, 1⟩), (52, ⟨0, 1, 1, 1⟩), (53, ⟨0, 1, 1, 5⟩), (54, ⟨0, 1, 1, 1⟩), (55, ⟨0, 1, 1, 1⟩), (56, ⟨1, 0, 0, 0⟩), (57, ⟨0, 0, 0, 0⟩)]
  ++ (List.range 13).map (fun i => (30 + i, ⟨0, 2, 2, 1⟩)) ++ (List.range 6).map (fun i => (43 + i, ⟨0, 1, 1, 1⟩))
def lookK : List (Nat × Kind) → Nat → Option Kind
  | [], _ => none
  | p :: r, k => if p.1 = k then some p.2 else lookK r k
def kindOf (op : Nat) : Option Kind := lookK kindsL op
theorem look_map (k : Nat) : ∀ L : List (Nat × Kind), lookL (L.map fun p => (p.1, kindV p.2)) k = (lookK L k).map kindV
  | [] => rfl
  | p :: r => by
    show (if p.1 = k then some (kindV p.2) else lookL (r.map fun p => (p.1, kindV p.2)) k) = (if p.1 = k then some p.2 else lookK r k).map kindV
    rw [look_map k r]
    by_cases h : p.1 = k
    · rw [if_pos h, if_pos h]; rfl
    · rw [if_neg h, if_neg h]
theorem tab_kinds : tabL = kindsL.map fun p => (p.1, kindV p.2) := rfl
theorem look_tab (op : Nat) : lookL tabL op = (kindOf op).map kindV := by rw [tab_kinds]; exact look_map op kindsL

set_option maxHeartbeats 400000 in
theorem isEmpty_any (s : List UInt8) (w : World) : Calls Tryd.prog 51 #[.string ⟨s.toArray⟩] w fun e w' => e = .returned (.bool (textOK 0 s)) ∧ w' = w := by
  obtain ⟨B, hB⟩ := exHid (textOK 0 s)
  rw [hB.out]
  have h : (s == []) = B := hB.out
  go_enter Tryd.func51, Tryd.ntmps51
  go_wp2
  go_ret
  exact ⟨rfl, rfl⟩
set_option maxHeartbeats 400000 in
theorem isShort_any (s : List UInt8) (w : World) : Calls Tryd.prog 57 #[.string ⟨s.toArray⟩] w fun e w' => e = .returned (.bool (textOK 2 s)) ∧ w' = w := by
  obtain ⟨B, hB⟩ := exHid (textOK 2 s)
  rw [hB.out]
  have h : decide ((s.length : Int) ≤ 4095) = B := by
    rw [← hB.out]
    show decide ((s.length : Int) ≤ 4095) = decide (s.length ≤ 4095)
    exact decide_eq_decide.2 (by omega)
  go_enter Tryd.func57, Tryd.ntmps57
  go_wp2
  go_ret
  exact ⟨rfl, rfl⟩
theorem name_at {tx : List UInt8} {b : Bool} (h : nameL tx = b) (hl : tx.length ≤ 9223372036854775807) (W : World) :
    Calls Tryd.prog 69 #[.string ⟨tx.toArray⟩] W fun e w' => e = .returned (.bool b) ∧ w' = W := by
  have h1 := name_any ⟨tx.toArray⟩ W (by simp [ByteArray.size]; omega)
  refine h1.mono fun e w' ⟨he, hw⟩ => ⟨?_, hw.symm⟩
  rw [he]
  exact ret_bool (by simpa using h)
theorem kw_at2 {tx : List UInt8} {b : Bool} (h : kwB tx = b) (W : World) :
    Calls Tryd.prog 70 #[.string ⟨tx.toArray⟩] W fun e w' => e = .returned (.bool b) ∧ w' = W := by
  refine (keyword_any ⟨tx.toArray⟩ W).mono fun e w' ⟨he, hw⟩ => ⟨?_, hw.symm⟩
  rw [he]
  exact ret_bool (by rw [ByteArray.toList_eq]; simpa using h)
set_option maxHeartbeats 400000 in
theorem isOwn_any (s : List UInt8) (w : World) (hl : s.length ≤ 9223372036854775807) : Calls Tryd.prog 52 #[.string ⟨s.toArray⟩] w fun e w' => e = .returned (.bool (textOK 1 s)) ∧ w' = w := by
  obtain ⟨B, hB⟩ := exHid (textOK 1 s)
  rw [hB.out]
  have h : (nameL s && !kwB s) = B := hB.out
  rcases h1 : nameL s with _ | _
  · have k1 := Lib.hid (fun W => name_at h1 hl W)
    rw [h1] at h
    replace h := Lib.hid h
    clear h1
    go_enter Tryd.func52, Tryd.ntmps52
    go_wp2_with fail
    refine (k1.out _).mono ?_
    rintro e w2 ⟨rfl, rfl⟩
    go_wp2
    go_ret
    exact ⟨ret_bool (by rw [← h.out]; rfl), rfl⟩
  · have k1 := Lib.hid (fun W => name_at h1 hl W)
    have k2 := Lib.hid (fun W => kw_at2 (tx := s) rfl W)
    rw [h1, Bool.true_and] at h
    replace h := Lib.hid h
    clear h1
    go_enter Tryd.func52, Tryd.ntmps52
    go_wp2_with fail
    refine (k1.out _).mono ?_
    rintro e w2 ⟨rfl, rfl⟩
    go_wp2_with fail
    refine (k2.out _).mono ?_
    rintro e w2 ⟨rfl, rfl⟩
    go_wp2
    go_ret
    exact ⟨ret_bool (by rw [← h.out]; try rfl), rfl⟩
theorem expr_w (op : Nat) : (exprB op = false ∧ ¬ (20 : Int) ≤ op ∧ ¬ (30 : Int) ≤ op ∧ ¬ (50 : Int) ≤ op) ∨ (exprB op = true ∧ (20 : Int) ≤ op ∧ (op : Int) ≤ 26) ∨ (exprB op = false ∧ (20 : Int) ≤ op ∧ ¬ (op : Int) ≤ 26 ∧ ¬ (30 : Int) ≤ op ∧ ¬ (50 : Int) ≤ op) ∨ (exprB op = true ∧ (20 : Int) ≤ op ∧ ¬ (op : Int) ≤ 26 ∧ (30 : Int) ≤ op ∧ (op : Int) ≤ 48) ∨ (exprB op = false ∧ (20 : Int) ≤ op ∧ ¬ (op : Int) ≤ 26 ∧ (30 : Int) ≤ op ∧ ¬ (op : Int) ≤ 48 ∧ ¬ (50 : Int) ≤ op) ∨ (exprB op = true ∧ (20 : Int) ≤ op ∧ ¬ (op : Int) ≤ 26 ∧ (30 : Int) ≤ op ∧ ¬ (op : Int) ≤ 48 ∧ (50 : Int) ≤ op ∧ (op : Int) ≤ 57) ∨ (exprB op = false ∧ (20 : Int) ≤ op ∧ ¬ (op : Int) ≤ 26 ∧ (30 : Int) ≤ op ∧ ¬ (op : Int) ≤ 48 ∧ (50 : Int) ≤ op ∧ ¬ (op : Int) ≤ 57) := by
  have f : ∀ b : Bool, (b = decide ((20 ≤ op ∧ op ≤ 26) ∨ (30 ≤ op ∧ op ≤ 48) ∨ (50 ≤ op ∧ op ≤ 57))) → exprB op = b := by
    rintro b rfl
    unfold exprB
    by_cases h1 : 20 ≤ op ∧ op ≤ 26 <;> by_cases h2 : 30 ≤ op ∧ op ≤ 48 <;> by_cases h3 : 50 ≤ op ∧ op ≤ 57 <;> simp [h1, h2, h3]
  by_cases a1 : 20 ≤ op
  · by_cases a2 : op ≤ 26
    · exact .inr (.inl ⟨f _ (decide_eq_true (by omega)).symm, by omega, by omega⟩)
    · by_cases a3 : 30 ≤ op
      · by_cases a4 : op ≤ 48
        · exact .inr (.inr (.inr (.inl ⟨f _ (decide_eq_true (by omega)).symm, by omega, by omega, by omega, by omega⟩)))
        · by_cases a5 : 50 ≤ op
          · by_cases a6 : op ≤ 57
            · exact .inr (.inr (.inr (.inr (.inr (.inl ⟨f _ (decide_eq_true (by omega)).symm, by omega, by omega, by omega, by omega, by omega, by omega⟩)))))
            · exact .inr (.inr (.inr (.inr (.inr (.inr ⟨f _ (decide_eq_false (by omega)).symm, by omega, by omega, by omega, by omega, by omega, by omega⟩)))))
          · exact .inr (.inr (.inr (.inr (.inl ⟨f _ (decide_eq_false (by omega)).symm, by omega, by omega, by omega, by omega, by omega⟩))))
      · exact .inr (.inr (.inl ⟨f _ (decide_eq_false (by omega)).symm, by omega, by omega, by omega, by omega⟩))
  · exact .inl ⟨f _ (decide_eq_false (by omega)).symm, by omega, by omega, by omega⟩
set_option maxHeartbeats 1000000 in
theorem Expression_any (op : Nat) (w : World) : Calls Tryd.prog 71 #[.int .u8 (op : Int)] w fun e w' => e = .returned (.bool (exprB op)) ∧ w' = w := by
  obtain ⟨B, hB⟩ := exHid (exprB op)
  rw [hB.out]
  have hw := expr_w op
  rw [hB.out] at hw
  rcases hw with ⟨h0, h⟩ | ⟨h0, h⟩ | ⟨h0, h⟩ | ⟨h0, h⟩ | ⟨h0, h⟩ | ⟨h0, h⟩ | ⟨h0, h⟩
  all_goals
    replace h0 := Lib.hid h0
    obtain ⟨h1, h2⟩ := h
    go_enter Tryd.func71, Tryd.ntmps71
    go_wp2
    go_ret
    exact ⟨ret_bool (by rw [h0.out]), rfl⟩
theorem stmt_w (op : Nat) : (stmtB op = false ∧ ¬ (4 : Int) ≤ op) ∨ (stmtB op = true ∧ (4 : Int) ≤ op ∧ (op : Int) ≤ 11) ∨ (stmtB op = false ∧ (4 : Int) ≤ op ∧ ¬ (op : Int) ≤ 11) := by
  unfold stmtB
  simp only [decide_eq_false_iff_not, decide_eq_true_eq]
  omega
set_option maxHeartbeats 400000 in
theorem Statement_any (op : Nat) (w : World) : Calls Tryd.prog 72 #[.int .u8 (op : Int)] w fun e w' => e = .returned (.bool (stmtB op)) ∧ w' = w := by
  obtain ⟨B, hB⟩ := exHid (stmtB op)
  rw [hB.out]
  have hw := stmt_w op
  rw [hB.out] at hw
  rcases hw with ⟨h0, h⟩ | ⟨h0, h, h1⟩ | ⟨h0, h, h1⟩
  all_goals
    replace h0 := Lib.hid h0
    go_enter Tryd.func72, Tryd.ntmps72
    go_wp2
    go_ret
    exact ⟨ret_bool (by rw [h0.out]), rfl⟩
end Go.Proofs.YtefijbpbenmbgaaDoor
