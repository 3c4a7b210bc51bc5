/- A part of the proof: RLeaf, RPart, RAllow. No condition. -/
import Derived.Shelf.Abstract
import Derived.Test.YtefijbpbenmbgaaDoorQ02
set_option linter.unusedVariables false
set_option linter.unusedSimpArgs false
namespace Go.Proofs.YtefijbpbenmbgaaDoor
open Go.RowKit
def ownL (s : List UInt8) : Bool := nameL s && !kwB s
def textOK (k : Nat) (s : List UInt8) : Bool := if k = 0 then s == [] else if k = 1 then ownL s else decide (s.length ≤ 4095)
def exprB (op : Nat) : Bool := decide (20 ≤ op ∧ op ≤ 26) || decide (30 ≤ op ∧ op ≤ 48) || decide (50 ≤ op ∧ op ≤ 57)
def stmtB (op : Nat) : Bool := decide (4 ≤ op ∧ op ≤ 11)
def partOK (k : Nat) (op place parts : Int) : Bool :=
 if k = 1 then exprB op.toNat
 else if k = 2 then (if place < parts - 1 then op == 2 else op == 3)
 else if k = 3 then stmtB op.toNat
 else if k = 4 then (if place = 0 then exprB op.toNat else op == 3)
 else op == 3
structure Kind where
 text : Nat
 least : Nat
 most : Nat
 part : Nat
def textF (k : Nat) : Value := .func (.func (if k = 0 then 51 else if k = 1 then 52 else 57)) #[] #[]
def partF (k : Nat) : Value := if k = 0 then .nilFunc else .func (.func (if k = 1 then 53 else if k = 2 then 54 else if k = 3 then 55 else if k = 4 then 56 else 58)) #[] #[]
def kindV (k : Kind) : Value := .agg #[textF k.text, .int .i64 k.least, .int .i64 k.most, partF k.part]
def kindsL : List (Nat × Kind) := [(1, ⟨1, 1, 2048, 2⟩), (2, ⟨1, 0, 0, 0⟩), (3, ⟨0, 0, 2048, 3⟩), (4, ⟨1, 1, 1, 1⟩), (5, ⟨1, 1, 1, 1⟩), (6, ⟨0, 2, 3, 4⟩), (7, ⟨0, 2, 2, 4⟩), (8, ⟨0, 1, 1, 1⟩), (9, ⟨0, 1, 1, 1⟩), (10, ⟨0, 1, 1, 1⟩), (11, ⟨0, 1, 1, 1⟩),
 (20, ⟨0, 0, 0, 0⟩), (21, ⟨0, 0, 0, 0⟩), (22, ⟨0, 0, 0, 0⟩), (23, ⟨0, 0, 0, 0⟩), (24, ⟨2, 0, 0, 0⟩), (25, ⟨0, 0, 2048, 1⟩), (26, ⟨1, 0, 0, 0⟩), (50, ⟨1, 0, 2048, 1⟩), (51, ⟨1, 0, 2048, 1⟩), (52, ⟨0, 1, 1, 1⟩), (53, ⟨0, 1, 1, 5⟩), (54, ⟨0, 1, 1, 1⟩), (55, ⟨0, 1, 1, 1⟩), (56, ⟨1, 0, 0, 0⟩), (57, ⟨0, 0, 0, 0⟩)]
 ++ (List.range 13).map (fun i => (30 + i, ⟨0, 2, 2, 1⟩)) ++ (List.range 6).map (fun i => (43 + i, ⟨0, 1, 1, 1⟩))
def lookK : List (Nat × Kind) → Nat → Option Kind
 | [], _ => none
 | p :: r, k => if p.1 = k then some p.2 else lookK r k
def kindOf (op : Nat) : Option Kind := lookK kindsL op
theorem look_map (k : Nat) : ∀ L : List (Nat × Kind), lookL (L.map fun p => (p.1, kindV p.2)) k = (lookK L k).map kindV
 | [] => rfl
 | p :: r => by
   show (if p.1 = k then some (kindV p.2) else lookL (r.map fun p => (p.1, kindV p.2)) k) = (if p.1 = k then some p.2 else lookK r k).map kindV
   rw [look_map k r];by_cases h : p.1 = k
   · rw [if_pos h, if_pos h]; rfl
   · rw [if_neg h, if_neg h]
theorem tab_kinds : tabL = kindsL.map fun p => (p.1, kindV p.2) := rfl
theorem look_tab (op : Nat) : lookL tabL op = (kindOf op).map kindV := by rw [tab_kinds]; exact look_map op kindsL
set_option maxHeartbeats 400000 in
theorem isEmpty_any (s : List UInt8) (w : World) : Calls Tryd.prog 51 #[.string ⟨s.toArray⟩] w fun e w' => e = .returned (.bool (textOK 0 s)) ∧ w' = w := by
 obtain ⟨B, hB⟩ := exHid (textOK 0 s);rw [hB.out];have h : (s == []) = B := hB.out;go_enter Tryd.func51, Tryd.ntmps51
 go_wp2
 go_ret
 exact ⟨rfl, rfl⟩
set_option maxHeartbeats 400000 in
theorem isShort_any (s : List UInt8) (w : World) : Calls Tryd.prog 57 #[.string ⟨s.toArray⟩] w fun e w' => e = .returned (.bool (textOK 2 s)) ∧ w' = w := by
 obtain ⟨B, hB⟩ := exHid (textOK 2 s);rw [hB.out];have h : decide ((s.length : Int) ≤ 4095) = B := by
   rw [← hB.out];show decide ((s.length : Int) ≤ 4095) = decide (s.length ≤ 4095)
   exact decide_eq_decide.2 (by omega)
 go_enter Tryd.func57, Tryd.ntmps57
 go_wp2
 go_ret
 exact ⟨rfl, rfl⟩
theorem name_at {tx : List UInt8} {b : Bool} (h : nameL tx = b) (hl : tx.length ≤ 9223372036854775807) (W : World) :
   Calls Tryd.prog 69 #[.string ⟨tx.toArray⟩] W fun e w' => e = .returned (.bool b) ∧ w' = W := by
 have h1 := name_any ⟨tx.toArray⟩ W (by simp [ByteArray.size]; omega);refine h1.mono fun e w' ⟨he, hw⟩ => ⟨?_, hw.symm⟩
 rw [he];exact ret_bool (by simpa using h)
theorem kw_at2 {tx : List UInt8} {b : Bool} (h : kwB tx = b) (W : World) :
   Calls Tryd.prog 70 #[.string ⟨tx.toArray⟩] W fun e w' => e = .returned (.bool b) ∧ w' = W := by
 refine (keyword_any ⟨tx.toArray⟩ W).mono fun e w' ⟨he, hw⟩ => ⟨?_, hw.symm⟩;rw [he];exact ret_bool (by rw [ByteArray.toList_eq]; simpa using h)
set_option maxHeartbeats 400000 in
theorem isOwn_any (s : List UInt8) (w : World) (hl : s.length ≤ 9223372036854775807) : Calls Tryd.prog 52 #[.string ⟨s.toArray⟩] w fun e w' => e = .returned (.bool (textOK 1 s)) ∧ w' = w := by
 obtain ⟨B, hB⟩ := exHid (textOK 1 s);rw [hB.out];have h : (nameL s && !kwB s) = B := hB.out;rcases h1 : nameL s with _ | _
 · have k1 := Lib.hid (fun W => name_at h1 hl W)
   rw [h1] at h;replace h := Lib.hid h;clear h1;go_enter Tryd.func52, Tryd.ntmps52
   go_wp2_with fail
   refine (k1.out _).mono ?_;rintro e w2 ⟨rfl, rfl⟩;go_wp2
   go_ret
   exact ⟨ret_bool (by rw [← h.out]; rfl), rfl⟩
 · have k1 := Lib.hid (fun W => name_at h1 hl W)
   have k2 := Lib.hid (fun W => kw_at2 (tx := s) rfl W);rw [h1, Bool.true_and] at h;replace h := Lib.hid h;clear h1;go_enter Tryd.func52, Tryd.ntmps52
   go_wp2_with fail
   refine (k1.out _).mono ?_;rintro e w2 ⟨rfl, rfl⟩;go_wp2_with fail
   refine (k2.out _).mono ?_;rintro e w2 ⟨rfl, rfl⟩;go_wp2
   go_ret
   exact ⟨ret_bool (by rw [← h.out]; try rfl), rfl⟩
theorem expr_w (op : Nat) : (exprB op = false ∧ ¬ (20 : Int) ≤ op ∧ ¬ (30 : Int) ≤ op ∧ ¬ (50 : Int) ≤ op) ∨ (exprB op = true ∧ (20 : Int) ≤ op ∧ (op : Int) ≤ 26) ∨ (exprB op = false ∧ (20 : Int) ≤ op ∧ ¬ (op : Int) ≤ 26 ∧ ¬ (30 : Int) ≤ op ∧ ¬ (50 : Int) ≤ op) ∨ (exprB op = true ∧ (20 : Int) ≤ op ∧ ¬ (op : Int) ≤ 26 ∧ (30 : Int) ≤ op ∧ (op : Int) ≤ 48) ∨ (exprB op = false ∧ (20 : Int) ≤ op ∧ ¬ (op : Int) ≤ 26 ∧ (30 : Int) ≤ op ∧ ¬ (op : Int) ≤ 48 ∧ ¬ (50 : Int) ≤ op) ∨ (exprB op = true ∧ (20 : Int) ≤ op ∧ ¬ (op : Int) ≤ 26 ∧ (30 : Int) ≤ op ∧ ¬ (op : Int) ≤ 48 ∧ (50 : Int) ≤ op ∧ (op : Int) ≤ 57) ∨ (exprB op = false ∧ (20 : Int) ≤ op ∧ ¬ (op : Int) ≤ 26 ∧ (30 : Int) ≤ op ∧ ¬ (op : Int) ≤ 48 ∧ (50 : Int) ≤ op ∧ ¬ (op : Int) ≤ 57) := by
 have f : ∀ b : Bool, (b = decide ((20 ≤ op ∧ op ≤ 26) ∨ (30 ≤ op ∧ op ≤ 48) ∨ (50 ≤ op ∧ op ≤ 57))) → exprB op = b := by
   rintro b rfl;unfold exprB;by_cases h1 : 20 ≤ op ∧ op ≤ 26 <;> by_cases h2 : 30 ≤ op ∧ op ≤ 48 <;> by_cases h3 : 50 ≤ op ∧ op ≤ 57 <;> simp [h1, h2, h3]
 by_cases a1 : 20 ≤ op
 · by_cases a2 : op ≤ 26
   · exact .inr (.inl ⟨f _ (decide_eq_true (by omega)).symm, by omega, by omega⟩)
   · by_cases a3 : 30 ≤ op
     · by_cases a4 : op ≤ 48
       · exact .inr (.inr (.inr (.inl ⟨f _ (decide_eq_true (by omega)).symm, by omega, by omega, by omega, by omega⟩)))
       · by_cases a5 : 50 ≤ op
         · by_cases a6 : op ≤ 57
           · exact .inr (.inr (.inr (.inr (.inr (.inl ⟨f _ (decide_eq_true (by omega)).symm, by omega, by omega, by omega, by omega, by omega, by omega⟩)))))
           · exact .inr (.inr (.inr (.inr (.inr (.inr ⟨f _ (decide_eq_false (by omega)).symm, by omega, by omega, by omega, by omega, by omega, by omega⟩)))))
         · exact .inr (.inr (.inr (.inr (.inl ⟨f _ (decide_eq_false (by omega)).symm, by omega, by omega, by omega, by omega, by omega⟩))))
     · exact .inr (.inr (.inl ⟨f _ (decide_eq_false (by omega)).symm, by omega, by omega, by omega, by omega⟩))
 · exact .inl ⟨f _ (decide_eq_false (by omega)).symm, by omega, by omega, by omega⟩
set_option maxHeartbeats 1000000 in
theorem Expression_any (op : Nat) (w : World) : Calls Tryd.prog 71 #[.int .u8 (op : Int)] w fun e w' => e = .returned (.bool (exprB op)) ∧ w' = w := by
 obtain ⟨B, hB⟩ := exHid (exprB op);rw [hB.out];have hw := expr_w op;rw [hB.out] at hw;rcases hw with ⟨h0, h⟩ | ⟨h0, h⟩ | ⟨h0, h⟩ | ⟨h0, h⟩ | ⟨h0, h⟩ | ⟨h0, h⟩ | ⟨h0, h⟩
 all_goals
   replace h0 := Lib.hid h0;obtain ⟨h1, h2⟩ := h;go_enter Tryd.func71, Tryd.ntmps71
   go_wp2
   go_ret
   exact ⟨ret_bool (by rw [h0.out]), rfl⟩
theorem stmt_w (op : Nat) : (stmtB op = false ∧ ¬ (4 : Int) ≤ op) ∨ (stmtB op = true ∧ (4 : Int) ≤ op ∧ (op : Int) ≤ 11) ∨ (stmtB op = false ∧ (4 : Int) ≤ op ∧ ¬ (op : Int) ≤ 11) := by
 unfold stmtB;simp only [decide_eq_false_iff_not, decide_eq_true_eq];omega
set_option maxHeartbeats 400000 in
theorem Statement_any (op : Nat) (w : World) : Calls Tryd.prog 72 #[.int .u8 (op : Int)] w fun e w' => e = .returned (.bool (stmtB op)) ∧ w' = w := by
 obtain ⟨B, hB⟩ := exHid (stmtB op);rw [hB.out];have hw := stmt_w op;rw [hB.out] at hw;rcases hw with ⟨h0, h⟩ | ⟨h0, h, h1⟩ | ⟨h0, h, h1⟩
 all_goals
   replace h0 := Lib.hid h0;go_enter Tryd.func72, Tryd.ntmps72
   go_wp2
   go_ret
   exact ⟨ret_bool (by rw [h0.out]), rfl⟩
end Go.Proofs.YtefijbpbenmbgaaDoor
namespace Go.Proofs.YtefijbpbenmbgaaDoor
open Go.RowKit
theorem expr_at {op : Nat} {b : Bool} (h : exprB op = b) (w : World) : Calls Tryd.prog 71 #[.int .u8 (op : Int)] w fun e w' => e = .returned (.bool b) ∧ w' = w := by
 have := Expression_any op w
 rwa [h] at this
theorem stmt_at {op : Nat} {b : Bool} (h : stmtB op = b) (w : World) : Calls Tryd.prog 72 #[.int .u8 (op : Int)] w fun e w' => e = .returned (.bool b) ∧ w' = w := by
 have := Statement_any op w
 rwa [h] at this
set_option maxHeartbeats 400000 in
theorem ofExpressions_any (op : Nat) (p n : Int) (w : World) : Calls Tryd.prog 53 #[.int .u8 (op : Int), .int .i64 p, .int .i64 n] w fun e w' => e = .returned (.bool (partOK 1 op p n)) ∧ w' = w := by
 have k := Lib.hid (fun W => expr_at (op := op) rfl W);have e1 : partOK 1 (op : Int) p n = exprB op := rfl;rw [e1];go_enter Tryd.func53, Tryd.ntmps53
 go_wp2_with fail
 refine (k.out _).mono ?_;rintro e w2 ⟨rfl, rfl⟩;go_wp2
 go_ret
 exact ⟨rfl, rfl⟩
set_option maxHeartbeats 400000 in
theorem ofStatements_any (op : Nat) (p n : Int) (w : World) : Calls Tryd.prog 55 #[.int .u8 (op : Int), .int .i64 p, .int .i64 n] w fun e w' => e = .returned (.bool (partOK 3 op p n)) ∧ w' = w := by
 have k := Lib.hid (fun W => stmt_at (op := op) rfl W);have e1 : partOK 3 (op : Int) p n = stmtB op := rfl;rw [e1];go_enter Tryd.func55, Tryd.ntmps55
 go_wp2_with fail
 refine (k.out _).mono ?_;rintro e w2 ⟨rfl, rfl⟩;go_wp2
 go_ret
 exact ⟨rfl, rfl⟩
set_option maxHeartbeats 400000 in
theorem ofFork_any (op : Nat) (p n : Int) (w : World) : Calls Tryd.prog 58 #[.int .u8 (op : Int), .int .i64 p, .int .i64 n] w fun e w' => e = .returned (.bool (partOK 5 op p n)) ∧ w' = w := by
 have e1 : partOK 5 (op : Int) p n = ((op : Int) == 3) := rfl;rw [e1];go_enter Tryd.func58, Tryd.ntmps58
 go_wp2
 go_ret
 exact ⟨rfl, rfl⟩
set_option maxHeartbeats 400000 in
theorem ofFlow_any (op : Nat) (p n : Int) (w : World) (hn : -1000000 ≤ n) (hn2 : n ≤ 1000000) : Calls Tryd.prog 54 #[.int .u8 (op : Int), .int .i64 p, .int .i64 n] w fun e w' => e = .returned (.bool (partOK 2 op p n)) ∧ w' = w := by
 by_cases h : p < n - 1
 · have e1 : partOK 2 (op : Int) p n = ((op : Int) == 2) := if_pos h
   rw [e1];go_enter Tryd.func54, Tryd.ntmps54
   go_wp2
   go_ret
   exact ⟨rfl, rfl⟩
 · have e1 : partOK 2 (op : Int) p n = ((op : Int) == 3) := if_neg h
   rw [e1];go_enter Tryd.func54, Tryd.ntmps54
   go_wp2
   go_ret
   exact ⟨rfl, rfl⟩
set_option maxHeartbeats 400000 in
theorem ofCondition_any (op : Nat) (p n : Int) (w : World) : Calls Tryd.prog 56 #[.int .u8 (op : Int), .int .i64 p, .int .i64 n] w fun e w' => e = .returned (.bool (partOK 4 op p n)) ∧ w' = w := by
 by_cases h : p = 0
 · have e1 : partOK 4 (op : Int) p n = exprB op := if_pos h
   rw [e1];have k := Lib.hid (fun W => expr_at (op := op) rfl W);subst h;go_enter Tryd.func56, Tryd.ntmps56
   go_wp2_with fail
   refine (k.out _).mono ?_;rintro e w2 ⟨rfl, rfl⟩;go_wp2
   go_ret
   exact ⟨rfl, rfl⟩
 · have e1 : partOK 4 (op : Int) p n = ((op : Int) == 3) := if_neg h
   rw [e1];have q : (p == 0) = false := beq_eq_false_iff_ne.2 h;replace h := Lib.hid h;go_enter Tryd.func56, Tryd.ntmps56
   go_wp2
   go_ret
   exact ⟨rfl, rfl⟩
end Go.Proofs.YtefijbpbenmbgaaDoor
namespace Go.Proofs.YtefijbpbenmbgaaDoor
open Go.RowKit Go.Shelf
structure Tw where
 op : Nat
 kids : Int
 num : Int
 text : List UInt8
 deriving DecidableEq
def twC (x : Tw) : List Value := [.int .u8 x.op, .int .i64 x.kids, .int .i64 x.num, .string ⟨x.text.toArray⟩]
def twV (x : Tw) : Value := .agg #[.int .u8 x.op, .int .i64 x.kids, .int .i64 x.num, .string ⟨x.text.toArray⟩]
def allowsB (k : Kind) (x : Tw) : Bool := (x.num == 0 || ((x.op : Int) == 23 && decide (0 < x.num))) && decide ((k.least : Int) ≤ x.kids) && decide (x.kids ≤ (k.most : Int)) && textOK k.text x.text
theorem text_call (k : Nat) (s : List UInt8) (hl : s.length ≤ 9223372036854775807) {b : Bool} (h : textOK k s = b) : ∃ F, textF k = .func (.func F) #[] #[] ∧ (∀ args w, (callFunc F args).run Tryd.prog w = .ok (.enter F args) w) ∧ ∀ W, Calls Tryd.prog F #[.string ⟨s.toArray⟩] W fun e w' => e = .returned (.bool b) ∧ w' = W := by
 subst h;by_cases h0 : k = 0
 · subst h0; exact ⟨_, rfl, enters_of Tryd.func51 (by kernel_rfl) rfl, fun W => isEmpty_any s W⟩
 · by_cases h1 : k = 1
   · subst h1; exact ⟨_, rfl, enters_of Tryd.func52 (by kernel_rfl) rfl, fun W => isOwn_any s W hl⟩
   · refine ⟨57, by unfold textF; rw [if_neg h0, if_neg h1], enters_of Tryd.func57 (by kernel_rfl) rfl, fun W => ?_⟩
     have e : textOK k s = textOK 2 s := by unfold textOK; rw [if_neg h0, if_neg h1]; rfl
     rw [e];exact isShort_any s W
set_option maxRecDepth 20000 in
set_option maxHeartbeats 4000000 in
theorem allows_any (k : Kind) (x : Tw) (w : World) (hl : x.text.length ≤ 9223372036854775807) :
   Calls Tryd.prog 60 #[kindV k, twV x] w fun e w' => e = .returned (.bool (allowsB k x)) ∧ Below w.heap.size w w' := by
 obtain ⟨tk, lo, hi, pk⟩ := k;obtain ⟨op, kids, num, text⟩ := x;obtain ⟨B, hB⟩ := exHid (allowsB ⟨tk, lo, hi, pk⟩ ⟨op, kids, num, text⟩);rw [hB.out];have hB' := hB.out;unfold allowsB at hB';unfold kindV twV;dsimp only at *;clear hB;obtain ⟨T, hT⟩ := exHid (textOK tk text);obtain ⟨F, hF, hen, kF⟩ := text_call tk text hl hT.out;rw [hT.out] at hB';rw [hF];clear hF hT;generalize partF pk = pf;replace kF := Lib.hid kF;rcases q1 : (num == 0) with _ | _
 · rcases q2 : ((op : Int) == 23) with _ | _
   · rw [q1, q2] at hB'
     replace hB' := Lib.hid hB';go_enter Tryd.func60, Tryd.ntmps60
     go_wp2
     go_ret
     exact ⟨ret_bool (by rw [← hB'.out]; rfl), by go_grown⟩
   · by_cases q3 : 0 < num
     · rw [q1, q2, decide_eq_true q3] at hB'
       by_cases q4 : (lo : Int) ≤ kids
       · by_cases q5 : kids ≤ (hi : Int)
         · rw [decide_eq_true q4, decide_eq_true q5] at hB'
           replace hB' := Lib.hid hB';go_enter Tryd.func60, Tryd.ntmps60
           go_wp2_with fail
           refine (kF.out _).mono ?_;rintro e w2 ⟨rfl, rfl⟩;go_wp2
           go_ret
           exact ⟨ret_bool (by rw [← hB'.out]; rfl), by go_grown⟩
         · rw [decide_eq_false q5] at hB'
           have hv : B = false := by rw [← hB']; simp
           replace hv := Lib.hid hv;clear hB';go_enter Tryd.func60, Tryd.ntmps60
           go_wp2
           go_ret
           exact ⟨ret_bool (by rw [hv.out]), by go_grown⟩
       · rw [decide_eq_false q4] at hB'
         have hv : B = false := by rw [← hB']; simp
         replace hv := Lib.hid hv;clear hB';go_enter Tryd.func60, Tryd.ntmps60
         go_wp2
         go_ret
         exact ⟨ret_bool (by rw [hv.out]), by go_grown⟩
     · rw [q1, q2, decide_eq_false q3] at hB'
       have hv : B = false := by rw [← hB']; simp
       replace hv := Lib.hid hv;clear hB';go_enter Tryd.func60, Tryd.ntmps60
       go_wp2
       go_ret
       exact ⟨ret_bool (by rw [hv.out]), by go_grown⟩
 · rw [q1] at hB'
   by_cases q4 : (lo : Int) ≤ kids
   · by_cases q5 : kids ≤ (hi : Int)
     · rw [decide_eq_true q4, decide_eq_true q5] at hB'
       replace hB' := Lib.hid hB';go_enter Tryd.func60, Tryd.ntmps60
       go_wp2_with fail
       refine (kF.out _).mono ?_;rintro e w2 ⟨rfl, rfl⟩;go_wp2
       go_ret
       exact ⟨ret_bool (by rw [← hB'.out]; simp), by go_grown⟩
     · rw [decide_eq_false q5] at hB'
       have hv : B = false := by rw [← hB']; simp
       replace hv := Lib.hid hv;clear hB';go_enter Tryd.func60, Tryd.ntmps60
       go_wp2
       go_ret
       exact ⟨ret_bool (by rw [hv.out]), by go_grown⟩
   · rw [decide_eq_false q4] at hB'
     have hv : B = false := by rw [← hB']; simp
     replace hv := Lib.hid hv;clear hB';go_enter Tryd.func60, Tryd.ntmps60
     go_wp2
     go_ret
     exact ⟨ret_bool (by rw [hv.out]), by go_grown⟩
end Go.Proofs.YtefijbpbenmbgaaDoor
