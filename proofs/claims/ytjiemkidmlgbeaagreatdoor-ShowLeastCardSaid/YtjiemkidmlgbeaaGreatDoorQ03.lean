/- A part of the proof: RLeaf, RPart, RAllow, PSpec, TCharB, TChar, TWordB, TWord. No condition. -/
import Derived.Shelf.Abstract
import Derived.Test.YtjiemkidmlgbeaaGreatDoorRows
import Derived.WalkKit
import Derived.WalkSpells
import Derived.WalkLawsBesides
import Derived.Handy
import Derived.Lib.Hide
import Derived.LoopTactic
import Derived.Lib.IndexBytes
import Derived.Lib.Strings
import Derived.Test.YtjiemkidmlgbeaaGreatDoorQ01
import Derived.Test.YtjiemkidmlgbeaaGreatDoorQ02
set_option linter.unusedVariables false
set_option linter.unusedSimpArgs false
namespace Go.Proofs.YtjiemkidmlgbeaaGreatDoor
open Go.RowKit
def ownL (s : List UInt8) : Bool := nameL s && !kwB s
def textOK (k : Nat) (s : List UInt8) : Bool := if k = 0 then s == [] else if k = 1 then ownL s else decide (s.length ≤ 4095)
def exprB (op : Nat) : Bool := decide (20 ≤ op ∧ op ≤ 26) || decide (30 ≤ op ∧ op ≤ 48) || decide (50 ≤ op ∧ op ≤ 57)
def stmtB (op : Nat) : Bool := decide (4 ≤ op ∧ op ≤ 11)
def partOK (k : Nat) (op place parts : Int) : Bool :=
 if k = 1 then exprB op.toNat
 else if k = 2 then (if place < parts - 1 then op == 2 else op == 3)
 else if k = 3 then stmtB op.toNat
 else if k = 4 then (if place = 0 then exprB op.toNat else op == 3)
 else op == 3
structure Kind where
 text : Nat
 least : Nat
 most : Nat
 part : Nat
def textF (k : Nat) : Value := .func (.func (if k = 0 then 23 else if k = 1 then 24 else 29)) #[] #[]
def partF (k : Nat) : Value := if k = 0 then .nilFunc else .func (.func (if k = 1 then 25 else if k = 2 then 26 else if k = 3 then 27 else if k = 4 then 28 else 30)) #[] #[]
def kindV (k : Kind) : Value := .agg #[textF k.text, .int .i64 k.least, .int .i64 k.most, partF k.part]
def kindsL : List (Nat × Kind) := [(1, ⟨1, 1, 2048, 2⟩), (2, ⟨1, 0, 0, 0⟩), (3, ⟨0, 0, 2048, 3⟩), (4, ⟨1, 1, 1, 1⟩), (5, ⟨1, 1, 1, 1⟩), (6, ⟨0, 2, 3, 4⟩), (7, ⟨0, 2, 2, 4⟩), (8, ⟨0, 1, 1, 1⟩), (9, ⟨0, 1, 1, 1⟩), (10, ⟨0, 1, 1, 1⟩), (11, ⟨0, 1, 1, 1⟩),
 (20, ⟨0, 0, 0, 0⟩), (21, ⟨0, 0, 0, 0⟩), (22, ⟨0, 0, 0, 0⟩), (23, ⟨0, 0, 0, 0⟩), (24, ⟨2, 0, 0, 0⟩), (25, ⟨0, 0, 2048, 1⟩), (26, ⟨1, 0, 0, 0⟩), (50, ⟨1, 0, 2048, 1⟩), (51, ⟨1, 0, 2048, 1⟩), (52, ⟨0, 1, 1, 1⟩), (53, ⟨0, 1, 1, 5⟩), (54, ⟨0, 1, 1, 1⟩), (55, ⟨0, 1, 1, 1⟩), (56, ⟨1, 0, 0, 0⟩), (57, ⟨0, 0, 0, 0⟩)]
 ++ (List.range 13).map (fun i => (30 + i, ⟨0, 2, 2, 1⟩)) ++ (List.range 6).map (fun i => (43 + i, ⟨0, 1, 1, 1⟩))
def lookK : List (Nat × Kind) → Nat → Option Kind
 | [], _ => none
 | p :: r, k => if p.1 = k then some p.2 else lookK r k
def kindOf (op : Nat) : Option Kind := lookK kindsL op
theorem look_map (k : Nat) : ∀ L : List (Nat × Kind), lookL (L.map fun p => (p.1, kindV p.2)) k = (lookK L k).map kindV
 | [] => rfl
 | p :: r => by
   show (if p.1 = k then some (kindV p.2) else lookL (r.map fun p => (p.1, kindV p.2)) k) = (if p.1 = k then some p.2 else lookK r k).map kindV
   rw [look_map k r];by_cases h : p.1 = k
   · rw [if_pos h, if_pos h]; rfl
   · rw [if_neg h, if_neg h]
theorem tab_kinds : tabL = kindsL.map fun p => (p.1, kindV p.2) := rfl
theorem look_tab (op : Nat) : lookL tabL op = (kindOf op).map kindV := by rw [tab_kinds]; exact look_map op kindsL
set_option maxHeartbeats 400000 in
theorem isEmpty_any (s : List UInt8) (w : World) : Calls Tryz.prog 23 #[.string ⟨s.toArray⟩] w fun e w' => e = .returned (.bool (textOK 0 s)) ∧ w' = w := by
 obtain ⟨B, hB⟩ := exHid (textOK 0 s);rw [hB.out];have h : (s == []) = B := hB.out;go_enter Tryz.func23, Tryz.ntmps23
 go_wp2
 go_ret
 exact ⟨rfl, rfl⟩
set_option maxHeartbeats 400000 in
theorem isShort_any (s : List UInt8) (w : World) : Calls Tryz.prog 29 #[.string ⟨s.toArray⟩] w fun e w' => e = .returned (.bool (textOK 2 s)) ∧ w' = w := by
 obtain ⟨B, hB⟩ := exHid (textOK 2 s);rw [hB.out];have h : decide ((s.length : Int) ≤ 4095) = B := by
   rw [← hB.out];show decide ((s.length : Int) ≤ 4095) = decide (s.length ≤ 4095)
   exact decide_eq_decide.2 (by omega)
 go_enter Tryz.func29, Tryz.ntmps29
 go_wp2
 go_ret
 exact ⟨rfl, rfl⟩
theorem name_at {tx : List UInt8} {b : Bool} (h : nameL tx = b) (hl : tx.length ≤ 9223372036854775807) (W : World) :
   Calls Tryz.prog 42 #[.string ⟨tx.toArray⟩] W fun e w' => e = .returned (.bool b) ∧ w' = W := by
 have h1 := name_any ⟨tx.toArray⟩ W (by simp [ByteArray.size]; omega);refine h1.mono fun e w' ⟨he, hw⟩ => ⟨?_, hw.symm⟩
 rw [he];exact ret_bool (by simpa using h)
theorem kw_at2 {tx : List UInt8} {b : Bool} (h : kwB tx = b) (W : World) :
   Calls Tryz.prog 46 #[.string ⟨tx.toArray⟩] W fun e w' => e = .returned (.bool b) ∧ w' = W := by
 refine (keyword_any ⟨tx.toArray⟩ W).mono fun e w' ⟨he, hw⟩ => ⟨?_, hw.symm⟩;rw [he];exact ret_bool (by rw [ByteArray.toList_eq]; simpa using h)
set_option maxHeartbeats 400000 in
theorem isOwn_any (s : List UInt8) (w : World) (hl : s.length ≤ 9223372036854775807) : Calls Tryz.prog 24 #[.string ⟨s.toArray⟩] w fun e w' => e = .returned (.bool (textOK 1 s)) ∧ w' = w := by
 obtain ⟨B, hB⟩ := exHid (textOK 1 s);rw [hB.out];have h : (nameL s && !kwB s) = B := hB.out;rcases h1 : nameL s with _ | _
 · have k1 := Lib.hid (fun W => name_at h1 hl W)
   rw [h1] at h;replace h := Lib.hid h;clear h1;go_enter Tryz.func24, Tryz.ntmps24
   go_wp2_with fail
   refine (k1.out _).mono ?_;rintro e w2 ⟨rfl, rfl⟩;go_wp2
   go_ret
   exact ⟨ret_bool (by rw [← h.out]; rfl), rfl⟩
 · have k1 := Lib.hid (fun W => name_at h1 hl W)
   have k2 := Lib.hid (fun W => kw_at2 (tx := s) rfl W);rw [h1, Bool.true_and] at h;replace h := Lib.hid h;clear h1;go_enter Tryz.func24, Tryz.ntmps24
   go_wp2_with fail
   refine (k1.out _).mono ?_;rintro e w2 ⟨rfl, rfl⟩;go_wp2_with fail
   refine (k2.out _).mono ?_;rintro e w2 ⟨rfl, rfl⟩;go_wp2
   go_ret
   exact ⟨ret_bool (by rw [← h.out]; try rfl), rfl⟩
theorem expr_w (op : Nat) : (exprB op = false ∧ ¬ (20 : Int) ≤ op ∧ ¬ (30 : Int) ≤ op ∧ ¬ (50 : Int) ≤ op) ∨ (exprB op = true ∧ (20 : Int) ≤ op ∧ (op : Int) ≤ 26) ∨ (exprB op = false ∧ (20 : Int) ≤ op ∧ ¬ (op : Int) ≤ 26 ∧ ¬ (30 : Int) ≤ op ∧ ¬ (50 : Int) ≤ op) ∨ (exprB op = true ∧ (20 : Int) ≤ op ∧ ¬ (op : Int) ≤ 26 ∧ (30 : Int) ≤ op ∧ (op : Int) ≤ 48) ∨ (exprB op = false ∧ (20 : Int) ≤ op ∧ ¬ (op : Int) ≤ 26 ∧ (30 : Int) ≤ op ∧ ¬ (op : Int) ≤ 48 ∧ ¬ (50 : Int) ≤ op) ∨ (exprB op = true ∧ (20 : Int) ≤ op ∧ ¬ (op : Int) ≤ 26 ∧ (30 : Int) ≤ op ∧ ¬ (op : Int) ≤ 48 ∧ (50 : Int) ≤ op ∧ (op : Int) ≤ 57) ∨ (exprB op = false ∧ (20 : Int) ≤ op ∧ ¬ (op : Int) ≤ 26 ∧ (30 : Int) ≤ op ∧ ¬ (op : Int) ≤ 48 ∧ (50 : Int) ≤ op ∧ ¬ (op : Int) ≤ 57) := by
 have f : ∀ b : Bool, (b = decide ((20 ≤ op ∧ op ≤ 26) ∨ (30 ≤ op ∧ op ≤ 48) ∨ (50 ≤ op ∧ op ≤ 57))) → exprB op = b := by
   rintro b rfl;unfold exprB;by_cases h1 : 20 ≤ op ∧ op ≤ 26 <;> by_cases h2 : 30 ≤ op ∧ op ≤ 48 <;> by_cases h3 : 50 ≤ op ∧ op ≤ 57 <;> simp [h1, h2, h3]
 by_cases a1 : 20 ≤ op
 · by_cases a2 : op ≤ 26
   · exact .inr (.inl ⟨f _ (decide_eq_true (by omega)).symm, by omega, by omega⟩)
   · by_cases a3 : 30 ≤ op
     · by_cases a4 : op ≤ 48
       · exact .inr (.inr (.inr (.inl ⟨f _ (decide_eq_true (by omega)).symm, by omega, by omega, by omega, by omega⟩)))
       · by_cases a5 : 50 ≤ op
         · by_cases a6 : op ≤ 57
           · exact .inr (.inr (.inr (.inr (.inr (.inl ⟨f _ (decide_eq_true (by omega)).symm, by omega, by omega, by omega, by omega, by omega, by omega⟩)))))
           · exact .inr (.inr (.inr (.inr (.inr (.inr ⟨f _ (decide_eq_false (by omega)).symm, by omega, by omega, by omega, by omega, by omega, by omega⟩)))))
         · exact .inr (.inr (.inr (.inr (.inl ⟨f _ (decide_eq_false (by omega)).symm, by omega, by omega, by omega, by omega, by omega⟩))))
     · exact .inr (.inr (.inl ⟨f _ (decide_eq_false (by omega)).symm, by omega, by omega, by omega, by omega⟩))
 · exact .inl ⟨f _ (decide_eq_false (by omega)).symm, by omega, by omega, by omega⟩
set_option maxHeartbeats 1000000 in
theorem Expression_any (op : Nat) (w : World) : Calls Tryz.prog 8 #[.int .u8 (op : Int)] w fun e w' => e = .returned (.bool (exprB op)) ∧ w' = w := by
 obtain ⟨B, hB⟩ := exHid (exprB op);rw [hB.out];have hw := expr_w op;rw [hB.out] at hw;rcases hw with ⟨h0, h⟩ | ⟨h0, h⟩ | ⟨h0, h⟩ | ⟨h0, h⟩ | ⟨h0, h⟩ | ⟨h0, h⟩ | ⟨h0, h⟩
 all_goals
   replace h0 := Lib.hid h0;obtain ⟨h1, h2⟩ := h;go_enter Tryz.func8, Tryz.ntmps8
   go_wp2
   go_ret
   exact ⟨ret_bool (by rw [h0.out]), rfl⟩
theorem stmt_w (op : Nat) : (stmtB op = false ∧ ¬ (4 : Int) ≤ op) ∨ (stmtB op = true ∧ (4 : Int) ≤ op ∧ (op : Int) ≤ 11) ∨ (stmtB op = false ∧ (4 : Int) ≤ op ∧ ¬ (op : Int) ≤ 11) := by
 unfold stmtB;simp only [decide_eq_false_iff_not, decide_eq_true_eq];omega
set_option maxHeartbeats 400000 in
theorem Statement_any (op : Nat) (w : World) : Calls Tryz.prog 47 #[.int .u8 (op : Int)] w fun e w' => e = .returned (.bool (stmtB op)) ∧ w' = w := by
 obtain ⟨B, hB⟩ := exHid (stmtB op);rw [hB.out];have hw := stmt_w op;rw [hB.out] at hw;rcases hw with ⟨h0, h⟩ | ⟨h0, h, h1⟩ | ⟨h0, h, h1⟩
 all_goals
   replace h0 := Lib.hid h0;go_enter Tryz.func47, Tryz.ntmps47
   go_wp2
   go_ret
   exact ⟨ret_bool (by rw [h0.out]), rfl⟩
end Go.Proofs.YtjiemkidmlgbeaaGreatDoor
namespace Go.Proofs.YtjiemkidmlgbeaaGreatDoor
open Go.RowKit
theorem expr_at {op : Nat} {b : Bool} (h : exprB op = b) (w : World) : Calls Tryz.prog 8 #[.int .u8 (op : Int)] w fun e w' => e = .returned (.bool b) ∧ w' = w := by
 have := Expression_any op w
 rwa [h] at this
theorem stmt_at {op : Nat} {b : Bool} (h : stmtB op = b) (w : World) : Calls Tryz.prog 47 #[.int .u8 (op : Int)] w fun e w' => e = .returned (.bool b) ∧ w' = w := by
 have := Statement_any op w
 rwa [h] at this
set_option maxHeartbeats 400000 in
theorem ofExpressions_any (op : Nat) (p n : Int) (w : World) : Calls Tryz.prog 25 #[.int .u8 (op : Int), .int .i64 p, .int .i64 n] w fun e w' => e = .returned (.bool (partOK 1 op p n)) ∧ w' = w := by
 have k := Lib.hid (fun W => expr_at (op := op) rfl W);have e1 : partOK 1 (op : Int) p n = exprB op := rfl;rw [e1];go_enter Tryz.func25, Tryz.ntmps25
 go_wp2_with fail
 refine (k.out _).mono ?_;rintro e w2 ⟨rfl, rfl⟩;go_wp2
 go_ret
 exact ⟨rfl, rfl⟩
set_option maxHeartbeats 400000 in
theorem ofStatements_any (op : Nat) (p n : Int) (w : World) : Calls Tryz.prog 27 #[.int .u8 (op : Int), .int .i64 p, .int .i64 n] w fun e w' => e = .returned (.bool (partOK 3 op p n)) ∧ w' = w := by
 have k := Lib.hid (fun W => stmt_at (op := op) rfl W);have e1 : partOK 3 (op : Int) p n = stmtB op := rfl;rw [e1];go_enter Tryz.func27, Tryz.ntmps27
 go_wp2_with fail
 refine (k.out _).mono ?_;rintro e w2 ⟨rfl, rfl⟩;go_wp2
 go_ret
 exact ⟨rfl, rfl⟩
set_option maxHeartbeats 400000 in
theorem ofFork_any (op : Nat) (p n : Int) (w : World) : Calls Tryz.prog 30 #[.int .u8 (op : Int), .int .i64 p, .int .i64 n] w fun e w' => e = .returned (.bool (partOK 5 op p n)) ∧ w' = w := by
 have e1 : partOK 5 (op : Int) p n = ((op : Int) == 3) := rfl;rw [e1];go_enter Tryz.func30, Tryz.ntmps30
 go_wp2
 go_ret
 exact ⟨rfl, rfl⟩
set_option maxHeartbeats 400000 in
theorem ofFlow_any (op : Nat) (p n : Int) (w : World) (hn : -1000000 ≤ n) (hn2 : n ≤ 1000000) : Calls Tryz.prog 26 #[.int .u8 (op : Int), .int .i64 p, .int .i64 n] w fun e w' => e = .returned (.bool (partOK 2 op p n)) ∧ w' = w := by
 by_cases h : p < n - 1
 · have e1 : partOK 2 (op : Int) p n = ((op : Int) == 2) := if_pos h
   rw [e1];go_enter Tryz.func26, Tryz.ntmps26
   go_wp2
   go_ret
   exact ⟨rfl, rfl⟩
 · have e1 : partOK 2 (op : Int) p n = ((op : Int) == 3) := if_neg h
   rw [e1];go_enter Tryz.func26, Tryz.ntmps26
   go_wp2
   go_ret
   exact ⟨rfl, rfl⟩
set_option maxHeartbeats 400000 in
theorem ofCondition_any (op : Nat) (p n : Int) (w : World) : Calls Tryz.prog 28 #[.int .u8 (op : Int), .int .i64 p, .int .i64 n] w fun e w' => e = .returned (.bool (partOK 4 op p n)) ∧ w' = w := by
 by_cases h : p = 0
 · have e1 : partOK 4 (op : Int) p n = exprB op := if_pos h
   rw [e1];have k := Lib.hid (fun W => expr_at (op := op) rfl W);subst h;go_enter Tryz.func28, Tryz.ntmps28
   go_wp2_with fail
   refine (k.out _).mono ?_;rintro e w2 ⟨rfl, rfl⟩;go_wp2
   go_ret
   exact ⟨rfl, rfl⟩
 · have e1 : partOK 4 (op : Int) p n = ((op : Int) == 3) := if_neg h
   rw [e1];have q : (p == 0) = false := beq_eq_false_iff_ne.2 h;replace h := Lib.hid h;go_enter Tryz.func28, Tryz.ntmps28
   go_wp2
   go_ret
   exact ⟨rfl, rfl⟩
end Go.Proofs.YtjiemkidmlgbeaaGreatDoor
namespace Go.Proofs.YtjiemkidmlgbeaaGreatDoor
open Go.RowKit Go.Shelf
structure Tw where
 op : Nat
 kids : Int
 num : Int
 text : List UInt8
 deriving DecidableEq
def twC (x : Tw) : List Value := [.int .u8 x.op, .int .i64 x.kids, .int .i64 x.num, .string ⟨x.text.toArray⟩]
def twV (x : Tw) : Value := .agg #[.int .u8 x.op, .int .i64 x.kids, .int .i64 x.num, .string ⟨x.text.toArray⟩]
def allowsB (k : Kind) (x : Tw) : Bool := (x.num == 0 || ((x.op : Int) == 23 && decide (0 < x.num))) && decide ((k.least : Int) ≤ x.kids) && decide (x.kids ≤ (k.most : Int)) && textOK k.text x.text
theorem text_call (k : Nat) (s : List UInt8) (hl : s.length ≤ 9223372036854775807) {b : Bool} (h : textOK k s = b) : ∃ F, textF k = .func (.func F) #[] #[] ∧ (∀ args w, (callFunc F args).run Tryz.prog w = .ok (.enter F args) w) ∧ ∀ W, Calls Tryz.prog F #[.string ⟨s.toArray⟩] W fun e w' => e = .returned (.bool b) ∧ w' = W := by
 subst h;by_cases h0 : k = 0
 · subst h0; exact ⟨_, rfl, enters_of Tryz.func23 (by kernel_rfl) rfl, fun W => isEmpty_any s W⟩
 · by_cases h1 : k = 1
   · subst h1; exact ⟨_, rfl, enters_of Tryz.func24 (by kernel_rfl) rfl, fun W => isOwn_any s W hl⟩
   · refine ⟨29, by unfold textF; rw [if_neg h0, if_neg h1], enters_of Tryz.func29 (by kernel_rfl) rfl, fun W => ?_⟩
     have e : textOK k s = textOK 2 s := by unfold textOK; rw [if_neg h0, if_neg h1]; rfl
     rw [e];exact isShort_any s W
set_option maxRecDepth 20000 in
set_option maxHeartbeats 4000000 in
theorem allows_any (k : Kind) (x : Tw) (w : World) (hl : x.text.length ≤ 9223372036854775807) :
   Calls Tryz.prog 32 #[kindV k, twV x] w fun e w' => e = .returned (.bool (allowsB k x)) ∧ Below w.heap.size w w' := by
 obtain ⟨tk, lo, hi, pk⟩ := k;obtain ⟨op, kids, num, text⟩ := x;obtain ⟨B, hB⟩ := exHid (allowsB ⟨tk, lo, hi, pk⟩ ⟨op, kids, num, text⟩);rw [hB.out];have hB' := hB.out;unfold allowsB at hB';unfold kindV twV;dsimp only at *;clear hB;obtain ⟨T, hT⟩ := exHid (textOK tk text);obtain ⟨F, hF, hen, kF⟩ := text_call tk text hl hT.out;rw [hT.out] at hB';rw [hF];clear hF hT;generalize partF pk = pf;replace kF := Lib.hid kF;rcases q1 : (num == 0) with _ | _
 · rcases q2 : ((op : Int) == 23) with _ | _
   · rw [q1, q2] at hB'
     replace hB' := Lib.hid hB';go_enter Tryz.func32, Tryz.ntmps32
     go_wp2
     go_ret
     exact ⟨ret_bool (by rw [← hB'.out]; rfl), by go_grown⟩
   · by_cases q3 : 0 < num
     · rw [q1, q2, decide_eq_true q3] at hB'
       by_cases q4 : (lo : Int) ≤ kids
       · by_cases q5 : kids ≤ (hi : Int)
         · rw [decide_eq_true q4, decide_eq_true q5] at hB'
           replace hB' := Lib.hid hB';go_enter Tryz.func32, Tryz.ntmps32
           go_wp2_with fail
           refine (kF.out _).mono ?_;rintro e w2 ⟨rfl, rfl⟩;go_wp2
           go_ret
           exact ⟨ret_bool (by rw [← hB'.out]; rfl), by go_grown⟩
         · rw [decide_eq_false q5] at hB'
           have hv : B = false := by rw [← hB']; simp
           replace hv := Lib.hid hv;clear hB';go_enter Tryz.func32, Tryz.ntmps32
           go_wp2
           go_ret
           exact ⟨ret_bool (by rw [hv.out]), by go_grown⟩
       · rw [decide_eq_false q4] at hB'
         have hv : B = false := by rw [← hB']; simp
         replace hv := Lib.hid hv;clear hB';go_enter Tryz.func32, Tryz.ntmps32
         go_wp2
         go_ret
         exact ⟨ret_bool (by rw [hv.out]), by go_grown⟩
     · rw [q1, q2, decide_eq_false q3] at hB'
       have hv : B = false := by rw [← hB']; simp
       replace hv := Lib.hid hv;clear hB';go_enter Tryz.func32, Tryz.ntmps32
       go_wp2
       go_ret
       exact ⟨ret_bool (by rw [hv.out]), by go_grown⟩
 · rw [q1] at hB'
   by_cases q4 : (lo : Int) ≤ kids
   · by_cases q5 : kids ≤ (hi : Int)
     · rw [decide_eq_true q4, decide_eq_true q5] at hB'
       replace hB' := Lib.hid hB';go_enter Tryz.func32, Tryz.ntmps32
       go_wp2_with fail
       refine (kF.out _).mono ?_;rintro e w2 ⟨rfl, rfl⟩;go_wp2
       go_ret
       exact ⟨ret_bool (by rw [← hB'.out]; simp), by go_grown⟩
     · rw [decide_eq_false q5] at hB'
       have hv : B = false := by rw [← hB']; simp
       replace hv := Lib.hid hv;clear hB';go_enter Tryz.func32, Tryz.ntmps32
       go_wp2
       go_ret
       exact ⟨ret_bool (by rw [hv.out]), by go_grown⟩
   · rw [decide_eq_false q4] at hB'
     have hv : B = false := by rw [← hB']; simp
     replace hv := Lib.hid hv;clear hB';go_enter Tryz.func32, Tryz.ntmps32
     go_wp2
     go_ret
     exact ⟨ret_bool (by rw [hv.out]), by go_grown⟩
end Go.Proofs.YtjiemkidmlgbeaaGreatDoor
namespace Go.Proofs.YtjiemkidmlgbeaaGreatDoor
open Go.RowKit Tok
structure Ch where
 ts : List Tw
 n : Nat
def Ch.none : Ch := ⟨[], 0⟩
def Ch.then (c d : Ch) : Ch := ⟨c.ts ++ d.ts, c.n + d.n⟩
def Ch.under (c : Ch) (op : Nat) (num : Nat) (text : List UInt8) : Ch := ⟨⟨op, (c.n : Int), (num : Int), text⟩ :: c.ts, 1⟩
inductive St (α : Type) where
 | ok (a : α) (j : Nat)
 | bad (j : Nat)
 | out
def St.and {α β : Type} (s : St α) (f : α → Nat → St β) : St β := match s with
 | .ok a j => f a j
 | .bad j => .bad j
 | .out => .out
def markT (ks : List Tk) (i : Nat) : List UInt8 := match ks[i]? with
 | some x => if x.kind = 1 ∨ x.kind = 4 then x.text else []
 | none => []
def wantT (ks : List Tk) (m : List UInt8) (i : Nat) : St Unit := if markT ks i = m then .ok () (i + 1) else .bad i
def ownT (ks : List Tk) (i : Nat) : St (List UInt8) := match ks[i]? with
 | some x => if x.kind = 1 ∧ kwB x.text = false then .ok x.text (i + 1) else .bad i
 | none => .bad i
inductive NT where
 | flow | param | block | stmts | stmt | choice | expr | and | not | cmp | sum | term | pre | post | prim | two
 | set (op : Nat)
 | list (o : List UInt8) (p : NT) (c : List UInt8)
 | between (o : List UInt8) (p : NT) (c : List UInt8)
 | row (p : NT) (ms : List (List UInt8))
 | stmtsGo (a : Ch)
 | listGo (p : NT) (c : List UInt8) (a : Ch)
 | rowGo (p : NT) (ms : List (List UInt8)) (a : Ch)
 | postGo (a : Ch)
namespace B
def flow : List UInt8 := [102, 108, 111, 119]
def opn : List UInt8 := [40]
def cls : List UInt8 := [41]
def lbr : List UInt8 := [123]
def rbr : List UInt8 := [125]
def lsq : List UInt8 := [91]
def rsq : List UInt8 := [93]
def com : List UInt8 := [44]
def eq : List UInt8 := [61]
def letW : List UInt8 := [108, 101, 116]
def ifW : List UInt8 := [105, 102]
def elseW : List UInt8 := [101, 108, 115, 101]
def whileW : List UInt8 := [119, 104, 105, 108, 101]
def ret : List UInt8 := [114, 101, 116, 117, 114, 110]
def fail : List UInt8 := [102, 97, 105, 108]
def sleep : List UInt8 := [115, 108, 101, 101, 112]
def doW : List UInt8 := [100, 111]
def or : List UInt8 := [111, 114]
def and : List UInt8 := [97, 110, 100]
def not : List UInt8 := [110, 111, 116]
def eqq : List UInt8 := [61, 61]
def neq : List UInt8 := [33, 61]
def les : List UInt8 := [60]
def leq : List UInt8 := [60, 61]
def add : List UInt8 := [43]
def sub : List UInt8 := [45]
def mul : List UInt8 := [42]
def div : List UInt8 := [47]
def rem : List UInt8 := [37]
def await : List UInt8 := [97, 119, 97, 105, 116]
def settle : List UInt8 := [115, 101, 116, 116, 108, 101]
def none : List UInt8 := [110, 111, 110, 101]
def tru : List UInt8 := [116, 114, 117, 101]
def fls : List UInt8 := [102, 97, 108, 115, 101]
def version : List UInt8 := [118, 101, 114, 115, 105, 111, 110]
def len : List UInt8 := [108, 101, 110]
def re : List UInt8 := [114, 101]
def im : List UInt8 := [105, 109]
def conj : List UInt8 := [99, 111, 110, 106]
def timer : List UInt8 := [116, 105, 109, 101, 114]
def num : List UInt8 := [110, 117, 109]
def call : List UInt8 := [99, 97, 108, 108]
def child : List UInt8 := [99, 104, 105, 108, 100]
def fork : List UInt8 := [102, 111, 114, 107]
def take : List UInt8 := [116, 97, 107, 101]
end B
def makesL : List (List UInt8 × Nat) := [(B.ret, 8), (B.fail, 9), (B.sleep, 10), (B.doW, 11), (B.or, 30), (B.and, 31), (B.eqq, 32), (B.neq, 33), (B.les, 34), (B.leq, 35), (B.add, 36), (B.sub, 37), (B.mul, 38), (B.div, 39), (B.rem, 40),
 (B.await, 54), (B.settle, 55), (B.none, 20), (B.tru, 21), (B.fls, 22), (B.version, 57), (B.len, 45), (B.re, 46), (B.im, 47), (B.conj, 48), (B.timer, 52), (B.call, 50), (B.child, 51)]
def opGo : List (List UInt8 × Nat) → List UInt8 → Nat
 | [], _ => 0
 | x :: r, m => if x.1 = m then x.2 else opGo r m
def opOfT (m : List UInt8) : Nat := opGo makesL m
def addS : List (List UInt8) := [B.add, B.sub]
def mulS : List (List UInt8) := [B.mul, B.div, B.rem]
def gM (ks : List Tk) (G : NT → Nat → St Ch) (m : List UInt8) (i : Nat) : St Ch :=
 if m = B.lsq then (G (.list B.lsq .expr B.rsq) i).and fun c i => .ok (c.under 25 0 []) i
 else if m = B.opn then G (.between B.opn .expr B.cls) i
 else if m = B.none ∨ m = B.tru ∨ m = B.fls ∨ m = B.version then (wantT ks m i).and fun _ i => .ok (Ch.none.under (opOfT m) 0 []) i
 else if m = B.len ∨ m = B.re ∨ m = B.im ∨ m = B.conj ∨ m = B.timer then (wantT ks m i).and fun _ i => (G (.between B.opn .expr B.cls) i).and fun c i => .ok (c.under (opOfT m) 0 []) i
 else if m = B.num then (wantT ks m i).and fun _ i => (G (.between B.opn .two B.cls) i).and fun c i => .ok (c.under 41 0 []) i
 else if m = B.call ∨ m = B.child then (wantT ks m i).and fun _ i => (ownT ks i).and fun nm i => (G (.list B.opn .expr B.cls) i).and fun c i => .ok (c.under (opOfT m) 0 nm) i
 else if m = B.fork then (wantT ks m i).and fun _ i => (G .block i).and fun c i => .ok (c.under 53 0 []) i
 else if m = B.take then (wantT ks m i).and fun _ i => (ownT ks i).and fun nm i => .ok (Ch.none.under 56 0 nm) i
 else (ownT ks i).and fun nm i => .ok (Ch.none.under 26 0 nm) i
def gP (ks : List Tk) : Nat → NT → Nat → St Ch
 | 0, _, _ => .out
 | f + 1, q, i => match q with
   | .flow => (wantT ks B.flow i).and fun _ i => (ownT ks i).and fun nm i => (gP ks f (.list B.opn .param B.cls) i).and fun ps i => (gP ks f .block i).and fun b i => .ok ((ps.then b).under 1 0 nm) i
   | .param => (ownT ks i).and fun nm i => .ok (Ch.none.under 2 0 nm) i
   | .block => (gP ks f (.between B.lbr .stmts B.rbr) i).and fun c i => .ok (c.under 3 0 []) i
   | .stmts => gP ks f (.stmtsGo Ch.none) i
   | .stmtsGo a => if markT ks i = B.rbr then .ok a i else (gP ks f .stmt i).and fun c i => gP ks f (.stmtsGo (a.then c)) i
   | .stmt =>
     if markT ks i = B.letW then (wantT ks B.letW i).and fun _ i => gP ks f (.set 4) i
     else if markT ks i = B.ifW then gP ks f .choice i
     else if markT ks i = B.whileW then (wantT ks B.whileW i).and fun _ i => (gP ks f .expr i).and fun c i => (gP ks f .block i).and fun b i => .ok ((c.then b).under 7 0 []) i
     else if markT ks i = B.ret ∨ markT ks i = B.fail ∨ markT ks i = B.sleep ∨ markT ks i = B.doW then (wantT ks (markT ks i) i).and fun _ j => (gP ks f .expr j).and fun c j => .ok (c.under (opOfT (markT ks i)) 0 []) j
     else gP ks f (.set 5) i
   | .set op => (ownT ks i).and fun nm i => (wantT ks B.eq i).and fun _ i => (gP ks f .expr i).and fun c i => .ok (c.under op 0 nm) i
   | .choice => (wantT ks B.ifW i).and fun _ i => (gP ks f .expr i).and fun c i => (gP ks f .block i).and fun b i =>
     if markT ks i = B.elseW then (wantT ks B.elseW i).and fun _ i => (gP ks f .block i).and fun d i => .ok (((c.then b).then d).under 6 0 []) i else .ok ((c.then b).under 6 0 []) i
   | .expr => gP ks f (.row .and [B.or]) i
   | .and => gP ks f (.row .not [B.and]) i
   | .not => if markT ks i = B.not then (wantT ks B.not i).and fun _ i => (gP ks f .not i).and fun c i => .ok (c.under 43 0 []) i else gP ks f .cmp i
   | .cmp => (gP ks f .sum i).and fun c i =>
     if markT ks i = B.eqq ∨ markT ks i = B.neq ∨ markT ks i = B.les ∨ markT ks i = B.leq then (wantT ks (markT ks i) i).and fun _ j => (gP ks f .sum j).and fun d j => .ok ((c.then d).under (opOfT (markT ks i)) 0 []) j
     else .ok c i
   | .sum => gP ks f (.row .term addS) i
   | .term => gP ks f (.row .pre mulS) i
   | .pre =>
     if markT ks i = B.sub then (wantT ks B.sub i).and fun _ i => (gP ks f .pre i).and fun c i => .ok (c.under 44 0 []) i
     else if markT ks i = B.await ∨ markT ks i = B.settle then (wantT ks (markT ks i) i).and fun _ j => (gP ks f .pre j).and fun c j => .ok (c.under (opOfT (markT ks i)) 0 []) j
     else gP ks f .post i
   | .post => (gP ks f .prim i).and fun c i => gP ks f (.postGo c) i
   | .postGo a => if markT ks i = B.lsq then (gP ks f (.between B.lsq .expr B.rsq) i).and fun c i => gP ks f (.postGo ((a.then c).under 42 0 [])) i else .ok a i
   | .prim => match ks[i]? with
     | some x =>
       if x.kind = 2 then .ok (Ch.none.under 23 x.num []) (i + 1)
       else if x.kind = 3 then .ok (Ch.none.under 24 0 x.text) (i + 1)
       else gM ks (gP ks f) (markT ks i) i
     | none => gM ks (gP ks f) [] i
   | .two => (gP ks f .expr i).and fun c i => (wantT ks B.com i).and fun _ i => (gP ks f .expr i).and fun d i => .ok (c.then d) i
   | .list o p e => (wantT ks o i).and fun _ i => if markT ks i = e then (wantT ks e i).and fun _ i => .ok Ch.none i else (gP ks f p i).and fun c i => (gP ks f (.listGo p e c) i)
   | .listGo p e a => if markT ks i = B.com then (wantT ks B.com i).and fun _ i => (gP ks f p i).and fun c i => gP ks f (.listGo p e (a.then c)) i else (wantT ks e i).and fun _ i => .ok a i
   | .between o p e => (wantT ks o i).and fun _ i => (gP ks f p i).and fun c i => (wantT ks e i).and fun _ i => .ok c i
   | .row p ms => (gP ks f p i).and fun c i => gP ks f (.rowGo p ms c) i
   | .rowGo p ms a => if markT ks i ∈ ms then (wantT ks (markT ks i) i).and fun _ j => (gP ks f p j).and fun c j => gP ks f (.rowGo p ms ((a.then c).under (opOfT (markT ks i)) 0 [])) j else .ok a i
end Go.Proofs.YtjiemkidmlgbeaaGreatDoor
namespace Go.Proofs.YtjiemkidmlgbeaaGreatDoor
open Go.RowKit Tok
theorem between_any {c : UInt8} {a b : Nat} {B : Bool} (h : B = decide (a ≤ c.toNat ∧ c.toNat ≤ b)) : (a ≤ c.toNat ∧ B = decide ((c.toNat : Int) ≤ (b : Int))) ∨ (¬ a ≤ c.toNat ∧ B = false) := by
 by_cases h1 : a ≤ c.toNat
 · exact .inl ⟨h1, by rw [h]; simp [h1]⟩
 · exact .inr ⟨h1, by rw [h]; simp [h1]⟩
set_option maxHeartbeats 400000 in
theorem isPlain_any (c : UInt8) (w : World) : Calls Tryz.prog 88 #[.int .u8 (c.toNat : Int)] w fun e w' => e = .returned (.bool (plainC c)) ∧ w' = w := by
 obtain ⟨B, hB⟩ := exHid (plainC c);rw [hB.out];rcases between_any (B := B) (a := 32) (b := 126) (by rw [← hB.out]; rfl) with ⟨h1, h2⟩ | ⟨h1, h2⟩
 all_goals
   replace h2 := Lib.hid h2;go_enter Tryz.func88, Tryz.ntmps88
   go_wp2
   go_ret
   exact ⟨ret_bool (by rw [h2.out]; try rfl), rfl⟩
theorem calls_at {P : Program} {f : FuncId} {args : Array Value} {w : World} {a b : Bool} (h : Calls P f args w fun e w' => e = .returned (.bool a) ∧ w' = w) (hab : a = b) : Calls P f args w fun e w' => e = .returned (.bool b) ∧ w' = w := hab ▸ h
theorem word_iff (c : UInt8) : (lowC c = true ∧ wordC c = true) ∨ (lowC c = false ∧ digC c = true ∧ wordC c = true) ∨ (lowC c = false ∧ digC c = false ∧ c.toNat = 95 ∧ wordC c = true) ∨ (lowC c = false ∧ digC c = false ∧ c.toNat ≠ 95 ∧ wordC c = false) := by
 unfold wordC;cases lowC c <;> cases digC c <;> by_cases h : c.toNat = 95 <;> simp [h]
end Go.Proofs.YtjiemkidmlgbeaaGreatDoor
namespace Go.Proofs.YtjiemkidmlgbeaaGreatDoor
open Go.RowKit Tok
set_option maxHeartbeats 400000 in
theorem isLetter_any (c : UInt8) (w : World) : Calls Tryz.prog 70 #[.int .u8 (c.toNat : Int)] w fun e w' => e = .returned (.bool (lowC c)) ∧ w' = w := by
 obtain ⟨B, hB⟩ := exHid (lowC c);rw [hB.out];rcases between_any (B := B) (a := 97) (b := 122) (by rw [← hB.out]; rfl) with ⟨h1, h2⟩ | ⟨h1, h2⟩
 all_goals
   replace h2 := Lib.hid h2;go_enter Tryz.func70, Tryz.ntmps70
   go_wp2
   go_ret
   exact ⟨ret_bool (by rw [h2.out]; try rfl), rfl⟩
set_option maxHeartbeats 400000 in
theorem isDigit_any (c : UInt8) (w : World) : Calls Tryz.prog 72 #[.int .u8 (c.toNat : Int)] w fun e w' => e = .returned (.bool (digC c)) ∧ w' = w := by
 obtain ⟨B, hB⟩ := exHid (digC c);rw [hB.out];rcases between_any (B := B) (a := 48) (b := 57) (by rw [← hB.out]; rfl) with ⟨h1, h2⟩ | ⟨h1, h2⟩
 all_goals
   replace h2 := Lib.hid h2;go_enter Tryz.func72, Tryz.ntmps72
   go_wp2
   go_ret
   exact ⟨ret_bool (by rw [h2.out]; try rfl), rfl⟩
set_option maxHeartbeats 400000 in
theorem isOfWord_any (c : UInt8) (w : World) : Calls Tryz.prog 89 #[.int .u8 (c.toNat : Int)] w fun e w' => e = .returned (.bool (wordC c)) ∧ w' = w := by
 rcases word_iff c with ⟨h1, hW⟩ | ⟨h1, h2, hW⟩ | ⟨h1, h2, h3, hW⟩ | ⟨h1, h2, h3, hW⟩
 · rw [hW]
   have k1 := Lib.hid (calls_at (isLetter_any c w) h1);clear h1 hW;go_enter Tryz.func89, Tryz.ntmps89
   go_wp2_with (first | (with_reducible refine k1.out.mono ?_; rintro e w' ⟨rfl, rfl⟩))
   go_ret
   exact ⟨rfl, rfl⟩
 · rw [hW]
   have k1 := Lib.hid (calls_at (isLetter_any c w) h1);have k2 := Lib.hid (calls_at (isDigit_any c w) h2);clear h1 h2 hW;go_enter Tryz.func89, Tryz.ntmps89
   go_wp2_with (first | (with_reducible refine k1.out.mono ?_; rintro e w' ⟨rfl, rfl⟩) | (with_reducible refine k2.out.mono ?_; rintro e w' ⟨rfl, rfl⟩))
   go_ret
   exact ⟨rfl, rfl⟩
 all_goals
   rw [hW];have k1 := Lib.hid (calls_at (isLetter_any c w) h1);have k2 := Lib.hid (calls_at (isDigit_any c w) h2)
   first
   | (have h4 : (((c.toNat : Int)) == 95) = true := by rw [h3]; rfl)
   | (have h4 : (((c.toNat : Int)) == 95) = false := beq_eq_false_iff_ne.2 (by omega))
   clear h1 h2 h3 hW;go_enter Tryz.func89, Tryz.ntmps89
   go_wp2_with (first | (with_reducible refine k1.out.mono ?_; rintro e w' ⟨rfl, rfl⟩) | (with_reducible refine k2.out.mono ?_; rintro e w' ⟨rfl, rfl⟩))
   go_ret
   exact ⟨rfl, rfl⟩
end Go.Proofs.YtjiemkidmlgbeaaGreatDoor
namespace Go.Proofs.YtjiemkidmlgbeaaGreatDoor
open Go.RowKit Tok
theorem size_list (s : ByteArray) : s.data.toList.length = s.size := Array.length_toList
section
variable {p : UInt8 → Bool}
theorem span_le : ∀ (l : List UInt8), span p l ≤ l.length
 | [] => Nat.le_refl _
 | c :: l => by
   unfold span;split
   · have := span_le l; simp; omega
   · exact Nat.zero_le _
theorem span_in : ∀ (l : List UInt8) (j : Nat) (h : j < span p l), p (l[j]'(Nat.lt_of_lt_of_le h (span_le l))) = true
 | [], j, h => by simp [span] at h
 | c :: l, j, h => by
   by_cases hc : p c = true
   · have e : span p (c :: l) = span p l + 1 := by show (if p c = true then _ else _) = _; rw [if_pos hc]
     match j with
     | 0 => exact hc
     | j + 1 => exact span_in l j (by omega)
   · have e : span p (c :: l) = 0 := by show (if p c = true then _ else _) = _; rw [if_neg hc]
     omega
theorem span_out : ∀ (l : List UInt8) (h : span p l < l.length), p l[span p l] = false
 | [], h => by simp at h
 | c :: l, h => by
   by_cases hc : p c = true
   · have e : span p (c :: l) = span p l + 1 := by show (if p c = true then _ else _) = _; rw [if_pos hc]
     have h' : span p l < l.length := by rw [e] at h; simpa using h
     have := span_out l h'
     simpa [e] using this
   · have e : span p (c :: l) = 0 := by show (if p c = true then _ else _) = _; rw [if_neg hc]
     simp only [e]
     simpa using hc
end
theorem span_yes {p : UInt8 → Bool} {s : ByteArray} {i : Nat} (h : i < span p s.data.toList) : ∃ hi : i < s.size, p s[i] = true :=
 have hi : i < s.size := by have := span_le (p := p) s.data.toList; rw [size_list] at this; omega
 ⟨hi, span_in _ _ h⟩
theorem span_no {p : UInt8 → Bool} {s : ByteArray} {i : Nat} (h : i = span p s.data.toList) (hi : i < s.size) : p s[i] = false := by
 subst h;exact span_out _ (by rw [size_list]; exact hi)
theorem extract_size (s : ByteArray) (a b : Nat) : (s.extract a b).size = min b s.size - a := by simp
theorem extract_full (s : ByteArray) : s.extract 0 s.size = s := by simp
end Go.Proofs.YtjiemkidmlgbeaaGreatDoor
namespace Go.Proofs.YtjiemkidmlgbeaaGreatDoor
open Go.RowKit Tok
theorem strings_Clone (s : ByteArray) (w : World) (hl : s.size ≤ 281474976710656) : Calls Tryz.prog 90 #[.string s] w fun e w' => e = .returned (.string s) ∧ Below w.heap.size w w' := by
 have h := Tryz.stringslite_Clone s w hl;go_enter Tryz.func90, Tryz.ntmps90
 go_wp2_with fail
 refine h.mono ?_;rintro e w2 ⟨rfl, hg⟩;go_wp2
 go_ret
 exact ⟨rfl, hg⟩
def wordV (s : ByteArray) : Value := if 24 < span wordC s.data.toList then .tuple #[.string ⟨#[]⟩, .int .i64 0, .int .i64 2] else .tuple #[.string (s.extract 0 (span wordC s.data.toList)), .int .i64 (span wordC s.data.toList : Nat), .int .i64 0]
set_option maxRecDepth 20000 in
set_option maxHeartbeats 1000000 in
theorem word_any (s : ByteArray) (w : World) (hs : s.size ≤ 16384) :
   Calls Tryz.prog 71 #[.string s] w fun e w' => e = .returned (wordV s) ∧ Below w.heap.size w w' := by
 have hyes := Lib.hid (fun i => span_yes (p := wordC) (s := s) (i := i));have hno := Lib.hid (fun i => span_no (p := wordC) (s := s) (i := i));have hle := span_le (p := wordC) s.data.toList;rw [size_list] at hle;have hV : Hid (∀ n, span wordC s.data.toList = n → (24 < n → wordV s = .tuple #[.string ⟨#[]⟩, .int .i64 0, .int .i64 2]) ∧ (¬ 24 < n → wordV s = .tuple #[.string (s.extract 0 n), .int .i64 (n : Nat), .int .i64 0])) := by
   rintro n rfl;exact ⟨fun h => if_pos h, fun h => if_neg h⟩
 have hV := Lib.hid (hV.out _ rfl);generalize span wordC s.data.toList = n at *;go_enter Tryz.func71, Tryz.ntmps71
 go_wp2
 go_loop [3] (fun t3 => ∃ i : Nat, i ≤ n ∧ t3 = .int .i64 i) (fun t3 => n - (intOf t3).toNat)
 case atStart => exact ⟨0, by omega, rfl⟩
 case round =>
   obtain ⟨i, hi, rfl⟩ := hrel;rcases Nat.lt_or_ge i n with hlt | hge
   · obtain ⟨hi2, hp⟩ := hyes.out i hlt
     have k1 := Lib.hid (calls_at (isOfWord_any s[i] w) hp);clear hp;go_wp2_with (first | (with_reducible refine k1.out.mono ?_; rintro e w' ⟨rfl, rfl⟩))
     go_round
     case rel => exact ⟨i + 1, by omega, by go_num⟩
     case measure => simp [intOf]; omega
   · obtain rfl : i = n := by omega
     rcases Nat.lt_or_ge i s.size with hi2 | hi2
     · have hp := hno.out i rfl hi2
       have k1 := Lib.hid (calls_at (isOfWord_any s[i] w) hp);clear hp;by_cases h24 : 24 < i
       · have h24' : (24 : Int) < (i : Int) := by omega
         go_wp2_with (first | (with_reducible refine k1.out.mono ?_; rintro e w' ⟨rfl, rfl⟩))
         go_ret3
         exact ⟨by rw [hV.out.1 h24]; rfl, Below.refl _ _⟩
       · have h24' : ¬ (24 : Int) < (i : Int) := by omega
         go_wp2_with (first
           | (with_reducible refine k1.out.mono ?_; rintro e w' ⟨rfl, rfl⟩)
           | (go_at_call 90; refine (strings_Clone (s.extract 0 i) _ (by rw [extract_size]; omega)).mono ?_; rintro e w2 ⟨rfl, hg2⟩))
         go_ret3
         exact ⟨by rw [hV.out.2 h24]; rfl, hg2⟩
     · obtain rfl : i = s.size := by omega
       by_cases h24 : 24 < s.size
       · have h24' : (24 : Int) < (s.size : Int) := by omega
         go_wp2
         go_ret3
         exact ⟨by rw [hV.out.1 h24]; rfl, Below.refl _ _⟩
       · have h24' : ¬ (24 : Int) < (s.size : Int) := by omega
         go_wp2_with (first
           | (go_at_call 90; refine (strings_Clone s _ (by omega)).mono ?_; rintro e w2 ⟨rfl, hg2⟩))
         go_ret3
         exact ⟨by rw [hV.out.2 h24, extract_full]; rfl, hg2⟩
end Go.Proofs.YtjiemkidmlgbeaaGreatDoor
