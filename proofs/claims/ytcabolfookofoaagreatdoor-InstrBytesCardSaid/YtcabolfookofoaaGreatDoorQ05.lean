/- A part of the proof: UPl, IIn, IFld. No condition. -/
import Derived.Lib.ItoaLen
import Derived.Lib.Join
import Derived.Below
import Derived.WalkKit
import Derived.WalkSpells
import Derived.WalkLawsBesides
import Derived.Handy
import Derived.Lib.Hide
import Derived.LoopTactic
import Derived.IntWalk
import Derived.StillTailTactics
import Derived.BigQuiet
import Derived.Deep.RegionWith
import Derived.Deep.RegionHeld
import Derived.Laws.Rows
import Derived.Test.YtcabolfookofoaaGreatDoorQ02
import Derived.Test.YtcabolfookofoaaGreatDoorQ04
set_option linter.unusedVariables false
set_option linter.unusedSimpArgs false
namespace Go.Proofs.YtcabolfookofoaaGreatDoor
open Go.RowKit
def hexD (n : Nat) : UInt8 := if n < 10 then UInt8.ofNat (48 + n) else UInt8.ofNat (87 + n)
def plainD (c : UInt8) : Bool := decide (32 ≤ c.toNat) && decide (c.toNat ≤ 126) && decide (c.toNat ≠ 34) && decide (c.toNat ≠ 92)
def quoteB (c : UInt8) : List UInt8 := if plainD c = true then [c] else [92, 120, hexD (c.toNat / 16), hexD (c.toNat % 16)]
def quotesL (s : List UInt8) : List UInt8 := s.flatMap quoteB
def quoteL (s : List UInt8) : List UInt8 := 34 :: (quotesL s ++ [34])
theorem quotesL_nil : quotesL [] = [] := rfl
theorem quoteB_len (c : UInt8) : (quoteB c).length ≤ 4 := by unfold quoteB; split <;> simp
theorem quotesL_len (s : List UInt8) : (quotesL s).length ≤ 4 * s.length := by
 induction s with
 | nil => simp [quotesL]
 | cons c s ih =>
   have := quoteB_len c;have e : quotesL (c :: s) = quoteB c ++ quotesL s := by simp [quotesL]
   rw [e, List.length_append, List.length_cons];omega
def behindA (x : Ins) : List (List UInt8) := if akI x.op = 0 then [] else [Lib.itoa x.a]
def behindN (x : Ins) : List (List UInt8) := if x.op = 23 then [Lib.itoa x.num] else []
def behindT (x : Ins) : List (List UInt8) := if x.op = 24 then [quoteL x.text] else if nameI x.op = true then [x.text] else []
def blankL (ps : List (List UInt8)) : List UInt8 := ps.flatMap (fun p => 32 :: p)
def lineL (p : Nat) (x : Ins) : List UInt8 := Lib.itoa (p : Int) ++ (32 :: wordI x.op) ++ blankL (behindA x ++ behindN x ++ behindT x)
def linesL : Nat → List Ins → List UInt8
 | _, [] => []
 | p, x :: l => lineL p x ++ [10] ++ linesL (p + 1) l
theorem linesL_snoc (x : Ins) : ∀ (l : List Ins) (p : Nat), linesL p (l ++ [x]) = linesL p l ++ (lineL (p + l.length) x ++ [10]) := by
 intro l
 induction l with
 | nil => intro p; simp [linesL]
 | cons y l ih =>
   intro p;simp only [List.cons_append, linesL, ih, List.length_cons, List.append_assoc];rw [show p + 1 + l.length = p + (l.length + 1) by omega]
theorem join_blank (p : List UInt8) (ps : List (List UInt8)) : Lib.join (p :: ps) [32] = p ++ blankL ps := by
 rw [Lib.join_cons];simp [Lib.joinTail, blankL, List.flatMap]
end Go.Proofs.YtcabolfookofoaaGreatDoor
namespace Go.Proofs.YtcabolfookofoaaGreatDoor
open Go.RowKit
def insC (x : Ins) : List Value := [.int .u8 x.op, .int .i64 x.a, .int .i64 x.num, .string ⟨x.text.toArray⟩]
def insV (x : Ins) : Value := .agg #[.int .u8 x.op, .int .i64 x.a, .int .i64 x.num, .string ⟨x.text.toArray⟩]
def InsIn (w : World) (v : Value) (ts : List Ins) : Prop :=
 ∃ a cap, v = .slice a ts.length cap ∧ ts.length ≤ cap ∧ cap ≤ 9223372036854775807 ∧ (0 < ts.length → ∃ g off, a = some ⟨g, off, none⟩ ∧ g < w.heap.size ∧ ∀ i (hi : i < ts.length) (c : Nat), c < 4 → w.cell? ⟨g, off + i * 4 + c, none⟩ = (insC ts[i])[c]?)
def FitIns (x : Ins) : Prop := x.text.length ≤ 9223372036854775807 ∧ I64 x.a ∧ I64 x.num ∧ x.op < 256
theorem InsIn.below {w W : World} {v : Value} {ts : List Ins} (h : InsIn w v ts) (hb : Below w.heap.size w W) : InsIn W v ts := by
 obtain ⟨a, cap, rfl, h1, h2, h3⟩ := h;refine ⟨a, cap, rfl, h1, h2, fun h0 => ?_⟩;obtain ⟨g, off, rfl, hg, hc⟩ := h3 h0;exact ⟨g, off, rfl, Nat.lt_of_lt_of_le hg hb.size, fun i hi c hc' => (hb.cell (p := ⟨g, off + i * 4 + c, none⟩) hg).trans (hc i hi c hc')⟩
theorem ins_cells {w W : World} {g off : Nat} {ts : List Ins} (hg : g < w.heap.size) (hc : ∀ i (hi : i < ts.length) (c : Nat), c < 4 → w.cell? ⟨g, off + i * 4 + c, none⟩ = (insC ts[i])[c]?) (hb : Below w.heap.size w W) {i : Nat} (hi : i < ts.length) {op : Nat} {a x : Int} {tx : List UInt8} (ht : ts[i] = ⟨op, a, x, tx⟩) :
   W.cell? ⟨g, off + i * 4, none⟩ = some (.int .u8 op) ∧ W.cell? ⟨g, off + i * 4 + 1, none⟩ = some (.int .i64 a) ∧ W.cell? ⟨g, off + i * 4 + 2, none⟩ = some (.int .i64 x) ∧ W.cell? ⟨g, off + i * 4 + 3, none⟩ = some (.string ⟨tx.toArray⟩) := by
 have h0 := (hb.cell (p := ⟨g, off + i * 4 + 0, none⟩) hg).trans (hc i hi 0 (by omega));have h1 := (hb.cell (p := ⟨g, off + i * 4 + 1, none⟩) hg).trans (hc i hi 1 (by omega));have h2 := (hb.cell (p := ⟨g, off + i * 4 + 2, none⟩) hg).trans (hc i hi 2 (by omega));have h3 := (hb.cell (p := ⟨g, off + i * 4 + 3, none⟩) hg).trans (hc i hi 3 (by omega));rw [ht] at h0 h1 h2 h3;exact ⟨h0, h1, h2, h3⟩
theorem inAt_get {code : List Ins} {i : Nat} (hi : i < code.length) : inAt code i = code[i] := by
 unfold inAt;rw [List.getD_eq_getElem?_getD, List.getElem?_eq_getElem hi]; rfl
theorem InsIn.cells {w W : World} {v : Value} {ts : List Ins} (h : InsIn w v ts) (hb : Below w.heap.size w W) {i : Nat} (hi : i < ts.length) {op : Nat} {a x : Int} {tx : List UInt8} (ht : inAt ts i = ⟨op, a, x, tx⟩) : ∃ g off cap, v = .slice (some ⟨g, off, none⟩) ts.length cap ∧ g < w.heap.size ∧
   W.cell? ⟨g, off + i * 4, none⟩ = some (.int .u8 op) ∧ W.cell? ⟨g, off + i * 4 + 1, none⟩ = some (.int .i64 a) ∧ W.cell? ⟨g, off + i * 4 + 2, none⟩ = some (.int .i64 x) ∧ W.cell? ⟨g, off + i * 4 + 3, none⟩ = some (.string ⟨tx.toArray⟩) := by
 obtain ⟨ad, cap, rfl, _, _, h3⟩ := h;obtain ⟨g, off, rfl, hg, hc⟩ := h3 (by omega);exact ⟨g, off, cap, rfl, hg, ins_cells hg hc hb hi (by rw [← inAt_get hi]; exact ht)⟩
end Go.Proofs.YtcabolfookofoaaGreatDoor
namespace Go.Proofs.YtcabolfookofoaaGreatDoor
open Go.RowKit
def tkI (op : Nat) : Nat := if op = 24 then 5 else if op = 50 ∨ op = 51 ∨ op = 56 then 6 else 0
def nkI (op : Nat) : Nat := if op = 23 then 4 else 0
def fldV (op : Nat) : Value := .agg #[.int .i64 (akI op), .int .i64 (nkI op), .int .i64 (tkI op)]
theorem fld_ret {op : Nat} {a b c : Int} (h : (akI op : Int) = a ∧ (nkI op : Int) = b ∧ (tkI op : Int) = c) : Ending.returned (.agg #[.int .i64 a, .int .i64 b, .int .i64 c]) = .returned (fldV op) := by
 obtain ⟨rfl, rfl, rfl⟩ := h;rfl
set_option maxRecDepth 20000 in
set_option maxHeartbeats 4000000 in
theorem fieldsOf_any (op : Nat) (w : World) :
   Calls Tryz.prog 42 #[.int .u8 op] w fun e w' => e = .returned (fldV op) ∧ Below w.heap.size w w' := by
 go_enter Tryz.func42, Tryz.ntmps42
 go_wp2
 all_goals refine bodyPost_ret (results_cell_row rfl _ _ w.heap.size _ _ (0, 0) _ rfl (heap_alloc_new w _) Tryz.underlying77 rfl (by kernel_rfl)) rfl ⟨fld_ret ?_, by go_grown⟩
 all_goals (simp only [beq_iff_eq, beq_eq_false_iff_ne, ne_eq] at *; unfold akI nkI tkI; refine ⟨?_, ?_, ?_⟩ <;> (repeat' split) <;> omega)
theorem run_field_fld (op : Nat) (w : World) : (Instr.field 77 (fldV op) 0).run Tryz.prog w = .ok (.int .i64 (akI op)) w := by kernel_rfl
set_option maxRecDepth 20000 in
theorem isFree_any (op : Nat) (w : World) :
   Calls Tryz.prog 71 #[.int .u8 op] w fun e w' => e = .returned (.bool (freeI op)) ∧ w = w' := by
 rcases h1 : ((op : Int) == 1) with _ | _ <;> rcases h5 : ((op : Int) == 5) with _ | _
 all_goals
   have e1 : freeI op = (((op : Int) == 1) || ((op : Int) == 5)) := by
     unfold freeI;rw [Bool.eq_iff_iff];simp only [Bool.or_eq_true, beq_iff_eq];omega
   rw [h1, h5] at e1;rw [e1];clear e1;go_enter Tryz.func71, Tryz.ntmps71
   go_wp2
   go_ret
   exact ⟨rfl, rfl⟩
set_option maxRecDepth 20000 in
theorem allowsF_any (op : Nat) (a : Int) (w : World) :
   Calls Tryz.prog 77 #[.int .i64 (akI op), .int .i64 a] w fun e w' => e = .returned (.bool (akI op == 1 || aOK (akI op) 0 a)) ∧ w = w' := by
 obtain ⟨k, hk⟩ := exHid (akI op);rw [hk.out];clear hk;obtain ⟨B, hB⟩ := exHid (k == 1 || aOK k 0 a);rw [hB.out];go_enter Tryz.func77, Tryz.ntmps77
 by_cases h0 : 0 ≤ a
 all_goals by_cases h1 : a < 100
 all_goals by_cases h2 : a ≤ 2048
 all_goals go_wp2
 all_goals go_ret
 all_goals refine ⟨ret_bool ?_, rfl⟩
 all_goals rw [← hB.out, Bool.eq_iff_iff]
 all_goals clear hB
 all_goals (simp only [beq_iff_eq, beq_eq_false_iff_ne, ne_eq, Bool.or_eq_true, Bool.false_eq_true, false_iff, true_iff] at *; unfold aOK; (repeat' split) <;> simp only [decide_eq_true_eq] <;> omega)
end Go.Proofs.YtcabolfookofoaaGreatDoor
