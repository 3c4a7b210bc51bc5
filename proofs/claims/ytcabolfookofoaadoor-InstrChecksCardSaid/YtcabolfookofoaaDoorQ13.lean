/- A part of the proof: IFld, IMv, IThr. No condition. -/
import Derived.LoopTactic
import Derived.IntWalk
import Derived.StillTailTactics
import Derived.BigQuiet
import Derived.Deep.RegionWith
import Derived.Deep.RegionHeld
import Derived.Laws.Rows
import Derived.Test.YtcabolfookofoaaDoorQ02
import Derived.Test.YtcabolfookofoaaDoorQ03
import Derived.Test.YtcabolfookofoaaDoorQ04
import Derived.Test.YtcabolfookofoaaDoorQ12
set_option linter.unusedVariables false
set_option linter.unusedSimpArgs false
namespace Go.Proofs.YtcabolfookofoaaDoor
open Go.RowKit
def tkI (op : Nat) : Nat := if op = 24 then 5 else if op = 50 ∨ op = 51 ∨ op = 56 then 6 else 0
def nkI (op : Nat) : Nat := if op = 23 then 4 else 0
def fldV (op : Nat) : Value := .agg #[.int .i64 (akI op), .int .i64 (nkI op), .int .i64 (tkI op)]
theorem fld_ret {op : Nat} {a b c : Int} (h : (akI op : Int) = a ∧ (nkI op : Int) = b ∧ (tkI op : Int) = c) : Ending.returned (.agg #[.int .i64 a, .int .i64 b, .int .i64 c]) = .returned (fldV op) := by
 obtain ⟨rfl, rfl, rfl⟩ := h;rfl
set_option maxRecDepth 20000 in
set_option maxHeartbeats 4000000 in
theorem fieldsOf_any (op : Nat) (w : World) :
   Calls Tryd.prog 20 #[.int .u8 op] w fun e w' => e = .returned (fldV op) ∧ Below w.heap.size w w' := by
 go_enter Tryd.func20, Tryd.ntmps20
 go_wp2
 all_goals refine bodyPost_ret (results_cell_row rfl _ _ w.heap.size _ _ (0, 0) _ rfl (heap_alloc_new w _) Tryd.underlying54 rfl (by kernel_rfl)) rfl ⟨fld_ret ?_, by go_grown⟩
 all_goals (simp only [beq_iff_eq, beq_eq_false_iff_ne, ne_eq] at *; unfold akI nkI tkI; refine ⟨?_, ?_, ?_⟩ <;> (repeat' split) <;> omega)
theorem run_field_fld (op : Nat) (w : World) : (Instr.field 54 (fldV op) 0).run Tryd.prog w = .ok (.int .i64 (akI op)) w := by kernel_rfl
set_option maxRecDepth 20000 in
theorem isFree_any (op : Nat) (w : World) :
   Calls Tryd.prog 35 #[.int .u8 op] w fun e w' => e = .returned (.bool (freeI op)) ∧ w = w' := by
 rcases h1 : ((op : Int) == 1) with _ | _ <;> rcases h5 : ((op : Int) == 5) with _ | _
 all_goals
   have e1 : freeI op = (((op : Int) == 1) || ((op : Int) == 5)) := by
     unfold freeI;rw [Bool.eq_iff_iff];simp only [Bool.or_eq_true, beq_iff_eq];omega
   rw [h1, h5] at e1;rw [e1];clear e1;go_enter Tryd.func35, Tryd.ntmps35
   go_wp2
   go_ret
   exact ⟨rfl, rfl⟩
set_option maxRecDepth 20000 in
theorem allowsF_any (op : Nat) (a : Int) (w : World) :
   Calls Tryd.prog 45 #[.int .i64 (akI op), .int .i64 a] w fun e w' => e = .returned (.bool (akI op == 1 || aOK (akI op) 0 a)) ∧ w = w' := by
 obtain ⟨k, hk⟩ := exHid (akI op);rw [hk.out];clear hk;obtain ⟨B, hB⟩ := exHid (k == 1 || aOK k 0 a);rw [hB.out];go_enter Tryd.func45, Tryd.ntmps45
 by_cases h0 : 0 ≤ a
 all_goals by_cases h1 : a < 100
 all_goals by_cases h2 : a ≤ 2048
 all_goals go_wp2
 all_goals go_ret
 all_goals refine ⟨ret_bool ?_, rfl⟩
 all_goals rw [← hB.out, Bool.eq_iff_iff]
 all_goals clear hB
 all_goals (simp only [beq_iff_eq, beq_eq_false_iff_ne, ne_eq, Bool.or_eq_true, Bool.false_eq_true, false_iff, true_iff] at *; unfold aOK; (repeat' split) <;> simp only [decide_eq_true_eq] <;> omega)
end Go.Proofs.YtcabolfookofoaaDoor
namespace Go.Proofs.YtcabolfookofoaaDoor
open Go.RowKit
theorem tup2 {a b c d : Int} (h : a = c ∧ b = d) : Ending.returned (.tuple #[.int .i64 a, .int .i64 b]) = .returned (.tuple #[.int .i64 c, .int .i64 d]) := by rw [h.1, h.2]
set_option maxRecDepth 20000 in
set_option maxHeartbeats 8000000 in
theorem moves_any (x : Ins) (w : World) :
   Calls Tryd.prog 43 #[insV x] w fun e w' => e = .returned (.tuple #[.int .i64 (takesI x), .int .i64 (leaveR x.op)]) ∧ Below w.heap.size w w' := by
 obtain ⟨op, a, num, tx⟩ := x;obtain ⟨tk, hT⟩ := exHid (takesI ⟨op, a, num, tx⟩);obtain ⟨lv, hL⟩ := exHid (leaveR op : Int);dsimp only;rw [hT.out, hL.out];unfold insV;dsimp only;go_enter Tryd.func43, Tryd.ntmps43
 go_wp2
 all_goals refine bodyPost_ret (results_tmp2 rfl _ _ _) rfl ?_
 all_goals refine ⟨tup2 ?_, by go_grown⟩
 all_goals (rw [← hT.out, ← hL.out]; clear hT hL; simp only [beq_iff_eq, beq_eq_false_iff_ne, ne_eq] at *; unfold takesI akI takesR leaveR; dsimp only; refine ⟨?_, ?_⟩ <;> (repeat' split) <;> omega)
end Go.Proofs.YtcabolfookofoaaDoor
namespace Go.Proofs.YtcabolfookofoaaDoor
open Go.RowKit HI
structure ThrIn (B : Nat) (w : World) (gt g b : Nat) (cv : Value) (d : List Int) (L : List T) (p : Nat) (gn : Nat → Bool) (code : List Ins) (p0 : Nat) : Prop where
 tm : TM B w gt g b cv d L p
 met : MetR L d gn
 ins : InsIn w cv code
 len : code.length = d.length
 n : d.length ≤ 8192
 p : p < 1099511620000
 lt : p0 < d.length
 dp : 0 ≤ d.getD p0 (-1) ∧ d.getD p0 (-1) ≤ 100000
 nn : ∀ r, d.getD r (-1) = -1 ∨ 0 ≤ d.getD r (-1)
 tk : 0 ≤ takesI (inAt code p0) ∧ takesI (inAt code p0) ≤ 2048
 tg : akI (inAt code p0).op = 1 → 0 ≤ (inAt code p0).a ∧ (inAt code p0).a < d.length
theorem meetI_nn {d d1 : List Int} {q : Nat} {v : Int} (h : meetI d q v = some d1) (h0 : 0 ≤ v) (hd : ∀ r, d.getD r (-1) = -1 ∨ 0 ≤ d.getD r (-1)) : d1.length = d.length ∧ ∀ r, d1.getD r (-1) = -1 ∨ 0 ≤ d1.getD r (-1) := by
 unfold meetI at h;split at h
 · cases h
 · split at h
   · cases h
     refine ⟨List.length_set .., fun r => ?_⟩;rw [getD_set _ _ _ _ (by omega)];split
     · exact .inr h0
     · exact hd r
   · split at h
     · cases h; exact ⟨rfl, hd⟩
     · cases h
section
variable {B gt g b p p0 : Nat} {cv : Value} {d : List Int} {L : List T} {w : World} {gn : Nat → Bool} {code : List Ins}
set_option maxRecDepth 20000 in
set_option maxHeartbeats 600000 in
theorem thr_short (h : ThrIn B w gt g b cv d L p gn code p0)  (hs : d.getD p0 (-1) < takesI (inAt code p0)) :
   Calls Tryd.prog 34 #[.pointer (some ⟨gt, 0, none⟩), .int .i64 p0, .int .i64 (d.getD p0 (-1))] w fun e w' => MetPost B gt g b cv (p + 2) gn (stepI code d p0) e w w' := by
 obtain ⟨h1, h2, h3, h4, h5, h6, h7, h8, h9, h10, h11⟩ := h;obtain ⟨r, hr0⟩ := exHid (stepI code d p0);rw [hr0.out];have hr1 := hr0.out;unfold stepI at hr1;dsimp only at hr1;clear hr0;have hc := h1.c0;have hsz := h1.lt;have hB := h1.lo;obtain ⟨ad, cap, hcv, hlc, hcm, hbig⟩ := id h3;clear hbig;have hcv' : ∃ ad cap, cv = .slice ad d.length cap := ⟨ad, cap, by rw [hcv, h4]⟩;obtain ⟨dp, hdp⟩ : ∃ x, d.getD p0 (-1) = x := ⟨_, rfl⟩;rw [hdp] at h8 hs hr1 ⊢;replace hdp := Lib.hid hdp;have M := fun W => moves_any (inAt code p0) W
 obtain ⟨tk, hT⟩ := exHid (takesI (inAt code p0));obtain ⟨lv, hL⟩ := exHid (leaveR (inAt code p0).op : Int);have hlv := leaveR_le (inAt code p0).op;have hLo := hL.out;rw [hT.out, hL.out] at M;rw [hT.out] at hs h10 hr1;rw [if_pos hs] at hr1;replace hr1 := Lib.hid hr1;replace hT := Lib.hid hT.out;replace hL := Lib.hid hL.out;have hlv0 : 0 ≤ lv ∧ lv ≤ 1 := by rw [← hL.out]; omega
 clear hLo hlv;obtain ⟨g0, off, cap0, ecv, hg0, x0, x1, x2, x3⟩ := h3.cells (Below.refl _ w) (i := p0) (by omega) (op := (inAt code p0).op) (a := (inAt code p0).a) (x := (inAt code p0).num) (tx := (inAt code p0).text) rfl;unfold insV at M;generalize (inAt code p0).op = op at *;generalize (inAt code p0).num = nm at *;generalize (inAt code p0).text = tx at *;generalize (inAt code p0).a = a at *;rw [ecv] at hc;have hp64 : (p0 : Int) < (code.length : Int) := by omega
 have hp65 : (p0 : Int) ≤ 8192 := by omega
 obtain ⟨N, hN⟩ := exHid code.length;rw [hN.out] at hc hp64;have hd1 : 0 ≤ dp := h8.1;have hd2 : dp ≤ 100000 := h8.2;have ht1 : 0 ≤ tk := h10.1;have ht2 : tk ≤ 2048 := h10.2;have hl1 : 0 ≤ lv := hlv0.1;have hl2 : lv ≤ 1 := hlv0.2;replace h8 := Lib.hid h8;replace h10 := Lib.hid h10;replace hlv0 := Lib.hid hlv0;replace h5 := Lib.hid h5;replace h6 := Lib.hid h6;replace h11 := Lib.hid h11;replace hB := Lib.hid hB;replace hcm := Lib.hid hcm;have h1' := Lib.hid h1;replace h2 := Lib.hid h2;replace h3 := Lib.hid h3;replace h4 := Lib.hid h4;replace h7 := Lib.hid h7;replace hcv' := Lib.hid hcv';replace hcv := Lib.hid hcv;replace h9 := Lib.hid h9;clear h1 hlc
 skip
 go_enter Tryd.func34, Tryd.ntmps34
 go_wp2_with first
   | (go_at_call 43; refine (M _).mono ?_; rintro e w1 ⟨rfl, hb⟩; have hk : Below w.heap.size w w1 := below_next (by go_grown) hb; have hz := hk.size; have k0 := (hb.cell (p := ⟨w.heap.size, 0, none⟩) (by simp)).trans (World.cell?_alloc_new ..); have k1 := (hb.cell (p := ⟨w.heap.size, 1, none⟩) (by simp)).trans (World.cell?_alloc_new ..); have hTw := Lib.hid (h1'.out.below hk); replace hb := Lib.hid hb; simp at k0 k1)
 go_ret
 have hB' := hB.out;refine ⟨ret_bool (by rw [← hr1.out]; rfl), (Only.of_below (F := fun k => B ≤ k) hk), fun d1 e => ?_⟩;rw [← hr1.out] at e;cases e
end
end Go.Proofs.YtcabolfookofoaaDoor
