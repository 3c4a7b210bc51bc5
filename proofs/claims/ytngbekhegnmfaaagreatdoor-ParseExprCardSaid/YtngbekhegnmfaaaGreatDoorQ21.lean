/- A part of the proof: PAllE, TSign, TSpell, TBackP, RDoc1, RLook, RChk, RExp, NmR, RDoc2, RSpec. No condition. -/
import Derived.Deep.AppendLies
import Derived.Deep.RegionLaw
import Derived.Lib.AppendStr
import Derived.Lib.ItoaLen
import Derived.Lib.ItoaMem
import Derived.OwnWalk
import Derived.Test.YtngbekhegnmfaaaGreatDoorQ02
import Derived.Test.YtngbekhegnmfaaaGreatDoorQ03
import Derived.Test.YtngbekhegnmfaaaGreatDoorQ05
import Derived.Test.YtngbekhegnmfaaaGreatDoorQ06
import Derived.Test.YtngbekhegnmfaaaGreatDoorQ07
import Derived.Test.YtngbekhegnmfaaaGreatDoorQ20
set_option linter.unusedVariables false
set_option linter.unusedSimpArgs false
namespace Go.Proofs.YtngbekhegnmfaaaGreatDoor
open Go.RowKit Tok
set_option maxHeartbeats 400000 in
theorem All_long (s : ByteArray) (w : World) (hs : 16384 < s.size) (hs2 : s.size ≤ 140737488351232) :
   Calls Tryz.prog 32 #[.string s] w fun e w' => e = .returned (.tuple #[.slice none 0 0, .int .i64 0, .int .i64 2]) ∧ w' = w := by
 have h1 : (16384 : Int) < (s.size : Int) := by omega
 go_enter Tryz.func32, Tryz.ntmps32
 go_wp2
 go_step3
 go_wp2
 simp (config := { zetaDelta := true }) only [Exit.noGoto_ret]
 go_ret3
 exact ⟨rfl, rfl⟩
def AllPost (s : ByteArray) (w : World) (e : Ending) (w' : World) : Prop := ∃ v', e = .returned (.tuple #[v', .int .i64 (allT s.data.toList).at_, .int .i64 (allT s.data.toList).code]) ∧ TksAt w' w.heap.size v' (allT s.data.toList).toks ∧ Below w.heap.size w w'
theorem allT_long {s : ByteArray} (h : 16384 < s.size) : allT s.data.toList = ⟨[], 0, 2⟩ := if_pos (by rw [size_list]; exact h)
theorem All_every (s : ByteArray) (w : World) (hs : s.size ≤ 140737488351232) (hE : ErrR w) (hS : SignsOK w) : Calls Tryz.prog 32 #[.string s] w (AllPost s w) := by
 rcases Nat.lt_or_ge 16384 s.size with h | h
 · refine (All_long s w h hs).mono ?_
   rintro e w' ⟨rfl, rfl⟩;unfold AllPost;rw [allT_long h];exact ⟨_, rfl, TksAt.nil _ _, Below.refl _ _⟩
 · exact All_any s w h hE hS
end Go.Proofs.YtngbekhegnmfaaaGreatDoor
namespace Go.Proofs.YtngbekhegnmfaaaGreatDoor
open Go.RowKit Tok
structure Tg where
 kind : Nat
 text : List UInt8
 num : Int
 at_ : Int
 deriving DecidableEq
def told (t : Tg) : Bool :=
 if t.kind = 1 then nameL t.text && decide (t.num = 0)
 else if t.kind = 2 then decide (0 ≤ t.num) && decide (t.text = [])
 else if t.kind = 3 then decide (t.text.length ≤ 4095) && decide (t.num = 0)
 else if t.kind = 4 then decide (t.text ∈ signs) && decide (t.num = 0)
 else false
end Go.Proofs.YtngbekhegnmfaaaGreatDoor
namespace Go.Proofs.YtngbekhegnmfaaaGreatDoor
open Go.RowKit Tok
theorem told_len {t : Tg} (h : told t = true) : t.text.length ≤ 4095 := by
 unfold told at h;by_cases c1 : t.kind = 1
 · rw [if_pos c1, Bool.and_eq_true] at h
   have h1 := h.1;unfold nameL at h1;cases ht : t.text with
   | nil => simp
   | cons c r => rw [ht] at h1; simp at h1; simp; omega
 · rw [if_neg c1] at h
   by_cases c2 : t.kind = 2
   · rw [if_pos c2, Bool.and_eq_true] at h
     rw [of_decide_eq_true h.2]; simp
   · rw [if_neg c2] at h
     by_cases c3 : t.kind = 3
     · rw [if_pos c3, Bool.and_eq_true] at h
       exact of_decide_eq_true h.1
     · rw [if_neg c3] at h
       by_cases c4 : t.kind = 4
       · rw [if_pos c4, Bool.and_eq_true] at h
         have h1 : t.text ∈ signs := of_decide_eq_true h.1;have : ∀ s ∈ signs, s.length ≤ 4095 := by decide
         exact this _ h1
       · rw [if_neg c4] at h; cases h
theorem ttwo_cells (w : World) (cs : Array Value) (t : TypeId) (o : Obj) (j : Nat) : ((w.alloc (.cells cs t)).alloc o).cell? ⟨w.heap.size, j, none⟩ = cs[j]? := by
 have h := ((Below.refl (w.alloc (.cells cs t)).heap.size (w.alloc (.cells cs t))).alloc (Nat.le_refl _) o).block w.heap.size (by simp);rw [heap_alloc_new] at h;simp [World.cell?, h]
end Go.Proofs.YtngbekhegnmfaaaGreatDoor
namespace Go.Proofs.YtngbekhegnmfaaaGreatDoor
open Go.RowKit Tok
namespace Tok
theorem numV_snoc (l : List UInt8) (c : UInt8) : numV (l ++ [c]) = 10 * numV l + (c.toNat - 48) := by simp [numV]
end Tok
def toG (t : Tk) : Tg := ⟨t.kind, t.text, t.num, t.at_⟩
end Go.Proofs.YtngbekhegnmfaaaGreatDoor
namespace Go.Proofs.YtngbekhegnmfaaaGreatDoor
open Go.RowKit
def namedB (op : Nat) : Bool := op == 1 || op == 2 || op == 4 || op == 5 || op == 26 || op == 56 || op == 50 || op == 51
def leastN (op : Nat) : Int := if op == 2 || op == 3 || (decide (20 ≤ op) && decide (op ≤ 26)) || op == 50 || op == 51 || op == 56 || op == 57 then 0 else if op == 6 || op == 7 || (decide (30 ≤ op) && decide (op ≤ 42)) then 2 else 1
def mostN (op : Nat) : Int := if op == 1 || op == 3 || op == 25 || op == 50 || op == 51 then -1 else if op == 6 then 3 else leastN op
set_option maxRecDepth 20000 in
set_option maxHeartbeats 1000000 in
theorem refNamed_any (op : Nat) (w : World) : Calls Tryz.prog 124 #[.int .u8 (op : Int)] w fun e w' => e = .returned (.bool (namedB op)) ∧ w' = w := by
 by_cases h1 : op = 1
 · subst h1
   go_enter Tryz.func124, Tryz.ntmps124
   go_wp2
   go_ret
   exact ⟨rfl, rfl⟩
 by_cases h2 : op = 2
 · subst h2
   go_enter Tryz.func124, Tryz.ntmps124
   go_wp2
   go_ret
   exact ⟨rfl, rfl⟩
 by_cases h4 : op = 4
 · subst h4
   go_enter Tryz.func124, Tryz.ntmps124
   go_wp2
   go_ret
   exact ⟨rfl, rfl⟩
 by_cases h5 : op = 5
 · subst h5
   go_enter Tryz.func124, Tryz.ntmps124
   go_wp2
   go_ret
   exact ⟨rfl, rfl⟩
 by_cases h26 : op = 26
 · subst h26
   go_enter Tryz.func124, Tryz.ntmps124
   go_wp2
   go_ret
   exact ⟨rfl, rfl⟩
 by_cases h56 : op = 56
 · subst h56
   go_enter Tryz.func124, Tryz.ntmps124
   go_wp2
   go_ret
   exact ⟨rfl, rfl⟩
 by_cases h50 : op = 50
 · subst h50
   go_enter Tryz.func124, Tryz.ntmps124
   go_wp2
   go_ret
   exact ⟨rfl, rfl⟩
 by_cases h51 : op = 51
 · subst h51
   go_enter Tryz.func124, Tryz.ntmps124
   go_wp2
   go_ret
   exact ⟨rfl, rfl⟩
 have e1 : ((op : Int) == 1) = false := beq_eq_false_iff_ne.2 (by omega);have n1 : (op == 1) = false := beq_eq_false_iff_ne.2 h1;have e2 : ((op : Int) == 2) = false := beq_eq_false_iff_ne.2 (by omega);have n2 : (op == 2) = false := beq_eq_false_iff_ne.2 h2;have e4 : ((op : Int) == 4) = false := beq_eq_false_iff_ne.2 (by omega);have n4 : (op == 4) = false := beq_eq_false_iff_ne.2 h4;have e5 : ((op : Int) == 5) = false := beq_eq_false_iff_ne.2 (by omega);have n5 : (op == 5) = false := beq_eq_false_iff_ne.2 h5;have e26 : ((op : Int) == 26) = false := beq_eq_false_iff_ne.2 (by omega);have n26 : (op == 26) = false := beq_eq_false_iff_ne.2 h26;have e56 : ((op : Int) == 56) = false := beq_eq_false_iff_ne.2 (by omega);have n56 : (op == 56) = false := beq_eq_false_iff_ne.2 h56;have e50 : ((op : Int) == 50) = false := beq_eq_false_iff_ne.2 (by omega);have n50 : (op == 50) = false := beq_eq_false_iff_ne.2 h50;have e51 : ((op : Int) == 51) = false := beq_eq_false_iff_ne.2 (by omega);have n51 : (op == 51) = false := beq_eq_false_iff_ne.2 h51;have hd := Lib.hid (show namedB op = false by unfold namedB; simp [n1, n2, n4, n5, n26, n56, n50, n51]);clear n1 h1 n2 h2 n4 h4 n5 h5 n26 h26 n56 h56 n50 h50 n51 h51;go_enter Tryz.func124, Tryz.ntmps124
 go_wp2
 go_ret
 exact ⟨by rw [hd.out]; rfl, rfl⟩
set_option maxRecDepth 20000 in
set_option maxHeartbeats 1000000 in
theorem refLeast_any (op : Nat) (w : World) : Calls Tryz.prog 126 #[.int .u8 (op : Int)] w fun e w' => e = .returned (.int .i64 (leastN op)) ∧ w' = w := by
 by_cases h2 : op = 2
 · subst h2
   go_enter Tryz.func126, Tryz.ntmps126
   go_wp2
   go_ret
   exact ⟨rfl, rfl⟩
 by_cases h3 : op = 3
 · subst h3
   go_enter Tryz.func126, Tryz.ntmps126
   go_wp2
   go_ret
   exact ⟨rfl, rfl⟩
 by_cases h50 : op = 50
 · subst h50
   go_enter Tryz.func126, Tryz.ntmps126
   go_wp2
   go_ret
   exact ⟨rfl, rfl⟩
 by_cases h51 : op = 51
 · subst h51
   go_enter Tryz.func126, Tryz.ntmps126
   go_wp2
   go_ret
   exact ⟨rfl, rfl⟩
 by_cases h56 : op = 56
 · subst h56
   go_enter Tryz.func126, Tryz.ntmps126
   go_wp2
   go_ret
   exact ⟨rfl, rfl⟩
 by_cases h57 : op = 57
 · subst h57
   go_enter Tryz.func126, Tryz.ntmps126
   go_wp2
   go_ret
   exact ⟨rfl, rfl⟩
 by_cases h6 : op = 6
 · subst h6
   go_enter Tryz.func126, Tryz.ntmps126
   go_wp2
   go_ret
   exact ⟨rfl, rfl⟩
 by_cases h7 : op = 7
 · subst h7
   go_enter Tryz.func126, Tryz.ntmps126
   go_wp2
   go_ret
   exact ⟨rfl, rfl⟩
 have e2 : ((op : Int) == 2) = false := beq_eq_false_iff_ne.2 (by omega);have n2 : (op == 2) = false := beq_eq_false_iff_ne.2 h2;have e3 : ((op : Int) == 3) = false := beq_eq_false_iff_ne.2 (by omega);have n3 : (op == 3) = false := beq_eq_false_iff_ne.2 h3;have e50 : ((op : Int) == 50) = false := beq_eq_false_iff_ne.2 (by omega);have n50 : (op == 50) = false := beq_eq_false_iff_ne.2 h50;have e51 : ((op : Int) == 51) = false := beq_eq_false_iff_ne.2 (by omega);have n51 : (op == 51) = false := beq_eq_false_iff_ne.2 h51;have e56 : ((op : Int) == 56) = false := beq_eq_false_iff_ne.2 (by omega);have n56 : (op == 56) = false := beq_eq_false_iff_ne.2 h56;have e57 : ((op : Int) == 57) = false := beq_eq_false_iff_ne.2 (by omega);have n57 : (op == 57) = false := beq_eq_false_iff_ne.2 h57;have e6 : ((op : Int) == 6) = false := beq_eq_false_iff_ne.2 (by omega);have n6 : (op == 6) = false := beq_eq_false_iff_ne.2 h6;have e7 : ((op : Int) == 7) = false := beq_eq_false_iff_ne.2 (by omega);have n7 : (op == 7) = false := beq_eq_false_iff_ne.2 h7;by_cases c1 : op < 20
 · have cc := c1
   have f0 : ¬ (20 : Int) ≤ (op : Int) := by omega
   have f1 : ¬ (30 : Int) ≤ (op : Int) := by omega
   have g0 : ¬ 20 ≤ op := by omega
   have g1 : ¬ 30 ≤ op := by omega
   have hd := Lib.hid (show leastN op = 1 by unfold leastN; simp [n2, n3, n50, n51, n56, n57, n6, n7, g0, g1]);clear g0 g1 n2 h2 n3 h3 n50 h50 n51 h51 n56 h56 n57 h57 n6 h6 n7 h7;clear cc c1;go_enter Tryz.func126, Tryz.ntmps126
   go_wp2
   go_ret
   exact ⟨by rw [hd.out]; rfl, rfl⟩
 by_cases c2 : op ≤ 26
 · have cc := c2
   have f0 : (20 : Int) ≤ (op : Int) := by omega
   have f1 : (op : Int) ≤ 26 := by omega
   have g0 : 20 ≤ op := by omega
   have g1 : op ≤ 26 := by omega
   have hd := Lib.hid (show leastN op = 0 by unfold leastN; simp [n2, n3, n50, n51, n56, n57, g0, g1]);clear g0 g1 n2 h2 n3 h3 n50 h50 n51 h51 n56 h56 n57 h57 n6 h6 n7 h7;clear cc c1 c2;go_enter Tryz.func126, Tryz.ntmps126
   go_wp2
   go_ret
   exact ⟨by rw [hd.out]; rfl, rfl⟩
 by_cases c3 : op < 30
 · have cc := c3
   have f0 : (20 : Int) ≤ (op : Int) := by omega
   have f1 : ¬ (op : Int) ≤ 26 := by omega
   have f2 : ¬ (30 : Int) ≤ (op : Int) := by omega
   have g0 : 20 ≤ op := by omega
   have g1 : ¬ op ≤ 26 := by omega
   have g2 : ¬ 30 ≤ op := by omega
   have hd := Lib.hid (show leastN op = 1 by unfold leastN; simp [n2, n3, n50, n51, n56, n57, n6, n7, g0, g1, g2]);clear g0 g1 g2 n2 h2 n3 h3 n50 h50 n51 h51 n56 h56 n57 h57 n6 h6 n7 h7;clear cc c1 c2 c3;go_enter Tryz.func126, Tryz.ntmps126
   go_wp2
   go_ret
   exact ⟨by rw [hd.out]; rfl, rfl⟩
 by_cases c4 : op ≤ 42
 · have cc := c4
   have f0 : (20 : Int) ≤ (op : Int) := by omega
   have f1 : ¬ (op : Int) ≤ 26 := by omega
   have f2 : (30 : Int) ≤ (op : Int) := by omega
   have f3 : (op : Int) ≤ 42 := by omega
   have g0 : 20 ≤ op := by omega
   have g1 : ¬ op ≤ 26 := by omega
   have g2 : 30 ≤ op := by omega
   have g3 : op ≤ 42 := by omega
   have hd := Lib.hid (show leastN op = 2 by unfold leastN; simp [n2, n3, n50, n51, n56, n57, n6, n7, g0, g1, g2, g3]);clear g0 g1 g2 g3 n2 h2 n3 h3 n50 h50 n51 h51 n56 h56 n57 h57 n6 h6 n7 h7;clear cc c1 c2 c3 c4;go_enter Tryz.func126, Tryz.ntmps126
   go_wp2
   go_ret
   exact ⟨by rw [hd.out]; rfl, rfl⟩
 have f0 : (20 : Int) ≤ (op : Int) := by omega
 have f1 : ¬ (op : Int) ≤ 26 := by omega
 have f2 : (30 : Int) ≤ (op : Int) := by omega
 have f3 : ¬ (op : Int) ≤ 42 := by omega
 have g0 : 20 ≤ op := by omega
 have g1 : ¬ op ≤ 26 := by omega
 have g2 : 30 ≤ op := by omega
 have g3 : ¬ op ≤ 42 := by omega
 have hd := Lib.hid (show leastN op = 1 by unfold leastN; simp [n2, n3, n50, n51, n56, n57, n6, n7, g0, g1, g2, g3]);clear g0 g1 g2 g3 n2 h2 n3 h3 n50 h50 n51 h51 n56 h56 n57 h57 n6 h6 n7 h7;go_enter Tryz.func126, Tryz.ntmps126
 go_wp2
 go_ret
 exact ⟨by rw [hd.out]; rfl, rfl⟩
set_option maxRecDepth 20000 in
set_option maxHeartbeats 1000000 in
theorem refMost_any (op : Nat) (w : World) : Calls Tryz.prog 127 #[.int .u8 (op : Int)] w fun e w' => e = .returned (.int .i64 (mostN op)) ∧ w' = w := by
 by_cases h1 : op = 1
 · subst h1
   go_enter Tryz.func127, Tryz.ntmps127
   go_wp2
   go_ret
   exact ⟨rfl, rfl⟩
 by_cases h3 : op = 3
 · subst h3
   go_enter Tryz.func127, Tryz.ntmps127
   go_wp2
   go_ret
   exact ⟨rfl, rfl⟩
 by_cases h25 : op = 25
 · subst h25
   go_enter Tryz.func127, Tryz.ntmps127
   go_wp2
   go_ret
   exact ⟨rfl, rfl⟩
 by_cases h50 : op = 50
 · subst h50
   go_enter Tryz.func127, Tryz.ntmps127
   go_wp2
   go_ret
   exact ⟨rfl, rfl⟩
 by_cases h51 : op = 51
 · subst h51
   go_enter Tryz.func127, Tryz.ntmps127
   go_wp2
   go_ret
   exact ⟨rfl, rfl⟩
 by_cases h6 : op = 6
 · subst h6
   go_enter Tryz.func127, Tryz.ntmps127
   go_wp2
   go_ret
   exact ⟨rfl, rfl⟩
 have e1 : ((op : Int) == 1) = false := beq_eq_false_iff_ne.2 (by omega);have n1 : (op == 1) = false := beq_eq_false_iff_ne.2 h1;have e3 : ((op : Int) == 3) = false := beq_eq_false_iff_ne.2 (by omega);have n3 : (op == 3) = false := beq_eq_false_iff_ne.2 h3;have e25 : ((op : Int) == 25) = false := beq_eq_false_iff_ne.2 (by omega);have n25 : (op == 25) = false := beq_eq_false_iff_ne.2 h25;have e50 : ((op : Int) == 50) = false := beq_eq_false_iff_ne.2 (by omega);have n50 : (op == 50) = false := beq_eq_false_iff_ne.2 h50;have e51 : ((op : Int) == 51) = false := beq_eq_false_iff_ne.2 (by omega);have n51 : (op == 51) = false := beq_eq_false_iff_ne.2 h51;have e6 : ((op : Int) == 6) = false := beq_eq_false_iff_ne.2 (by omega);have n6 : (op == 6) = false := beq_eq_false_iff_ne.2 h6;have hd : mostN op = leastN op := by unfold mostN; simp [n1, n3, n25, n50, n51, n6]
 rw [hd];have kL := Lib.hid (fun W => refLeast_any op W);generalize leastN op = z at *;clear hd n1 h1 n3 h3 n25 h25 n50 h50 n51 h51 n6 h6;go_enter Tryz.func127, Tryz.ntmps127
 go_wp2_with fail
 refine (kL.out _).mono ?_;rintro e w2 ⟨rfl, rfl⟩;go_wp2
 go_ret
 exact ⟨rfl, rfl⟩
end Go.Proofs.YtngbekhegnmfaaaGreatDoor
namespace Go.Proofs.YtngbekhegnmfaaaGreatDoor
open Go.RowKit Go.Shelf
def lookF (ts : List Tw) : Nat × Nat × Int :=
 if 2048 < ts.length then (0, 0, 2) else if ts.length = 0 then (0, 0, 3) else
   if (passF ts.length ts 1 ⟨0, 0, 0⟩).1 = false ∨ (passF ts.length ts 1 ⟨0, 0, 0⟩).2.gone < ts.length then ((passF ts.length ts 1 ⟨0, 0, 0⟩).2.gone, 0, 3)
   else if 0 < (passF ts.length ts 1 ⟨0, 0, 0⟩).2.tooDeep then ((passF ts.length ts 1 ⟨0, 0, 0⟩).2.tooDeep, 0, 2) else (0, (passF ts.length ts 1 ⟨0, 0, 0⟩).2.deepest, 0)
def Held (w : World) (p : Addr) (v : Value) : Prop := w.cell? p = some v ∧ w.frozen? p = false
theorem Held.up {w : World} {p : Addr} {v : Value} (h : Held w p v) (o : Obj) : Held (w.alloc o) p v :=
 ⟨cell_on h.1 ((Below.refl _ w).alloc (Nat.le_refl _) o), frozen_on h.1 h.2 ((Below.refl _ w).alloc (Nat.le_refl _) o)⟩
theorem held_new {w : World} {n : Nat} (hn : w.heap.size = n) (v : Value) (t : TypeId) : Held (w.alloc (.cells #[v] t)) ⟨n, 0, none⟩ v := by
 subst hn;exact ⟨one_cell w #[v] t 0, by have h := heap_alloc_new w (.cells #[v] t); unfold World.frozen?; dsimp only; rw [h]; rfl⟩
theorem look_mem (w : World) {v : Value} {ts : List Tw} {b : Nat} (hT : TwIn w v ts) (hK : KMap w b tabL) (t0 t1 t2 t3 t4 t5 : TypeId) (W : World) (hW : W = ((((((w.alloc (.cells #[.map (some b)] t0)).alloc (.cells #[v] t1)).alloc (.cells #[.int .i64 0] t2)).alloc (.cells #[.int .i64 0] t3)).alloc (.cells #[.int .i64 0] t4)).alloc (.cells #[.func (.func 57) #[] #[.pointer (some ⟨w.heap.size + 1, 0, none⟩), .pointer (some ⟨w.heap.size + 1 + 1, 0, none⟩), .pointer (some ⟨w.heap.size, 0, none⟩), .pointer (some ⟨w.heap.size + 1 + 1 + 1 + 1, 0, none⟩), .pointer (some ⟨w.heap.size + 1 + 1 + 1, 0, none⟩), .pointer (some ⟨w.heap.size + 1 + 1 + 1 + 1 + 1, 0, none⟩)]] t5))) :
   PMem W (w.heap.size + 1) w.heap.size (w.heap.size + 1 + 1) (w.heap.size + 1 + 1 + 1) (w.heap.size + 1 + 1 + 1 + 1) (w.heap.size + 1 + 1 + 1 + 1 + 1) v ts ⟨0, 0, 0⟩ ∧ Below w.heap.size w W := by
 have hB : Below w.heap.size w W := by
   rw [hW];refine ((((((Below.refl _ w).alloc ?_ _).alloc ?_ _).alloc ?_ _).alloc ?_ _).alloc ?_ _).alloc ?_ _ <;> (simp; try omega)
 refine ⟨⟨?_, ⟨b, ?_, hK.below hB hK.lt⟩, ?_, ?_, ?_, ?_, hT.below hB⟩, hB⟩ <;> rw [hW]
 · exact (((((held_new (by simp) v t1).up _).up _).up _).up _).1
 · exact ((((((held_new rfl _ t0).up _).up _).up _).up _).up _).1
 · exact ((((held_new (by simp) _ t2).up _).up _).up _)
 · exact (((held_new (by simp) _ t3).up _).up _)
 · exact ((held_new (by simp) _ t4).up _)
 · exact (held_new (by simp) _ t5).1
set_option maxRecDepth 20000 in
set_option maxHeartbeats 4000000 in
theorem look_any {v : Value} {ts : List Tw} {b : Nat} (w : World) (hT : TwIn w v ts) (hf : ∀ x ∈ ts, FitT x) (hK : KMap w b tabL) :
   Calls Tryz.prog 27 #[.map (some b), v] w fun e w' => e = .returned (.tuple #[.int .i64 (lookF ts).1, .int .i64 (lookF ts).2.1, .int .i64 (lookF ts).2.2]) ∧ Below w.heap.size w w' := by
 obtain ⟨Z, hZ⟩ := exHid (lookF ts);rw [hZ.out];have hT' := Lib.hid hT;have hsf := fun c => sv_any (v := .func (.func 57) #[] c) rfl
 obtain ⟨a, cap, rfl, htc, htm, hcells⟩ := id hT;have hz := hZ.out;unfold lookF at hz;clear hZ;by_cases h1 : 2048 < ts.length
 · rw [if_pos h1] at hz
   have h1i : (2048 : Int) < (ts.length : Int) := by omega
   replace hz := Lib.hid hz;clear hcells hT;go_enter Tryz.func27, Tryz.ntmps27
   go_wp2_with fail
   refine bodyPost_ret (results_tmp3 rfl _ _ _) rfl ?_;rw [← hz.out];exact ⟨rfl, by go_grown⟩
 · rw [if_neg h1] at hz
   have h1i : ¬ (2048 : Int) < (ts.length : Int) := by omega
   by_cases h0 : ts.length = 0
   · rw [if_pos h0] at hz
     have h0i : ((ts.length : Int) == 0) = true := by rw [h0]; rfl
     replace hz := Lib.hid hz;replace h0 := Lib.hid h0;clear hcells hT;go_enter Tryz.func27, Tryz.ntmps27
     go_wp2_with fail
     refine bodyPost_ret (results_tmp3 rfl _ _ _) rfl ?_;rw [← hz.out];exact ⟨rfl, by go_grown⟩
   · rw [if_neg h0] at hz
     have h0i : ((ts.length : Int) == 0) = false := beq_eq_false_iff_ne.2 (by omega);obtain ⟨g, off, rfl, hg, hc⟩ := hcells (by omega);clear hc;replace hz := Lib.hid hz;replace h0 := Lib.hid h0;replace hT := Lib.hid hT;go_enter Tryz.func27, Tryz.ntmps27
     go_wp2_with fail
     generalize hW : (World.alloc _ _) = W;have hM := look_mem w hT.out hK _ _ _ _ _ _ W hW.symm;clear hW;obtain ⟨hP, hB⟩ := hM;have hne : PNe (w.heap.size + 1) w.heap.size (w.heap.size + 1 + 1) (w.heap.size + 1 + 1 + 1) (w.heap.size + 1 + 1 + 1 + 1) (w.heap.size + 1 + 1 + 1 + 1 + 1) (.slice (some ⟨g, off, none⟩) ts.length cap) := by
       refine ⟨by omega, by omega, by omega, by omega, by omega, by omega, ?_⟩;intro g' off' l c e;cases e
       omega
     have kP := pass_any hne hf (by omega) ts.length 1 ⟨0, 0, 0⟩ W (by show 0 < _; have := h0.out; omega) (Nat.sub_le _ _) (by omega) (Nat.zero_le _) hP;have mono := pass_mono_at ts ts.length 1 1000000 ⟨0, 0, 0⟩ (by show 0 < _; have := h0.out; omega) (Nat.zero_le _) (by omega);replace hz := hz.out;generalize passF ts.length ts 1 ⟨0, 0, 0⟩ = R at kP mono hz;obtain ⟨rb, s5⟩ := R;dsimp only at kP mono hz;have hBs := hB.size;refine kP.mono ?_;rintro e w5 ⟨rfl, hP5, hO5⟩;have hB5 : Below w.heap.size w w5 := hB.trans (hO5.below hB.size (by intro k hk; omega));clear kP hP hO5;have pg := hP5.g.1;have pt := hP5.t;have pd := hP5.d.1;have px := hP5.x.1;rcases rb with _ | _
     · rw [if_pos (Or.inl rfl)] at hz
       replace hz := Lib.hid hz;replace hP5 := Lib.hid hP5;replace hB5 := Lib.hid hB5;go_wp2_with fail
       refine bodyPost_ret (results_tmp3 rfl _ _ _) rfl ?_;rw [← hz.out];exact ⟨rfl, hB5.out⟩
     · by_cases hgo : s5.gone < ts.length
       · rw [if_pos (Or.inr hgo)] at hz
         have hgi : (s5.gone : Int) < (ts.length : Int) := by omega
         replace hz := Lib.hid hz;replace hP5 := Lib.hid hP5;replace hB5 := Lib.hid hB5;go_wp2_with fail
         refine bodyPost_ret (results_tmp3 rfl _ _ _) rfl ?_;rw [← hz.out];exact ⟨rfl, hB5.out⟩
       · rw [if_neg (by simp; omega)] at hz
         have hgi : ¬ (s5.gone : Int) < (ts.length : Int) := by omega
         by_cases hx : 0 < s5.tooDeep
         · rw [if_pos hx] at hz
           have hxi : (0 : Int) < (s5.tooDeep : Int) := by omega
           replace hz := Lib.hid hz;replace hP5 := Lib.hid hP5;replace hB5 := Lib.hid hB5;go_wp2_with fail
           refine bodyPost_ret (results_tmp3 rfl _ _ _) rfl ?_;rw [← hz.out];exact ⟨rfl, hB5.out⟩
         · rw [if_neg hx] at hz
           have hxi : ¬ (0 : Int) < (s5.tooDeep : Int) := by omega
           replace hz := Lib.hid hz;replace hP5 := Lib.hid hP5;replace hB5 := Lib.hid hB5;replace hx := Lib.hid hx;go_wp2_with fail
           go_quiet (fail)
           go_wp2_with fail
           refine bodyPost_ret (results_tmp3 rfl _ _ _) rfl ?_;rw [← hz.out];exact ⟨rfl, below_drewN hB5.out _⟩
end Go.Proofs.YtngbekhegnmfaaaGreatDoor
namespace Go.Proofs.YtngbekhegnmfaaaGreatDoor
open Go.RowKit Go.Shelf
set_option maxRecDepth 20000 in
theorem Check_any {v : Value} {ts : List Tw} (w : World) (hT : TwIn w v ts) (hf : ∀ x ∈ ts, FitT x) :
   Calls Tryz.prog 15 #[v] w fun e w' => e = .returned (.tuple #[.int .i64 (lookF ts).1, .int .i64 (lookF ts).2.2]) ∧ Below w.heap.size w w' := by
 obtain ⟨Z, hZ⟩ := exHid (lookF ts);have hl : ∀ W b, TwIn W v ts → KMap W b tabL → Calls Tryz.prog 27 #[.map (some b), v] W fun e w' => e = .returned (.tuple #[.int .i64 Z.1, .int .i64 Z.2.1, .int .i64 Z.2.2]) ∧ Below W.heap.size W w' := fun W b h1 h2 => by rw [← hZ.out]; exact look_any W h1 hf h2
 rw [hZ.out];replace hl := Lib.hid hl;replace hf := Lib.hid hf;have hTT := Lib.hid hT;obtain ⟨a, cap, rfl, _, _, _⟩ := hT;go_enter Tryz.func15, Tryz.ntmps15
 go_wp2_with fail
 refine (table_any w).mono ?_;rintro e w1 ⟨b, rfl, hK, hb⟩;go_wp2_with fail
 refine (hl.out w1 b (hTT.out.below hb) hK).mono ?_;rintro e w2 ⟨rfl, hb2⟩;have hb3 : Below w.heap.size w w2 := hb.trans (hb2.mono hb.size);go_wp2_with fail
 go_ret2
 exact ⟨rfl, hb3⟩
end Go.Proofs.YtngbekhegnmfaaaGreatDoor
namespace Go.Proofs.YtngbekhegnmfaaaGreatDoor
open Go.RowKit Go.Shelf
set_option maxHeartbeats 1000000 in
theorem refExpression_any (op : Nat) (w : World) : Calls Tryz.prog 122 #[.int .u8 (op : Int)] w fun e w' => e = .returned (.bool (exprB op)) ∧ w' = w := by
 obtain ⟨B, hB⟩ := exHid (exprB op);rw [hB.out];have hw := expr_w op;rw [hB.out] at hw;rcases hw with ⟨h0, h⟩ | ⟨h0, h⟩ | ⟨h0, h⟩ | ⟨h0, h⟩ | ⟨h0, h⟩ | ⟨h0, h⟩ | ⟨h0, h⟩
 all_goals
   replace h0 := Lib.hid h0;obtain ⟨h1, h2⟩ := h;go_enter Tryz.func122, Tryz.ntmps122
   go_wp2
   go_ret
   exact ⟨ret_bool (by rw [h0.out]), rfl⟩
set_option maxHeartbeats 400000 in
theorem refStatement_any (op : Nat) (w : World) : Calls Tryz.prog 123 #[.int .u8 (op : Int)] w fun e w' => e = .returned (.bool (stmtB op)) ∧ w' = w := by
 obtain ⟨B, hB⟩ := exHid (stmtB op);rw [hB.out];have hw := stmt_w op;rw [hB.out] at hw;rcases hw with ⟨h0, h⟩ | ⟨h0, h, h1⟩ | ⟨h0, h, h1⟩
 all_goals
   replace h0 := Lib.hid h0;go_enter Tryz.func123, Tryz.ntmps123
   go_wp2
   go_ret
   exact ⟨ret_bool (by rw [h0.out]), rfl⟩
end Go.Proofs.YtngbekhegnmfaaaGreatDoor
namespace Go.Proofs.YtngbekhegnmfaaaGreatDoor
open Go.RowKit
def SeenN (s : ByteArray) (k : Nat) : Prop := AllR (s.data.toList.take k) ∧ ∀ h : 0 < s.size, 0 < k → letC s[0] = true
theorem SeenN.more {s : ByteArray} {k : Nat} (h : SeenN s k) (hk : k < s.size) (hc : restC s[k] = true) (h0 : letC s[k] = true ∨ 0 < k) : SeenN s (k + 1) := by
 refine ⟨h.1.more hk hc, fun hs _ => ?_⟩;by_cases hk0 : 0 < k
 · exact h.2 hs hk0
 · obtain rfl : k = 0 := by omega
   rcases h0 with h0 | h0
   · exact h0
   · omega
set_option maxHeartbeats 2000000 in
theorem refName_any (s : ByteArray) (w : World) (hs : s.size ≤ 9223372036854775807) :
   Calls Tryz.prog 146 #[.string s] w fun e w' => e = .returned (.bool (nameL s.data.toList)) ∧ w = w' := by
 by_cases h0 : 0 < s.size
 · by_cases h24 : s.size ≤ 24
   · have hz : decide ((s.size : Int) < 1) = false := decide_eq_false (by omega)
     have h24' : decide (24 < (s.size : Int)) = false := decide_eq_false (by omega);go_enter Tryz.func146, Tryz.ntmps146
     go_wp2
     clear hz h24';go_loop [3] (fun i => ∃ k : Nat, k ≤ s.size ∧ i = .int .i64 k ∧ SeenN s k) (fun i => s.size - (intOf i).toNat)
     case atStart => exact ⟨0, Nat.zero_le _, rfl, rfl, fun _ h => absurd h (by omega)⟩
     case round =>
       obtain ⟨k, hk, rfl, hall⟩ := hrel;replace hall := Lib.hid hall;by_cases hlt : k < s.size
       · by_cases hok : restC s[k] = true ∧ (letC s[k] = true ∨ 0 < k)
         · have hnx := Lib.hid (hall.out.more hlt hok.1 hok.2)
           by_cases hl : 97 ≤ s[k].toNat ∧ s[k].toNat ≤ 122
           · obtain ⟨h97, h122⟩ := hl
             have h48 : 48 ≤ s[k].toNat := by omega
             have e57 : decide ((s[k].toNat : Int) ≤ 57) = false := decide_eq_false (by omega);have e95 : ((s[k].toNat : Int) == 95) = false := beq_eq_false_iff_ne.2 (by omega);clear hok;go_wp2
             go_round
             case rel => exact ⟨k + 1, by omega, by go_num, hnx.out⟩
             case measure => simp [intOf]; omega
           · have hl' : letC s[k] = false := by simp only [letC, decide_eq_false_iff_not]; exact hl
             have hk0 : 0 < k := by rcases hok.2 with h | h; · rw [hl'] at h; cases h
                                    · exact h
             have ek : ((k : Int) == 0) = false := beq_eq_false_iff_ne.2 (by omega);have hr := hok.1;unfold restC at hr;rw [hl'] at hr;simp only [Bool.false_or, Bool.or_eq_true, decide_eq_true_eq] at hr;have h97 : s[k].toNat < 97 := by omega
             have h48 : 48 ≤ s[k].toNat := by omega
             rcases hr with hr | hr
             · have h57 := hr.2
               clear hr hl' hl hok;go_wp2
               go_round
               case rel => exact ⟨k + 1, by omega, by go_num, hnx.out⟩
               case measure => simp [intOf]; omega
             · have e57 : decide ((s[k].toNat : Int) ≤ 57) = false := decide_eq_false (by omega)
               have e95 : ((s[k].toNat : Int) == 95) = true := by rw [hr]; rfl
               clear hr hl' hl hok;go_wp2
               go_round
               case rel => exact ⟨k + 1, by omega, by go_num, hnx.out⟩
               case measure => simp [intOf]; omega
         · have HN : Hid (nameL s.data.toList = false) := by
             show nameL s.data.toList = false
             cases hr : restC s[k] with
             | false => exact nameL_wrong hlt hr
             | true =>
               have hk0 : ¬ 0 < k := fun h => hok ⟨hr, .inr h⟩
               obtain rfl : k = 0 := by omega
               refine nameL_first hlt ?_;cases hc : letC s[0] with
               | false => rfl
               | true => exact absurd ⟨hr, .inl hc⟩ hok
           have hnl : letC s[k] = false := by
             cases hc : letC s[k] with
             | false => rfl
             | true => exact absurd ⟨letC_rest hc, .inl hc⟩ hok
           have hl : ¬ (97 ≤ s[k].toNat ∧ s[k].toNat ≤ 122) := by simpa only [letC, decide_eq_false_iff_not] using hnl
           by_cases hk0 : 0 < k
           · have ek : ((k : Int) == 0) = false := beq_eq_false_iff_ne.2 (by omega)
             have hnr : restC s[k] = false := by
               cases hc : restC s[k] with
               | false => rfl
               | true => exact absurd ⟨hc, .inr hk0⟩ hok
             have h95 : ¬ s[k].toNat = 95 := by intro h; unfold restC at hnr; simp [h] at hnr
             have hdg : ¬ (48 ≤ s[k].toNat ∧ s[k].toNat ≤ 57) := by intro h; unfold restC at hnr; simp [h] at hnr
             have e95 : ((s[k].toNat : Int) == 95) = false := beq_eq_false_iff_ne.2 (by omega);replace hnl := Lib.hid hnl;replace hnr := Lib.hid hnr;replace hok := Lib.hid hok;by_cases h48 : 48 ≤ s[k].toNat
             · have e57 : decide ((s[k].toNat : Int) ≤ 57) = false := decide_eq_false (by omega)
               by_cases h97 : 97 ≤ s[k].toNat
               · have e122 : decide ((s[k].toNat : Int) ≤ 122) = false := decide_eq_false (by omega)
                 clear hl hdg h95;go_wp2
                 go_ret
                 exact ⟨ret_bool (by rw [HN.out]), rfl⟩
               · have e97 : decide (97 ≤ (s[k].toNat : Int)) = false := decide_eq_false (by omega)
                 clear hl hdg h95;go_wp2
                 go_ret
                 exact ⟨ret_bool (by rw [HN.out]), rfl⟩
             · have e48 : decide (48 ≤ (s[k].toNat : Int)) = false := decide_eq_false (by omega)
               have e97 : decide (97 ≤ (s[k].toNat : Int)) = false := decide_eq_false (by omega);clear hl hdg h95;go_wp2
               go_ret
               exact ⟨ret_bool (by rw [HN.out]), rfl⟩
           · obtain rfl : k = 0 := by omega
             replace hnl := Lib.hid hnl;replace hok := Lib.hid hok;by_cases h97 : 97 ≤ s[0].toNat
             · have e122 : decide ((s[0].toNat : Int) ≤ 122) = false := decide_eq_false (by omega)
               clear hl hk0;go_wp2
               all_goals
                 go_ret
                 exact ⟨ret_bool (by rw [HN.out]), rfl⟩
             · have e97 : decide (97 ≤ (s[0].toNat : Int)) = false := decide_eq_false (by omega)
               clear hl hk0;go_wp2
               all_goals
                 go_ret
                 exact ⟨ret_bool (by rw [HN.out]), rfl⟩
       · have HN := Lib.hid (nameL_of h0 h24 (hall.out.2 h0 (by omega)) (hall.out.1.all (by omega)))
         go_wp2
         go_ret
         exact ⟨ret_bool (by rw [HN.out]), rfl⟩
   · have HN := Lib.hid (nameL_long (Nat.lt_of_not_le h24))
     have hz : decide ((s.size : Int) < 1) = false := decide_eq_false (by omega);have h24' : decide (24 < (s.size : Int)) = true := decide_eq_true (by omega);go_enter Tryz.func146, Tryz.ntmps146
     go_wp2
     go_ret
     exact ⟨ret_bool (by rw [HN.out]), rfl⟩
 · have HN := Lib.hid (nameL_none h0)
   have hz : decide ((s.size : Int) < 1) = true := decide_eq_true (by omega);go_enter Tryz.func146, Tryz.ntmps146
   go_wp2
   go_ret
   exact ⟨ret_bool (by rw [HN.out]), rfl⟩
end Go.Proofs.YtngbekhegnmfaaaGreatDoor
namespace Go.Proofs.YtngbekhegnmfaaaGreatDoor
open Go.RowKit Go.Shelf
theorem refName_at {tx : List UInt8} {b : Bool} (h : nameL tx = b) (hl : tx.length ≤ 9223372036854775807) (W : World) :
   Calls Tryz.prog 146 #[.string ⟨tx.toArray⟩] W fun e w' => e = .returned (.bool b) ∧ w' = W := by
 have h1 := refName_any ⟨tx.toArray⟩ W (by simp [ByteArray.size]; omega);refine h1.mono fun e w' ⟨he, hw⟩ => ⟨?_, hw.symm⟩
 rw [he];exact ret_bool (by simpa using h)
theorem refKw_at {tx : List UInt8} {b : Bool} (h : kwB tx = b) (W : World) :
   Calls Tryz.prog 143 #[.string ⟨tx.toArray⟩] W fun e w' => e = .returned (.bool b) ∧ Below W.heap.size W w' := by
 refine (refKeyword_any ⟨tx.toArray⟩ W).mono fun e w' ⟨he, hw⟩ => ⟨?_, hw⟩;rw [he];exact ret_bool (by rw [ByteArray.toList_eq]; simpa using h)
set_option maxHeartbeats 400000 in
theorem refOwn_any (s : List UInt8) (w : World) (hl : s.length ≤ 9223372036854775807) : Calls Tryz.prog 125 #[.string ⟨s.toArray⟩] w fun e w' => e = .returned (.bool (textOK 1 s)) ∧ Below w.heap.size w w' := by
 obtain ⟨B, hB⟩ := exHid (textOK 1 s);rw [hB.out];have h : (nameL s && !kwB s) = B := hB.out;rcases h1 : nameL s with _ | _
 · have k1 := Lib.hid (fun W => refName_at h1 hl W)
   rw [h1] at h;replace h := Lib.hid h;clear h1;go_enter Tryz.func125, Tryz.ntmps125
   go_wp2_with fail
   refine (k1.out _).mono ?_;rintro e w2 ⟨rfl, rfl⟩;go_wp2
   go_ret
   exact ⟨ret_bool (by rw [← h.out]; rfl), Below.refl _ _⟩
 · have k1 := Lib.hid (fun W => refName_at h1 hl W)
   have k2 := Lib.hid (fun W => refKw_at (tx := s) rfl W);rw [h1, Bool.true_and] at h;replace h := Lib.hid h;clear h1;go_enter Tryz.func125, Tryz.ntmps125
   go_wp2_with fail
   refine (k1.out _).mono ?_;rintro e w2 ⟨rfl, rfl⟩;go_wp2_with fail
   refine (k2.out _).mono ?_;rintro e w2 ⟨rfl, hb⟩;replace hb := Lib.hid hb;go_wp2
   go_ret
   exact ⟨ret_bool (by rw [← h.out]; try rfl), hb.out⟩
def partR (up : Nat) (i n : Int) (op : Nat) : Bool :=
 if up = 1 then (if i = n - 1 then (op : Int) == 3 else (op : Int) == 2)
 else if up = 3 then stmtB op
 else if (up = 6 ∨ up = 7) ∧ 0 < i then (op : Int) == 3
 else if up = 53 then (op : Int) == 3
 else exprB op
set_option maxHeartbeats 2000000 in
theorem refPart_any (up : Nat) (i n : Int) (op : Nat) (w : World) (hn : -1000000 ≤ n) (hn2 : n ≤ 1000000) :
   Calls Tryz.prog 91 #[.int .u8 (up : Int), .int .i64 i, .int .i64 n, .int .u8 (op : Int)] w fun e w' => e = .returned (.bool (partR up i n op)) ∧ w' = w := by
 obtain ⟨Z, hZ⟩ := exHid (partR up i n op);rw [hZ.out];have hz := hZ.out;unfold partR at hz;clear hZ;have kE := Lib.hid (fun W => refExpression_any op W);have kS := Lib.hid (fun W => refStatement_any op W);by_cases h1 : up = 1
 · subst h1
   rw [if_pos rfl] at hz;by_cases h : i = n - 1
   · rw [if_pos h] at hz
     have q : (i == n - 1) = true := beq_iff_eq.2 h;replace hz := Lib.hid hz;clear h;go_enter Tryz.func91, Tryz.ntmps91
     go_wp2
     go_ret
     exact ⟨ret_bool hz.out, rfl⟩
   · rw [if_neg h] at hz
     have q : (i == n - 1) = false := beq_eq_false_iff_ne.2 h;replace hz := Lib.hid hz;clear h;go_enter Tryz.func91, Tryz.ntmps91
     go_wp2
     go_ret
     exact ⟨ret_bool hz.out, rfl⟩
 · rw [if_neg h1] at hz
   have e1 : ((up : Int) == 1) = false := beq_eq_false_iff_ne.2 (by omega);by_cases h3 : up = 3
   · subst h3
     rw [if_pos rfl] at hz;replace hz := Lib.hid hz;go_enter Tryz.func91, Tryz.ntmps91
     go_wp2_with fail
     refine (kS.out _).mono ?_;rintro e w2 ⟨rfl, rfl⟩;go_wp2
     go_ret
     exact ⟨ret_bool hz.out, rfl⟩
   · rw [if_neg h3] at hz
     have e3 : ((up : Int) == 3) = false := beq_eq_false_iff_ne.2 (by omega);by_cases h67 : (up = 6 ∨ up = 7) ∧ 0 < i
     · rw [if_pos h67] at hz
       obtain ⟨h6, hi⟩ := h67;replace hz := Lib.hid hz;rcases h6 with rfl | rfl
       · go_enter Tryz.func91, Tryz.ntmps91
         go_wp2
         go_ret
         exact ⟨ret_bool hz.out, rfl⟩
       · go_enter Tryz.func91, Tryz.ntmps91
         go_wp2
         go_ret
         exact ⟨ret_bool hz.out, rfl⟩
     · rw [if_neg h67] at hz
       by_cases h53 : up = 53
       · subst h53
         rw [if_pos rfl] at hz;replace hz := Lib.hid hz;go_enter Tryz.func91, Tryz.ntmps91
         go_wp2
         go_ret
         exact ⟨ret_bool hz.out, rfl⟩
       · rw [if_neg h53] at hz
         have e53 : ((up : Int) == 53) = false := beq_eq_false_iff_ne.2 (by omega);replace hz := Lib.hid hz;by_cases h6 : up = 6 ∨ up = 7
         · have hi : ¬ (0 : Int) < i := fun h => h67 ⟨h6, h⟩
           clear h67;rcases h6 with rfl | rfl
           · go_enter Tryz.func91, Tryz.ntmps91
             go_wp2_with fail
             refine (kE.out _).mono ?_;rintro e w2 ⟨rfl, rfl⟩;go_wp2
             go_ret
             exact ⟨ret_bool hz.out, rfl⟩
           · go_enter Tryz.func91, Tryz.ntmps91
             go_wp2_with fail
             refine (kE.out _).mono ?_;rintro e w2 ⟨rfl, rfl⟩;go_wp2
             go_ret
             exact ⟨ret_bool hz.out, rfl⟩
         · have e6 : ((up : Int) == 6) = false := beq_eq_false_iff_ne.2 (by omega)
           have e7 : ((up : Int) == 7) = false := beq_eq_false_iff_ne.2 (by omega);clear h67 h6;go_enter Tryz.func91, Tryz.ntmps91
           go_wp2_with fail
           refine (kE.out _).mono ?_;rintro e w2 ⟨rfl, rfl⟩;go_wp2
           go_ret
           exact ⟨ret_bool hz.out, rfl⟩
end Go.Proofs.YtngbekhegnmfaaaGreatDoor
namespace Go.Proofs.YtngbekhegnmfaaaGreatDoor
open Go.RowKit Go.Shelf
theorem lookK_pair : ∀ {L : List (Nat × Kind)} {op : Nat} {k : Kind}, lookK L op = some k → (op, k) ∈ L
 | [], _, _, h => by cases h
 | p :: r, op, k, h => by
   unfold lookK at h;split at h
   · rename_i e
     cases h
     subst e;exact List.mem_cons_self ..
   · exact List.mem_cons_of_mem _ (lookK_pair h)
theorem kind_parts {up : Nat} {k : Kind} (h : kindOf up = some k) : k.part = 0 ∨ (k.part = 1 ∧ up ≠ 1 ∧ up ≠ 3 ∧ up ≠ 6 ∧ up ≠ 7 ∧ up ≠ 53) ∨ (k.part = 2 ∧ up = 1) ∨ (k.part = 3 ∧ up = 3) ∨ (k.part = 4 ∧ (up = 6 ∨ up = 7)) ∨ (k.part = 5 ∧ up = 53) := by
 have a : ∀ p ∈ kindsL, p.2.part = 0 ∨ (p.2.part = 1 ∧ p.1 ≠ 1 ∧ p.1 ≠ 3 ∧ p.1 ≠ 6 ∧ p.1 ≠ 7 ∧ p.1 ≠ 53) ∨ (p.2.part = 2 ∧ p.1 = 1) ∨ (p.2.part = 3 ∧ p.1 = 3) ∨ (p.2.part = 4 ∧ (p.1 = 6 ∨ p.1 = 7)) ∨ (p.2.part = 5 ∧ p.1 = 53) := by decide
 exact a _ (lookK_pair h)
theorem part_doc {up : Nat} {k : Kind} (h : kindOf up = some k) (h0 : k.part ≠ 0) (op : Nat) {i n : Int} (hi : 0 ≤ i) (hn : i < n) : partOK k.part op i n = partR up i n op := by
 rcases kind_parts h with e | ⟨e, e1, e3, e6, e7, e53⟩ | ⟨e, rfl⟩ | ⟨e, rfl⟩ | ⟨e, e2⟩ | ⟨e, rfl⟩
 · exact absurd e h0
 · rw [e]
   unfold partOK partR;rw [if_pos rfl, if_neg e1, if_neg e3, if_neg (fun c => c.1.elim e6 e7), if_neg e53];rfl
 · rw [e]
   unfold partOK partR;rw [if_neg (by decide), if_pos rfl, if_pos rfl];by_cases c : i = n - 1
   · rw [if_pos c, if_neg (by omega)]
   · rw [if_neg c, if_pos (by omega)]
 · rw [e]; rfl
 · rw [e]
   unfold partOK partR;rw [if_neg (by decide), if_neg (by decide), if_neg (by decide), if_pos rfl, if_neg (show ¬ up = 1 by rcases e2 with rfl | rfl <;> decide), if_neg (show ¬ up = 3 by rcases e2 with rfl | rfl <;> decide)];by_cases c : i = 0
   · rw [if_pos c, if_neg (by omega), if_neg (show ¬ up = 53 by rcases e2 with rfl | rfl <;> decide)]
     rfl
   · rw [if_neg c, if_pos ⟨e2, by omega⟩]
 · rw [e]
   unfold partOK partR;rw [if_neg (by decide), if_neg (by decide), if_neg (by decide), if_neg (by decide), if_neg (by decide), if_neg (by decide), if_neg (by simp), if_pos rfl]
def fineB (x : Tw) : Bool :=
 (exprB x.op || stmtB x.op || (decide (1 ≤ x.op) && decide (x.op ≤ 3))) &&
 (if namedB x.op then textOK 1 x.text else if x.op = 24 then textOK 2 x.text else textOK 0 x.text) &&
 !(decide (x.num < 0) || (decide (0 < x.num) && x.op != 23)) &&
 (decide (leastN x.op ≤ x.kids) && ((decide (mostN x.op < 0) && decide (x.kids ≤ 2048)) || decide (x.kids ≤ mostN x.op)))
def anyK (op : Nat) : Bool := exprB op || stmtB op || (decide (1 ≤ op) && decide (op ≤ 3))
def kfB (op : Nat) : Option Kind → Bool
 | none => !anyK op
 | some k => anyK op && k.text == (if namedB op then 1 else if op = 24 then 2 else 0) && decide ((k.least : Int) = leastN op) && ((decide (mostN op = -1) && k.most == 2048) || (decide (0 ≤ mostN op) && decide ((k.most : Int) = mostN op)))
theorem kfB_all : ∀ op, op < 256 → kfB op (kindOf op) = true := by decide +kernel
theorem kind_facts : ∀ op, op < 256 → match kindOf op with
   | none => anyK op = false
   | some k => anyK op = true ∧ k.text = (if namedB op then 1 else if op = 24 then 2 else 0) ∧ (k.least : Int) = leastN op ∧ ((mostN op = -1 ∧ k.most = 2048) ∨ (0 ≤ mostN op ∧ (k.most : Int) = mostN op)) := by
 intro op h;have a := kfB_all op h
 revert a
 cases kindOf op with
 | none => intro a; simpa [kfB] using a
 | some k =>
   intro a;simp only [kfB, Bool.and_eq_true, Bool.or_eq_true, decide_eq_true_eq, beq_iff_eq] at a;exact ⟨a.1.1.1, a.1.1.2, a.1.2, a.2⟩
theorem fine_doc {x : Tw} (h : x.op < 256) : fineB x = match kindOf x.op with
   | none => false
   | some k => allowsB k x := by
 have f := kind_facts x.op h;rcases hk : kindOf x.op with _ | k
 · rw [hk] at f
   have f' : (exprB x.op || stmtB x.op || (decide (1 ≤ x.op) && decide (x.op ≤ 3))) = false := f;unfold fineB;rw [f', Bool.false_and, Bool.false_and, Bool.false_and]
 · rw [hk] at f
   obtain ⟨f1, f2, f3, f4⟩ := f;have f1' : (exprB x.op || stmtB x.op || (decide (1 ≤ x.op) && decide (x.op ≤ 3))) = true := f1;have ft : (if namedB x.op then textOK 1 x.text else if x.op = 24 then textOK 2 x.text else textOK 0 x.text) = textOK k.text x.text := by
     rw [f2];by_cases a : namedB x.op = true
     · rw [if_pos a, if_pos a]
     · rw [if_neg a, if_neg a]
       by_cases b : x.op = 24
       · rw [if_pos b, if_pos b]
       · rw [if_neg b, if_neg b]
   unfold fineB;rw [f1', ft, Bool.true_and];show _ = allowsB k x
   unfold allowsB;rw [← f3];have fn : (!(decide (x.num < 0) || (decide (0 < x.num) && x.op != 23))) = (x.num == 0 || ((x.op : Int) == 23 && decide (0 < x.num))) := by
     by_cases a : x.num < 0
     · have b1 : (x.num == 0) = false := beq_eq_false_iff_ne.2 (by omega)
       have b2 : ¬ 0 < x.num := by omega
       simp [a, b1, b2]
     · by_cases b : x.num = 0
       · simp [b]
       · have b1 : (x.num == 0) = false := beq_eq_false_iff_ne.2 b
         have b2 : 0 < x.num := by omega
         by_cases c : x.op = 23
         · simp [a, b1, b2, c]
         · have c1 : ((x.op : Int) == 23) = false := beq_eq_false_iff_ne.2 (by omega)
           simp [a, b1, b2, c, c1]
   have fk : ((decide (mostN x.op < 0) && decide (x.kids ≤ 2048)) || decide (x.kids ≤ mostN x.op)) = decide (x.kids ≤ (k.most : Int)) ∨ ¬ (k.least : Int) ≤ x.kids := by
     rcases f4 with ⟨m1, m2⟩ | ⟨m1, m2⟩
     · by_cases c : (k.least : Int) ≤ x.kids
       · refine .inl ?_
         rw [m1, m2];have : (0 : Int) ≤ k.least := by omega
         have c2 : ¬ x.kids ≤ -1 := by omega
         simp [c2]
       · exact .inr c
     · refine .inl ?_
       rw [m2];have : ¬ mostN x.op < 0 := by omega
       simp [this]
   rw [fn];rcases fk with fk | fk
   · rw [fk]
     cases textOK k.text x.text <;> cases (x.num == 0 || ((x.op : Int) == 23 && decide (0 < x.num))) <;> cases decide ((k.least : Int) ≤ x.kids) <;> cases decide (x.kids ≤ (k.most : Int)) <;> rfl
   · have g : decide ((k.least : Int) ≤ x.kids) = false := decide_eq_false fk
     rw [g];simp
end Go.Proofs.YtngbekhegnmfaaaGreatDoor
