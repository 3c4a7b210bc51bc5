/- The document's named, Least and Most (layer 8), walked; made by tools/mkrdoc1.py. No condition. -/
import Derived.Test.YtnghfjlmmmjekaaRLeaf
namespace Go.Proofs.Ytnghfjlmmmjekaa
open Go.RowKit

def namedB (op : Nat) : Bool := op == 1 || op == 2 || op == 4 || op == 5 || op == 26 || op == 56 || op == 50 || op == 51
def leastN (op : Nat) : Int := if op == 2 || op == 3 || (decide (20 ≤ op) && decide (op ≤ 26)) || op == 50 || op == 51 || op == 56 || op == 57 then 0 else if op == 6 || op == 7 || (decide (30 ≤ op) && decide (op ≤ 42)) then 2 else 1
def mostN (op : Nat) : Int := if op == 1 || op == 3 || op == 25 || op == 50 || op == 51 then -1 else if op == 6 then 3 else leastN op
set_option maxRecDepth 20000 in
set_option maxHeartbeats 1000000 in
theorem refNamed_any (op : Nat) (w : World) : Calls Try.prog 62 #[.int .u8 (op : Int)] w fun e w' => e = .returned (.bool (namedB op)) ∧ w' = w := by
  by_cases h1 : op = 1
  · subst h1
    go_enter Try.func62, Try.ntmps62
    go_wp2
    go_ret
    exact ⟨rfl, rfl⟩
  by_cases h2 : op = 2
  · subst h2
    go_enter Try.func62, Try.ntmps62
    go_wp2
    go_ret
    exact ⟨rfl, rfl⟩
  by_cases h4 : op = 4
  · subst h4
    go_enter Try.func62, Try.ntmps62
    go_wp2
    go_ret
    exact ⟨rfl, rfl⟩
  by_cases h5 : op = 5
  · subst h5
    go_enter Try.func62, Try.ntmps62
    go_wp2
    go_ret
    exact ⟨rfl, rfl⟩
  by_cases h26 : op = 26
  · subst h26
    go_enter Try.func62, Try.ntmps62
    go_wp2
    go_ret
    exact ⟨rfl, rfl⟩
  by_cases h56 : op = 56
  · subst h56
    go_enter Try.func62, Try.ntmps62
    go_wp2
    go_ret
    exact ⟨rfl, rfl⟩
  by_cases h50 : op = 50
  · subst h50
    go_enter Try.func62, Try.ntmps62
    go_wp2
    go_ret
    exact ⟨rfl, rfl⟩
  by_cases h51 : op = 51
  · subst h51
    go_enter Try.func62, Try.ntmps62
    go_wp2
    go_ret
    exact ⟨rfl, rfl⟩
  have e1 : ((op : Int) == 1) = false := beq_eq_false_iff_ne.2 (by omega)
  have n1 : (op == 1) = false := beq_eq_false_iff_ne.2 h1
  have e2 : ((op : Int) == 2) = false := beq_eq_false_iff_ne.2 (by omega)
  have n2 : (op == 2) = false := beq_eq_false_iff_ne.2 h2
  have e4 : ((op : Int) == 4) = false := beq_eq_false_iff_ne.2 (by omega)
  have n4 : (op == 4) = false := beq_eq_false_iff_ne.2 h4
  have e5 : ((op : Int) == 5) = false := beq_eq_false_iff_ne.2 (by omega)
  have n5 : (op == 5) = false := beq_eq_false_iff_ne.2 h5
  have e26 : ((op : Int) == 26) = false := beq_eq_false_iff_ne.2 (by omega)
  have n26 : (op == 26) = false := beq_eq_false_iff_ne.2 h26
  have e56 : ((op : Int) == 56) = false := beq_eq_false_iff_ne.2 (by omega)
  have n56 : (op == 56) = false := beq_eq_false_iff_ne.2 h56
  have e50 : ((op : Int) == 50) = false := beq_eq_false_iff_ne.2 (by omega)
  have n50 : (op == 50) = false := beq_eq_false_iff_ne.2 h50
  have e51 : ((op : Int) == 51) = false := beq_eq_false_iff_ne.2 (by omega)
  have n51 : (op == 51) = false := beq_eq_false_iff_ne.2 h51
  have hd := Lib.hid (show namedB op = false by unfold namedB; simp [n1, n2, n4, n5, n26, n56, n50, n51])
  clear n1 h1 n2 h2 n4 h4 n5 h5 n26 h26 n56 h56 n50 h50 n51 h51
  go_enter Try.func62, Try.ntmps62
  go_wp2
  go_ret
  exact ⟨by rw [hd.out]; rfl, rfl⟩
set_option maxRecDepth 20000 in
set_option maxHeartbeats 1000000 in
theorem refLeast_any (op : Nat) (w : World) : Calls Try.prog 64 #[.int .u8 (op : Int)] w fun e w' => e = .returned (.int .i64 (leastN op)) ∧ w' = w := by
  by_cases h2 : op = 2
  · subst h2
    go_enter Try.func64, Try.ntmps64
    go_wp2
    go_ret
    exact ⟨rfl, rfl⟩
  by_cases h3 : op = 3
  · subst h3
    go_enter Try.func64, Try.ntmps64
    go_wp2
    go_ret
    exact ⟨rfl, rfl⟩
  by_cases h50 : op = 50
  · subst h50
    go_enter Try.func64, Try.ntmps64
    go_wp2
    go_ret
    exact ⟨rfl, rfl⟩
  by_cases h51 : op = 51
  · subst h51
    go_enter Try.func64, Try.ntmps64
    go_wp2
    go_ret
    exact ⟨rfl, rfl⟩
  by_cases h56 : op = 56
  · subst h56
    go_enter Try.func64, Try.ntmps64
    go_wp2
    go_ret
    exact ⟨rfl, rfl⟩
  by_cases h57 : op = 57
  · subst h57
    go_enter Try.func64, Try.ntmps64
    go_wp2
    go_ret
    exact ⟨rfl, rfl⟩
  by_cases h6 : op = 6
  · subst h6
    go_enter Try.func64, Try.ntmps64
    go_wp2
    go_ret
    exact ⟨rfl, rfl⟩
  by_cases h7 : op = 7
  · subst h7
    go_enter Try.func64, Try.ntmps64
    go_wp2
    go_ret
    exact ⟨rfl, rfl⟩
  have e2 : ((op : Int) == 2) = false := beq_eq_false_iff_ne.2 (by omega)
  have n2 : (op == 2) = false := beq_eq_false_iff_ne.2 h2
  have e3 : ((op : Int) == 3) = false := beq_eq_false_iff_ne.2 (by omega)
  have n3 : (op == 3) = false := beq_eq_false_iff_ne.2 h3
  have e50 : ((op : Int) == 50) = false := beq_eq_false_iff_ne.2 (by omega)
  have n50 : (op == 50) = false := beq_eq_false_iff_ne.2 h50
  have e51 : ((op : Int) == 51) = false := beq_eq_false_iff_ne.2 (by omega)
  have n51 : (op == 51) = false := beq_eq_false_iff_ne.2 h51
  have e56 : ((op : Int) == 56) = false := beq_eq_false_iff_ne.2 (by omega)
  have n56 : (op == 56) = false := beq_eq_false_iff_ne.2 h56
  have e57 : ((op : Int) == 57) = false := beq_eq_false_iff_ne.2 (by omega)
  have n57 : (op == 57) = false := beq_eq_false_iff_ne.2 h57
  have e6 : ((op : Int) == 6) = false := beq_eq_false_iff_ne.2 (by omega)
  have n6 : (op == 6) = false := beq_eq_false_iff_ne.2 h6
  have e7 : ((op : Int) == 7) = false := beq_eq_false_iff_ne.2 (by omega)
  have n7 : (op == 7) = false := beq_eq_false_iff_ne.2 h7
  by_cases c1 : op < 20
  · have cc := c1
    have f0 : ¬ (20 : Int) ≤ (op : Int) := by omega
    have f1 : ¬ (30 : Int) ≤ (op : Int) := by omega
    have g0 : ¬ 20 ≤ op := by omega
    have g1 : ¬ 30 ≤ op := by omega
    have hd := Lib.hid (show leastN op = 1 by unfold leastN; simp [n2, n3, n50, n51, n56, n57, n6, n7, g0, g1])
    clear g0 g1 n2 h2 n3 h3 n50 h50 n51 h51 n56 h56 n57 h57 n6 h6 n7 h7
    clear cc c1
    go_enter Try.func64, Try.ntmps64
    go_wp2
    go_ret
    exact ⟨by rw [hd.out]; rfl, rfl⟩
  by_cases c2 : op ≤ 26
  · have cc := c2
    have f0 : (20 : Int) ≤ (op : Int) := by omega
    have f1 : (op : Int) ≤ 26 := by omega
    have g0 : 20 ≤ op := by omega
    have g1 : op ≤ 26 := by omega
    have hd := Lib.hid (show leastN op = 0 by unfold leastN; simp [n2, n3, n50, n51, n56, n57, g0, g1])
    clear g0 g1 n2 h2 n3 h3 n50 h50 n51 h51 n56 h56 n57 h57 n6 h6 n7 h7
    clear cc c1 c2
    go_enter Try.func64, Try.ntmps64
    go_wp2
    go_ret
    exact ⟨by rw [hd.out]; rfl, rfl⟩
  by_cases c3 : op < 30
  · have cc := c3
    have f0 : (20 : Int) ≤ (op : Int) := by omega
    have f1 : ¬ (op : Int) ≤ 26 := by omega
    have f2 : ¬ (30 : Int) ≤ (op : Int) := by omega
    have g0 : 20 ≤ op := by omega
    have g1 : ¬ op ≤ 26 := by omega
    have g2 : ¬ 30 ≤ op := by omega
    have hd := Lib.hid (show leastN op = 1 by unfold leastN; simp [n2, n3, n50, n51, n56, n57, n6, n7, g0, g1, g2])
    clear g0 g1 g2 n2 h2 n3 h3 n50 h50 n51 h51 n56 h56 n57 h57 n6 h6 n7 h7
    clear cc c1 c2 c3
    go_enter Try.func64, Try.ntmps64
    go_wp2
    go_ret
    exact ⟨by rw [hd.out]; rfl, rfl⟩
  by_cases c4 : op ≤ 42
  · have cc := c4
    have f0 : (20 : Int) ≤ (op : Int) := by omega
    have f1 : ¬ (op : Int) ≤ 26 := by omega
    have f2 : (30 : Int) ≤ (op : Int) := by omega
    have f3 : (op : Int) ≤ 42 := by omega
    have g0 : 20 ≤ op := by omega
    have g1 : ¬ op ≤ 26 := by omega
    have g2 : 30 ≤ op := by omega
    have g3 : op ≤ 42 := by omega
    have hd := Lib.hid (show leastN op = 2 by unfold leastN; simp [n2, n3, n50, n51, n56, n57, n6, n7, g0, g1, g2, g3])
    clear g0 g1 g2 g3 n2 h2 n3 h3 n50 h50 n51 h51 n56 h56 n57 h57 n6 h6 n7 h7
    clear cc c1 c2 c3 c4
    go_enter Try.func64, Try.ntmps64
    go_wp2
    go_ret
    exact ⟨by rw [hd.out]; rfl, rfl⟩
  have f0 : (20 : Int) ≤ (op : Int) := by omega
  have f1 : ¬ (op : Int) ≤ 26 := by omega
  have f2 : (30 : Int) ≤ (op : Int) := by omega
  have f3 : ¬ (op : Int) ≤ 42 := by omega
  have g0 : 20 ≤ op := by omega
  have g1 : ¬ op ≤ 26 := by omega
  have g2 : 30 ≤ op := by omega
  have g3 : ¬ op ≤ 42 := by omega
  have hd := Lib.hid (show leastN op = 1 by unfold leastN; simp [n2, n3, n50, n51, n56, n57, n6, n7, g0, g1, g2, g3])
  clear g0 g1 g2 g3 n2 h2 n3 h3 n50 h50 n51 h51 n56 h56 n57 h57 n6 h6 n7 h7
  go_enter Try.func64, Try.ntmps64
  go_wp2
  go_ret
  exact ⟨by rw [hd.out]; rfl, rfl⟩
set_option maxRecDepth 20000 in
set_option maxHeartbeats 1000000 in
theorem refMost_any (op : Nat) (w : World) : Calls Try.prog 65 #[.int .u8 (op : Int)] w fun e w' => e = .returned (.int .i64 (mostN op)) ∧ w' = w := by
  by_cases h1 : op = 1
  · subst h1
    go_enter Try.func65, Try.ntmps65
    go_wp2
    go_ret
    exact ⟨rfl, rfl⟩
  by_cases h3 : op = 3
  · subst h3
    go_enter Try.func65, Try.ntmps65
    go_wp2
    go_ret
    exact ⟨rfl, rfl⟩
  by_cases h25 : op = 25
  · subst h25
    go_enter Try.func65, Try.ntmps65
    go_wp2
    go_ret
    exact ⟨rfl, rfl⟩
  by_cases h50 : op = 50
  · subst h50
    go_enter Try.func65, Try.ntmps65
    go_wp2
    go_ret
    exact ⟨rfl, rfl⟩
  by_cases h51 : op = 51
  · subst h51
    go_enter Try.func65, Try.ntmps65
    go_wp2
    go_ret
    exact ⟨rfl, rfl⟩
  by_cases h6 : op = 6
  · subst h6
    go_enter Try.func65, Try.ntmps65
    go_wp2
    go_ret
    exact ⟨rfl, rfl⟩
  have e1 : ((op : Int) == 1) = false := beq_eq_false_iff_ne.2 (by omega)
  have n1 : (op == 1) = false := beq_eq_false_iff_ne.2 h1
  have e3 : ((op : Int) == 3) = false := beq_eq_false_iff_ne.2 (by omega)
  have n3 : (op == 3) = false := beq_eq_false_iff_ne.2 h3
  have e25 : ((op : Int) == 25) = false := beq_eq_false_iff_ne.2 (by omega)
  have n25 : (op == 25) = false := beq_eq_false_iff_ne.2 h25
  have e50 : ((op : Int) == 50) = false := beq_eq_false_iff_ne.2 (by omega)
  have n50 : (op == 50) = false := beq_eq_false_iff_ne.2 h50
  have e51 : ((op : Int) == 51) = false := beq_eq_false_iff_ne.2 (by omega)
  have n51 : (op == 51) = false := beq_eq_false_iff_ne.2 h51
  have e6 : ((op : Int) == 6) = false := beq_eq_false_iff_ne.2 (by omega)
  have n6 : (op == 6) = false := beq_eq_false_iff_ne.2 h6
  have hd : mostN op = leastN op := by unfold mostN; simp [n1, n3, n25, n50, n51, n6]
  rw [hd]
  have kL := Lib.hid (fun W => refLeast_any op W)
  generalize leastN op = z at *
  clear hd n1 h1 n3 h3 n25 h25 n50 h50 n51 h51 n6 h6
  go_enter Try.func65, Try.ntmps65
  go_wp2_with fail
  refine (kL.out _).mono ?_
  rintro e w2 ⟨rfl, rfl⟩
  go_wp2
  go_ret
  exact ⟨rfl, rfl⟩
end Go.Proofs.Ytnghfjlmmmjekaa
