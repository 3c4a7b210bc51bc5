/- The document's Alike of two lists of the same instructions (layer 15), walked. No condition. -/
import Derived.Test.YtefijbpbenmbgaaDoorIIn
import Derived.BigQuiet
import Derived.LoopTactic
import Derived.IntWalk
namespace Go.Proofs.YtefijbpbenmbgaaDoor
open Go.RowKit

set_option maxRecDepth 20000 in
set_option maxHeartbeats 1000000 in
theorem alike15_ins {w : World} {v1 v2 : Value} {ts : List Ins} (h1 : InsIn w v1 ts) (h2 : InsIn w v2 ts) :
    Calls Tryd.prog 11 #[v1, v2] w fun e w' => e = .returned (.bool true) ∧ Below w.heap.size w w' := by
  obtain ⟨a1, cap1, rfl, _, _, k1⟩ := h1
  obtain ⟨a2, cap2, rfl, hlc, hcm, k2⟩ := h2
  have hne : ((ts.length : Int) != (ts.length : Int)) = false := by simp
  replace k1 := Lib.hid k1
  replace k2 := Lib.hid k2
  go_enter Tryd.func11, Tryd.ntmps11
  go_wp2
  go_loopw [5] (fun t5 wr => ∃ i : Nat, i ≤ ts.length ∧ t5 = .int .i64 i ∧ Below w.heap.size w wr) (fun t5 _ => ts.length - (intOf t5).toNat)
  case atStart => exact ⟨0, by omega, rfl, Below.refl _ _⟩
  case round =>
    obtain ⟨i, hi, rfl, hbw⟩ := hrel
    rcases Nat.lt_or_ge i ts.length with hlt | hge
    · obtain ⟨b1, o1, rfl, hl1, hc1⟩ := k1.out (by omega)
      obtain ⟨b2, o2, rfl, hl2, hc2⟩ := k2.out (by omega)
      have hlti : (i : Int) < (ts.length : Int) := by omega
      have x1 := fun n c (h : c < 4) => ((below_drewN hbw n).cell (p := ⟨b1, o1 + i * 4 + c, none⟩) hl1).trans (hc1 i hlt c h)
      have x2 := fun n c (h : c < 4) => ((below_drewN hbw n).cell (p := ⟨b2, o2 + i * 4 + c, none⟩) hl2).trans (hc2 i hlt c h)
      generalize ts[i] = t at *
      obtain ⟨op, kids, num, text⟩ := t
      have p0 := fun n => x1 n 0 (by omega); have p1 := fun n => x1 n 1 (by omega); have p2 := fun n => x1 n 2 (by omega); have p3 := fun n => x1 n 3 (by omega)
      have q0 := fun n => x2 n 0 (by omega); have q1 := fun n => x2 n 1 (by omega); have q2 := fun n => x2 n 2 (by omega); have q3 := fun n => x2 n 3 (by omega)
      simp only [insC, List.getElem?_cons_succ, List.getElem?_cons_zero, Nat.add_zero] at p0 p1 p2 p3 q0 q1 q2 q3
      clear x1 x2 hc1 hc2
      replace hbw := Lib.hid hbw
      go_wp2
      go_quiet (fail)
      go_wp2
      go_roundw
      case rel => exact ⟨i + 1, by omega, by go_num, below_drewN hbw.out _⟩
      case measure => simp [intOf]; omega
    · obtain rfl : i = ts.length := by omega
      have hlti : ¬ ((ts.length : Int) < (ts.length : Int)) := by omega
      go_wp2
      go_ret
      exact ⟨rfl, hbw⟩

end Go.Proofs.YtefijbpbenmbgaaDoor
