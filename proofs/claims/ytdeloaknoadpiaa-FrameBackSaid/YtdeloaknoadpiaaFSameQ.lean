/- The document's Same, told as a call that only draws (layer 6). -/
import Derived.Test.YtdeloaknoadpiaaFPair
namespace Go.Proofs.Ytdeloaknoadpiaa
open Go.RowKit Crc
section
variable {w : World} {ls : List (List Nat)}
theorem drewN_add (w : World) (a b : Nat) : (w.drewN a).drewN b = w.drewN (a + b) := by
  simp [World.drewN, Nat.add_assoc]

set_option maxRecDepth 20000 in
set_option maxHeartbeats 1000000 in
theorem same_quiet {v1 v2 : Value} (h1 : Rows2 w v1 ls) (h2 : Rows2 w v2 ls) :
    Calls Try.prog 22 #[v1, v2] w fun e w' => e = .returned (.bool true) ∧ ∃ n, w' = w.drewN n := by
  obtain ⟨a1, cap1, rfl, _, _, k1⟩ := h1
  obtain ⟨a2, cap2, rfl, hlc, hcm, k2⟩ := h2
  have hne : ((ls.length : Int) != (ls.length : Int)) = false := by simp
  replace k1 := Lib.hid k1
  replace k2 := Lib.hid k2
  go_enter Try.func22, Try.ntmps22
  go_wp2
  go_loopw [5] (fun t5 wr => ∃ i k : Nat, i ≤ ls.length ∧ t5 = .int .i64 i ∧ wr = w.drewN k) (fun t5 _ => ls.length - (intOf t5).toNat)
  case atStart => exact ⟨0, 0, by omega, rfl, rfl⟩
  case round =>
    obtain ⟨i, k, hi, rfl, hwr⟩ := hrel
    have hbw : Below w.heap.size w wr := by rw [hwr]; exact below_drewN (Below.refl _ _) _
    rcases Nat.lt_or_ge i ls.length with hlt | hge
    · obtain ⟨b1, o1, rfl, hl1, hc1⟩ := k1.out (by omega)
      obtain ⟨b2, o2, rfl, hl2, hc2⟩ := k2.out (by omega)
      obtain ⟨u1, x1, y1⟩ := hc1 i hlt
      obtain ⟨u2, x2, y2⟩ := hc2 i hlt
      have x1' : wr.cell? ⟨b1, o1 + i, none⟩ = some u1 := (hbw.cell (p := ⟨b1, o1 + i, none⟩) hl1).trans x1
      have x2' : wr.cell? ⟨b2, o2 + i, none⟩ = some u2 := (hbw.cell (p := ⟨b2, o2 + i, none⟩) hl2).trans x2
      have z1 : ∀ W, Below w.heap.size w W → (convert 22 9 u1).run Try.prog W = .ok (.string (bytesB (ls.getD i []))) W := fun W hb => (y1.below hb).string
      have z2 : ∀ W, Below w.heap.size w W → (convert 22 9 u2).run Try.prog W = .ok (.string (bytesB (ls.getD i []))) W := fun W hb => (y2.below hb).string
      have z1' := fun n => z1 (wr.drewN n) (below_drewN hbw _)
      have z2' := fun n => z2 (wr.drewN n) (below_drewN hbw _)
      obtain ⟨ua1, uc1, rfl, _⟩ := y1
      obtain ⟨ua2, uc2, rfl, _⟩ := y2
      generalize ls.getD i [] = m at *
      generalize bytesB m = S at *
      have hSS := str_self S
      have hlti : (i : Int) < (ls.length : Int) := by omega
      clear z1 z2 x1 x2 hc1 hc2
      replace hbw := Lib.hid hbw
      replace hwr := Lib.hid hwr
      go_wp2
      go_quiet (fail)
      go_wp2
      go_roundw
      case rel => exact ⟨i + 1, k + nq, by omega, by go_num, by rw [hwr.out, drewN_add]⟩
      case measure => simp [intOf]; omega
    · obtain rfl : i = ls.length := by omega
      have hlti : ¬ ((ls.length : Int) < (ls.length : Int)) := by omega
      replace hwr := Lib.hid hwr
      go_wp2
      go_ret
      exact ⟨rfl, k, hwr.out⟩
end
end Go.Proofs.Ytdeloaknoadpiaa
