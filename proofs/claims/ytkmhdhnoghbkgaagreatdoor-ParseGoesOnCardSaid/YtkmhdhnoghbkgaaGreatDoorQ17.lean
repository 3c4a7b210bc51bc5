/- slices.Contains of texts (layer 9), walked. Lists of at most 1000 texts. -/
import Derived.Test.YtkmhdhnoghbkgaaGreatDoorQ12
set_option linter.unusedVariables false
/- slices.Contains of texts (layer 9), walked. Lists of at most 1000 texts. -/
namespace Go.Proofs.YtkmhdhnoghbkgaaGreatDoor
open Go.RowKit Go.Shelf Tok

/-- Texts lie in memory as v. -/
def StrsIn (w : World) (g n : Nat) (ms : List (List UInt8)) : Prop := n = ms.length ∧ ∀ i (h : i < ms.length), w.cell? ⟨g, i, none⟩ = some (.string ⟨ms[i].toArray⟩)
theorem StrsIn.keep {w W : World} {F : Nat → Prop} {g n : Nat} {ms : List (List UInt8)} (h : StrsIn w g n ms) (ho : Only F w W) (hF : ¬ F g) : StrsIn W g n ms :=
  ⟨h.1, fun i hi => (ho.cell (p := ⟨g, i, none⟩) (World.block_lt_of_cell? w _ (h.2 i hi)) hF).trans (h.2 i hi)⟩
set_option maxRecDepth 20000 in
set_option maxHeartbeats 1000000 in
theorem index_any {w : World} {g n : Nat} {ms : List (List UInt8)} (h : StrsIn w g n ms) (hn : n ≤ 1000) (m : List UInt8) :
    Calls Tryz.prog 135 #[.slice (some ⟨g, 0, none⟩) n n, .string ⟨m.toArray⟩] w fun e w' => ∃ r : Int, e = .returned (.int .i64 r) ∧ (m ∈ ms ↔ 0 ≤ r) ∧ w' = w := by
  obtain ⟨hl, hc⟩ := h
  replace hc := Lib.hid hc
  go_enter Tryz.func135, Tryz.ntmps135
  go_wp2_with fail
  go_loop [5, 8] (fun t5 t8 => ∃ i : Nat, i ≤ n ∧ t8 = .int .i64 i ∧ Hid (∀ j (h : j < ms.length), j < i → ms[j] ≠ m)) (fun _ t8 => n - (intOf t8).toNat)
  case atStart => exact ⟨0, by omega, by go_num, Lib.hid (fun j h h0 => by omega)⟩
  case round =>
    obtain ⟨i, hi, rfl, hno⟩ := hrel
    rcases Nat.lt_or_ge i n with hlt | hge
    · have hlti : (i : Int) < (n : Int) := by omega
      have hil : i < ms.length := by omega
      have hci := hc.out i hil
      by_cases hq : ms[i] = m
      · have hmem : m ∈ ms := by rw [← hq]; exact List.getElem_mem hil
        rw [hq] at hci
        have e1 : (m == m) = true := beq_self_eq_true _
        replace hmem := Lib.hid hmem; replace hq := Lib.hid hq
        go_wp2_with fail
        go_ret
        exact ⟨_, rfl, ⟨fun _ => by omega, fun _ => hmem.out⟩, rfl⟩
      · have hno2 := Lib.hid (fun j (h : j < ms.length) (h0 : j < i + 1) => (show ms[j] ≠ m from by
          rcases Nat.lt_or_ge j i with h1 | h1
          · exact hno.out j h h1
          · obtain rfl : j = i := by omega
            exact hq))
        generalize ms[i] = T at *
        have e1 : (m == T) = false := beq_eq_false_iff_ne.2 (fun e => hq e.symm)
        replace hq := Lib.hid hq
        go_wp2_with fail
        go_round
        case rel => exact ⟨i + 1, by omega, by go_num, hno2⟩
        case measure => simp [intOf]; omega
    · obtain rfl : i = n := by omega
      have hlti : ¬ ((i : Int) < (i : Int)) := by omega
      have hnm := Lib.hid (fun hm : m ∈ ms => by
        obtain ⟨j, hj, e⟩ := List.getElem_of_mem hm
        exact hno.out j hj (by omega) e)
      go_wp2_with fail
      go_ret
      exact ⟨-1, rfl, ⟨fun hm => (hnm.out hm).elim, fun h => by omega⟩, rfl⟩
set_option maxRecDepth 20000 in
set_option maxHeartbeats 1000000 in
theorem contains_any {w : World} {g n : Nat} {ms : List (List UInt8)} (h : StrsIn w g n ms) (hn : n ≤ 1000) (m : List UInt8) {b : Bool} (hb : decide (m ∈ ms) = b) :
    Calls Tryz.prog 99 #[.slice (some ⟨g, 0, none⟩) n n, .string ⟨m.toArray⟩] w fun e w' => e = .returned (.bool b) ∧ w' = w := by
  have c := Lib.hid (index_any h hn m)
  clear h
  go_enter Tryz.func99, Tryz.ntmps99
  go_wp2_with fail
  refine c.out.mono ?_
  rintro e w1 ⟨r, rfl, hr, rfl⟩
  have hb2 : decide ((0 : Int) ≤ r) = b := by rw [← hb]; exact decide_eq_decide.2 hr.symm
  replace hr := Lib.hid hr; replace hb := Lib.hid hb
  go_wp2_with fail
  go_ret
  exact ⟨rfl, rfl⟩
end Go.Proofs.YtkmhdhnoghbkgaaGreatDoor
