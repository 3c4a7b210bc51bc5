/- token.isTold (layer 7), walked. Condition: token.signs holds the signs. -/
import Derived.Test.YtkmhdhnoghbkgaaGreatDoorQ30
set_option linter.unusedVariables false
/- token.isTold (layer 7), walked. Condition: token.signs holds the signs. -/
namespace Go.Proofs.YtkmhdhnoghbkgaaGreatDoor
open Go.RowKit Tok

theorem tname_at {tx : List UInt8} {b : Bool} (h : nameL tx = b) (hl : tx.length ≤ 9223372036854775807) (W : World) :
    Calls Tryz.prog 73 #[.string ⟨tx.toArray⟩] W fun e w' => e = .returned (.bool b) ∧ w' = W := by
  have h1 := name_any ⟨tx.toArray⟩ W (by simp [ByteArray.size]; omega)
  refine h1.mono fun e w' ⟨he, hw⟩ => ⟨?_, hw.symm⟩
  rw [he]
  exact ret_bool (by simpa using h)
theorem sign_at {tx : List UInt8} {b : Bool} (h : decide (tx ∈ signs) = b) (W : World) (hS : SignsOK W) :
    Calls Tryz.prog 74 #[.string ⟨tx.toArray⟩] W fun e w' => e = .returned (.bool b) ∧ w' = W := by
  have h1 := isSign_any tx W hS
  rw [h] at h1
  exact h1
theorem tx_none (tx : List UInt8) {b : Bool} (h : decide (tx = []) = b) : (tx == []) = b := by
  subst h
  by_cases hx : tx = []
  · rw [hx]; rfl
  · rw [decide_eq_false hx]; exact beq_eq_false_iff_ne.2 hx
theorem len_most (tx : List UInt8) {b : Bool} (h : decide (tx.length ≤ 4095) = b) : decide ((tx.length : Int) ≤ 4095) = b := by
  rw [← h]
  exact decide_eq_decide.2 (by omega)
theorem num_none (x : Int) {b : Bool} (h : decide (x = 0) = b) : (x == 0) = b := by
  subst h
  by_cases hx : x = 0
  · rw [hx]; rfl
  · rw [decide_eq_false hx]; exact beq_eq_false_iff_ne.2 hx

set_option maxRecDepth 20000 in
set_option maxHeartbeats 4000000 in
theorem isTold_any (t : Tg) (w : World) (hS : SignsOK w) (hl : t.text.length ≤ 9223372036854775807) :
    Calls Tryz.prog 38 #[tgV t] w fun e w' => e = .returned (.bool (told t)) ∧ Below w.heap.size w w' := by
  obtain ⟨kd, tx, x, at_⟩ := t
  obtain ⟨B, hB⟩ := exHid (told ⟨kd, tx, x, at_⟩)
  rw [hB.out]
  unfold tgV; dsimp only at *
  have hk := Below.refl w.heap.size w
  have hB' := hB.out
  unfold told at hB'; dsimp only at hB'
  clear hB
  by_cases c1 : kd = 1
  · subst c1; rw [if_pos rfl] at hB'
    rcases hn : nameL tx with _ | _ <;> rcases hx : decide (x = 0) with _ | _
    all_goals
      rw [hn, hx] at hB'
      have kN := Lib.hid (fun W => tname_at hn hl W)
      replace hB' := Lib.hid hB'
      have q := num_none x hx
      clear hn hx hS
      go_enter Tryz.func38, Tryz.ntmps38
      go_wp2
      go_region_with (go_at_call 73; refine (kN.out _).mono ?_; rintro e w' ⟨rfl, rfl⟩)
      all_goals
        go_wp2
        go_ret
        exact ⟨ret_bool (by rw [← hB'.out]; try rfl), by go_grown⟩
  · rw [if_neg c1] at hB'
    have n1 : ((kd : Int) == 1) = false := beq_eq_false_iff_ne.2 (by omega)
    by_cases c2 : kd = 2
    · subst c2; rw [if_pos rfl] at hB'
      rcases hn : decide (0 ≤ x) with _ | _ <;> rcases hx : decide (tx = []) with _ | _
      all_goals
        rw [hn, hx] at hB'
        replace hB' := Lib.hid hB'
        have q := tx_none tx hx
        replace hx := Lib.hid hx
        clear hS
        go_enter Tryz.func38, Tryz.ntmps38
        go_wp2
        go_region
        all_goals
          go_wp2
          go_ret
          exact ⟨ret_bool (by rw [← hB'.out]; try rfl), by go_grown⟩
    · rw [if_neg c2] at hB'
      have n2 : ((kd : Int) == 2) = false := beq_eq_false_iff_ne.2 (by omega)
      by_cases c3 : kd = 3
      · subst c3; rw [if_pos rfl] at hB'
        rcases hn : decide (tx.length ≤ 4095) with _ | _ <;> rcases hx : decide (x = 0) with _ | _
        all_goals
          rw [hn, hx] at hB'
          replace hB' := Lib.hid hB'
          have q := num_none x hx
          have q2 := len_most tx hn
          clear hn hx hS
          go_enter Tryz.func38, Tryz.ntmps38
          go_wp2
          go_region
          all_goals
            go_wp2
            go_ret
            exact ⟨ret_bool (by rw [← hB'.out]; try rfl), by go_grown⟩
      · rw [if_neg c3] at hB'
        have n3 : ((kd : Int) == 3) = false := beq_eq_false_iff_ne.2 (by omega)
        by_cases c4 : kd = 4
        · subst c4; rw [if_pos rfl] at hB'
          rcases hn : decide (tx ∈ signs) with _ | _ <;> rcases hx : decide (x = 0) with _ | _
          all_goals
            rw [hn, hx] at hB'
            have kS := Lib.hid (fun W (hW : Below w.heap.size w W) => sign_at hn W (hS.below hW))
            replace hB' := Lib.hid hB'
            have q := num_none x hx
            clear hn hx hS
            go_enter Tryz.func38, Tryz.ntmps38
            go_wp2
            go_region_with (go_at_call 74; refine (kS.out _ (by go_grown)).mono ?_; rintro e w' ⟨rfl, rfl⟩)
            all_goals
              go_wp2
              go_ret
              exact ⟨ret_bool (by rw [← hB'.out]; try rfl), by go_grown⟩
        · rw [if_neg c4] at hB'
          have n4 : ((kd : Int) == 4) = false := beq_eq_false_iff_ne.2 (by omega)
          replace hB' := Lib.hid hB'
          clear hS
          go_enter Tryz.func38, Tryz.ntmps38
          go_wp2
          go_ret
          exact ⟨ret_bool (by rw [← hB'.out]; try rfl), by go_grown⟩
end Go.Proofs.YtkmhdhnoghbkgaaGreatDoor
