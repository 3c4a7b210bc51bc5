/- The document's sign (layer 7), walked. No condition. -/
import Derived.Test.YtmgbebpkkidooaaDoorTDocS
namespace Go.Proofs.YtmgbebpkkidooaaDoor
open Go.RowKit Tok

theorem Told0.drewN {w : World} {b : Nat} (h : Told0 w b) (n : Nat) : Told0 (w.drewN n) b := h
/-- How the document asks for a sign. -/
theorem sign_w {s : ByteArray} {i : Nat} (hi : i ≤ s.size) (T : List UInt8) :
    (T.isPrefixOf (s.data.toList.drop i) = true ∧ (i : Int) + (T.length : Int) ≤ (s.size : Int) ∧ s.extract i (i + T.length) = ⟨T.toArray⟩) ∨
    (T.isPrefixOf (s.data.toList.drop i) = false ∧ (i : Int) + (T.length : Int) ≤ (s.size : Int) ∧ ∃ U, s.extract i (i + T.length) = ⟨U.toArray⟩ ∧ (U == T) = false) ∨
    (T.isPrefixOf (s.data.toList.drop i) = false ∧ ¬ (i : Int) + (T.length : Int) ≤ (s.size : Int)) := by
  have hp := prefix_at (T := T) hi
  by_cases h1 : i + T.length ≤ s.size
  · by_cases h2 : (s.data.toList.drop i).take T.length = T
    · left
      exact ⟨hp.2 ⟨h1, h2⟩, by omega, by rw [extract_piece, h2]⟩
    · right; left
      refine ⟨?_, by omega, _, extract_piece s i T.length, beq_eq_false_iff_ne.2 h2⟩
      cases hh : T.isPrefixOf (s.data.toList.drop i) with
      | false => rfl
      | true => exact absurd (hp.1 hh).2 h2
  · right; right
    refine ⟨?_, by omega⟩
    cases hh : T.isPrefixOf (s.data.toList.drop i) with
    | false => rfl
    | true => exact absurd (hp.1 hh).1 h1

set_option maxRecDepth 20000 in
set_option maxHeartbeats 4000000 in
theorem refSign_any (s : ByteArray) (i : Nat) (w : World) (hs : s.size ≤ 1000000) (hi : i < s.size) :
    Calls Tryd.prog 38 #[.string s, .int .i64 i] w fun e w' => e = .returned (resT i (signT (s.data.toList.drop i))) ∧ Below w.heap.size w w' := by
  obtain ⟨V, hV⟩ := exHid (resT i (signT (s.data.toList.drop i)))
  rw [hV.out]
  have hb0 := Lib.hid ((Below.refl w.heap.size w).alloc (Nat.le_refl _) (.cells #[.int .u8 0, .string ⟨#[]⟩, .int .i64 0, .int .i64 0, .int .i64 0, .int .i64 0, .int .i64 0] 47))
  have hk0 : Hid (Told0 (w.alloc (.cells #[.int .u8 0, .string ⟨#[]⟩, .int .i64 0, .int .i64 0, .int .i64 0, .int .i64 0, .int .i64 0] 47)) w.heap.size) := heap_alloc_new w _
  go_enter Tryd.func38, Tryd.ntmps38
  go_wp2_with fail
  refine (refSigns_any _).mono ?_
  rintro e w1 ⟨b, rfl, hT1, hb1⟩
  have hlt0 : w.heap.size < w1.heap.size := Nat.lt_of_lt_of_le (by simp) hb1.size
  have hk1 := Lib.hid (hk0.out.below hb1 (by simp))
  have hbw1 := Lib.hid (hb0.out.trans (hb1.mono (by simp)))
  replace hT1 := Lib.hid hT1
  replace hb1 := Lib.hid hb1
  go_wp2
  go_loopw [6, 7] (fun t6 _ wr => ∃ j : Nat, j ≤ 17 ∧ t6 = .int .i64 j ∧ Hid (Below w1.heap.size w1 wr) ∧ Hid (resT i (signGo (signs.drop j) (s.data.toList.drop i)) = V)) (fun t6 _ _ => 17 - (intOf t6).toNat)
  case atStart => exact ⟨0, by omega, rfl, Below.refl _ _, hV⟩
  case round =>
    obtain ⟨j, hj, rfl, hbr, hR⟩ := hrel
    have hk := hk1.out.below hbr.out hlt0
    have hbwr := Lib.hid (hbw1.out.trans (hbr.out.mono (Nat.le_of_lt hlt0)))
    have hsz := hbwr.out.size
    rcases Nat.lt_or_ge j 17 with hlt | hge
    · obtain ⟨b', off, he, hl, hc⟩ := (hT1.out.below hbr.out) (by omega)
      cases he
      have x := hc j hlt
      rw [Nat.zero_add] at x
      have x' := fun n => (below_drewN (Below.refl wr.heap.size wr) n).cell (p := ⟨b, j, none⟩) hl |>.trans x
      have hlti : (j : Int) < 17 := by omega
      obtain ⟨hS2, hst⟩ := sign_step hlt (s.data.toList.drop i)
      have hR2 := hR.out
      rw [hst] at hR2
      have hsw := sign_w (Nat.le_of_lt hi) (signs.getD j [])
      unfold sgAt at x x'
      generalize signs.getD j [] = T at *
      have bw : (i : Int) + (T.length : Int) ≤ 9223372036854775807 := by omega
      have bw0 : -9223372036854775808 ≤ (i : Int) + (T.length : Int) := by omega
      clear hc hst
      rcases hsw with ⟨p1, p2, p3⟩ | ⟨p1, p2, U, p3, p4⟩ | ⟨p1, p2⟩
      · rw [if_pos p1] at hR2
        have hkd := fun n => told0_cells (hk.drewN n)
        have hfd := fun n => told0_frozen (hk.drewN n)
        replace hk := Lib.hid hk
        replace hR2 := Lib.hid hR2
        clear p1 hR
        go_wp2
        go_quiet (fail)
        obtain ⟨x0, x1, x2, x3, x4, x5, x6⟩ := hkd nq
        obtain ⟨y0, y1, y2, y3, y4, y5, y6⟩ := hfd nq
        go_wp2
        refine bodyPost_ret (results_cell_row rfl _ _ w.heap.size _ _ (0, 0) _ rfl (told_set7 (hk.out.drewN nq) _ _ _ _ _ _ _) Tryd.underlying47 rfl (by kernel_rfl)) rfl ⟨?_, below_set7 (below_drewN hbwr.out nq) (Nat.le_refl _) _ _ _ _ _ _ _⟩
        rw [← hR2.out]
        simp [resT, toldV]
      · rw [if_neg (by rw [p1]; simp)] at hR2
        replace hR2 := Lib.hid hR2
        clear p1 hR
        go_wp2
        go_quiet (fail)
        go_wp2
        go_roundw
        case rel => exact ⟨j + 1, by omega, by go_num, below_drewN hbr.out _, hR2⟩
        case measure => simp [intOf]; omega
      · rw [if_neg (by rw [p1]; simp)] at hR2
        replace hR2 := Lib.hid hR2
        clear p1 hR
        go_wp2
        have hwr : IntKind.i64.wrap ((i : Int) + (T.length : Int)) = (i : Int) + (T.length : Int) := by rw [IntKind.wrap_i64]; omega
        have p5 : ((i : Int) + (T.length : Int) ≤ (s.size : Int)) = False := eq_false (by omega)
        have p6 : decide (IntKind.i64.wrap ((i : Int) + (T.length : Int)) ≤ (s.size : Int)) = false := by rw [hwr]; exact decide_eq_false (by omega)
        have p7 : decide ((i : Int) + (T.length : Int) ≤ (s.size : Int)) = false := decide_eq_false (by omega)
        go_quiet (fail)
        go_wp2
        go_roundw
        case rel => exact ⟨j + 1, by omega, by go_num, below_drewN hbr.out _, hR2⟩
        case measure => simp [intOf]; omega
    · obtain rfl : j = 17 := by omega
      have hlti : ¬ ((17 : Nat) : Int) < 17 := by omega
      have hR2 := hR.out
      rw [at_drop hi] at hR2
      have e : signGo (signs.drop 17) (s[i] :: s.data.toList.drop (i + 1)) = noneT (s[i] :: s.data.toList.drop (i + 1)) := rfl
      rw [e] at hR2
      clear hR e
      replace hk := Lib.hid hk
      by_cases c33 : s[i].toNat = 33
      · have q33 : ((s[i].toNat : Int) != 33) = false := by rw [c33]; rfl
        rcases Nat.lt_or_ge (i + 1) s.size with hz | hz
        · have hze : ((i : Int) + 1 == (s.size : Int)) = false := beq_eq_false_iff_ne.2 (by omega)
          have hv : V = toldV 0 [] 0 0 0 (i + 1) 9 := by
            rw [← hR2, at_drop hz]
            simp [noneT, c33, resT]
          replace hv := Lib.hid hv
          replace c33 := Lib.hid c33
          clear hR2
          go_wp2_with (go_at_call 50; refine (refWrong_any (i + 1) 9 _).mono ?_; rintro e' w' ⟨rfl, hw⟩; have hk2 : Told0 w' w.heap.size := (by rw [hw]; exact hk.out.alloc _); have hb2 : Below w.heap.size w w' := (by rw [hw]; exact hbwr.out.alloc hsz _); replace hw := Lib.hid hw; obtain ⟨x0, x1, x2, x3, x4, x5, x6⟩ := told0_cells hk2; obtain ⟨y0, y1, y2, y3, y4, y5, y6⟩ := told0_frozen hk2)
          refine bodyPost_ret (results_cell_row rfl _ _ w.heap.size _ _ (0, 0) _ rfl (told_set7 hk2 _ _ _ _ _ _ _) Tryd.underlying47 rfl (by kernel_rfl)) rfl ⟨?_, below_set7 hb2 (Nat.le_refl _) _ _ _ _ _ _ _⟩
          rw [hv.out]
          simp [resT, toldV]
        · have hze : ((i : Int) + 1 == (s.size : Int)) = true := beq_iff_eq.2 (by omega)
          have hv : V = toldV 0 [] 0 0 0 (i + 1) 4 := by
            rw [← hR2, no_drop hz]
            simp [noneT, c33, resT]
          replace hv := Lib.hid hv
          replace c33 := Lib.hid c33
          clear hR2
          go_wp2_with (go_at_call 50; refine (refWrong_any (i + 1) 4 _).mono ?_; rintro e' w' ⟨rfl, hw⟩; have hk2 : Told0 w' w.heap.size := (by rw [hw]; exact hk.out.alloc _); have hb2 : Below w.heap.size w w' := (by rw [hw]; exact hbwr.out.alloc hsz _); replace hw := Lib.hid hw; obtain ⟨x0, x1, x2, x3, x4, x5, x6⟩ := told0_cells hk2; obtain ⟨y0, y1, y2, y3, y4, y5, y6⟩ := told0_frozen hk2)
          refine bodyPost_ret (results_cell_row rfl _ _ w.heap.size _ _ (0, 0) _ rfl (told_set7 hk2 _ _ _ _ _ _ _) Tryd.underlying47 rfl (by kernel_rfl)) rfl ⟨?_, below_set7 hb2 (Nat.le_refl _) _ _ _ _ _ _ _⟩
          rw [hv.out]
          simp [resT, toldV]
      · have q33 : ((s[i].toNat : Int) != 33) = true := by simp; omega
        have hv : V = toldV 0 [] 0 0 0 i 9 := by
          rw [← hR2]
          simp [noneT, c33, resT]
        replace hv := Lib.hid hv
        clear hR2
        go_wp2_with (go_at_call 50; refine (refWrong_any i 9 _).mono ?_; rintro e' w' ⟨rfl, hw⟩; have hk2 : Told0 w' w.heap.size := (by rw [hw]; exact hk.out.alloc _); have hb2 : Below w.heap.size w w' := (by rw [hw]; exact hbwr.out.alloc hsz _); replace hw := Lib.hid hw; obtain ⟨x0, x1, x2, x3, x4, x5, x6⟩ := told0_cells hk2; obtain ⟨y0, y1, y2, y3, y4, y5, y6⟩ := told0_frozen hk2)
        refine bodyPost_ret (results_cell_row rfl _ _ w.heap.size _ _ (0, 0) _ rfl (told_set7 hk2 _ _ _ _ _ _ _) Tryd.underlying47 rfl (by kernel_rfl)) rfl ⟨?_, below_set7 hb2 (Nat.le_refl _) _ _ _ _ _ _ _⟩
        rw [hv.out]
        simp [resT, toldV]
end Go.Proofs.YtmgbebpkkidooaaDoor
