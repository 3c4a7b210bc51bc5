/- The document's One, All (layer 7), walked. No condition. -/
import Derived.Test.YtmgbebpkkidooaaDoorTDocT
import Derived.Test.YtmgbebpkkidooaaDoorTDocN
import Derived.Test.YtmgbebpkkidooaaDoorTBare
namespace Go.Proofs.YtmgbebpkkidooaaDoor
open Go.RowKit Tok

theorem resT_cells (i : Nat) (R : Res) : ∃ kd tx x at_ en a e, resT i R = toldV kd tx x at_ en a e := by
  cases R with
  | ok kd tx x n => exact ⟨_, _, _, _, _, _, _, rfl⟩
  | bad n e => exact ⟨_, _, _, _, _, _, _, rfl⟩
set_option maxRecDepth 20000 in
set_option maxHeartbeats 4000000 in
theorem refOne_any (s : ByteArray) (i : Nat) (w : World) (hs : s.size ≤ 1000000) (hi : i < s.size) :
    Calls Tryd.prog 22 #[.string s, .int .i64 i] w fun e w' => e = .returned (resT i (tokT (s.data.toList.drop i))) ∧ Below w.heap.size w w' := by
  have hd := at_drop hi
  have hb0 := Lib.hid ((Below.refl w.heap.size w).alloc (Nat.le_refl _) (.cells #[.int .u8 0, .string ⟨#[]⟩, .int .i64 0, .int .i64 0, .int .i64 0, .int .i64 0, .int .i64 0] 47))
  have hk0 : Hid (Told0 (w.alloc (.cells #[.int .u8 0, .string ⟨#[]⟩, .int .i64 0, .int .i64 0, .int .i64 0, .int .i64 0, .int .i64 0] 47)) w.heap.size) := heap_alloc_new w _
  have hlt : w.heap.size < (w.alloc (.cells #[.int .u8 0, .string ⟨#[]⟩, .int .i64 0, .int .i64 0, .int .i64 0, .int .i64 0, .int .i64 0] 47)).heap.size := by simp
  obtain ⟨R, hR⟩ := exHid (tokT (s.data.toList.drop i))
  rw [hR.out]
  have hR2 := hR.out
  rw [hd, tokT_cons, ← hd] at hR2
  clear hR
  rcases c1 : lowC s[i] with _ | _
  · have k1 := Lib.hid (fun W => calls_at (refLow_any s[i] W) c1)
    rw [c1, if_neg (by simp)] at hR2
    rcases c2 : digC s[i] with _ | _
    · have k2 := Lib.hid (fun W => calls_at (refDig_any s[i] W) c2)
      rw [c2, if_neg (by simp)] at hR2
      by_cases c34 : s[i].toNat = 34
      · rw [if_pos c34] at hR2
        have q34 : ((s[i].toNat : Int) == 34) = true := by rw [c34]; rfl
        have k3 := Lib.hid (fun W => refText_any s i W hs hi)
        rw [hR2] at k3
        obtain ⟨kd, tx, x, at_, en, a, e, hv⟩ := resT_cells i R
        rw [hv] at k3 ⊢
        unfold toldV at k3 ⊢
        replace c34 := Lib.hid c34
        clear c1 c2 hR2 hd
        replace hv := Lib.hid hv
        go_enter Tryd.func22, Tryd.ntmps22
        go_wp2_with fail
        refine (k1.out _).mono ?_
        rintro e' w' ⟨rfl, rfl⟩
        go_wp2_with fail
        refine (k2.out _).mono ?_
        rintro e' w' ⟨rfl, rfl⟩
        go_wp2_with fail
        refine (k3.out _).mono ?_
        rintro e' w3 ⟨rfl, hb3⟩
        have hk2 := hk0.out.below hb3 hlt
        have hb2 : Below w.heap.size w w3 := hb0.out.trans (hb3.mono (Nat.le_of_lt hlt))
        obtain ⟨x0, x1, x2, x3, x4, x5, x6⟩ := told0_cells hk2
        obtain ⟨y0, y1, y2, y3, y4, y5, y6⟩ := told0_frozen hk2
        go_wp2
        refine bodyPost_ret (results_cell_row rfl _ _ w.heap.size _ _ (0, 0) _ rfl (told_set7 hk2 _ _ _ _ _ _ _) Tryd.underlying47 rfl (by kernel_rfl)) rfl ⟨rfl, below_set7 hb2 (Nat.le_refl _) _ _ _ _ _ _ _⟩
      · rw [if_neg c34] at hR2
        have q34 : ((s[i].toNat : Int) == 34) = false := beq_eq_false_iff_ne.2 (by omega)
        have k3 := Lib.hid (fun W => refSign_any s i W hs hi)
        rw [hR2] at k3
        obtain ⟨kd, tx, x, at_, en, a, e, hv⟩ := resT_cells i R
        rw [hv] at k3 ⊢
        unfold toldV at k3 ⊢
        clear c1 c2 hR2 hd
        replace hv := Lib.hid hv
        go_enter Tryd.func22, Tryd.ntmps22
        go_wp2_with fail
        refine (k1.out _).mono ?_
        rintro e' w' ⟨rfl, rfl⟩
        go_wp2_with fail
        refine (k2.out _).mono ?_
        rintro e' w' ⟨rfl, rfl⟩
        go_wp2_with fail
        refine (k3.out _).mono ?_
        rintro e' w3 ⟨rfl, hb3⟩
        have hk2 := hk0.out.below hb3 hlt
        have hb2 : Below w.heap.size w w3 := hb0.out.trans (hb3.mono (Nat.le_of_lt hlt))
        obtain ⟨x0, x1, x2, x3, x4, x5, x6⟩ := told0_cells hk2
        obtain ⟨y0, y1, y2, y3, y4, y5, y6⟩ := told0_frozen hk2
        go_wp2
        refine bodyPost_ret (results_cell_row rfl _ _ w.heap.size _ _ (0, 0) _ rfl (told_set7 hk2 _ _ _ _ _ _ _) Tryd.underlying47 rfl (by kernel_rfl)) rfl ⟨rfl, below_set7 hb2 (Nat.le_refl _) _ _ _ _ _ _ _⟩
    · have k2 := Lib.hid (fun W => calls_at (refDig_any s[i] W) c2)
      rw [c2, if_pos rfl] at hR2
      have k3 := Lib.hid (fun W => refNumber_any s i W hs hi c2)
      rw [hR2] at k3
      obtain ⟨kd, tx, x, at_, en, a, e, hv⟩ := resT_cells i R
      rw [hv] at k3 ⊢
      unfold toldV at k3 ⊢
      clear c1 c2 hR2 hd
      replace hv := Lib.hid hv
      go_enter Tryd.func22, Tryd.ntmps22
      go_wp2_with fail
      refine (k1.out _).mono ?_
      rintro e' w' ⟨rfl, rfl⟩
      go_wp2_with fail
      refine (k2.out _).mono ?_
      rintro e' w' ⟨rfl, rfl⟩
      go_wp2_with fail
      refine (k3.out _).mono ?_
      rintro e' w3 ⟨rfl, hb3⟩
      have hk2 := hk0.out.below hb3 hlt
      have hb2 : Below w.heap.size w w3 := hb0.out.trans (hb3.mono (Nat.le_of_lt hlt))
      obtain ⟨x0, x1, x2, x3, x4, x5, x6⟩ := told0_cells hk2
      obtain ⟨y0, y1, y2, y3, y4, y5, y6⟩ := told0_frozen hk2
      go_wp2
      refine bodyPost_ret (results_cell_row rfl _ _ w.heap.size _ _ (0, 0) _ rfl (told_set7 hk2 _ _ _ _ _ _ _) Tryd.underlying47 rfl (by kernel_rfl)) rfl ⟨rfl, below_set7 hb2 (Nat.le_refl _) _ _ _ _ _ _ _⟩
  · have k1 := Lib.hid (fun W => calls_at (refLow_any s[i] W) c1)
    rw [c1, if_pos rfl] at hR2
    have k3 := Lib.hid (fun W => refWord_any s i W hs (Nat.le_of_lt hi))
    rw [hR2] at k3
    obtain ⟨kd, tx, x, at_, en, a, e, hv⟩ := resT_cells i R
    rw [hv] at k3 ⊢
    unfold toldV at k3 ⊢
    clear c1 hR2 hd
    replace hv := Lib.hid hv
    go_enter Tryd.func22, Tryd.ntmps22
    go_wp2_with fail
    refine (k1.out _).mono ?_
    rintro e' w' ⟨rfl, rfl⟩
    go_wp2_with fail
    refine (k3.out _).mono ?_
    rintro e' w3 ⟨rfl, hb3⟩
    have hk2 := hk0.out.below hb3 hlt
    have hb2 : Below w.heap.size w w3 := hb0.out.trans (hb3.mono (Nat.le_of_lt hlt))
    obtain ⟨x0, x1, x2, x3, x4, x5, x6⟩ := told0_cells hk2
    obtain ⟨y0, y1, y2, y3, y4, y5, y6⟩ := told0_frozen hk2
    go_wp2
    refine bodyPost_ret (results_cell_row rfl _ _ w.heap.size _ _ (0, 0) _ rfl (told_set7 hk2 _ _ _ _ _ _ _) Tryd.underlying47 rfl (by kernel_rfl)) rfl ⟨rfl, below_set7 hb2 (Nat.le_refl _) _ _ _ _ _ _ _⟩
end Go.Proofs.YtmgbebpkkidooaaDoor
