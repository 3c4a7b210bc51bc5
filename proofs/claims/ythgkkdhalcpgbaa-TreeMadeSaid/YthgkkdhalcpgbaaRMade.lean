/- The law TreeMade, walked (layer 8). Lists of at most 4000000000000 twigs each (the row's reach). -/
import Derived.Test.YthgkkdhalcpgbaaRMake
import Derived.Test.YthgkkdhalcpgbaaROps
import Derived.Test.YthgkkdhalcpgbaaRMany
import Derived.Test.YthgkkdhalcpgbaaROpen2
namespace Go.Proofs.Ythgkkdhalcpgbaa
open Go.RowKit Go.Shelf

theorem makeE_ok {x : Tw} {ps : List (List Tw)} (h : makeE x ps = 0) : (∀ p ∈ ps, Ok p) ∧ Ok (makeT x ps) ∧ ps.length ≤ 2048 ∧ ps.flatten.length ≤ 2047 := by
  unfold makeE at h
  split at h
  · rename_i hb
    have hp := badE_ok hb
    split at h
    · cases h
    · rename_i hl
      have hm : Ok (makeT x ps) := h
      refine ⟨hp, hm, ?_, by omega⟩
      obtain ⟨x', ps', e1, e2, e3, _, e4, _⟩ := ok_parts hm
      unfold makeT at e1
      injection e1 with _ e1
      rw [flat_same ps ps' hp e3 e1]
      exact e4
  · rename_i hb
    exact absurd h hb
set_option maxRecDepth 20000 in
set_option maxHeartbeats 4000000 in
theorem treeMade_walk (x : Tw) (v : Value) (w : World) (hx : FitT x) (h : TrsV w v) :
    Calls Try.prog 7 #[twV x, v] w fun e w' => e = .returned (.bool true) ∧ Below w.heap.size w w' := by
  obtain ⟨ps, hT, hf, hpl⟩ := h
  have hWk := Lib.hid wakes_any
  have hTT := Lib.hid hT
  obtain ⟨E, hE⟩ := exHid (makeE x ps)
  have hxx := Lib.hid hx
  have cMany := fun W hT => Many_any (w := W) (v := v) hT hpl
  have cMake := fun W hT h1 h2 => Make_any (v := v) x W hT hf hx h1 h2
  rw [hE.out] at cMake
  obtain ⟨op, kids, num, text⟩ := x
  unfold twV at cMake ⊢
  dsimp only at cMake ⊢
  have hz0 : Below w.heap.size w (w.alloc (.cells #[.int .u8 (op : Int), .int .i64 kids, .int .i64 num, .string ⟨text.toArray⟩] 32)) := (Below.refl _ w).alloc (Nat.le_refl _) _
  have q := fun j => one_cell w #[.int .u8 (op : Int), .int .i64 kids, .int .i64 num, .string ⟨text.toArray⟩] 32 j
  have q0 := (q 0).trans (show _ = some (Value.int .u8 (op : Int)) from rfl)
  have q1 := (q 1).trans (show _ = some (Value.int .i64 kids) from rfl)
  have q2 := (q 2).trans (show _ = some (Value.int .i64 num) from rfl)
  have q3 := (q 3).trans (show _ = some (Value.string ⟨text.toArray⟩) from rfl)
  have c1 := Lib.hid (cMany _ (hT.below hz0))
  obtain ⟨a, cap, rfl, _, _, _⟩ := hT
  obtain ⟨n, hn⟩ := exHid ps.length
  rw [hn.out] at cMake c1 hTT ⊢
  replace cMake := Lib.hid cMake
  replace hf := Lib.hid hf; replace hpl := Lib.hid hpl
  clear cMany hx q
  go_enter Try.func7, Try.ntmps7
  go_wp2_with fail
  refine c1.out.mono ?_
  rintro e w1 ⟨bm, rfl, hbm, rfl⟩
  rcases bm with _ | _
  · obtain ⟨hm1, hm2⟩ := hbm rfl
    rw [hn.out] at hm2
    have c2 := Lib.hid (cMake.out _ (hTT.out.below hz0) (by omega) (by omega))
    replace hz0 := Lib.hid hz0
    replace hm1 := Lib.hid hm1
    clear cMake c1 hbm
    by_cases h0 : E = 0
    · subst h0
      obtain ⟨ok1, ok2, ok3, ok4⟩ := makeE_ok hE.out
      rw [hn.out] at ok3
      go_wp2_with fail
      refine c2.out.mono ?_
      rintro e w2 ⟨v2, rfl, _, hv2, hb2⟩
      have hT2 := hv2 trivial
      have hB2 := Lib.hid (hz0.out.trans (hb2.mono hz0.out.size))
      clear c2 hv2
      have r0 := cell_on q0 hb2; have r2 := cell_on q2 hb2; have r3 := cell_on q3 hb2
      unfold makeT at hT2 ok2
      rw [hn.out] at hT2 ok2
      dsimp only at hT2 ok2
      have hfm : ∀ y ∈ (⟨op, (n : Int), num, text⟩ :: ps.flatten : List Tw), FitT y := by
        have hj64 : I64 (n : Int) := ⟨by omega, by omega⟩
        intro y hy
        rcases List.mem_cons.1 hy with rfl | hy
        · exact ⟨hxx.out.1, hj64, hxx.out.2.2.1, hxx.out.2.2.2⟩
        · obtain ⟨p, hp, hyp⟩ := List.mem_flatten.1 hy
          exact hf.out p hp y hyp
      have cP := Lib.hid (Parts_ok (x := ⟨op, (n : Int), num, text⟩) w2 hT2.twIn hfm ok2 (by rw [hn.out]) ok1 (by rw [hn.out]; exact ok3))
      have hcell2 := hT2.twIn
      obtain ⟨a2, cap2, e2, hlc2, _, h32⟩ := hcell2
      obtain ⟨g2, off2, rfl, hg2, hc2⟩ := h32 (by simp)
      have p0 := hc2 0 (by simp) 0 (by omega)
      have p2 := hc2 0 (by simp) 2 (by omega)
      have p3 := hc2 0 (by simp) 3 (by omega)
      simp only [List.getElem_cons_zero, twC, List.getElem?_cons_succ, List.getElem?_cons_zero, Nat.zero_mul, Nat.add_zero] at p0 p2 p3
      obtain ⟨N, hN⟩ := exHid ((⟨op, (n : Int), num, text⟩ :: ps.flatten : List Tw).length)
      rw [hN.out] at e2 hlc2
      have hN0 : 0 < N := by rw [← hN.out]; simp
      have hN1 : N ≤ 2048 := by rw [← hN.out, List.length_cons]; omega
      subst e2
      clear hc2 h32 hfm hT2 q0 q1 q2 q3 hb2
      replace ok2 := Lib.hid ok2; replace ok1 := Lib.hid ok1
      go_wp2_with fail
      refine cP.out.mono ?_
      rintro e w3 ⟨v3, rfl, hv3, hb3⟩
      have hB3 := Lib.hid (hB2.out.trans (hb3.mono hB2.out.size))
      have hR3 := Lib.hid hv3.trsIn
      obtain ⟨a3, cap3, e3, _, _⟩ := hv3.shape
      rw [hn.out] at e3
      subst e3
      have s0 := fun k => below_cell (n := k) (cell_on r0 hb3); have s2 := fun k => below_cell (n := k) (cell_on r2 hb3); have s3 := fun k => below_cell (n := k) (cell_on r3 hb3)
      have t0 := fun k => below_cell (n := k) (cell_on p0 hb3); have t2 := fun k => below_cell (n := k) (cell_on p2 hb3); have t3 := fun k => below_cell (n := k) (cell_on p3 hb3)
      clear r0 r2 r3 p0 p2 p3 cP hv3 hb3
      go_wp2_with fail
      go_quiet (fail)
      go_wp2_with fail
      clear s0 s2 s3 t0 t2 t3
      have hBq := Lib.hid (below_drewN (Below.refl w3.heap.size w3) nq)
      go_loopw [9] (fun t9 wr => ∃ i : Nat, i ≤ n ∧ t9 = .int .i64 i ∧ Hid (Below w3.heap.size w3 wr)) (fun t9 _ => n - (intOf t9).toNat)
      case atStart => exact ⟨0, by omega, by go_num, hBq⟩
      case round =>
        clear hBq
        obtain ⟨i, hi, rfl, hB⟩ := hrel
        rcases Nat.lt_or_ge i n with hlt | hge
        · have hlti : (i : Int) < (n : Int) := by omega
          have hip : i < ps.length := by rw [hn.out]; exact hlt
          have hT3 := (hTT.out.below hB3.out).below hB.out
          obtain ⟨a', cap', e', _, _, h3⟩ := hT3
          injection e' with e1 e2 e3
          subst e1 e3
          obtain ⟨g4, o4, rfl, hg4, hc4⟩ := h3 (by omega)
          obtain ⟨u4, hu4, hTu4⟩ := hc4 i hip
          obtain ⟨a', cap', e', _, _, h3'⟩ := (hR3.out.below hB.out)
          injection e' with e1 e2' e3
          subst e1 e3
          obtain ⟨g5, o5, rfl, hg5, hc5⟩ := h3' (by omega)
          obtain ⟨u5, hu5, hTu5⟩ := hc5 i hip
          have x4 := fun k => below_cell (n := k) hu4
          have x5 := fun k => below_cell (n := k) hu5
          have cA := Lib.hid (fun k => alike_quiet (w := wr.drewN k) (hTu5.below (below_drewN (Below.refl _ _) k)) (hTu4.below (below_drewN (Below.refl _ _) k)))
          clear h3 hc4 h3' hc5 hu4 hu5 e2 e2'
          go_wp2_with fail
          go_quiet ((go_at_call 12; exact Calls.quiet_of (cA.out _)))
          go_wp2_with fail
          go_roundw
          case rel => exact ⟨i + 1, by omega, by go_num, Lib.hid (below_drewN hB.out _)⟩
          case measure => simp [intOf]; omega
        · obtain rfl : i = n := by omega
          have hlti : ¬ ((i : Int) < (i : Int)) := by omega
          have hBw := Lib.hid (hB3.out.trans (hB.out.mono hB3.out.size))
          go_wp2_with fail
          refine (hWk.out _).mono ?_
          rintro e w8 ⟨rfl, hb8⟩
          go_wp2_with fail
          go_ret
          exact ⟨rfl, hBw.out.trans (hb8.mono hBw.out.size)⟩
    · have h0b : (E != 0) = true := by simpa using h0
      go_wp2_with fail
      refine c2.out.mono ?_
      rintro e w2 ⟨v2, rfl, hv2, _, hb2⟩
      obtain rfl := hv2 h0
      have hB2 := hz0.out.trans (hb2.mono hz0.out.size)
      clear hv2
      go_wp2_with fail
      refine (hWk.out _).mono ?_
      rintro e w3 ⟨rfl, hb3⟩
      go_wp2_with fail
      go_ret
      exact ⟨rfl, hB2.trans (hb3.mono hB2.size)⟩
  · go_wp2_with fail
    refine (hWk.out _).mono ?_
    rintro e w3 ⟨rfl, hb3⟩
    go_wp2_with fail
    go_ret
    exact ⟨rfl, hz0.trans (hb3.mono hz0.size)⟩
end Go.Proofs.Ythgkkdhalcpgbaa
