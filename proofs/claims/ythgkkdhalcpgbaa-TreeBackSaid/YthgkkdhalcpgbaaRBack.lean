/- The law TreeBack, walked (layer 8). No condition. -/
import Derived.Test.YthgkkdhalcpgbaaRMake
import Derived.Test.YthgkkdhalcpgbaaROps
import Derived.Test.YthgkkdhalcpgbaaRAlike
import Derived.Test.YthgkkdhalcpgbaaROpen
namespace Go.Proofs.Ythgkkdhalcpgbaa
open Go.RowKit Go.Shelf

theorem look_bad_deep {ts : List Tw} (h : (lookF ts).2.2 ≠ 0) : (lookF ts).2.1 = 0 := by
  unfold lookF at h ⊢
  split
  · rfl
  · rename_i h1
    rw [if_neg h1] at h
    split
    · rfl
    · rename_i h2
      rw [if_neg h2] at h
      split
      · rfl
      · rename_i h3
        rw [if_neg h3] at h
        split
        · rfl
        · rename_i h4
          rw [if_neg h4] at h
          exact absurd rfl h
theorem Depth_is {v : Value} {ts : List Tw} (w : World) (hT : TwIn w v ts) (hf : ∀ x ∈ ts, FitT x) {D : Nat} (h : (lookF ts).2.1 = D) :
    Calls Try.prog 21 #[v] w fun e w' => e = .returned (.int .i64 (D : Int)) ∧ Below w.heap.size w w' := by
  subst h
  exact Depth_any w hT hf
theorem badE_of_ok : ∀ {ps : List (List Tw)}, (∀ p ∈ ps, Ok p) → badE ps = 0
  | [], _ => rfl
  | q :: r, h => by
    unfold badE
    rw [if_pos (show (lookF q).2.2 = 0 from h q (by simp))]
    exact badE_of_ok (fun p hp => h p (by simp [hp]))
def mostL (ps : List (List Tw)) : Nat := ps.foldl (fun m p => max m (lookF p).2.1) 0
theorem mostL_succ {ps : List (List Tw)} {i : Nat} (h : i < ps.length) : mostL (ps.take (i + 1)) = max (mostL (ps.take i)) (lookF (ps.getD i [])).2.1 := by
  unfold mostL
  rw [List.take_add_one, List.getD_eq_getElem?_getD, List.getElem?_eq_getElem h, List.foldl_append]
  rfl
theorem deep_le (ts : List Tw) : (lookF ts).2.1 ≤ 1000000 := by
  by_cases h : (lookF ts).2.2 = 0
  · have := ok_deep h
    obtain ⟨⟨h0, d, e⟩, h2⟩ := (ok_iff ts).1 h
    have := pass_mono_at ts ts.length 1 1000000 ⟨0, 0, 0⟩ h0 (Nat.zero_le _) (by omega)
    rw [ok_deep h]
    exact this.2.2
  · rw [look_bad_deep h]
    omega
theorem mostL_le (ps : List (List Tw)) : mostL ps ≤ 1000000 := by
  unfold mostL
  have : ∀ (ps : List (List Tw)) (a : Nat), a ≤ 1000000 → ps.foldl (fun m p => max m (lookF p).2.1) a ≤ 1000000 := by
    intro ps
    induction ps with
    | nil => intro a h; exact h
    | cons p r ih =>
      intro a h
      rw [List.foldl_cons]
      have := deep_le p
      exact ih _ (by omega)
  exact this ps 0 (by omega)
set_option maxRecDepth 20000 in
set_option maxHeartbeats 4000000 in
theorem treeBack_walk (v : Value) (w : World) (h : TwsIn w v) :
    Calls Try.prog 6 #[v] w fun e w' => e = .returned (.bool true) ∧ Below w.heap.size w w' := by
  obtain ⟨ts, hT, hf, _⟩ := h
  have hWk := Lib.hid wakes_any
  have hTT := Lib.hid hT
  obtain ⟨E, hE⟩ := exHid (lookF ts).2.2
  obtain ⟨D, hD⟩ := exHid (lookF ts).2.1
  have cC := fun W hT => Check_ok W (v := v) hT hf hE.out
  have cD := fun W hT => Depth_is W (v := v) hT hf hD.out
  obtain ⟨a, cap, rfl, hlc, hcm, h3⟩ := hT
  by_cases h5 : 5000 < ts.length
  · have h5i : (5000 : Int) < (ts.length : Int) := by omega
    clear h3 cC cD
    replace hf := Lib.hid hf
    go_enter Try.func6, Try.ntmps6
    go_wp2_with fail
    refine (hWk.out _).mono ?_
    rintro e w2 ⟨rfl, hb⟩
    go_wp2_with fail
    go_ret
    exact ⟨rfl, hb⟩
  · have h5i : ¬ (5000 : Int) < (ts.length : Int) := by omega
    by_cases h0 : E = 0
    · subst h0
      obtain ⟨x, ps, rfl, hx, hpo, hdp, hpl, hl⟩ := ok_parts (show Ok ts from hE.out)
      rw [hD.out] at hdp
      have cP := fun W hT => Parts_ok W (v := .slice a (x :: ps.flatten).length cap) hT hf hE.out hx hpo hpl
      have hfp : ∀ p ∈ ps, ∀ y ∈ p, FitT y := fun p hp y hy => hf y (List.mem_cons_of_mem _ (List.mem_flatten.2 ⟨p, hp, hy⟩))
      have hmT : makeT x ps = x :: ps.flatten := by unfold makeT; rw [← hx]
      have hmE : makeE x ps = 0 := by
        unfold makeE
        rw [if_pos (badE_of_ok hpo), if_neg (by rw [List.length_cons] at hl; omega), hmT]
        exact hE.out
      have cM : ∀ (W : World) (u : Value), TrsIn W u ps → Calls Try.prog 14 #[twV x, u] W fun e w' => ∃ v', e = .returned (.tuple #[v', .int .i64 0]) ∧ TwsAt w' W.heap.size v' (x :: ps.flatten) ∧ Below W.heap.size W w' := by
        intro W u hu
        refine (Make_any x W hu hfp (hf x (by simp)) (by omega) (by rw [List.length_cons] at hl; omega)).mono ?_
        rintro e w1 ⟨v', e1, _, h2, h3⟩
        rw [hmE] at e1 h2
        rw [hmT] at h2
        exact ⟨v', e1, h2 rfl, h3⟩
      have cDp : ∀ (W : World) (u : Value) (i : Nat), i < ps.length → TwIn W u (ps.getD i []) → Calls Try.prog 21 #[u] W fun e w' => e = .returned (.int .i64 ((lookF (ps.getD i [])).2.1 : Int)) ∧ Below W.heap.size W w' := fun W u i hi hT => Depth_is W hT (hfp _ (getD_mem hi)) rfl
      obtain ⟨g, off, rfl, hg, hcell⟩ := h3 (by simp)
      have p0 := hcell 0 (by simp) 0 (by omega)
      have p1 := hcell 0 (by simp) 1 (by omega)
      have p2 := hcell 0 (by simp) 2 (by omega)
      have p3 := hcell 0 (by simp) 3 (by omega)
      obtain ⟨op, kids, num, text⟩ := x
      dsimp only at hx
      subst hx
      simp only [List.getElem_cons_zero, twC, List.getElem?_cons_succ, List.getElem?_cons_zero, Nat.zero_mul, Nat.add_zero] at p0 p1 p2 p3
      have hdp' : D = mostL ps + 1 := hdp
      subst hdp'
      have hml := mostL_le ps
      clear hdp hmE hmT h3 hcell hE hD
      obtain ⟨N, hN⟩ := exHid ((⟨op, (ps.length : Int), num, text⟩ :: ps.flatten : List Tw).length)
      rw [hN.out] at hlc hl h5 h5i cC cD cP hTT ⊢
      have hN0 : 0 < N := by rw [← hN.out]; simp
      obtain ⟨n, hn⟩ := exHid ps.length
      rw [hn.out] at p1 hpl
      replace cC := Lib.hid cC; replace cD := Lib.hid cD; replace cP := Lib.hid cP; replace cM := Lib.hid cM; replace cDp := Lib.hid cDp
      replace hf := Lib.hid hf; replace hfp := Lib.hid hfp; replace hpo := Lib.hid hpo
      go_enter Try.func6, Try.ntmps6
      go_wp2_with fail
      refine (cP.out _ hTT.out).mono ?_
      rintro e w2 ⟨vl, rfl, hl2, hb2⟩
      obtain ⟨al, cl, e2, _, _⟩ := hl2.shape
      rw [hn.out] at e2
      subst e2
      go_wp2_with fail
      refine (cC.out _ (hTT.out.below hb2)).mono ?_
      rintro e w3 ⟨k3, rfl, hb3⟩
      have hb3' := Lib.hid (hb2.trans (hb3.mono hb2.size))
      have hl3 := Lib.hid (hl2.below hb3).trsIn
      clear hl2
      go_wp2_with fail
      go_loopw [7, 8] (fun t7 t8 wr => ∃ i m : Nat, i ≤ n ∧ t8 = .int .i64 i ∧ t7 = .int .i64 m ∧ Hid (m = mostL (ps.take i)) ∧ m ≤ 1000000 ∧ Hid (Below w3.heap.size w3 wr)) (fun _ t8 _ => n - (intOf t8).toNat)
      case atStart => exact ⟨0, 0, by omega, by go_num, by go_num, Lib.hid rfl, by omega, Lib.hid (Below.refl _ _)⟩
      case round =>
        obtain ⟨i, m, hi, rfl, rfl, hm, hm2, hB⟩ := hrel
        rcases Nat.lt_or_ge i n with hlt | hge
        · have hlti : (i : Int) < (n : Int) := by omega
          have hip : i < ps.length := by rw [hn.out]; exact hlt
          obtain ⟨a', cap', e', _, _, h3⟩ := hl3.out
          cases e'
          obtain ⟨g1, off1, rfl, hg1, hc⟩ := h3 (by omega)
          obtain ⟨u, hu, hTu⟩ := hc i hip
          have c := Lib.hid (cDp.out wr u i hip (hTu.below hB.out))
          have hms := mostL_succ hip
          have hdl := deep_le (ps.getD i [])
          generalize (lookF (ps.getD i [])).2.1 = d at *
          have hu2 := cell_on hu hB.out
          replace hms := Lib.hid hms
          clear hc h3 hu
          go_wp2_with fail
          refine c.out.mono ?_
          rintro e w5 ⟨rfl, hb5⟩
          have hB5 := Lib.hid (hB.out.trans (hb5.mono hB.out.size))
          go_wp2_with fail
          go_roundw
          case rel => exact ⟨i + 1, max m d, by omega, by go_num, (by rw [show ((max m d : Nat) : Int) = if m < d then (d : Int) else m by split <;> omega]), Lib.hid (by rw [hms.out, hm.out]), by omega, hB5⟩
          case measure => simp [intOf]; omega
        · obtain rfl : i = n := by omega
          have hmi : m = mostL ps := by rw [hm.out, List.take_of_length_le (by rw [hn.out]; omega)]
          subst hmi
          have hBw := Lib.hid (hb3'.out.trans (hB.out.mono hb3'.out.size))
          have r0 := cell_on p0 hBw.out; have r1 := cell_on p1 hBw.out; have r2 := cell_on p2 hBw.out; have r3 := cell_on p3 hBw.out
          have c := Lib.hid (cM.out wr _ (hl3.out.below hB.out))
          unfold twV at c
          dsimp only at c
          rw [hn.out] at c
          clear p0 p1 p2 p3 cM hB hb3 hb2 cP cC cDp
          go_wp2_with fail
          refine c.out.mono ?_
          rintro e w5 ⟨v5, rfl, hT5, hb5⟩
          have hB5 := Lib.hid (hBw.out.trans (hb5.mono hBw.out.size))
          have hTw := hTT.out.below hB5.out
          rw [hn.out] at hTw
          have q1 := cell_on r1 hb5
          have cA := Lib.hid (alike_tw hT5.twIn hTw)
          clear r0 r1 r2 r3 hT5 hb5 c
          go_wp2_with fail
          refine cA.out.mono ?_
          rintro e w6 ⟨rfl, hb6⟩
          have hB6 := Lib.hid (hB5.out.trans (hb6.mono hB5.out.size))
          have q2 := cell_on q1 hb6
          have cD6 := Lib.hid (cD.out w6 (hTT.out.below hB6.out))
          clear cA cD q1 hb6
          go_wp2_with fail
          refine cD6.out.mono ?_
          rintro e w7 ⟨rfl, hb7⟩
          have hB7 := Lib.hid (hB6.out.trans (hb7.mono hB6.out.size))
          have q3 := cell_on q2 hb7
          clear cD6 q2 hb7
          go_wp2_with fail
          refine (hWk.out _).mono ?_
          rintro e w8 ⟨rfl, hb8⟩
          go_wp2_with fail
          go_ret
          exact ⟨rfl, hB7.out.trans (hb8.mono hB7.out.size)⟩
    · have h0b : (E != 0) = true := by simpa using h0
      have h0c : (E != E) = false := by simp
      have hD0 : D = 0 := by rw [← hD.out]; exact look_bad_deep (by rw [hE.out]; exact h0)
      have cP := fun W hT => Parts_bad W (v := .slice a ts.length cap) hT hf hE.out h0
      subst hD0
      replace cC := Lib.hid cC; replace cD := Lib.hid cD; replace cP := Lib.hid cP
      replace hf := Lib.hid hf
      replace h0 := Lib.hid h0
      clear h3
      go_enter Try.func6, Try.ntmps6
      go_wp2_with fail
      refine (cP.out _ hTT.out).mono ?_
      rintro e w2 ⟨rfl, hb2⟩
      go_wp2_with fail
      refine (cC.out _ (hTT.out.below hb2)).mono ?_
      rintro e w3 ⟨k3, rfl, hb3⟩
      have hb3' := hb2.trans (hb3.mono hb2.size)
      go_wp2_with fail
      refine (cD.out _ (hTT.out.below hb3')).mono ?_
      rintro e w4 ⟨rfl, hb4⟩
      have hb4' := hb3'.trans (hb4.mono hb3'.size)
      go_wp2_with fail
      refine (hWk.out _).mono ?_
      rintro e w5 ⟨rfl, hb5⟩
      go_wp2_with fail
      go_ret
      exact ⟨rfl, hb4'.trans (hb5.mono hb4'.size)⟩
end Go.Proofs.Ythgkkdhalcpgbaa
