/- InstrWays (layer 14), walked. No condition but the table of words, which the card ties. -/
import Derived.Test.YtlhabgfgoainlaaDoorIWaP
import Derived.Test.YtlhabgfgoainlaaDoorITak
import Derived.Test.YtlhabgfgoainlaaDoorIDeps
import Derived.Test.YtlhabgfgoainlaaDoorIBools
namespace Go.Proofs.YtlhabgfgoainlaaDoor
open Go.RowKit

set_option maxRecDepth 20000 in
set_option maxHeartbeats 8000000 in
theorem instrWays_walk (v0 : Value) (s : Int) (v2 : Value) (w : World) (n0 : InssIn w v0) (hs : I64 s) (n2 : BoolsIn w v2) (hW : WordsOK w) :
    Calls Tryd.prog 5 #[v0, .int .i64 s, v2] w fun e w' => e = .returned (.bool true) ∧ Below w.heap.size w w' := by
  obtain ⟨code, hI, hfit, hnone⟩ := n0
  clear hnone
  obtain ⟨ad, cap, hv0, hlc, hcm, hbig⟩ := id hI
  clear hbig
  subst hv0
  obtain ⟨a2, cap2, bs, rfl, hl2, hc2, hB⟩ := n2
  have AW := awake14_any w hW
  obtain ⟨n, hN⟩ := exHid code.length
  obtain ⟨m, hM⟩ := exHid bs.length
  have hI' : Hid (InsIn w (.slice ad n cap) code) := Lib.hid (by rw [← hN.out]; exact hI)
  rw [hN.out, hM.out]
  by_cases hbig : 400 < n
  · have h1 : 400 < (n : Int) := by omega
    clear hI hlc hcm hl2 hc2
    replace hW := Lib.hid hW
    replace hB := Lib.hid hB
    go_enter Tryd.func5, Tryd.ntmps5
    go_wp2_with (go_at_call 6; refine AW.mono ?_; rintro e w1 ⟨rfl, hb1⟩)
    go_ret
    exact ⟨rfl, hb1⟩
  by_cases hbig2 : 300 < m
  · have h1 : ¬ 400 < (n : Int) := by omega
    have h2 : 300 < (m : Int) := by omega
    have hd1 : decide (400 < (n : Int)) = false := decide_eq_false h1
    clear hI hlc hcm hl2 hc2
    replace hW := Lib.hid hW
    replace hB := Lib.hid hB
    go_enter Tryd.func5, Tryd.ntmps5
    go_wp2_with (go_at_call 6; refine AW.mono ?_; rintro e w1 ⟨rfl, hb1⟩)
    go_ret
    exact ⟨rfl, hb1⟩
  have h1 : ¬ 400 < (n : Int) := by omega
  have h2 : ¬ 300 < (m : Int) := by omega
  have hd1 : decide (400 < (n : Int)) = false := decide_eq_false h1
  have hd2 : decide (300 < (m : Int)) = false := decide_eq_false h2
  have DP := fun (W : World) (hb : Below w.heap.size w W) => Depths_any (hI'.out.below hb) hfit (hW.below hb) hs
  replace DP := Lib.hid DP
  clear hI hlc hcm hl2 hc2
  replace hW := Lib.hid hW
  replace hB := Lib.hid hB
  replace hfit := Lib.hid hfit
  by_cases hft : (faultI code s).2 = 0
  · have hok := faultI_ok hft
    obtain ⟨k1, k2, k3, k4, k5, k6, k7⟩ := hok
    have hR := allRt_of k5
    have hf := fits_of hR k4 k6
    have hft' := Lib.hid hft
    clear hft
    have hdl := hf.len
    rw [hN.out] at hdl
    obtain ⟨d, hd⟩ := exHid (fitsI code).1
    rw [hd.out] at hdl hf k7
    replace hd := Lib.hid hd.out
    have hn0 : 0 < n := by rw [← hN.out]; exact k4
    replace hdl := Lib.hid hdl
    replace hR := Lib.hid hR
    replace hf := Lib.hid hf
    replace k7 := Lib.hid k7
    clear k1 k2 k3 k4 k5 k6
    go_enter Tryd.func5, Tryd.ntmps5
    go_wp2_with first
      | (go_at_call 6; refine AW.mono ?_; rintro e w1 ⟨rfl, hb1⟩)
      | (go_at_call 10; refine (DP.out _ hb1).mono ?_; rintro e w2 ⟨hb2, -, hp2⟩; obtain ⟨g, rfl, hg, hD⟩ := hp2 hft'.out; rw [hd.out] at hD ⊢; rw [hdl.out]; replace hD := Lib.hid hD; have hk2 := below_next hb1 hb2; clear hp2)
    have hway0 := Lib.hid (WayI.start (code := code) (d := d) hf.out)
    have hf0 := hf.out.first
    go_loopw [9, 10, 11, 12, 13, 14, 15, 16, 17, 18] (fun t9 t10 t11 t12 t13 t14 t15 t16 t17 t18 wr => ∃ i p fk f : Nat, i ≤ m ∧ t13 = .int .i64 i ∧ t9 = .int .i64 p ∧ t10 = .int .i64 (d.getD p (-1)) ∧ t11 = .int .i64 fk ∧ t12 = .int .i64 f ∧ Hid (WayI code d p fk f) ∧ Below w.heap.size w wr ∧ Below w2.heap.size w2 wr) (fun _ _ _ _ t13 _ _ _ _ _ _ => m - (intOf t13).toNat)
    case atStart => exact ⟨0, 0, 0, 0, by omega, rfl, rfl, by rw [hf0], rfl, rfl, hway0, hk2, Below.refl _ _⟩
    case round =>
      obtain ⟨i, p, fk, f, hi, rfl, rfl, rfl, rfl, rfl, hway, hbw, hbw2⟩ := hrel
      clear hway0 hf0
      rcases Nat.lt_or_ge i m with hlt | hge
      · have hlti : (i : Int) < (m : Int) := by omega
        have him : (i : Int) ≤ 300 := by omega
        obtain ⟨gb, ob, rfl, hgb, hcb⟩ := hB.out (by rw [hM.out]; omega)
        have tb : wr.cell? ⟨gb, ob + i, none⟩ = some (.bool (bs[i]'(by rw [hM.out]; exact hlt))) := (hbw.cell (p := ⟨gb, ob + i, none⟩) hgb).trans (hcb i (by rw [hM.out]; exact hlt))
        generalize (bs[i]'(by rw [hM.out]; exact hlt)) = b at tb
        clear hcb
        have hpl : p < n := by have := hway.out.lt; rw [hdl.out] at this; exact this
        have hfkl : fk < n := by have := hway.out.forkLt; rw [hdl.out] at this; exact this
        have hfl : f ≤ n := by have := hway.out.le k7.out; rw [hdl.out] at this; exact this
        have hp64 : (p : Int) < (n : Int) := by omega
        have hf64 : (f : Int) ≤ 400 := by omega
        have g1 : decide ((p : Int) < 0) = false := decide_eq_false (by omega)
        have g2 : decide ((n : Int) ≤ (p : Int)) = false := decide_eq_false (by omega)
        have g3 : decide (n ≤ p) = false := decide_eq_false (by omega)
        have g4 : ¬ n ≤ p := by omega
        have xd := (hD.out.below hbw2).cell (i := p) (by rw [hdl.out]; exact hpl)
        have hFit := hway.out.at_ hf.out
        have hdr := dp_range hf.out hway.out.met (by rw [hN.out]; omega)
        have hTk := hR.out.takes p
        have hGa := fun hk => hR.out.goal (p := p) (by rw [hN.out]; exact hpl) hk
        have hT1 := hFit.takes
        have hE1 := hFit.ends
        have hG1 := hFit.goal
        have hX1 := hFit.next
        have hFR := fun h => hway.out.free k7.out h
        have hEnd := Lib.hid (fun b => hway.out.ended hf.out b)
        have STEP := fun (q fk' : Nat) => hway.out.stepped (q := q) (fk' := fk')
        have hfk0 := hway.out.fork
        have hf00 := hf.out.first
        unfold succI at STEP
        obtain ⟨gc, off, cap0, ecv, hgc, y0, y1, y2, y3⟩ := hI'.out.cells hbw (i := p) (by rw [hN.out]; exact hpl) (op := (inAt code p).op) (a := (inAt code p).a) (x := (inAt code p).num) (tx := (inAt code p).text) rfl
        injection ecv with ec1 ec2 ec3
        subst ec1 ec3
        clear ec2
        have TK := fun W => Takes_any (inAt code p) W
        have EN := fun W => Ends_any (inAt code p).op W
        have BH := fun W => Behind_any (inAt code p) (d.getD p (-1)) hTk.1 hTk.2 hdr.1 hdr.2 W
        have OF := fun W => Of_any (inAt code p).op W
        have rF := fun W => run_row_field1 (inAt code p).op W
        obtain ⟨th, hth⟩ : ∃ y, thereI (inAt code p) (d.getD p (-1)) = y := ⟨_, rfl⟩
        obtain ⟨nx, hnx⟩ : ∃ y, nextI (inAt code p) (d.getD p (-1)) = y := ⟨_, rfl⟩
        obtain ⟨tk, htk⟩ : ∃ y, takesI (inAt code p) = y := ⟨_, rfl⟩
        have hth53 : (inAt code p).op = 53 → th = 0 := fun h => by rw [← hth]; unfold thereI; rw [if_pos h]
        have hth0 : tk ≤ d.getD p (-1) → 0 ≤ tk → 0 ≤ th := fun h1 h2 => by rw [← hth]; exact (thereI_range (by rw [htk]; exact h1) (by rw [htk]; exact h2)).1
        have hnx0 : tk ≤ d.getD p (-1) → 0 ≤ tk → 0 ≤ nx := fun h1 h2 => by rw [← hnx]; exact (nextI_range (by rw [htk]; exact h1) (by rw [htk]; exact h2)).1
        rw [hth, hnx] at BH
        rw [htk] at TK hT1 hE1 hTk
        rw [hth] at hG1
        rw [hnx] at hX1
        have th0 := hth0 hT1 hTk.1
        have nx0 := hnx0 hT1 hTk.1
        obtain ⟨dp, hdp⟩ : ∃ y, d.getD p (-1) = y := ⟨_, rfl⟩
        rw [hdp] at xd hT1 hE1 BH hdr ⊢
        replace hdp := Lib.hid hdp
        generalize rowV (inAt code p).op = rv at *
        unfold insV at TK BH
        clear hth hnx htk hth0 hnx0 hFit
        obtain ⟨op, hop⟩ : ∃ y, (inAt code p).op = y := ⟨_, rfl⟩
        obtain ⟨a, ha⟩ : ∃ y, (inAt code p).a = y := ⟨_, rfl⟩
        obtain ⟨num, hnum⟩ : ∃ y, (inAt code p).num = y := ⟨_, rfl⟩
        obtain ⟨tx, htx⟩ : ∃ y, (inAt code p).text = y := ⟨_, rfl⟩
        rw [hop] at y0 hE1 hG1 hX1 hFR TK EN BH OF rF hth53 hGa
        simp only [hop, ha] at STEP
        rw [ha] at y1 hG1 TK BH hGa
        rw [hnum] at y2 TK BH
        rw [htx] at y3 TK BH
        clear hop ha hnum htx
        have hT2 : ¬ dp < tk := by omega
        have hz := hbw.size
        have hz2 := hbw2.size
        have hd0 := hdr.1
        have hd1' := hdr.2
        replace hway := Lib.hid hway
        replace hdr := Lib.hid hdr
        replace hTk := Lib.hid hTk
        replace hGa := Lib.hid hGa
        replace hG1 := Lib.hid hG1
        replace hX1 := Lib.hid hX1
        replace STEP := Lib.hid STEP
        replace hth53 := Lib.hid hth53
        replace hfk0 := Lib.hid hfk0
        replace hf00 := Lib.hid hf00
        replace hdl := hdl
        replace TK := Lib.hid TK
        replace EN := Lib.hid EN
        replace BH := Lib.hid BH
        replace OF := Lib.hid OF
        replace hpl := Lib.hid hpl
        replace hfkl := Lib.hid hfkl
        replace hfl := Lib.hid hfl
        have him' := hi
        replace hi := Lib.hid hi
        clear him'
        clear AW hbig hbig2
        have hn64 : (n : Int) ≤ 400 := by omega
        cases hE : endsI op with
        | true =>
          have EN' := EN.out
          rw [hE] at EN'
          replace EN := Lib.hid EN'
          clear EN'
          have hdt := hE1 hE
          subst hdt
          have hop4 : op = 8 ∨ op = 9 ∨ op = 28 := by unfold endsI at hE; simp only [Bool.or_eq_true, beq_iff_eq] at hE; omega
          have e1 : ((op : Int) == 1) = false := beq_eq_false_iff_ne.2 (by omega)
          have f1 : ((op : Int) != 1) = true := by rw [bne, e1]; rfl
          have e5 : ((op : Int) == 5) = false := beq_eq_false_iff_ne.2 (by omega)
          have f5 : ((op : Int) != 5) = true := by rw [bne, e5]; rfl
          have e53 : ((op : Int) == 53) = false := beq_eq_false_iff_ne.2 (by omega)
          have f53 : ((op : Int) != 53) = true := by rw [bne, e53]; rfl
          replace hop4 := Lib.hid hop4
          replace hE := Lib.hid hE
          have hn0f : ¬ (n : Int) < 0 := by omega
          clear hE1 hFR
          cases b with
          | true =>
            have hw9 := Lib.hid (hEnd.out true)
            go_wp2_with first
              | (go_at_call 14; refine (TK.out _).mono ?_; rintro e w3 ⟨rfl, hb3⟩; have hk3 : Below w.heap.size w w3 := below_next (by go_grown) hb3; have hq3 : Below w2.heap.size w2 w3 := below_next (by go_grown) hb3; have k0 := (hb3.cell (p := ⟨wr.heap.size, 0, none⟩) (by simp)).trans (World.cell?_alloc_new ..); have k1 := (hb3.cell (p := ⟨wr.heap.size, 1, none⟩) (by simp)).trans (World.cell?_alloc_new ..); have k2 := (hb3.cell (p := ⟨wr.heap.size, 2, none⟩) (by simp)).trans (World.cell?_alloc_new ..); have k3 := (hb3.cell (p := ⟨wr.heap.size, 3, none⟩) (by simp)).trans (World.cell?_alloc_new ..); have t3 := Below.keeps (below_next (show Below wr.heap.size wr (wr.alloc _) by go_grown) hb3) tb; have hz3 := hk3.size; have hz4 := hq3.size; replace hb3 := Lib.hid hb3; simp only [List.getElem?_toArray, List.getElem?_cons_zero, List.getElem?_cons_succ] at k0 k1 k2 k3)
              | (go_at_call 15; refine (EN.out _).mono ?_; rintro e w4 ⟨rfl, rfl⟩)
            go_roundw
            case rel => exact ⟨i + 1, fk, fk, 0, by omega, by go_num, rfl, by rw [hfk0.out], rfl, rfl, hw9, hk3, hq3⟩
            case measure => simp [intOf]; omega
          | false =>
            have hw9 := Lib.hid (hEnd.out false)
            go_wp2_with first
              | (go_at_call 14; refine (TK.out _).mono ?_; rintro e w3 ⟨rfl, hb3⟩; have hk3 : Below w.heap.size w w3 := below_next (by go_grown) hb3; have hq3 : Below w2.heap.size w2 w3 := below_next (by go_grown) hb3; have k0 := (hb3.cell (p := ⟨wr.heap.size, 0, none⟩) (by simp)).trans (World.cell?_alloc_new ..); have k1 := (hb3.cell (p := ⟨wr.heap.size, 1, none⟩) (by simp)).trans (World.cell?_alloc_new ..); have k2 := (hb3.cell (p := ⟨wr.heap.size, 2, none⟩) (by simp)).trans (World.cell?_alloc_new ..); have k3 := (hb3.cell (p := ⟨wr.heap.size, 3, none⟩) (by simp)).trans (World.cell?_alloc_new ..); have t3 := Below.keeps (below_next (show Below wr.heap.size wr (wr.alloc _) by go_grown) hb3) tb; have hz3 := hk3.size; have hz4 := hq3.size; replace hb3 := Lib.hid hb3; simp only [List.getElem?_toArray, List.getElem?_cons_zero, List.getElem?_cons_succ] at k0 k1 k2 k3)
              | (go_at_call 15; refine (EN.out _).mono ?_; rintro e w4 ⟨rfl, rfl⟩)
            go_roundw
            case rel => exact ⟨i + 1, 0, fk, 0, by omega, by go_num, rfl, by rw [hf00.out], rfl, rfl, hw9, hk3, hq3⟩
            case measure => simp [intOf]; omega
        | false =>
          have EN' := EN.out
          rw [hE] at EN'
          replace EN := Lib.hid EN'
          clear EN'
          have hG2 := Lib.hid (hG1.out hE)
          have hX2 := Lib.hid (hX1.out hE)
          replace hE := Lib.hid hE
          clear hE1 hG1 hX1
          by_cases o1 : op = 1
          · have hak : akI op = 1 := by rw [o1]; rfl
            have hfr : freeI op = true := by rw [o1]; rfl
            have e1 : ((op : Int) == 1) = true := by rw [beq_iff_eq]; omega
            have f1 : ((op : Int) != 1) = false := by rw [bne, e1]; rfl
            have e5 : ((op : Int) == 5) = false := beq_eq_false_iff_ne.2 (by omega)
            have f5 : ((op : Int) != 5) = true := by rw [bne, e5]; rfl
            have e53 : ((op : Int) == 53) = false := beq_eq_false_iff_ne.2 (by omega)
            have f53 : ((op : Int) != 53) = true := by rw [bne, e53]; rfl
            have o1h := Lib.hid o1
            obtain ⟨q1, q2⟩ := hG2.out hak
            obtain ⟨ha0, ha1⟩ := hGa.out hak
            have hst := STEP.out a.toNat fk (by rw [q2]; omega) hfk0.out (fun hh => by rw [if_pos (by omega)])
            rw [hfr, if_pos rfl] at hst
            replace hst := Lib.hid hst
            have hfr2 := hFR hfr
            rw [hdl.out] at hfr2
            have hfr3 : ¬ (n : Int) < (f : Int) + 1 := by omega
            have hfr4 : decide ((n : Int) < (f : Int) + 1) = false := decide_eq_false hfr3
            have hat : ((a.toNat : Nat) : Int) = a := Int.toNat_of_nonneg ha0
            replace hat := Lib.hid hat
            replace q2 := Lib.hid q2
            clear hFR
            try replace hak := Lib.hid hak
            try replace hfr := Lib.hid hfr
            try replace o1 := Lib.hid o1
            try replace o5 := Lib.hid o5
            try replace o53 := Lib.hid o53
            go_wp2_with first
              | (go_at_call 14; refine (TK.out _).mono ?_; rintro e w3 ⟨rfl, hb3⟩; have hk3 : Below w.heap.size w w3 := below_next (by go_grown) hb3; have hq3 : Below w2.heap.size w2 w3 := below_next (by go_grown) hb3; have k0 := (hb3.cell (p := ⟨wr.heap.size, 0, none⟩) (by simp)).trans (World.cell?_alloc_new ..); have k1 := (hb3.cell (p := ⟨wr.heap.size, 1, none⟩) (by simp)).trans (World.cell?_alloc_new ..); have k2 := (hb3.cell (p := ⟨wr.heap.size, 2, none⟩) (by simp)).trans (World.cell?_alloc_new ..); have k3 := (hb3.cell (p := ⟨wr.heap.size, 3, none⟩) (by simp)).trans (World.cell?_alloc_new ..); have t3 := Below.keeps (below_next (show Below wr.heap.size wr (wr.alloc _) by go_grown) hb3) tb; have hz3 := hk3.size; have hz4 := hq3.size; replace hb3 := Lib.hid hb3; simp only [List.getElem?_toArray, List.getElem?_cons_zero, List.getElem?_cons_succ] at k0 k1 k2 k3)
              | (go_at_call 15; refine (EN.out _).mono ?_; rintro e w4 ⟨rfl, rfl⟩)
              | (go_at_call 16; refine (BH.out _).mono ?_; rintro e w5 ⟨rfl, hb5⟩; have hk5 := below_next hk3 hb5; have hq5 := below_next hq3 hb5; have m0 := Below.keeps hb5 k0; have m1 := Below.keeps hb5 k1; have m2 := Below.keeps hb5 k2; have m3 := Below.keeps hb5 k3; have t5 := Below.keeps hb5 t3; have hz5 := hk5.size; replace hb5 := Lib.hid hb5)
            go_roundw
            case rel => exact ⟨i + 1, a.toNat, fk, f + 1, by omega, by go_num, by rw [hat.out], by rw [q2.out], rfl, by go_num, hst, hk5, hq5⟩
            case measure => simp [intOf]; omega
          · by_cases o5 : op = 5
            · have hfr : freeI op = true := by rw [o5]; rfl
              have hak : ((akI op : Int) == 1) = false := by rw [o5]; rfl
              rw [show (akI op : Int) = 0 by rw [o5]; rfl] at rF
              cases b with
              | true =>
                have e1 : ((op : Int) == 1) = false := beq_eq_false_iff_ne.2 (by omega)
                have f1 : ((op : Int) != 1) = true := by rw [bne, e1]; rfl
                have e5 : ((op : Int) == 5) = true := by rw [beq_iff_eq]; omega
                have f5 : ((op : Int) != 5) = false := by rw [bne, e5]; rfl
                have e53 : ((op : Int) == 53) = false := beq_eq_false_iff_ne.2 (by omega)
                have f53 : ((op : Int) != 53) = true := by rw [bne, e53]; rfl
                obtain ⟨q1, q2⟩ := hX2.out (by omega)
                have hst := STEP.out (p + 1) fk (by rw [q2]; omega) hfk0.out (fun hh => by rw [if_neg (by omega)])
                rw [hfr, if_pos rfl] at hst
                replace hst := Lib.hid hst
                have hfr2 := hFR hfr
                rw [hdl.out] at hfr2
                have hfr3 : ¬ (n : Int) < (f : Int) + 1 := by omega
                have hfr4 : decide ((n : Int) < (f : Int) + 1) = false := decide_eq_false hfr3
                replace q2 := Lib.hid q2
                clear hFR
                try replace hak := Lib.hid hak
                try replace hfr := Lib.hid hfr
                try replace o1 := Lib.hid o1
                try replace o5 := Lib.hid o5
                try replace o53 := Lib.hid o53
                go_wp2_with first
                  | (go_at_call 14; refine (TK.out _).mono ?_; rintro e w3 ⟨rfl, hb3⟩; have hk3 : Below w.heap.size w w3 := below_next (by go_grown) hb3; have hq3 : Below w2.heap.size w2 w3 := below_next (by go_grown) hb3; have k0 := (hb3.cell (p := ⟨wr.heap.size, 0, none⟩) (by simp)).trans (World.cell?_alloc_new ..); have k1 := (hb3.cell (p := ⟨wr.heap.size, 1, none⟩) (by simp)).trans (World.cell?_alloc_new ..); have k2 := (hb3.cell (p := ⟨wr.heap.size, 2, none⟩) (by simp)).trans (World.cell?_alloc_new ..); have k3 := (hb3.cell (p := ⟨wr.heap.size, 3, none⟩) (by simp)).trans (World.cell?_alloc_new ..); have t3 := Below.keeps (below_next (show Below wr.heap.size wr (wr.alloc _) by go_grown) hb3) tb; have hz3 := hk3.size; have hz4 := hq3.size; replace hb3 := Lib.hid hb3; simp only [List.getElem?_toArray, List.getElem?_cons_zero, List.getElem?_cons_succ] at k0 k1 k2 k3)
                  | (go_at_call 15; refine (EN.out _).mono ?_; rintro e w4 ⟨rfl, rfl⟩)
                  | (go_at_call 16; refine (BH.out _).mono ?_; rintro e w5 ⟨rfl, hb5⟩; have hk5 := below_next hk3 hb5; have hq5 := below_next hq3 hb5; have m0 := Below.keeps hb5 k0; have m1 := Below.keeps hb5 k1; have m2 := Below.keeps hb5 k2; have m3 := Below.keeps hb5 k3; have t5 := Below.keeps hb5 t3; have hz5 := hk5.size; replace hb5 := Lib.hid hb5)
                  | (go_at_call 17; refine (OF.out _).mono ?_; rintro e w6 ⟨rfl, hb6⟩; have hk6 := below_next hk5 hb6; have hq6 := below_next hq5 hb6; have r1 := Below.keeps hb6 m1; have r0 := Below.keeps hb6 m0; have hz6 := hk6.size; replace hb6 := Lib.hid hb6)
                go_roundw
                case rel => exact ⟨i + 1, (p + 1), fk, f + 1, by omega, by go_num, by go_num, by rw [q2.out], rfl, by go_num, hst, hk6, hq6⟩
                case measure => simp [intOf]; omega
              | false =>
                have e1 : ((op : Int) == 1) = false := beq_eq_false_iff_ne.2 (by omega)
                have f1 : ((op : Int) != 1) = true := by rw [bne, e1]; rfl
                have e5 : ((op : Int) == 5) = true := by rw [beq_iff_eq]; omega
                have f5 : ((op : Int) != 5) = false := by rw [bne, e5]; rfl
                have e53 : ((op : Int) == 53) = false := beq_eq_false_iff_ne.2 (by omega)
                have f53 : ((op : Int) != 53) = true := by rw [bne, e53]; rfl
                obtain ⟨q1, q2⟩ := hX2.out (by omega)
                have hst := STEP.out (p + 1) fk (by rw [q2]; omega) hfk0.out (fun hh => by rw [if_neg (by omega)])
                rw [hfr, if_pos rfl] at hst
                replace hst := Lib.hid hst
                have hfr2 := hFR hfr
                rw [hdl.out] at hfr2
                have hfr3 : ¬ (n : Int) < (f : Int) + 1 := by omega
                have hfr4 : decide ((n : Int) < (f : Int) + 1) = false := decide_eq_false hfr3
                replace q2 := Lib.hid q2
                clear hFR
                try replace hak := Lib.hid hak
                try replace hfr := Lib.hid hfr
                try replace o1 := Lib.hid o1
                try replace o5 := Lib.hid o5
                try replace o53 := Lib.hid o53
                go_wp2_with first
                  | (go_at_call 14; refine (TK.out _).mono ?_; rintro e w3 ⟨rfl, hb3⟩; have hk3 : Below w.heap.size w w3 := below_next (by go_grown) hb3; have hq3 : Below w2.heap.size w2 w3 := below_next (by go_grown) hb3; have k0 := (hb3.cell (p := ⟨wr.heap.size, 0, none⟩) (by simp)).trans (World.cell?_alloc_new ..); have k1 := (hb3.cell (p := ⟨wr.heap.size, 1, none⟩) (by simp)).trans (World.cell?_alloc_new ..); have k2 := (hb3.cell (p := ⟨wr.heap.size, 2, none⟩) (by simp)).trans (World.cell?_alloc_new ..); have k3 := (hb3.cell (p := ⟨wr.heap.size, 3, none⟩) (by simp)).trans (World.cell?_alloc_new ..); have t3 := Below.keeps (below_next (show Below wr.heap.size wr (wr.alloc _) by go_grown) hb3) tb; have hz3 := hk3.size; have hz4 := hq3.size; replace hb3 := Lib.hid hb3; simp only [List.getElem?_toArray, List.getElem?_cons_zero, List.getElem?_cons_succ] at k0 k1 k2 k3)
                  | (go_at_call 15; refine (EN.out _).mono ?_; rintro e w4 ⟨rfl, rfl⟩)
                  | (go_at_call 16; refine (BH.out _).mono ?_; rintro e w5 ⟨rfl, hb5⟩; have hk5 := below_next hk3 hb5; have hq5 := below_next hq3 hb5; have m0 := Below.keeps hb5 k0; have m1 := Below.keeps hb5 k1; have m2 := Below.keeps hb5 k2; have m3 := Below.keeps hb5 k3; have t5 := Below.keeps hb5 t3; have hz5 := hk5.size; replace hb5 := Lib.hid hb5)
                go_roundw
                case rel => exact ⟨i + 1, (p + 1), fk, f + 1, by omega, by go_num, by go_num, by rw [q2.out], rfl, by go_num, hst, hk5, hq5⟩
                case measure => simp [intOf]; omega
            · have hfr : freeI op = false := by unfold freeI; simp only [Bool.or_eq_false_iff, beq_eq_false_iff_ne]; omega
              by_cases o53 : op = 53
              · have hak : akI op = 1 := by rw [o53]; rfl
                cases b with
                | true =>
                  have e1 : ((op : Int) == 1) = false := beq_eq_false_iff_ne.2 (by omega)
                  have f1 : ((op : Int) != 1) = true := by rw [bne, e1]; rfl
                  have e5 : ((op : Int) == 5) = false := beq_eq_false_iff_ne.2 (by omega)
                  have f5 : ((op : Int) != 5) = true := by rw [bne, e5]; rfl
                  have e53 : ((op : Int) == 53) = true := by rw [beq_iff_eq]; omega
                  have f53 : ((op : Int) != 53) = false := by rw [bne, e53]; rfl
                  obtain ⟨q1, q2⟩ := hX2.out (by omega)
                  obtain ⟨z1, z2⟩ := hG2.out hak
                  obtain ⟨ha0, ha1⟩ := hGa.out hak
                  rw [hth53.out (by omega)] at z2
                  have hst := STEP.out (p + 1) a.toNat (by rw [q2]; omega) z2 (fun hh => by rw [hfr] at hh; cases hh)
                  rw [hfr, if_neg Bool.false_ne_true] at hst
                  replace hst := Lib.hid hst
                  have hn0f : ¬ (n : Int) < 0 := by omega
                  have hat : ((a.toNat : Nat) : Int) = a := Int.toNat_of_nonneg ha0
                  replace hat := Lib.hid hat
                  replace q2 := Lib.hid q2
                  clear hFR
                  replace z2 := Lib.hid z2
                  try replace hak := Lib.hid hak
                  try replace hfr := Lib.hid hfr
                  try replace o1 := Lib.hid o1
                  try replace o5 := Lib.hid o5
                  try replace o53 := Lib.hid o53
                  go_wp2_with first
                    | (go_at_call 14; refine (TK.out _).mono ?_; rintro e w3 ⟨rfl, hb3⟩; have hk3 : Below w.heap.size w w3 := below_next (by go_grown) hb3; have hq3 : Below w2.heap.size w2 w3 := below_next (by go_grown) hb3; have k0 := (hb3.cell (p := ⟨wr.heap.size, 0, none⟩) (by simp)).trans (World.cell?_alloc_new ..); have k1 := (hb3.cell (p := ⟨wr.heap.size, 1, none⟩) (by simp)).trans (World.cell?_alloc_new ..); have k2 := (hb3.cell (p := ⟨wr.heap.size, 2, none⟩) (by simp)).trans (World.cell?_alloc_new ..); have k3 := (hb3.cell (p := ⟨wr.heap.size, 3, none⟩) (by simp)).trans (World.cell?_alloc_new ..); have t3 := Below.keeps (below_next (show Below wr.heap.size wr (wr.alloc _) by go_grown) hb3) tb; have hz3 := hk3.size; have hz4 := hq3.size; replace hb3 := Lib.hid hb3; simp only [List.getElem?_toArray, List.getElem?_cons_zero, List.getElem?_cons_succ] at k0 k1 k2 k3)
                    | (go_at_call 15; refine (EN.out _).mono ?_; rintro e w4 ⟨rfl, rfl⟩)
                    | (go_at_call 16; refine (BH.out _).mono ?_; rintro e w5 ⟨rfl, hb5⟩; have hk5 := below_next hk3 hb5; have hq5 := below_next hq3 hb5; have m0 := Below.keeps hb5 k0; have m1 := Below.keeps hb5 k1; have m2 := Below.keeps hb5 k2; have m3 := Below.keeps hb5 k3; have t5 := Below.keeps hb5 t3; have hz5 := hk5.size; replace hb5 := Lib.hid hb5)
                  go_roundw
                  case rel => exact ⟨i + 1, (p + 1), a.toNat, 0, by omega, by go_num, by go_num, by rw [q2.out], by rw [hat.out], rfl, hst, hk5, hq5⟩
                  case measure => simp [intOf]; omega
                | false =>
                  have e1 : ((op : Int) == 1) = false := beq_eq_false_iff_ne.2 (by omega)
                  have f1 : ((op : Int) != 1) = true := by rw [bne, e1]; rfl
                  have e5 : ((op : Int) == 5) = false := beq_eq_false_iff_ne.2 (by omega)
                  have f5 : ((op : Int) != 5) = true := by rw [bne, e5]; rfl
                  have e53 : ((op : Int) == 53) = true := by rw [beq_iff_eq]; omega
                  have f53 : ((op : Int) != 53) = false := by rw [bne, e53]; rfl
                  obtain ⟨q1, q2⟩ := hX2.out (by omega)
                  obtain ⟨z1, z2⟩ := hG2.out hak
                  obtain ⟨ha0, ha1⟩ := hGa.out hak
                  rw [hth53.out (by omega)] at z2
                  have hst := STEP.out (p + 1) a.toNat (by rw [q2]; omega) z2 (fun hh => by rw [hfr] at hh; cases hh)
                  rw [hfr, if_neg Bool.false_ne_true] at hst
                  replace hst := Lib.hid hst
                  have hn0f : ¬ (n : Int) < 0 := by omega
                  have hat : ((a.toNat : Nat) : Int) = a := Int.toNat_of_nonneg ha0
                  replace hat := Lib.hid hat
                  replace q2 := Lib.hid q2
                  clear hFR
                  replace z2 := Lib.hid z2
                  try replace hak := Lib.hid hak
                  try replace hfr := Lib.hid hfr
                  try replace o1 := Lib.hid o1
                  try replace o5 := Lib.hid o5
                  try replace o53 := Lib.hid o53
                  go_wp2_with first
                    | (go_at_call 14; refine (TK.out _).mono ?_; rintro e w3 ⟨rfl, hb3⟩; have hk3 : Below w.heap.size w w3 := below_next (by go_grown) hb3; have hq3 : Below w2.heap.size w2 w3 := below_next (by go_grown) hb3; have k0 := (hb3.cell (p := ⟨wr.heap.size, 0, none⟩) (by simp)).trans (World.cell?_alloc_new ..); have k1 := (hb3.cell (p := ⟨wr.heap.size, 1, none⟩) (by simp)).trans (World.cell?_alloc_new ..); have k2 := (hb3.cell (p := ⟨wr.heap.size, 2, none⟩) (by simp)).trans (World.cell?_alloc_new ..); have k3 := (hb3.cell (p := ⟨wr.heap.size, 3, none⟩) (by simp)).trans (World.cell?_alloc_new ..); have t3 := Below.keeps (below_next (show Below wr.heap.size wr (wr.alloc _) by go_grown) hb3) tb; have hz3 := hk3.size; have hz4 := hq3.size; replace hb3 := Lib.hid hb3; simp only [List.getElem?_toArray, List.getElem?_cons_zero, List.getElem?_cons_succ] at k0 k1 k2 k3)
                    | (go_at_call 15; refine (EN.out _).mono ?_; rintro e w4 ⟨rfl, rfl⟩)
                    | (go_at_call 16; refine (BH.out _).mono ?_; rintro e w5 ⟨rfl, hb5⟩; have hk5 := below_next hk3 hb5; have hq5 := below_next hq3 hb5; have m0 := Below.keeps hb5 k0; have m1 := Below.keeps hb5 k1; have m2 := Below.keeps hb5 k2; have m3 := Below.keeps hb5 k3; have t5 := Below.keeps hb5 t3; have hz5 := hk5.size; replace hb5 := Lib.hid hb5)
                  go_roundw
                  case rel => exact ⟨i + 1, (p + 1), a.toNat, 0, by omega, by go_num, by go_num, by rw [q2.out], by rw [hat.out], rfl, hst, hk5, hq5⟩
                  case measure => simp [intOf]; omega
              · by_cases hak : akI op = 1
                · rw [hak] at rF
                  cases b with
                  | true =>
                    have e1 : ((op : Int) == 1) = false := beq_eq_false_iff_ne.2 (by omega)
                    have f1 : ((op : Int) != 1) = true := by rw [bne, e1]; rfl
                    have e5 : ((op : Int) == 5) = false := beq_eq_false_iff_ne.2 (by omega)
                    have f5 : ((op : Int) != 5) = true := by rw [bne, e5]; rfl
                    have e53 : ((op : Int) == 53) = false := beq_eq_false_iff_ne.2 (by omega)
                    have f53 : ((op : Int) != 53) = true := by rw [bne, e53]; rfl
                    obtain ⟨q1, q2⟩ := hG2.out hak
                    obtain ⟨ha0, ha1⟩ := hGa.out hak
                    have hst := STEP.out a.toNat fk (by rw [q2]; omega) hfk0.out (fun hh => by rw [hfr] at hh; cases hh)
                    rw [hfr, if_neg Bool.false_ne_true] at hst
                    replace hst := Lib.hid hst
                    have hn0f : ¬ (n : Int) < 0 := by omega
                    have hat : ((a.toNat : Nat) : Int) = a := Int.toNat_of_nonneg ha0
                    replace hat := Lib.hid hat
                    replace q2 := Lib.hid q2
                    clear hFR
                    try replace hak := Lib.hid hak
                    try replace hfr := Lib.hid hfr
                    try replace o1 := Lib.hid o1
                    try replace o5 := Lib.hid o5
                    try replace o53 := Lib.hid o53
                    go_wp2_with first
                      | (go_at_call 14; refine (TK.out _).mono ?_; rintro e w3 ⟨rfl, hb3⟩; have hk3 : Below w.heap.size w w3 := below_next (by go_grown) hb3; have hq3 : Below w2.heap.size w2 w3 := below_next (by go_grown) hb3; have k0 := (hb3.cell (p := ⟨wr.heap.size, 0, none⟩) (by simp)).trans (World.cell?_alloc_new ..); have k1 := (hb3.cell (p := ⟨wr.heap.size, 1, none⟩) (by simp)).trans (World.cell?_alloc_new ..); have k2 := (hb3.cell (p := ⟨wr.heap.size, 2, none⟩) (by simp)).trans (World.cell?_alloc_new ..); have k3 := (hb3.cell (p := ⟨wr.heap.size, 3, none⟩) (by simp)).trans (World.cell?_alloc_new ..); have t3 := Below.keeps (below_next (show Below wr.heap.size wr (wr.alloc _) by go_grown) hb3) tb; have hz3 := hk3.size; have hz4 := hq3.size; replace hb3 := Lib.hid hb3; simp only [List.getElem?_toArray, List.getElem?_cons_zero, List.getElem?_cons_succ] at k0 k1 k2 k3)
                      | (go_at_call 15; refine (EN.out _).mono ?_; rintro e w4 ⟨rfl, rfl⟩)
                      | (go_at_call 16; refine (BH.out _).mono ?_; rintro e w5 ⟨rfl, hb5⟩; have hk5 := below_next hk3 hb5; have hq5 := below_next hq3 hb5; have m0 := Below.keeps hb5 k0; have m1 := Below.keeps hb5 k1; have m2 := Below.keeps hb5 k2; have m3 := Below.keeps hb5 k3; have t5 := Below.keeps hb5 t3; have hz5 := hk5.size; replace hb5 := Lib.hid hb5)
                      | (go_at_call 17; refine (OF.out _).mono ?_; rintro e w6 ⟨rfl, hb6⟩; have hk6 := below_next hk5 hb6; have hq6 := below_next hq5 hb6; have r1 := Below.keeps hb6 m1; have r0 := Below.keeps hb6 m0; have hz6 := hk6.size; replace hb6 := Lib.hid hb6)
                    go_roundw
                    case rel => exact ⟨i + 1, a.toNat, fk, 0, by omega, by go_num, by rw [hat.out], by rw [q2.out], rfl, rfl, hst, hk6, hq6⟩
                    case measure => simp [intOf]; omega
                  | false =>
                    have e1 : ((op : Int) == 1) = false := beq_eq_false_iff_ne.2 (by omega)
                    have f1 : ((op : Int) != 1) = true := by rw [bne, e1]; rfl
                    have e5 : ((op : Int) == 5) = false := beq_eq_false_iff_ne.2 (by omega)
                    have f5 : ((op : Int) != 5) = true := by rw [bne, e5]; rfl
                    have e53 : ((op : Int) == 53) = false := beq_eq_false_iff_ne.2 (by omega)
                    have f53 : ((op : Int) != 53) = true := by rw [bne, e53]; rfl
                    obtain ⟨q1, q2⟩ := hX2.out (by omega)
                    have hst := STEP.out (p + 1) fk (by rw [q2]; omega) hfk0.out (fun hh => by rw [hfr] at hh; cases hh)
                    rw [hfr, if_neg Bool.false_ne_true] at hst
                    replace hst := Lib.hid hst
                    have hn0f : ¬ (n : Int) < 0 := by omega
                    replace q2 := Lib.hid q2
                    clear hFR
                    try replace hak := Lib.hid hak
                    try replace hfr := Lib.hid hfr
                    try replace o1 := Lib.hid o1
                    try replace o5 := Lib.hid o5
                    try replace o53 := Lib.hid o53
                    go_wp2_with first
                      | (go_at_call 14; refine (TK.out _).mono ?_; rintro e w3 ⟨rfl, hb3⟩; have hk3 : Below w.heap.size w w3 := below_next (by go_grown) hb3; have hq3 : Below w2.heap.size w2 w3 := below_next (by go_grown) hb3; have k0 := (hb3.cell (p := ⟨wr.heap.size, 0, none⟩) (by simp)).trans (World.cell?_alloc_new ..); have k1 := (hb3.cell (p := ⟨wr.heap.size, 1, none⟩) (by simp)).trans (World.cell?_alloc_new ..); have k2 := (hb3.cell (p := ⟨wr.heap.size, 2, none⟩) (by simp)).trans (World.cell?_alloc_new ..); have k3 := (hb3.cell (p := ⟨wr.heap.size, 3, none⟩) (by simp)).trans (World.cell?_alloc_new ..); have t3 := Below.keeps (below_next (show Below wr.heap.size wr (wr.alloc _) by go_grown) hb3) tb; have hz3 := hk3.size; have hz4 := hq3.size; replace hb3 := Lib.hid hb3; simp only [List.getElem?_toArray, List.getElem?_cons_zero, List.getElem?_cons_succ] at k0 k1 k2 k3)
                      | (go_at_call 15; refine (EN.out _).mono ?_; rintro e w4 ⟨rfl, rfl⟩)
                      | (go_at_call 16; refine (BH.out _).mono ?_; rintro e w5 ⟨rfl, hb5⟩; have hk5 := below_next hk3 hb5; have hq5 := below_next hq3 hb5; have m0 := Below.keeps hb5 k0; have m1 := Below.keeps hb5 k1; have m2 := Below.keeps hb5 k2; have m3 := Below.keeps hb5 k3; have t5 := Below.keeps hb5 t3; have hz5 := hk5.size; replace hb5 := Lib.hid hb5)
                    go_roundw
                    case rel => exact ⟨i + 1, (p + 1), fk, 0, by omega, by go_num, by go_num, by rw [q2.out], rfl, rfl, hst, hk5, hq5⟩
                    case measure => simp [intOf]; omega
                · have hak1 : ((akI op : Int) == 1) = false := beq_eq_false_iff_ne.2 (by omega)
                  generalize (akI op : Int) = kk at rF hak1
                  cases b with
                  | true =>
                    have e1 : ((op : Int) == 1) = false := beq_eq_false_iff_ne.2 (by omega)
                    have f1 : ((op : Int) != 1) = true := by rw [bne, e1]; rfl
                    have e5 : ((op : Int) == 5) = false := beq_eq_false_iff_ne.2 (by omega)
                    have f5 : ((op : Int) != 5) = true := by rw [bne, e5]; rfl
                    have e53 : ((op : Int) == 53) = false := beq_eq_false_iff_ne.2 (by omega)
                    have f53 : ((op : Int) != 53) = true := by rw [bne, e53]; rfl
                    obtain ⟨q1, q2⟩ := hX2.out (by omega)
                    have hst := STEP.out (p + 1) fk (by rw [q2]; omega) hfk0.out (fun hh => by rw [hfr] at hh; cases hh)
                    rw [hfr, if_neg Bool.false_ne_true] at hst
                    replace hst := Lib.hid hst
                    have hn0f : ¬ (n : Int) < 0 := by omega
                    replace q2 := Lib.hid q2
                    clear hFR
                    try replace hak := Lib.hid hak
                    try replace hfr := Lib.hid hfr
                    try replace o1 := Lib.hid o1
                    try replace o5 := Lib.hid o5
                    try replace o53 := Lib.hid o53
                    go_wp2_with first
                      | (go_at_call 14; refine (TK.out _).mono ?_; rintro e w3 ⟨rfl, hb3⟩; have hk3 : Below w.heap.size w w3 := below_next (by go_grown) hb3; have hq3 : Below w2.heap.size w2 w3 := below_next (by go_grown) hb3; have k0 := (hb3.cell (p := ⟨wr.heap.size, 0, none⟩) (by simp)).trans (World.cell?_alloc_new ..); have k1 := (hb3.cell (p := ⟨wr.heap.size, 1, none⟩) (by simp)).trans (World.cell?_alloc_new ..); have k2 := (hb3.cell (p := ⟨wr.heap.size, 2, none⟩) (by simp)).trans (World.cell?_alloc_new ..); have k3 := (hb3.cell (p := ⟨wr.heap.size, 3, none⟩) (by simp)).trans (World.cell?_alloc_new ..); have t3 := Below.keeps (below_next (show Below wr.heap.size wr (wr.alloc _) by go_grown) hb3) tb; have hz3 := hk3.size; have hz4 := hq3.size; replace hb3 := Lib.hid hb3; simp only [List.getElem?_toArray, List.getElem?_cons_zero, List.getElem?_cons_succ] at k0 k1 k2 k3)
                      | (go_at_call 15; refine (EN.out _).mono ?_; rintro e w4 ⟨rfl, rfl⟩)
                      | (go_at_call 16; refine (BH.out _).mono ?_; rintro e w5 ⟨rfl, hb5⟩; have hk5 := below_next hk3 hb5; have hq5 := below_next hq3 hb5; have m0 := Below.keeps hb5 k0; have m1 := Below.keeps hb5 k1; have m2 := Below.keeps hb5 k2; have m3 := Below.keeps hb5 k3; have t5 := Below.keeps hb5 t3; have hz5 := hk5.size; replace hb5 := Lib.hid hb5)
                      | (go_at_call 17; refine (OF.out _).mono ?_; rintro e w6 ⟨rfl, hb6⟩; have hk6 := below_next hk5 hb6; have hq6 := below_next hq5 hb6; have r1 := Below.keeps hb6 m1; have r0 := Below.keeps hb6 m0; have hz6 := hk6.size; replace hb6 := Lib.hid hb6)
                    go_roundw
                    case rel => exact ⟨i + 1, (p + 1), fk, 0, by omega, by go_num, by go_num, by rw [q2.out], rfl, rfl, hst, hk6, hq6⟩
                    case measure => simp [intOf]; omega
                  | false =>
                    have e1 : ((op : Int) == 1) = false := beq_eq_false_iff_ne.2 (by omega)
                    have f1 : ((op : Int) != 1) = true := by rw [bne, e1]; rfl
                    have e5 : ((op : Int) == 5) = false := beq_eq_false_iff_ne.2 (by omega)
                    have f5 : ((op : Int) != 5) = true := by rw [bne, e5]; rfl
                    have e53 : ((op : Int) == 53) = false := beq_eq_false_iff_ne.2 (by omega)
                    have f53 : ((op : Int) != 53) = true := by rw [bne, e53]; rfl
                    obtain ⟨q1, q2⟩ := hX2.out (by omega)
                    have hst := STEP.out (p + 1) fk (by rw [q2]; omega) hfk0.out (fun hh => by rw [hfr] at hh; cases hh)
                    rw [hfr, if_neg Bool.false_ne_true] at hst
                    replace hst := Lib.hid hst
                    have hn0f : ¬ (n : Int) < 0 := by omega
                    replace q2 := Lib.hid q2
                    clear hFR
                    try replace hak := Lib.hid hak
                    try replace hfr := Lib.hid hfr
                    try replace o1 := Lib.hid o1
                    try replace o5 := Lib.hid o5
                    try replace o53 := Lib.hid o53
                    go_wp2_with first
                      | (go_at_call 14; refine (TK.out _).mono ?_; rintro e w3 ⟨rfl, hb3⟩; have hk3 : Below w.heap.size w w3 := below_next (by go_grown) hb3; have hq3 : Below w2.heap.size w2 w3 := below_next (by go_grown) hb3; have k0 := (hb3.cell (p := ⟨wr.heap.size, 0, none⟩) (by simp)).trans (World.cell?_alloc_new ..); have k1 := (hb3.cell (p := ⟨wr.heap.size, 1, none⟩) (by simp)).trans (World.cell?_alloc_new ..); have k2 := (hb3.cell (p := ⟨wr.heap.size, 2, none⟩) (by simp)).trans (World.cell?_alloc_new ..); have k3 := (hb3.cell (p := ⟨wr.heap.size, 3, none⟩) (by simp)).trans (World.cell?_alloc_new ..); have t3 := Below.keeps (below_next (show Below wr.heap.size wr (wr.alloc _) by go_grown) hb3) tb; have hz3 := hk3.size; have hz4 := hq3.size; replace hb3 := Lib.hid hb3; simp only [List.getElem?_toArray, List.getElem?_cons_zero, List.getElem?_cons_succ] at k0 k1 k2 k3)
                      | (go_at_call 15; refine (EN.out _).mono ?_; rintro e w4 ⟨rfl, rfl⟩)
                      | (go_at_call 16; refine (BH.out _).mono ?_; rintro e w5 ⟨rfl, hb5⟩; have hk5 := below_next hk3 hb5; have hq5 := below_next hq3 hb5; have m0 := Below.keeps hb5 k0; have m1 := Below.keeps hb5 k1; have m2 := Below.keeps hb5 k2; have m3 := Below.keeps hb5 k3; have t5 := Below.keeps hb5 t3; have hz5 := hk5.size; replace hb5 := Lib.hid hb5)
                    go_roundw
                    case rel => exact ⟨i + 1, (p + 1), fk, 0, by omega, by go_num, by go_num, by rw [q2.out], rfl, rfl, hst, hk5, hq5⟩
                    case measure => simp [intOf]; omega
      · obtain rfl : i = m := by omega
        have hlti : ¬ ((i : Int) < (i : Int)) := by omega
        go_wp2
        go_ret
        exact ⟨rfl, hbw⟩
  · have hft' := Lib.hid hft
    have hne : ((((faultI code s).2 : Nat) : Int) != 0) = true := by simp; omega
    clear hft
    go_enter Tryd.func5, Tryd.ntmps5
    go_wp2_with first
      | (go_at_call 6; refine AW.mono ?_; rintro e w1 ⟨rfl, hb1⟩)
      | (go_at_call 10; refine (DP.out _ hb1).mono ?_; rintro e w2 ⟨hb2, hp2, -⟩; obtain rfl := hp2 hft'.out; have hk2 := below_next hb1 hb2; clear hp2)
    go_ret
    exact ⟨rfl, hk2⟩
end Go.Proofs.YtlhabgfgoainlaaDoor
