/- A part of the proof: IDLk. No condition. -/
import Derived.Test.YtcabolfookofoaaDoorQ23
import Derived.Test.YtcabolfookofoaaDoorQ24
import Derived.Test.YtcabolfookofoaaDoorQ29
import Derived.Test.YtcabolfookofoaaDoorQ32
set_option linter.unusedVariables false
set_option linter.unusedSimpArgs false
namespace Go.Proofs.YtcabolfookofoaaDoor
open Go.RowKit
theorem results_fiveL {fn : Func} {a b c d e : Tmp} (h : fn.results = #[.tmp a, .tmp b, .tmp c, .tmp d, .tmp e]) (tmps : Array Value) (P : Program) (w : World) :
   (results fn tmps).run P w = .ok (.tuple #[tmps.getD a undef, tmps.getD b undef, tmps.getD c undef, tmps.getD d undef, tmps.getD e undef]) w := by
 simp [results, h]
def LookPost (code : List Ins) (s : Int) (w : World) (e : Ending) (w' : World) : Prop :=
 Below w.heap.size w w' ∧ ((faultI code s).2 ≠ 0 → e = .returned (.tuple #[.int .i64 0, .int .i64 0, .int .i64 (faultI code s).1, .slice none 0 0, .int .i64 (faultI code s).2])) ∧
   ((faultI code s).2 = 0 → ∃ g, e = .returned (.tuple #[.int .i64 (slotsP code s code.length), .int .i64 (maxP (fitsI code).1 (fitsI code).1.length), .int .i64 0, .slice (some ⟨g, 0, none⟩) (fitsI code).1.length (fitsI code).1.length, .int .i64 0]) ∧ w.heap.size ≤ g ∧ DepAt w' g (fitsI code).1)
theorem circI_none {code : List Ins} {d : List Int} (h : circI code d = none) {p : Nat} (hp : d.getD p (-1) ≠ -1) : runI code (d.length + 1) p = false := by
 unfold circI at h;rw [List.find?_eq_none] at h;have := h p (List.mem_range.2 (met_lt hp));cases hr : runI code (d.length + 1) p with
 | false => rfl
 | true => rw [hr, decide_eq_true hp] at this; exact absurd rfl this
theorem circI_some {code : List Ins} {d : List Int} {q : Nat} (h : circI code d = some q) : q < d.length ∧ d.getD q (-1) ≠ -1 ∧ runI code (d.length + 1) q = true ∧ ∀ p, p < q → d.getD p (-1) ≠ -1 → runI code (d.length + 1) p = false := by
 unfold circI at h;rw [List.find?_range_eq_some] at h;obtain ⟨h1, h2, h3⟩ := h;rw [Bool.and_eq_true, decide_eq_true_eq] at h1;refine ⟨List.mem_range.1 h2, h1.1, h1.2, fun p hp hm => ?_⟩;have := h3 p hp;cases hr : runI code (d.length + 1) p with
 | false => rfl
 | true => rw [hr, decide_eq_true hm] at this; exact absurd this (by decide)
set_option maxRecDepth 20000 in
set_option maxHeartbeats 4000000 in
theorem Look_any {code : List Ins} {v : Value} {w : World} {s : Int} (h : InsIn w v code) (hx : ∀ x ∈ code, FitIns x) (_hs : I64 s) :
   Calls Tryd.prog 7 #[v, .int .i64 s] w (LookPost code s w) := by
 obtain ⟨ad, cap, hv, hlc, hcm, hbig⟩ := id h;clear hbig;subst hv;obtain ⟨F, hF⟩ := exHid (faultI code s);have hF' := hF.out;unfold faultI at hF';have fin : ∀ (a e : Nat) (w' : World) (E : Ending), (a, e) = F → e ≠ 0 → Below w.heap.size w w' → E = .returned (.tuple #[.int .i64 0, .int .i64 0, .int .i64 (a : Int), .slice none 0 0, .int .i64 (e : Int)]) → LookPost code s w E w' := by
   intro a e w' E h1 h2 h3 h4;unfold LookPost;rw [hF.out, ← h1];exact ⟨h3, fun _ => h4, fun h => absurd h h2⟩
 replace fin := Lib.hid fin;obtain ⟨n, hN⟩ := exHid code.length;have hI : Hid (InsIn w (.slice ad n cap) code) := Lib.hid (by rw [← hN.out]; exact h);rw [hN.out] at hF' ⊢;clear h hlc hcm;by_cases c1 : s < 0 ∨ 100 < s
 · rw [if_pos c1] at hF'
   replace hF' := Lib.hid hF';rcases c1 with c1 | c1
   · go_enter Tryd.func7, Tryd.ntmps7
     go_wp2
     refine bodyPost_ret (results_fiveL rfl _ _ _) rfl ?_;exact fin.out _ _ _ _ hF'.out (by decide) (Below.refl _ _) rfl
   · have c2 : ¬ s < 0 := by omega
     go_enter Tryd.func7, Tryd.ntmps7
     go_wp2
     refine bodyPost_ret (results_fiveL rfl _ _ _) rfl ?_;exact fin.out _ _ _ _ hF'.out (by decide) (Below.refl _ _) rfl
 rw [if_neg c1] at hF';have s0 : ¬ s < 0 := by omega
 have s1 : ¬ 100 < s := by omega
 by_cases c2 : 8192 < n
 · rw [if_pos c2] at hF'
   have c2' : 8192 < (n : Int) := by omega
   replace hF' := Lib.hid hF';go_enter Tryd.func7, Tryd.ntmps7
   go_wp2
   refine bodyPost_ret (results_fiveL rfl _ _ _) rfl ?_;exact fin.out _ _ _ _ hF'.out (by decide) (Below.refl _ _) rfl
 rw [if_neg c2] at hF';have c2' : ¬ 8192 < (n : Int) := by omega
 by_cases c3 : n = 0
 · rw [if_pos c3] at hF'
   have c3' : ((n : Int) == 0) = true := by rw [c3]; rfl
   replace hF' := Lib.hid hF';replace c3 := Lib.hid c3;go_enter Tryd.func7, Tryd.ntmps7
   go_wp2
   refine bodyPost_ret (results_fiveL rfl _ _ _) rfl ?_;exact fin.out _ _ _ _ hF'.out (by decide) (Below.refl _ _) rfl
 rw [if_neg c3] at hF';have c3' : ((n : Int) == 0) = false := beq_eq_false_iff_ne.2 (by omega);have RG := Lib.hid (fun (x : Ins) (hxx : x ∈ code) (W : World) => refRight_any x (hx x hxx) (n : Int) W);have OF := Lib.hid (fun (op : Nat) (W : World) => Of_any op W);have rF := Lib.hid (fun (op : Nat) (W : World) => run_row_field1 op W);have hs0 : 0 ≤ s := by omega
 have hs1 : s ≤ 100 := by omega
 have hNo := hN.out;replace hF' := Lib.hid hF';replace hx := Lib.hid hx;replace c1 := Lib.hid c1;replace c3 := Lib.hid c3;have hI2 := hI;go_enter Tryd.func7, Tryd.ntmps7
 replace hNo := Lib.hid hNo;go_wp2
 go_loopw [9, 10] (fun t9 t10 wr => ∃ (i : Nat) (m : Int), i ≤ n ∧ t10 = .int .i64 i ∧ t9 = .int .i64 m ∧ 0 ≤ m ∧ m ≤ 100 ∧ Hid (m = slotsP code s i) ∧ Hid (∀ j, j < i → rightI (inAt code j) code.length = true) ∧ Hid (Below w.heap.size w wr)) (fun _ t10 _ => n - (intOf t10).toNat)
 case atStart => exact ⟨0, s, by omega, rfl, rfl, hs0, hs1, Lib.hid rfl, Lib.hid (fun j hj => by omega), Lib.hid (Below.refl _ _)⟩
 case round =>
   obtain ⟨i, m, hi, rfl, rfl, hm0, hm1, hmS, hall, hb⟩ := hrel;rcases Nat.lt_or_ge i n with hlt | hge
   · have hlti : (i : Int) < (n : Int) := by omega
     have hil : i < code.length := by rw [hN.out]; exact hlt
     have hmem : inAt code i ∈ code := by rw [inAt_get hil]; exact List.getElem_mem hil
     have RC := RG.out _ hmem;obtain ⟨B, hB⟩ := exHid (rightI (inAt code i) n);rw [hB.out] at RC;have hB2 : Hid (rightI (inAt code i) code.length = B) := Lib.hid (by rw [hN.out]; exact hB.out);have hS : slotsP code s (i + 1) = if akI (inAt code i).op = 2 ∧ slotsP code s i < (inAt code i).a + 1 then (inAt code i).a + 1 else slotsP code s i := rfl;rw [← hmS.out] at hS;have hsl := fun (hh : B = true) hk => right_slot (n := n) (by rw [hB.out]; exact hh) hk
     rcases hxi : inAt code i with ⟨op, a, num, tx⟩
     rw [hxi] at RC hS hsl;obtain ⟨g, off, cap0, ecv, hg, z0, z1, z2, z3⟩ := hI.out.cells hb.out (i := i) hil hxi;injection ecv with ec1 ec2 ec3;subst ec1 ec3;clear ec2 hB hmem;replace hxi := Lib.hid hxi;have OC := OF.out op;have rC := rF.out op;unfold insV at RC;dsimp only at RC hS hsl;replace RC := Lib.hid RC;replace OC := Lib.hid OC;cases B with
     | true =>
       have hsl2 := hsl rfl;clear hsl;generalize rowV op = rv at OC rC;obtain ⟨k1, hk1⟩ : ∃ y, (akI op : Int) = y := ⟨_, rfl⟩;rw [hk1] at rC;by_cases hk : akI op = 2
       · have ek : (k1 == 2) = true := by rw [← hk1, hk]; rfl
         obtain ⟨ha0, ha1⟩ := hsl2 hk;replace hk1 := Lib.hid hk1;by_cases hmm : m < a + 1
         · rw [if_pos ⟨hk, hmm⟩] at hS
           have hm' : m ≤ a + 1 := by omega
           replace hS := Lib.hid hS;replace hk := Lib.hid hk;clear hsl2;go_wp2_with first
             | (go_at_call 13; refine (RC.out _).mono ?_; rintro e w1 ⟨rfl, hb1⟩; have hk2 := Lib.hid (below_next hb.out hb1); have y0 := Below.keeps hb1 z0; have y1 := Below.keeps hb1 z1; clear hb1)
             | (go_at_call 14; refine (OC.out _).mono ?_; rintro e w2 ⟨rfl, hb2⟩; have hk3 := Lib.hid (below_next hk2.out hb2); have x1 := Below.keeps hb2 y1; clear hb2)
           go_roundw
           case rel => exact ⟨i + 1, a + 1, by omega, by go_num, by first | rfl | (congr 1; omega), by omega, by omega, Lib.hid hS.out.symm, Lib.hid (fun j hj => by
             by_cases e : j = i
             · rw [e]; exact hB2.out
             · exact hall.out j (by omega)), hk3⟩
           case measure => simp [intOf]; omega
         · rw [if_neg (fun hh => hmm hh.2)] at hS
           have hm' : a + 1 ≤ m := by omega
           replace hS := Lib.hid hS;replace hk := Lib.hid hk;clear hsl2;go_wp2_with first
             | (go_at_call 13; refine (RC.out _).mono ?_; rintro e w1 ⟨rfl, hb1⟩; have hk2 := Lib.hid (below_next hb.out hb1); have y0 := Below.keeps hb1 z0; have y1 := Below.keeps hb1 z1; clear hb1)
             | (go_at_call 14; refine (OC.out _).mono ?_; rintro e w2 ⟨rfl, hb2⟩; have hk3 := Lib.hid (below_next hk2.out hb2); have x1 := Below.keeps hb2 y1; clear hb2)
           go_roundw
           case rel => exact ⟨i + 1, m, by omega, by go_num, by first | rfl | (congr 1; omega), by omega, by omega, Lib.hid hS.out.symm, Lib.hid (fun j hj => by
             by_cases e : j = i
             · rw [e]; exact hB2.out
             · exact hall.out j (by omega)), hk3⟩
           case measure => simp [intOf]; omega
       · have ek : (k1 == 2) = false := beq_eq_false_iff_ne.2 (by omega)
         rw [if_neg (fun hh => hk hh.1)] at hS;replace hk1 := Lib.hid hk1;replace hS := Lib.hid hS;replace hk := Lib.hid hk;clear hsl2;go_wp2_with first
           | (go_at_call 13; refine (RC.out _).mono ?_; rintro e w1 ⟨rfl, hb1⟩; have hk2 := Lib.hid (below_next hb.out hb1); have y0 := Below.keeps hb1 z0; have y1 := Below.keeps hb1 z1; clear hb1)
           | (go_at_call 14; refine (OC.out _).mono ?_; rintro e w2 ⟨rfl, hb2⟩; have hk3 := Lib.hid (below_next hk2.out hb2); have x1 := Below.keeps hb2 y1; clear hb2)
         go_roundw
         case rel => exact ⟨i + 1, m, by omega, by go_num, by first | rfl | (congr 1; omega), by omega, by omega, Lib.hid hS.out.symm, Lib.hid (fun j hj => by
           by_cases e : j = i
           · rw [e]; exact hB2.out
           · exact hall.out j (by omega)), hk3⟩
         case measure => simp [intOf]; omega
     | false =>
       clear hsl hS OC rC;go_wp2_with (go_at_call 13; refine (RC.out _).mono ?_; rintro e w1 ⟨rfl, hb1⟩; have hk := Lib.hid (below_next hb.out hb1); clear hb1)
       refine bodyPost_ret (results_fiveL rfl _ _ _) rfl ?_;refine fin.out i 3 _ _ ?_ (by decide) hk.out rfl;rw [← hF'.out, badI_some hil hB2.out hall.out]
   · obtain rfl : i = n := by omega
     have hlti : ¬ ((i : Int) < (i : Int)) := by omega
     have hbad : badI code = none := badI_none (fun j hj => hall.out j (by rw [← hN.out]; exact hj));have hR := allRt_of hbad;have hF2 := hF'.out;rw [hbad] at hF2;dsimp only at hF2;have h0c : 0 < code.length := by rw [hN.out]; have := c3.out; omega
     have hnc : code.length ≤ 8192 := by rw [hN.out]; omega
     have FT := refFits_any (hI2.out.below (show Below w.heap.size w wr from hb.out)) h0c hnc hR;replace hR := Lib.hid hR;replace h0c := Lib.hid h0c;replace hnc := Lib.hid hnc;clear hall RG OF rF hbad;unfold RefFitPost at FT;cases hf : (fitsI code).2 with
     | some q =>
       rw [hf] at hF2 FT;replace hF2 := Lib.hid hF2;have hq0 : (0 : Int) ≤ (q : Int) := by omega
       have hq1 : ¬ ((q : Int) < 0) := by omega
       have hn0 : (0 : Int) < (i : Int) := by have := c3.out; omega
       go_wp2_with (go_at_call 15; refine FT.mono ?_; rintro e w2 ⟨hb2, -, hfp⟩; obtain ⟨v2, rfl⟩ := hfp q rfl; have hk2 := Lib.hid (below_next hb.out hb2); clear hfp)
       go_loopw [12, 13] (fun t12 t13 wq => t12 = .int .i64 q ∧ t13 = .int .i64 0 ∧ w2 = wq) (fun _ _ _ => 0)
       case atStart => exact ⟨rfl, rfl, rfl⟩
       case round =>
         obtain ⟨rfl, rfl, rfl⟩ := hrel;go_wp2
         refine bodyPost_ret (results_fiveL rfl _ _ _) rfl ?_;exact fin.out q 140 _ _ hF2.out (by decide) hk2.out rfl
     | none =>
       rw [hf] at hF2 FT;dsimp only at hF2;have hfits := fits_of hR.out h0c.out hf;obtain ⟨d, hd⟩ : ∃ d, (fitsI code).1 = d := ⟨_, rfl⟩;have hfin : Hid (∀ (g : Nat) (w' : World), faultI code s = (0, 0) → Below w.heap.size w w' → w.heap.size ≤ g → DepAt w' g d → ∀ E, E = .returned (.tuple #[.int .i64 (slotsP code s code.length), .int .i64 (maxP d d.length), .int .i64 0, .slice (some ⟨g, 0, none⟩) d.length d.length, .int .i64 0]) → LookPost code s w E w') := Lib.hid (by
         intro g w' h1 h2 h3 h4 E h5;unfold LookPost;rw [h1, hd];exact ⟨h2, fun hh => absurd rfl hh, fun _ => ⟨g, h5, h3, h4⟩⟩)
       rw [hd] at hfits hF2 FT;have hdl : d.length = i := by rw [hfits.len, hN.out]
       have hdp := hfits.dp;have CI := fun (W : World) (hbW : Below w.heap.size w W) (q0 : Nat) (hm : d.getD q0 (-1) ≠ -1) => refCircle_any (hI2.out.below hbW) hnc.out hR.out hfits hm
       rw [hN.out] at FT;replace CI := Lib.hid CI;replace hd := Lib.hid hd;replace hfits := Lib.hid hfits;replace hdp := Lib.hid hdp;replace hdl := Lib.hid hdl;have hz := hb.out.size;cases hc : circI code d with
       | some q =>
         rw [hc] at hF2;replace hF2 := Lib.hid hF2;obtain ⟨q1, q2, q3, q4⟩ := circI_some hc;replace hc := Lib.hid hc;have hqi : q < i := by rw [← hdl.out]; exact q1
         have hq64 : (q : Int) < (i : Int) := by omega
         replace q1 := Lib.hid q1;replace q2 := Lib.hid q2;replace q3 := Lib.hid q3;replace q4 := Lib.hid q4;go_wp2_with (go_at_call 15; refine FT.mono ?_; rintro e w2 ⟨hb2, hfp, -⟩; obtain ⟨g, rfl, hg, hD⟩ := hfp rfl; have hk2 := Lib.hid (below_next hb.out hb2); replace hD := Lib.hid hD; clear hfp)
         go_loopw [12, 13] (fun t12 t13 wq => ∃ j : Nat, j ≤ q + 1 ∧ t13 = .int .i64 j ∧ (t12 = .int .i64 (-1) ∧ j ≤ q ∨ t12 = .int .i64 q ∧ j = q + 1) ∧ w2 = wq) (fun _ t13 _ => q + 1 - (intOf t13).toNat)
         case atStart => exact ⟨0, by omega, rfl, .inl ⟨rfl, by omega⟩, rfl⟩
         case round =>
           obtain ⟨j, hj, rfl, hat, rfl⟩ := hrel;rcases hat with ⟨rfl, hjq⟩ | ⟨rfl, rfl⟩
           · have hji : (j : Int) < (i : Int) := by omega
             have xj := hD.out.cell (i := j) (by rw [hdl.out]; omega);have hdj := (hdp.out j).1;obtain ⟨dj, hdj2⟩ : ∃ y, d.getD j (-1) = y := ⟨_, rfl⟩;rw [hdj2] at xj hdj;by_cases hm : dj = -1
             · have e1 : ¬ (0 : Int) ≤ dj := by omega
               have hne : j ≠ q := fun e => q2.out (by rw [← e, hdj2, hm])
               replace hm := Lib.hid hm;replace hdj := Lib.hid hdj;replace hdj2 := Lib.hid hdj2;go_wp2
               go_roundw
               case rel => exact ⟨j + 1, by omega, by go_num, .inl ⟨rfl, by omega⟩, by trivial⟩
               case measure => simp [intOf]; omega
             · have e1 : (0 : Int) ≤ dj := by omega
               have CJ := CI.out _ hk2.out j (by rw [hdj2]; exact hm);by_cases hjq2 : j = q
               · have hrun : runI code (d.length + 1) j = true := by rw [hjq2]; exact q3.out
                 replace hjq2 := Lib.hid hjq2;rw [hrun] at CJ;replace hm := Lib.hid hm;replace hdj := Lib.hid hdj;replace hdj2 := Lib.hid hdj2;replace hrun := Lib.hid hrun;replace CJ := Lib.hid CJ;go_wp2_with (go_at_call 16; refine CJ.out.mono ?_; rintro e w3 ⟨rfl, rfl⟩)
                 go_roundw
                 case rel => exact ⟨j + 1, by omega, by go_num, .inr ⟨by rw [hjq2.out], by rw [hjq2.out]⟩, by trivial⟩
                 case measure => simp [intOf]; omega
               · have hrun : runI code (d.length + 1) j = false := q4.out j (by omega) (by rw [hdj2]; exact hm)
                 rw [hrun] at CJ;replace hm := Lib.hid hm;replace hdj := Lib.hid hdj;replace hdj2 := Lib.hid hdj2;replace hrun := Lib.hid hrun;replace CJ := Lib.hid CJ;go_wp2_with (go_at_call 16; refine CJ.out.mono ?_; rintro e w3 ⟨rfl, rfl⟩)
                 go_roundw
                 case rel => exact ⟨j + 1, by omega, by go_num, .inl ⟨rfl, by omega⟩, by trivial⟩
                 case measure => simp [intOf]; omega
           · have hq0 : (0 : Int) ≤ (q : Int) := by omega
             have hq1 : ¬ ((q : Int) < 0) := by omega
             by_cases hqe : ((q + 1 : Nat) : Int) < (i : Int)
             all_goals
               go_wp2
               refine bodyPost_ret (results_fiveL rfl _ _ _) rfl ?_;exact fin.out q 140 _ _ hF2.out (by decide) hk2.out rfl
       | none =>
         rw [hc] at hF2;have hF3 : Hid (faultI code s = (0, 0)) := Lib.hid (hF.out.trans hF2.symm);clear hF2;have q4 := Lib.hid (fun p hp => circI_none hc (p := p) hp);replace hc := Lib.hid hc;go_wp2_with (go_at_call 15; refine FT.mono ?_; rintro e w2 ⟨hb2, hfp, -⟩; obtain ⟨g, rfl, hg, hD⟩ := hfp rfl; have hk2 := Lib.hid (below_next hb.out hb2); replace hD := Lib.hid hD; clear hfp)
         go_loopw [12, 13] (fun t12 t13 wq => ∃ j : Nat, j ≤ i ∧ t13 = .int .i64 j ∧ t12 = .int .i64 (-1) ∧ w2 = wq) (fun _ t13 _ => i - (intOf t13).toNat)
         case atStart => exact ⟨0, by omega, rfl, rfl, rfl⟩
         case round =>
           obtain ⟨j, hj, rfl, rfl, rfl⟩ := hrel;rcases Nat.lt_or_ge j i with hlt | hge
           · have hji : (j : Int) < (i : Int) := by omega
             have xj := hD.out.cell (i := j) (by rw [hdl.out]; omega);have hdj := (hdp.out j).1;obtain ⟨dj, hdj2⟩ : ∃ y, d.getD j (-1) = y := ⟨_, rfl⟩;rw [hdj2] at xj hdj;by_cases hm : dj = -1
             · have e1 : ¬ (0 : Int) ≤ dj := by omega
               replace hm := Lib.hid hm;replace hdj := Lib.hid hdj;replace hdj2 := Lib.hid hdj2;go_wp2
               go_roundw
               case rel => exact ⟨j + 1, by omega, by go_num, rfl, by trivial⟩
               case measure => simp [intOf]; omega
             · have e1 : (0 : Int) ≤ dj := by omega
               have CJ := CI.out _ hk2.out j (by rw [hdj2]; exact hm);rw [q4.out j (by rw [hdj2]; exact hm)] at CJ;replace hm := Lib.hid hm;replace hdj := Lib.hid hdj;replace hdj2 := Lib.hid hdj2;replace CJ := Lib.hid CJ;go_wp2_with (go_at_call 16; refine CJ.out.mono ?_; rintro e w3 ⟨rfl, rfl⟩)
               go_roundw
               case rel => exact ⟨j + 1, by omega, by go_num, rfl, by trivial⟩
               case measure => simp [intOf]; omega
           · obtain rfl : j = i := by omega
             have hji : ¬ ((j : Int) < (j : Int)) := by omega
             go_wp2
             go_loopw [14, 15] (fun t14 t15 wq => ∃ k : Nat, k ≤ j ∧ t15 = .int .i64 k ∧ t14 = .int .i64 (maxP d k) ∧ w2 = wq) (fun _ t15 _ => j - (intOf t15).toNat)
             case atStart => exact ⟨0, by omega, rfl, rfl, rfl⟩
             case round =>
               obtain ⟨k, hk, rfl, rfl, rfl⟩ := hrel;rcases Nat.lt_or_ge k j with hlt | hge
               · have hkj : (k : Int) < (j : Int) := by omega
                 have xk := hD.out.cell (i := k) (by rw [hdl.out]; omega);have hSm : maxP d (k + 1) = if maxP d k < d.getD k (-1) then d.getD k (-1) else maxP d k := rfl;generalize maxP d k = mv at *;generalize d.getD k (-1) = dk at *;by_cases hm : mv < dk
                 · rw [if_pos hm] at hSm
                   have hm' : mv ≤ dk := by omega
                   replace hSm := Lib.hid hSm;go_wp2
                   go_roundw
                   case rel => exact ⟨k + 1, by omega, by go_num, by rw [hSm.out] <;> first | rfl | (congr 1; omega), by trivial⟩
                   case measure => simp [intOf]; omega
                 · rw [if_neg hm] at hSm
                   have hm' : dk ≤ mv := by omega
                   replace hSm := Lib.hid hSm;go_wp2
                   go_roundw
                   case rel => exact ⟨k + 1, by omega, by go_num, by rw [hSm.out] <;> first | rfl | (congr 1; omega), by trivial⟩
                   case measure => simp [intOf]; omega
               · obtain rfl : k = j := by omega
                 have hkj : ¬ ((k : Int) < (k : Int)) := by omega
                 go_wp2
                 refine bodyPost_ret (results_fiveL rfl _ _ _) rfl ?_;refine hfin.out g _ hF3.out hk2.out (Nat.le_trans hz hg) hD.out _ ?_;rw [hmS.out, hdl.out, hN.out];rfl
end Go.Proofs.YtcabolfookofoaaDoor
