/- A part of the proof: IThrB. No condition. -/
import Derived.Test.YtcabolfookofoaaGreatDoorQ35
set_option linter.unusedVariables false
set_option linter.unusedSimpArgs false
namespace Go.Proofs.YtcabolfookofoaaGreatDoor
open Go.RowKit HI
section
variable {B gt g b p p0 : Nat} {cv : Value} {d : List Int} {L : List T} {w : World} {gn : Nat → Bool} {code : List Ins}
set_option maxRecDepth 20000 in
set_option maxHeartbeats 600000 in
theorem thr_jump (h : ThrIn B w gt g b cv d L p gn code p0) (ho : (inAt code p0).op = 1) (hs : takesI (inAt code p0) ≤ d.getD p0 (-1)) :
   Calls Tryz.prog 70 #[.pointer (some ⟨gt, 0, none⟩), .int .i64 p0, .int .i64 (d.getD p0 (-1))] w fun e w' => MetPost B gt g b cv (p + 2) gn (stepI code d p0) e w w' := by
 obtain ⟨h1, h2, h3, h4, h5, h6, h7, h8, h9, h10, h11⟩ := h;obtain ⟨r, hr0⟩ := exHid (stepI code d p0);rw [hr0.out];have hr1 := hr0.out;unfold stepI at hr1;dsimp only at hr1;clear hr0;have hc := h1.c0;have hsz := h1.lt;have hB := h1.lo;obtain ⟨ad, cap, hcv, hlc, hcm, hbig⟩ := id h3;clear hbig;have hcv' : ∃ ad cap, cv = .slice ad d.length cap := ⟨ad, cap, by rw [hcv, h4]⟩;obtain ⟨dp, hdp⟩ : ∃ x, d.getD p0 (-1) = x := ⟨_, rfl⟩;rw [hdp] at h8 hs hr1 ⊢;replace hdp := Lib.hid hdp;have M := fun W => moves_any (inAt code p0) W
 obtain ⟨tk, hT⟩ := exHid (takesI (inAt code p0));obtain ⟨lv, hL⟩ := exHid (leaveR (inAt code p0).op : Int);have hlv := leaveR_le (inAt code p0).op;have hLo := hL.out;rw [hT.out, hL.out] at M;rw [hT.out] at hs h10 hr1;rw [if_neg (by omega)] at hr1;rw [if_neg (by rw [ho]; decide)] at hr1;rw [if_pos (by rw [ho]; rfl)] at hr1;have htg := h11 (by rw [ho]; rfl);have eN : nextI (inAt code p0) dp = dp - tk + lv := by unfold nextI; rw [hT.out, hLo]
 have eT : thereI (inAt code p0) dp = dp - tk + lv := by unfold thereI; rw [if_neg (by omega), if_neg (by omega), eN]
 rw [eT] at hr1;replace hr1 := Lib.hid hr1;replace hT := Lib.hid hT.out;have t8 : (((inAt code p0).op : Int) == 8) = false := beq_eq_false_iff_ne.2 (by omega);have t9 : (((inAt code p0).op : Int) == 9) = false := beq_eq_false_iff_ne.2 (by omega);have t28 : (((inAt code p0).op : Int) == 28) = false := beq_eq_false_iff_ne.2 (by omega);have t1 : (((inAt code p0).op : Int) == 1) = true := by rw [ho]; rfl
 replace hL := Lib.hid hL.out;have hlv0 : 0 ≤ lv ∧ lv ≤ 1 := by rw [← hL.out]; omega
 clear hLo hlv;have MT := fun (W : World) (hW : TM B W gt g b cv d L p) => meet_int (gn := gn) hW h2 hcv' (by omega) (q := (inAt code p0).a) (v := dp - tk + lv) (by omega) (by omega) (by omega) h9 h5
 obtain ⟨g0, off, cap0, ecv, hg0, x0, x1, x2, x3⟩ := h3.cells (Below.refl _ w) (i := p0) (by omega) (op := (inAt code p0).op) (a := (inAt code p0).a) (x := (inAt code p0).num) (tx := (inAt code p0).text) rfl;unfold insV at M;generalize (inAt code p0).op = op at *;generalize (inAt code p0).num = nm at *;generalize (inAt code p0).text = tx at *;generalize (inAt code p0).a = a at *;rw [ecv] at hc;have hp64 : (p0 : Int) < (code.length : Int) := by omega
 have hp65 : (p0 : Int) ≤ 8192 := by omega
 obtain ⟨N, hN⟩ := exHid code.length;rw [hN.out] at hc hp64;have hd1 : 0 ≤ dp := h8.1;have hd2 : dp ≤ 100000 := h8.2;have ht1 : 0 ≤ tk := h10.1;have ht2 : tk ≤ 2048 := h10.2;have hl1 : 0 ≤ lv := hlv0.1;have hl2 : lv ≤ 1 := hlv0.2;replace h8 := Lib.hid h8;replace h10 := Lib.hid h10;replace hlv0 := Lib.hid hlv0;replace h5 := Lib.hid h5;replace h6 := Lib.hid h6;replace h11 := Lib.hid h11;replace hB := Lib.hid hB;replace hcm := Lib.hid hcm;replace ho := Lib.hid ho;have h1' := Lib.hid h1;replace h2 := Lib.hid h2;replace h3 := Lib.hid h3;replace h4 := Lib.hid h4;replace h7 := Lib.hid h7;replace hcv' := Lib.hid hcv';replace hcv := Lib.hid hcv;replace h9 := Lib.hid h9;clear h1 hlc
 skip
 go_enter Tryz.func70, Tryz.ntmps70
 go_wp2_with first
   | (go_at_call 103; refine (M _).mono ?_; rintro e w1 ⟨rfl, hb⟩; have hk : Below w.heap.size w w1 := below_next (by go_grown) hb; have hz := hk.size; have k0 := (hb.cell (p := ⟨w.heap.size, 0, none⟩) (by simp)).trans (World.cell?_alloc_new ..); have k1 := (hb.cell (p := ⟨w.heap.size, 1, none⟩) (by simp)).trans (World.cell?_alloc_new ..); have hTw := Lib.hid (h1'.out.below hk); replace hb := Lib.hid hb; simp at k0 k1)
   | (go_at_call 68; (with_reducible refine (MT _ hTw.out).mono ?_); rintro e w2 ⟨rfl, ho2, hn2⟩; replace ho2 := Lib.hid ho2; replace hn2 := Lib.hid hn2)
 go_ret
 have hB' := hB.out;refine ⟨ret_bool ?_, (Only.of_below (F := fun k => B ≤ k) hk).then ho2.out, fun d1 e => ?_⟩
 · rw [← hr1.out]
   cases meetI d a.toNat (dp - tk + lv) with
   | none => rfl
   | some d2 => dsimp only; rw [if_pos (by have := ho.out; omega)]
 · have hr2 := hr1.out
   rw [e] at hr2;cases hm : meetI d a.toNat (dp - tk + lv) with
   | none => rw [hm] at hr2; cases hr2
   | some d2 =>
     rw [hm] at hr2;dsimp only at hr2;rw [if_pos (by have := ho.out; omega)] at hr2;obtain rfl := Option.some.inj hr2;obtain ⟨L2, p2, a1, a2, a3⟩ := hn2.out _ hm;exact ⟨L2, p2, a1, a2, by omega⟩
set_option maxRecDepth 20000 in
set_option maxHeartbeats 600000 in
theorem thr_rest (h : ThrIn B w gt g b cv d L p gn code p0) (ho : (inAt code p0).op ≠ 8 ∧ (inAt code p0).op ≠ 9 ∧ (inAt code p0).op ≠ 28 ∧ (inAt code p0).op ≠ 1 ∧ (inAt code p0).op ≠ 2 ∧ (inAt code p0).op ≠ 3 ∧ (inAt code p0).op ≠ 4 ∧ (inAt code p0).op ≠ 53) (hs : takesI (inAt code p0) ≤ d.getD p0 (-1)) :
   Calls Tryz.prog 70 #[.pointer (some ⟨gt, 0, none⟩), .int .i64 p0, .int .i64 (d.getD p0 (-1))] w fun e w' => MetPost B gt g b cv (p + 2) gn (stepI code d p0) e w w' := by
 obtain ⟨h1, h2, h3, h4, h5, h6, h7, h8, h9, h10, h11⟩ := h;obtain ⟨r, hr0⟩ := exHid (stepI code d p0);rw [hr0.out];have hr1 := hr0.out;unfold stepI at hr1;dsimp only at hr1;clear hr0;have hc := h1.c0;have hsz := h1.lt;have hB := h1.lo;obtain ⟨ad, cap, hcv, hlc, hcm, hbig⟩ := id h3;clear hbig;have hcv' : ∃ ad cap, cv = .slice ad d.length cap := ⟨ad, cap, by rw [hcv, h4]⟩;obtain ⟨dp, hdp⟩ : ∃ x, d.getD p0 (-1) = x := ⟨_, rfl⟩;rw [hdp] at h8 hs hr1 ⊢;replace hdp := Lib.hid hdp;have M := fun W => moves_any (inAt code p0) W
 obtain ⟨tk, hT⟩ := exHid (takesI (inAt code p0));obtain ⟨lv, hL⟩ := exHid (leaveR (inAt code p0).op : Int);have hlv := leaveR_le (inAt code p0).op;have hLo := hL.out;rw [hT.out, hL.out] at M;rw [hT.out] at hs h10 hr1;rw [if_neg (by omega)] at hr1;rw [if_neg (by unfold endsI; simp only [Bool.or_eq_true, beq_iff_eq]; omega)] at hr1;rw [if_neg (by unfold akI; (repeat' split) <;> omega)] at hr1;dsimp only at hr1;rw [if_neg (by omega)] at hr1;have eN : nextI (inAt code p0) dp = dp - tk + lv := by unfold nextI; rw [hT.out, hLo]
 rw [eN] at hr1;replace hr1 := Lib.hid hr1;replace hT := Lib.hid hT.out;have t8 : (((inAt code p0).op : Int) == 8) = false := beq_eq_false_iff_ne.2 (by omega);have t9 : (((inAt code p0).op : Int) == 9) = false := beq_eq_false_iff_ne.2 (by omega);have t28 : (((inAt code p0).op : Int) == 28) = false := beq_eq_false_iff_ne.2 (by omega);have t1 : (((inAt code p0).op : Int) == 1) = false := beq_eq_false_iff_ne.2 (by omega);have t2 : (((inAt code p0).op : Int) == 2) = false := beq_eq_false_iff_ne.2 (by omega);have t3 : (((inAt code p0).op : Int) == 3) = false := beq_eq_false_iff_ne.2 (by omega);have t4 : (((inAt code p0).op : Int) == 4) = false := beq_eq_false_iff_ne.2 (by omega);have t53 : (((inAt code p0).op : Int) == 53) = false := beq_eq_false_iff_ne.2 (by omega);replace hL := Lib.hid hL.out;have hlv0 : 0 ≤ lv ∧ lv ≤ 1 := by rw [← hL.out]; omega
 clear hLo hlv;have MN := fun (W : World) (hW : TM B W gt g b cv d L p) => meet_int (gn := gn) hW h2 hcv' (by omega) (q := (p0 : Int) + 1) (v := dp - tk + lv) (by omega) (by omega) (by omega) h9 h5
 have e1 : ((p0 : Int) + 1).toNat = p0 + 1 := by omega
 rw [e1] at MN;obtain ⟨g0, off, cap0, ecv, hg0, x0, x1, x2, x3⟩ := h3.cells (Below.refl _ w) (i := p0) (by omega) (op := (inAt code p0).op) (a := (inAt code p0).a) (x := (inAt code p0).num) (tx := (inAt code p0).text) rfl;unfold insV at M;generalize (inAt code p0).op = op at *;generalize (inAt code p0).num = nm at *;generalize (inAt code p0).text = tx at *;generalize (inAt code p0).a = a at *;rw [ecv] at hc;have hp64 : (p0 : Int) < (code.length : Int) := by omega
 have hp65 : (p0 : Int) ≤ 8192 := by omega
 obtain ⟨N, hN⟩ := exHid code.length;rw [hN.out] at hc hp64;have hd1 : 0 ≤ dp := h8.1;have hd2 : dp ≤ 100000 := h8.2;have ht1 : 0 ≤ tk := h10.1;have ht2 : tk ≤ 2048 := h10.2;have hl1 : 0 ≤ lv := hlv0.1;have hl2 : lv ≤ 1 := hlv0.2;replace h8 := Lib.hid h8;replace h10 := Lib.hid h10;replace hlv0 := Lib.hid hlv0;replace h5 := Lib.hid h5;replace h6 := Lib.hid h6;replace h11 := Lib.hid h11;replace hB := Lib.hid hB;replace hcm := Lib.hid hcm;replace ho := Lib.hid ho;have h1' := Lib.hid h1;replace h2 := Lib.hid h2;replace h3 := Lib.hid h3;replace h4 := Lib.hid h4;replace h7 := Lib.hid h7;replace hcv' := Lib.hid hcv';replace hcv := Lib.hid hcv;replace h9 := Lib.hid h9;clear h1 hlc
 skip
 go_enter Tryz.func70, Tryz.ntmps70
 go_wp2_with first
   | (go_at_call 103; refine (M _).mono ?_; rintro e w1 ⟨rfl, hb⟩; have hk : Below w.heap.size w w1 := below_next (by go_grown) hb; have hz := hk.size; have k0 := (hb.cell (p := ⟨w.heap.size, 0, none⟩) (by simp)).trans (World.cell?_alloc_new ..); have k1 := (hb.cell (p := ⟨w.heap.size, 1, none⟩) (by simp)).trans (World.cell?_alloc_new ..); have hTw := Lib.hid (h1'.out.below hk); replace hb := Lib.hid hb; simp at k0 k1)
   | (go_at_call 68; (with_reducible refine (MN _ hTw.out).mono ?_); rintro e w2 ⟨rfl, ho2, hn2⟩; replace ho2 := Lib.hid ho2; replace hn2 := Lib.hid hn2)
 go_ret
 have hB' := hB.out;refine ⟨ret_bool (by rw [← hr1.out]), (Only.of_below (F := fun k => B ≤ k) hk).then ho2.out, fun d3 e => ?_⟩;rw [← hr1.out] at e;obtain ⟨L3, p3, a1, a2, a3⟩ := hn2.out _ e;exact ⟨L3, p3, a1, a2, by omega⟩
end
end Go.Proofs.YtcabolfookofoaaGreatDoor
