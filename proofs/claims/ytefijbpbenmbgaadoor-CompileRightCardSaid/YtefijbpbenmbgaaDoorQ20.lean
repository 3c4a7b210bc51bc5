/- A part of the proof: IThrD, IFit, IFit2. No condition. -/
import Derived.Test.YtefijbpbenmbgaaDoorQ17
import Derived.Test.YtefijbpbenmbgaaDoorQ18
import Derived.Test.YtefijbpbenmbgaaDoorQ19
set_option linter.unusedVariables false
set_option linter.unusedSimpArgs false
namespace Go.Proofs.YtefijbpbenmbgaaDoor
open Go.RowKit HI
section
variable {B gt g b p p0 : Nat} {cv : Value} {d : List Int} {L : List T} {w : World} {gn : Nat → Bool} {code : List Ins}
set_option maxRecDepth 20000 in
set_option maxHeartbeats 600000 in
theorem thr_or_none (h : ThrIn B w gt g b cv d L p gn code p0) (ho : (inAt code p0).op = 3) (hs : takesI (inAt code p0) ≤ d.getD p0 (-1)) (hr : meetI d (inAt code p0).a.toNat (thereI (inAt code p0) (d.getD p0 (-1))) = none) :
   Calls Tryd.prog 48 #[.pointer (some ⟨gt, 0, none⟩), .int .i64 p0, .int .i64 (d.getD p0 (-1))] w fun e w' => MetPost B gt g b cv (p + 2) gn (stepI code d p0) e w w' := by
 obtain ⟨h1, h2, h3, h4, h5, h6, h7, h8, h9, h10, h11⟩ := h;obtain ⟨r, hr0⟩ := exHid (stepI code d p0);rw [hr0.out];have hr1 := hr0.out;unfold stepI at hr1;dsimp only at hr1;clear hr0;have hc := h1.c0;have hsz := h1.lt;have hB := h1.lo;obtain ⟨ad, cap, hcv, hlc, hcm, hbig⟩ := id h3;clear hbig;have hcv' : ∃ ad cap, cv = .slice ad d.length cap := ⟨ad, cap, by rw [hcv, h4]⟩;obtain ⟨dp, hdp⟩ : ∃ x, d.getD p0 (-1) = x := ⟨_, rfl⟩;rw [hdp] at h8 hs hr1 hr ⊢;replace hdp := Lib.hid hdp;have M := fun W => moves_any (inAt code p0) W
 obtain ⟨tk, hT⟩ := exHid (takesI (inAt code p0));obtain ⟨lv, hL⟩ := exHid (leaveR (inAt code p0).op : Int);have hlv := leaveR_le (inAt code p0).op;have hLo := hL.out;rw [hT.out, hL.out] at M;rw [hT.out] at hs h10 hr1;rw [if_neg (by omega)] at hr1;rw [if_neg (by rw [ho]; decide)] at hr1;rw [if_pos (by rw [ho]; rfl)] at hr1;have htg := h11 (by rw [ho]; rfl);have eN : nextI (inAt code p0) dp = dp - tk + lv := by unfold nextI; rw [hT.out, hLo]
 have eT : thereI (inAt code p0) dp = dp := by unfold thereI; rw [if_neg (by omega), if_pos (by omega)]
 rw [eT] at hr1;rw [eT] at hr;rw [hr] at hr1;dsimp only at hr1
 skip
 replace hr1 := Lib.hid hr1;replace hT := Lib.hid hT.out;have t8 : (((inAt code p0).op : Int) == 8) = false := beq_eq_false_iff_ne.2 (by omega);have t9 : (((inAt code p0).op : Int) == 9) = false := beq_eq_false_iff_ne.2 (by omega);have t28 : (((inAt code p0).op : Int) == 28) = false := beq_eq_false_iff_ne.2 (by omega);have t1 : (((inAt code p0).op : Int) == 1) = false := beq_eq_false_iff_ne.2 (by omega);have t2 : (((inAt code p0).op : Int) == 2) = false := beq_eq_false_iff_ne.2 (by omega);have t3 : (((inAt code p0).op : Int) == 3) = true := by rw [ho]; rfl
 replace hL := Lib.hid hL.out;have hlv0 : 0 ≤ lv ∧ lv ≤ 1 := by rw [← hL.out]; omega
 clear hLo hlv;have MT := fun (W : World) (hW : TM B W gt g b cv d L p) => meet_int (gn := gn) hW h2 hcv' (by omega) (q := (inAt code p0).a) (v := dp) (by omega) (by omega) (by omega) h9 h5
 rw [hr] at MT;obtain ⟨g0, off, cap0, ecv, hg0, x0, x1, x2, x3⟩ := h3.cells (Below.refl _ w) (i := p0) (by omega) (op := (inAt code p0).op) (a := (inAt code p0).a) (x := (inAt code p0).num) (tx := (inAt code p0).text) rfl;unfold insV at M;generalize (inAt code p0).op = op at *;generalize (inAt code p0).num = nm at *;generalize (inAt code p0).text = tx at *;generalize (inAt code p0).a = a at *;rw [ecv] at hc;have hp64 : (p0 : Int) < (code.length : Int) := by omega
 have hp65 : (p0 : Int) ≤ 8192 := by omega
 obtain ⟨N, hN⟩ := exHid code.length;rw [hN.out] at hc hp64;have hd1 : 0 ≤ dp := h8.1;have hd2 : dp ≤ 100000 := h8.2;have ht1 : 0 ≤ tk := h10.1;have ht2 : tk ≤ 2048 := h10.2;have hl1 : 0 ≤ lv := hlv0.1;have hl2 : lv ≤ 1 := hlv0.2;replace h8 := Lib.hid h8;replace h10 := Lib.hid h10;replace hlv0 := Lib.hid hlv0;replace h5 := Lib.hid h5;replace h6 := Lib.hid h6;replace h11 := Lib.hid h11;replace hB := Lib.hid hB;replace hcm := Lib.hid hcm;replace ho := Lib.hid ho;have h1' := Lib.hid h1;replace h2 := Lib.hid h2;replace h3 := Lib.hid h3;replace h4 := Lib.hid h4;replace h7 := Lib.hid h7;replace hcv' := Lib.hid hcv';replace hcv := Lib.hid hcv;replace h9 := Lib.hid h9;clear h1 hlc;replace hr := Lib.hid hr;go_enter Tryd.func48, Tryd.ntmps48
 go_wp2_with first
   | (go_at_call 68; refine (M _).mono ?_; rintro e w1 ⟨rfl, hb⟩; have hk : Below w.heap.size w w1 := below_next (by go_grown) hb; have hz := hk.size; have k0 := (hb.cell (p := ⟨w.heap.size, 0, none⟩) (by simp)).trans (World.cell?_alloc_new ..); have k1 := (hb.cell (p := ⟨w.heap.size, 1, none⟩) (by simp)).trans (World.cell?_alloc_new ..); have hTw := Lib.hid (h1'.out.below hk); replace hb := Lib.hid hb; simp at k0 k1)
   | (go_at_call 46; (with_reducible refine (MT _ hTw.out).mono ?_); rintro e w2 ⟨rfl, ho2, -⟩; replace ho2 := Lib.hid ho2)
 go_ret
 have hB' := hB.out;refine ⟨ret_bool (by rw [← hr1.out]; rfl), (Only.of_below (F := fun k => B ≤ k) hk).then ho2.out, fun d1 e => ?_⟩;rw [← hr1.out] at e;cases e
set_option maxRecDepth 20000 in
set_option maxHeartbeats 600000 in
theorem thr_or_some (h : ThrIn B w gt g b cv d L p gn code p0) (ho : (inAt code p0).op = 3) (hs : takesI (inAt code p0) ≤ d.getD p0 (-1)) {d1 : List Int} (hr : meetI d (inAt code p0).a.toNat (thereI (inAt code p0) (d.getD p0 (-1))) = some d1) :
   Calls Tryd.prog 48 #[.pointer (some ⟨gt, 0, none⟩), .int .i64 p0, .int .i64 (d.getD p0 (-1))] w fun e w' => MetPost B gt g b cv (p + 2) gn (stepI code d p0) e w w' := by
 obtain ⟨h1, h2, h3, h4, h5, h6, h7, h8, h9, h10, h11⟩ := h;obtain ⟨r, hr0⟩ := exHid (stepI code d p0);rw [hr0.out];have hr1 := hr0.out;unfold stepI at hr1;dsimp only at hr1;clear hr0;have hc := h1.c0;have hsz := h1.lt;have hB := h1.lo;obtain ⟨ad, cap, hcv, hlc, hcm, hbig⟩ := id h3;clear hbig;have hcv' : ∃ ad cap, cv = .slice ad d.length cap := ⟨ad, cap, by rw [hcv, h4]⟩;obtain ⟨dp, hdp⟩ : ∃ x, d.getD p0 (-1) = x := ⟨_, rfl⟩;rw [hdp] at h8 hs hr1 hr ⊢;replace hdp := Lib.hid hdp;have M := fun W => moves_any (inAt code p0) W
 obtain ⟨tk, hT⟩ := exHid (takesI (inAt code p0));obtain ⟨lv, hL⟩ := exHid (leaveR (inAt code p0).op : Int);have hlv := leaveR_le (inAt code p0).op;have hLo := hL.out;rw [hT.out, hL.out] at M;rw [hT.out] at hs h10 hr1;rw [if_neg (by omega)] at hr1;rw [if_neg (by rw [ho]; decide)] at hr1;rw [if_pos (by rw [ho]; rfl)] at hr1;have htg := h11 (by rw [ho]; rfl);have eN : nextI (inAt code p0) dp = dp - tk + lv := by unfold nextI; rw [hT.out, hLo]
 have eT : thereI (inAt code p0) dp = dp := by unfold thereI; rw [if_neg (by omega), if_pos (by omega)]
 rw [eT] at hr1;rw [eT] at hr;rw [hr] at hr1;dsimp only at hr1;rw [if_neg (by omega), eN] at hr1;replace hr1 := Lib.hid hr1;replace hT := Lib.hid hT.out;have t8 : (((inAt code p0).op : Int) == 8) = false := beq_eq_false_iff_ne.2 (by omega);have t9 : (((inAt code p0).op : Int) == 9) = false := beq_eq_false_iff_ne.2 (by omega);have t28 : (((inAt code p0).op : Int) == 28) = false := beq_eq_false_iff_ne.2 (by omega);have t1 : (((inAt code p0).op : Int) == 1) = false := beq_eq_false_iff_ne.2 (by omega);have t2 : (((inAt code p0).op : Int) == 2) = false := beq_eq_false_iff_ne.2 (by omega);have t3 : (((inAt code p0).op : Int) == 3) = true := by rw [ho]; rfl
 replace hL := Lib.hid hL.out;have hlv0 : 0 ≤ lv ∧ lv ≤ 1 := by rw [← hL.out]; omega
 clear hLo hlv;have MT := fun (W : World) (hW : TM B W gt g b cv d L p) => meet_int (gn := gn) hW h2 hcv' (by omega) (q := (inAt code p0).a) (v := dp) (by omega) (by omega) (by omega) h9 h5
 rw [hr] at MT;obtain ⟨hdl, hdn⟩ := meetI_nn hr (by omega) h9;have MN := fun (W : World) (L1 : List T) (p1 : Nat) (hW : TM B W gt g b cv d1 L1 p1) (hM : MetR L1 d1 gn) (hp1 : p1 ≤ p + 1) => meet_int (gn := gn) hW hM (by rw [hdl]; exact hcv') (by omega) (q := (p0 : Int) + 1) (v := dp - tk + lv) (by omega) (by omega) (by omega) hdn (by omega)
 have e1 : ((p0 : Int) + 1).toNat = p0 + 1 := by omega
 rw [e1] at MN;obtain ⟨g0, off, cap0, ecv, hg0, x0, x1, x2, x3⟩ := h3.cells (Below.refl _ w) (i := p0) (by omega) (op := (inAt code p0).op) (a := (inAt code p0).a) (x := (inAt code p0).num) (tx := (inAt code p0).text) rfl;unfold insV at M;generalize (inAt code p0).op = op at *;generalize (inAt code p0).num = nm at *;generalize (inAt code p0).text = tx at *;generalize (inAt code p0).a = a at *;rw [ecv] at hc;have hp64 : (p0 : Int) < (code.length : Int) := by omega
 have hp65 : (p0 : Int) ≤ 8192 := by omega
 obtain ⟨N, hN⟩ := exHid code.length;rw [hN.out] at hc hp64;have hd1 : 0 ≤ dp := h8.1;have hd2 : dp ≤ 100000 := h8.2;have ht1 : 0 ≤ tk := h10.1;have ht2 : tk ≤ 2048 := h10.2;have hl1 : 0 ≤ lv := hlv0.1;have hl2 : lv ≤ 1 := hlv0.2;replace h8 := Lib.hid h8;replace h10 := Lib.hid h10;replace hlv0 := Lib.hid hlv0;replace h5 := Lib.hid h5;replace h6 := Lib.hid h6;replace h11 := Lib.hid h11;replace hB := Lib.hid hB;replace hcm := Lib.hid hcm;replace ho := Lib.hid ho;have h1' := Lib.hid h1;replace h2 := Lib.hid h2;replace h3 := Lib.hid h3;replace h4 := Lib.hid h4;replace h7 := Lib.hid h7;replace hcv' := Lib.hid hcv';replace hcv := Lib.hid hcv;replace h9 := Lib.hid h9;clear h1 hlc;replace hr := Lib.hid hr;go_enter Tryd.func48, Tryd.ntmps48
 go_wp2_with first
   | (go_at_call 68; refine (M _).mono ?_; rintro e w1 ⟨rfl, hb⟩; have hk : Below w.heap.size w w1 := below_next (by go_grown) hb; have hz := hk.size; have k0 := (hb.cell (p := ⟨w.heap.size, 0, none⟩) (by simp)).trans (World.cell?_alloc_new ..); have k1 := (hb.cell (p := ⟨w.heap.size, 1, none⟩) (by simp)).trans (World.cell?_alloc_new ..); have hTw := Lib.hid (h1'.out.below hk); replace hb := Lib.hid hb; simp at k0 k1)
   | (go_at_call 46; (with_reducible refine (MT _ hTw.out).mono ?_); rintro e w2 ⟨rfl, ho2, hn2⟩; replace ho2 := Lib.hid ho2; obtain ⟨L2, p2, hT2, hM2, hp2⟩ := hn2 _ rfl; replace hT2 := Lib.hid hT2; replace hM2 := Lib.hid hM2; clear hn2)
   | (go_at_call 46; (with_reducible refine (MN _ _ _ hT2.out hM2.out hp2).mono ?_); rintro e w3 ⟨rfl, ho3, hn3⟩; replace ho3 := Lib.hid ho3; replace hn3 := Lib.hid hn3)
 go_ret
 have hB' := hB.out;refine ⟨ret_bool (by rw [← hr1.out]), ((Only.of_below (F := fun k => B ≤ k) hk).then ho2.out).then ho3.out, fun d3 e => ?_⟩;rw [← hr1.out] at e;obtain ⟨L3, p3, a1, a2, a3⟩ := hn3.out _ e;exact ⟨L3, p3, a1, a2, by omega⟩
set_option maxRecDepth 20000 in
set_option maxHeartbeats 600000 in
theorem thr_and_none (h : ThrIn B w gt g b cv d L p gn code p0) (ho : (inAt code p0).op = 4) (hs : takesI (inAt code p0) ≤ d.getD p0 (-1)) (hr : meetI d (inAt code p0).a.toNat (thereI (inAt code p0) (d.getD p0 (-1))) = none) :
   Calls Tryd.prog 48 #[.pointer (some ⟨gt, 0, none⟩), .int .i64 p0, .int .i64 (d.getD p0 (-1))] w fun e w' => MetPost B gt g b cv (p + 2) gn (stepI code d p0) e w w' := by
 obtain ⟨h1, h2, h3, h4, h5, h6, h7, h8, h9, h10, h11⟩ := h;obtain ⟨r, hr0⟩ := exHid (stepI code d p0);rw [hr0.out];have hr1 := hr0.out;unfold stepI at hr1;dsimp only at hr1;clear hr0;have hc := h1.c0;have hsz := h1.lt;have hB := h1.lo;obtain ⟨ad, cap, hcv, hlc, hcm, hbig⟩ := id h3;clear hbig;have hcv' : ∃ ad cap, cv = .slice ad d.length cap := ⟨ad, cap, by rw [hcv, h4]⟩;obtain ⟨dp, hdp⟩ : ∃ x, d.getD p0 (-1) = x := ⟨_, rfl⟩;rw [hdp] at h8 hs hr1 hr ⊢;replace hdp := Lib.hid hdp;have M := fun W => moves_any (inAt code p0) W
 obtain ⟨tk, hT⟩ := exHid (takesI (inAt code p0));obtain ⟨lv, hL⟩ := exHid (leaveR (inAt code p0).op : Int);have hlv := leaveR_le (inAt code p0).op;have hLo := hL.out;rw [hT.out, hL.out] at M;rw [hT.out] at hs h10 hr1;rw [if_neg (by omega)] at hr1;rw [if_neg (by rw [ho]; decide)] at hr1;rw [if_pos (by rw [ho]; rfl)] at hr1;have htg := h11 (by rw [ho]; rfl);have eN : nextI (inAt code p0) dp = dp - tk + lv := by unfold nextI; rw [hT.out, hLo]
 have eT : thereI (inAt code p0) dp = dp := by unfold thereI; rw [if_neg (by omega), if_pos (by omega)]
 rw [eT] at hr1;rw [eT] at hr;rw [hr] at hr1;dsimp only at hr1
 skip
 replace hr1 := Lib.hid hr1;replace hT := Lib.hid hT.out;have t8 : (((inAt code p0).op : Int) == 8) = false := beq_eq_false_iff_ne.2 (by omega);have t9 : (((inAt code p0).op : Int) == 9) = false := beq_eq_false_iff_ne.2 (by omega);have t28 : (((inAt code p0).op : Int) == 28) = false := beq_eq_false_iff_ne.2 (by omega);have t1 : (((inAt code p0).op : Int) == 1) = false := beq_eq_false_iff_ne.2 (by omega);have t2 : (((inAt code p0).op : Int) == 2) = false := beq_eq_false_iff_ne.2 (by omega);have t3 : (((inAt code p0).op : Int) == 3) = false := beq_eq_false_iff_ne.2 (by omega);have t4 : (((inAt code p0).op : Int) == 4) = true := by rw [ho]; rfl
 replace hL := Lib.hid hL.out;have hlv0 : 0 ≤ lv ∧ lv ≤ 1 := by rw [← hL.out]; omega
 clear hLo hlv;have MT := fun (W : World) (hW : TM B W gt g b cv d L p) => meet_int (gn := gn) hW h2 hcv' (by omega) (q := (inAt code p0).a) (v := dp) (by omega) (by omega) (by omega) h9 h5
 rw [hr] at MT;obtain ⟨g0, off, cap0, ecv, hg0, x0, x1, x2, x3⟩ := h3.cells (Below.refl _ w) (i := p0) (by omega) (op := (inAt code p0).op) (a := (inAt code p0).a) (x := (inAt code p0).num) (tx := (inAt code p0).text) rfl;unfold insV at M;generalize (inAt code p0).op = op at *;generalize (inAt code p0).num = nm at *;generalize (inAt code p0).text = tx at *;generalize (inAt code p0).a = a at *;rw [ecv] at hc;have hp64 : (p0 : Int) < (code.length : Int) := by omega
 have hp65 : (p0 : Int) ≤ 8192 := by omega
 obtain ⟨N, hN⟩ := exHid code.length;rw [hN.out] at hc hp64;have hd1 : 0 ≤ dp := h8.1;have hd2 : dp ≤ 100000 := h8.2;have ht1 : 0 ≤ tk := h10.1;have ht2 : tk ≤ 2048 := h10.2;have hl1 : 0 ≤ lv := hlv0.1;have hl2 : lv ≤ 1 := hlv0.2;replace h8 := Lib.hid h8;replace h10 := Lib.hid h10;replace hlv0 := Lib.hid hlv0;replace h5 := Lib.hid h5;replace h6 := Lib.hid h6;replace h11 := Lib.hid h11;replace hB := Lib.hid hB;replace hcm := Lib.hid hcm;replace ho := Lib.hid ho;have h1' := Lib.hid h1;replace h2 := Lib.hid h2;replace h3 := Lib.hid h3;replace h4 := Lib.hid h4;replace h7 := Lib.hid h7;replace hcv' := Lib.hid hcv';replace hcv := Lib.hid hcv;replace h9 := Lib.hid h9;clear h1 hlc;replace hr := Lib.hid hr;go_enter Tryd.func48, Tryd.ntmps48
 go_wp2_with first
   | (go_at_call 68; refine (M _).mono ?_; rintro e w1 ⟨rfl, hb⟩; have hk : Below w.heap.size w w1 := below_next (by go_grown) hb; have hz := hk.size; have k0 := (hb.cell (p := ⟨w.heap.size, 0, none⟩) (by simp)).trans (World.cell?_alloc_new ..); have k1 := (hb.cell (p := ⟨w.heap.size, 1, none⟩) (by simp)).trans (World.cell?_alloc_new ..); have hTw := Lib.hid (h1'.out.below hk); replace hb := Lib.hid hb; simp at k0 k1)
   | (go_at_call 46; (with_reducible refine (MT _ hTw.out).mono ?_); rintro e w2 ⟨rfl, ho2, -⟩; replace ho2 := Lib.hid ho2)
 go_ret
 have hB' := hB.out;refine ⟨ret_bool (by rw [← hr1.out]; rfl), (Only.of_below (F := fun k => B ≤ k) hk).then ho2.out, fun d1 e => ?_⟩;rw [← hr1.out] at e;cases e
set_option maxRecDepth 20000 in
set_option maxHeartbeats 600000 in
theorem thr_and_some (h : ThrIn B w gt g b cv d L p gn code p0) (ho : (inAt code p0).op = 4) (hs : takesI (inAt code p0) ≤ d.getD p0 (-1)) {d1 : List Int} (hr : meetI d (inAt code p0).a.toNat (thereI (inAt code p0) (d.getD p0 (-1))) = some d1) :
   Calls Tryd.prog 48 #[.pointer (some ⟨gt, 0, none⟩), .int .i64 p0, .int .i64 (d.getD p0 (-1))] w fun e w' => MetPost B gt g b cv (p + 2) gn (stepI code d p0) e w w' := by
 obtain ⟨h1, h2, h3, h4, h5, h6, h7, h8, h9, h10, h11⟩ := h;obtain ⟨r, hr0⟩ := exHid (stepI code d p0);rw [hr0.out];have hr1 := hr0.out;unfold stepI at hr1;dsimp only at hr1;clear hr0;have hc := h1.c0;have hsz := h1.lt;have hB := h1.lo;obtain ⟨ad, cap, hcv, hlc, hcm, hbig⟩ := id h3;clear hbig;have hcv' : ∃ ad cap, cv = .slice ad d.length cap := ⟨ad, cap, by rw [hcv, h4]⟩;obtain ⟨dp, hdp⟩ : ∃ x, d.getD p0 (-1) = x := ⟨_, rfl⟩;rw [hdp] at h8 hs hr1 hr ⊢;replace hdp := Lib.hid hdp;have M := fun W => moves_any (inAt code p0) W
 obtain ⟨tk, hT⟩ := exHid (takesI (inAt code p0));obtain ⟨lv, hL⟩ := exHid (leaveR (inAt code p0).op : Int);have hlv := leaveR_le (inAt code p0).op;have hLo := hL.out;rw [hT.out, hL.out] at M;rw [hT.out] at hs h10 hr1;rw [if_neg (by omega)] at hr1;rw [if_neg (by rw [ho]; decide)] at hr1;rw [if_pos (by rw [ho]; rfl)] at hr1;have htg := h11 (by rw [ho]; rfl);have eN : nextI (inAt code p0) dp = dp - tk + lv := by unfold nextI; rw [hT.out, hLo]
 have eT : thereI (inAt code p0) dp = dp := by unfold thereI; rw [if_neg (by omega), if_pos (by omega)]
 rw [eT] at hr1;rw [eT] at hr;rw [hr] at hr1;dsimp only at hr1;rw [if_neg (by omega), eN] at hr1;replace hr1 := Lib.hid hr1;replace hT := Lib.hid hT.out;have t8 : (((inAt code p0).op : Int) == 8) = false := beq_eq_false_iff_ne.2 (by omega);have t9 : (((inAt code p0).op : Int) == 9) = false := beq_eq_false_iff_ne.2 (by omega);have t28 : (((inAt code p0).op : Int) == 28) = false := beq_eq_false_iff_ne.2 (by omega);have t1 : (((inAt code p0).op : Int) == 1) = false := beq_eq_false_iff_ne.2 (by omega);have t2 : (((inAt code p0).op : Int) == 2) = false := beq_eq_false_iff_ne.2 (by omega);have t3 : (((inAt code p0).op : Int) == 3) = false := beq_eq_false_iff_ne.2 (by omega);have t4 : (((inAt code p0).op : Int) == 4) = true := by rw [ho]; rfl
 replace hL := Lib.hid hL.out;have hlv0 : 0 ≤ lv ∧ lv ≤ 1 := by rw [← hL.out]; omega
 clear hLo hlv;have MT := fun (W : World) (hW : TM B W gt g b cv d L p) => meet_int (gn := gn) hW h2 hcv' (by omega) (q := (inAt code p0).a) (v := dp) (by omega) (by omega) (by omega) h9 h5
 rw [hr] at MT;obtain ⟨hdl, hdn⟩ := meetI_nn hr (by omega) h9;have MN := fun (W : World) (L1 : List T) (p1 : Nat) (hW : TM B W gt g b cv d1 L1 p1) (hM : MetR L1 d1 gn) (hp1 : p1 ≤ p + 1) => meet_int (gn := gn) hW hM (by rw [hdl]; exact hcv') (by omega) (q := (p0 : Int) + 1) (v := dp - tk + lv) (by omega) (by omega) (by omega) hdn (by omega)
 have e1 : ((p0 : Int) + 1).toNat = p0 + 1 := by omega
 rw [e1] at MN;obtain ⟨g0, off, cap0, ecv, hg0, x0, x1, x2, x3⟩ := h3.cells (Below.refl _ w) (i := p0) (by omega) (op := (inAt code p0).op) (a := (inAt code p0).a) (x := (inAt code p0).num) (tx := (inAt code p0).text) rfl;unfold insV at M;generalize (inAt code p0).op = op at *;generalize (inAt code p0).num = nm at *;generalize (inAt code p0).text = tx at *;generalize (inAt code p0).a = a at *;rw [ecv] at hc;have hp64 : (p0 : Int) < (code.length : Int) := by omega
 have hp65 : (p0 : Int) ≤ 8192 := by omega
 obtain ⟨N, hN⟩ := exHid code.length;rw [hN.out] at hc hp64;have hd1 : 0 ≤ dp := h8.1;have hd2 : dp ≤ 100000 := h8.2;have ht1 : 0 ≤ tk := h10.1;have ht2 : tk ≤ 2048 := h10.2;have hl1 : 0 ≤ lv := hlv0.1;have hl2 : lv ≤ 1 := hlv0.2;replace h8 := Lib.hid h8;replace h10 := Lib.hid h10;replace hlv0 := Lib.hid hlv0;replace h5 := Lib.hid h5;replace h6 := Lib.hid h6;replace h11 := Lib.hid h11;replace hB := Lib.hid hB;replace hcm := Lib.hid hcm;replace ho := Lib.hid ho;have h1' := Lib.hid h1;replace h2 := Lib.hid h2;replace h3 := Lib.hid h3;replace h4 := Lib.hid h4;replace h7 := Lib.hid h7;replace hcv' := Lib.hid hcv';replace hcv := Lib.hid hcv;replace h9 := Lib.hid h9;clear h1 hlc;replace hr := Lib.hid hr;go_enter Tryd.func48, Tryd.ntmps48
 go_wp2_with first
   | (go_at_call 68; refine (M _).mono ?_; rintro e w1 ⟨rfl, hb⟩; have hk : Below w.heap.size w w1 := below_next (by go_grown) hb; have hz := hk.size; have k0 := (hb.cell (p := ⟨w.heap.size, 0, none⟩) (by simp)).trans (World.cell?_alloc_new ..); have k1 := (hb.cell (p := ⟨w.heap.size, 1, none⟩) (by simp)).trans (World.cell?_alloc_new ..); have hTw := Lib.hid (h1'.out.below hk); replace hb := Lib.hid hb; simp at k0 k1)
   | (go_at_call 46; (with_reducible refine (MT _ hTw.out).mono ?_); rintro e w2 ⟨rfl, ho2, hn2⟩; replace ho2 := Lib.hid ho2; obtain ⟨L2, p2, hT2, hM2, hp2⟩ := hn2 _ rfl; replace hT2 := Lib.hid hT2; replace hM2 := Lib.hid hM2; clear hn2)
   | (go_at_call 46; (with_reducible refine (MN _ _ _ hT2.out hM2.out hp2).mono ?_); rintro e w3 ⟨rfl, ho3, hn3⟩; replace ho3 := Lib.hid ho3; replace hn3 := Lib.hid hn3)
 go_ret
 have hB' := hB.out;refine ⟨ret_bool (by rw [← hr1.out]), ((Only.of_below (F := fun k => B ≤ k) hk).then ho2.out).then ho3.out, fun d3 e => ?_⟩;rw [← hr1.out] at e;obtain ⟨L3, p3, a1, a2, a3⟩ := hn3.out _ e;exact ⟨L3, p3, a1, a2, by omega⟩
end
end Go.Proofs.YtefijbpbenmbgaaDoor
namespace Go.Proofs.YtefijbpbenmbgaaDoor
open Go.RowKit HI
section
variable {B gt g b p p0 : Nat} {cv : Value} {d : List Int} {L : List T} {w : World} {gn : Nat → Bool} {code : List Ins}
theorem through_any (h : ThrIn B w gt g b cv d L p gn code p0) :
   Calls Tryd.prog 48 #[.pointer (some ⟨gt, 0, none⟩), .int .i64 p0, .int .i64 (d.getD p0 (-1))] w fun e w' => MetPost B gt g b cv (p + 2) gn (stepI code d p0) e w w' := by
 rcases Int.lt_or_le (d.getD p0 (-1)) (takesI (inAt code p0)) with hs | hs
 · exact thr_short h hs
 · by_cases o8 : (inAt code p0).op = 8
   · exact thr_e8 h o8 hs
   by_cases o9 : (inAt code p0).op = 9
   · exact thr_e9 h o9 hs
   by_cases o28 : (inAt code p0).op = 28
   · exact thr_e28 h o28 hs
   by_cases o1 : (inAt code p0).op = 1
   · exact thr_jump h o1 hs
   by_cases o2 : (inAt code p0).op = 2
   · cases hr : meetI d (inAt code p0).a.toNat (thereI (inAt code p0) (d.getD p0 (-1))) with
     | none => exact thr_branch_none h o2 hs hr
     | some d1 => exact thr_branch_some h o2 hs hr
   by_cases o3 : (inAt code p0).op = 3
   · cases hr : meetI d (inAt code p0).a.toNat (thereI (inAt code p0) (d.getD p0 (-1))) with
     | none => exact thr_or_none h o3 hs hr
     | some d1 => exact thr_or_some h o3 hs hr
   by_cases o4 : (inAt code p0).op = 4
   · cases hr : meetI d (inAt code p0).a.toNat (thereI (inAt code p0) (d.getD p0 (-1))) with
     | none => exact thr_and_none h o4 hs hr
     | some d1 => exact thr_and_some h o4 hs hr
   by_cases o53 : (inAt code p0).op = 53
   · cases hr : meetI d (inAt code p0).a.toNat (thereI (inAt code p0) (d.getD p0 (-1))) with
     | none => exact thr_fork_none h o53 hs hr
     | some d1 => exact thr_fork_some h o53 hs hr
   exact thr_rest h ⟨o8, o9, o28, o1, o2, o3, o4, o53⟩ hs
end
theorem takesR_le (op : Nat) : takesR op ≤ 2 := by unfold takesR; (repeat' split) <;> omega
theorem right_takes {x : Ins} {n : Int} (h : rightI x n = true) : 0 ≤ takesI x ∧ takesI x ≤ 2048 ∧ (akI x.op = 1 → 0 ≤ x.a ∧ x.a < n) := by
 unfold rightI at h;simp only [Bool.and_eq_true] at h;obtain ⟨⟨⟨_, h1⟩, _⟩, _⟩ := h;unfold aOK at h1;have h2 := takesR_le x.op;unfold takesI;refine ⟨?_, ?_, fun hk => ?_⟩
 · split
   · rename_i hk
     rw [hk] at h1;simp at h1
     exact h1.1
   · omega
 · split
   · rename_i hk
     rw [hk] at h1;simp at h1
     exact h1.2
   · omega
 · rw [if_pos hk] at h1
   exact of_decide_eq_true h1
def AllRt (code : List Ins) : Prop := ∀ p, p < code.length → rightI (inAt code p) code.length = true
theorem inAt_over {code : List Ins} {p : Nat} (h : code.length ≤ p) : inAt code p = ⟨0, 0, 0, []⟩ := by
 unfold inAt;rw [List.getD_eq_getElem?_getD, List.getElem?_eq_none h]; rfl
theorem AllRt.takes {code : List Ins} (h : AllRt code) (p : Nat) : 0 ≤ takesI (inAt code p) ∧ takesI (inAt code p) ≤ 2048 := by
 rcases Nat.lt_or_ge p code.length with hp | hp
 · have := right_takes (h p hp)
   exact ⟨this.1, this.2.1⟩
 · rw [inAt_over hp]
   decide
theorem AllRt.goal {code : List Ins} (h : AllRt code) {p : Nat} (hp : p < code.length) (hk : akI (inAt code p).op = 1) : 0 ≤ (inAt code p).a ∧ (inAt code p).a < code.length := (right_takes (h p hp)).2.2 hk
theorem allRt_of {code : List Ins} (h : badI code = none) : AllRt code := by
 intro p hp;unfold badI at h;rw [List.findIdx?_eq_none_iff] at h;have := h (inAt code p) (by rw [inAt_get hp]; exact List.getElem_mem hp)
 simpa using this
def FitInv (code : List Ins) (B gt g b : Nat) (cv : Value) (f : Nat) (w : World) : Prop :=
 ∃ d L p gn, TM B w gt g b cv d L p ∧ MetR L d gn ∧ fitI code f d gn = fitsI code ∧ cntI gn code.length < f ∧ f ≤ code.length + 1 ∧ DpI d ((code.length + 1 - f : Nat) : Int) ∧ p + 2 * f ≤ 2 * code.length + 3 ∧ d.length = code.length
theorem least_of {P : Nat → Prop} (h : ∃ n, P n) : P (Classical.epsilon fun n => P n ∧ ∀ m, P m → n ≤ m) ∧ ∀ m, P m → (Classical.epsilon fun n => P n ∧ ∀ m, P m → n ≤ m) ≤ m := by
 have key : ∀ n, P n → ∃ n, P n ∧ ∀ m, P m → n ≤ m := by
   intro n
   induction n using Nat.strongRecOn with
   | _ n ih =>
     intro hn;by_cases hm : ∃ m, m < n ∧ P m
     · obtain ⟨m, hm, hp⟩ := hm
       exact ih m hm hp
     · exact ⟨n, hn, fun m hp => by
         rcases Nat.lt_or_ge m n with h | h
         · exact absurd ⟨m, h, hp⟩ hm
         · exact h⟩
 obtain ⟨n, hn⟩ := h;exact Classical.epsilon_spec (key n hn)
theorem metR_first {L L' : List T} {d : List Int} {gn : Nat → Bool} {x : T} (h : MetR L d gn) (hf : IsFirst x L) (hp : (x :: L').Perm L) : ∃ q : Nat, x.key = q ∧ x.v = d.getD q (-1) ∧ leastI d gn = some q ∧ MetR L' d (goneI gn q) := by
 obtain ⟨q, e1, e2, e3, e4, e5⟩ := h.all x hf.1;have hu : (x :: L').Pairwise fun x y => x.key ≠ y.key := (hp.pairwise_iff (fun {a b} hab => fun e => hab e.symm)).2 h.uniq;rw [List.pairwise_cons] at hu;refine ⟨q, e1, e5, leastI_some.2 ⟨e2, e3, e4, fun r hr => ?_⟩, ⟨fun y hy => ?_, fun r hr hm hg => ?_, hu.2, fun r hr => ?_⟩⟩
 · by_cases e : d.getD r (-1) = -1
   · exact .inl e
   · right
     cases hg : gn r with
     | true => rfl
     | false =>
       obtain ⟨y, hy, hk⟩ := h.has r (by omega) e hg;have := hf.2 y hy;unfold le_ lt_ lexLt at this;exact absurd (Or.inl (by rw [hk, e1]; omega)) this
 · obtain ⟨r, a1, a2, a3, a4, a5⟩ := h.all y (hp.mem_iff.1 (List.mem_cons_of_mem _ hy))
   refine ⟨r, a1, a2, a3, ?_, a5⟩;have hne : r ≠ q := fun e => hu.1 y hy (by rw [a1, e1, e])
   simp [goneI, hne, a4]
 · have hne : r ≠ q ∧ gn r = false := by simpa [goneI] using hg
   obtain ⟨y, hy, hk⟩ := h.has r hr hm hne.2;rcases List.mem_cons.1 (hp.mem_iff.2 hy) with e | e
   · rw [e, e1] at hk
     exact absurd (by omega) hne.1
   · exact ⟨y, e, hk⟩
 · by_cases e : r = q
   · rw [e]; exact e3
   · exact h.gone r (by simpa [goneI, e] using hr)
end Go.Proofs.YtefijbpbenmbgaaDoor
namespace Go.Proofs.YtefijbpbenmbgaaDoor
open Go.RowKit HI
def FitPost (code : List Ins) (e : Ending) (w w' : World) : Prop :=
 Below w.heap.size w w' ∧ ((fitsI code).2 = none → ∃ g, e = .returned (.tuple #[.slice (some ⟨g, 0, none⟩) code.length code.length, .int .i64 0, .bool true]) ∧ w.heap.size ≤ g ∧ DepAt w' g (fitsI code).1) ∧
   ∀ q, (fitsI code).2 = some q → e = .returned (.tuple #[.slice none 0 0, .int .i64 q, .bool false])
theorem alloc_gt {w2 : World} {c : Array Value} {t : TypeId} : (w2.alloc (.cells c t)).heap[w2.heap.size]? = some (.cells c t (0, 0)) := heap_alloc_new w2 _
theorem tm_new {w w1 w2 : World} {g b n : Nat} {cv : Value} (hk1 : Below w.heap.size w w1) (hg1 : w.heap.size < g) (hD : DepAt w1 g (List.replicate n (-1))) (hb2 : Below w1.heap.size w1 w2) (hH : Hp (fun k => w1.heap.size ≤ k ∧ k < w2.heap.size) w2 b [] 0) :
   TM w.heap.size (w2.alloc (.cells #[cv, .slice (some ⟨g, 0, none⟩) n n, .pointer (some ⟨b, 0, none⟩)] 92)) w2.heap.size g b cv (List.replicate n (-1)) [] 0 := by
 have h1 := hD.lt;have h2 := hb2.size;have h3 := hk1.size;have hb3 : Below w2.heap.size w2 (w2.alloc (.cells #[cv, .slice (some ⟨g, 0, none⟩) n n, .pointer (some ⟨b, 0, none⟩)] 92)) := by go_grown
 refine ⟨?_, (hD.below hb2).below hb3, (hH.mono (fun k hk => ?_)).below hb3, by omega, by omega, by omega⟩
 · rw [List.length_replicate]; exact alloc_gt
 · exact ⟨by omega, by omega, by omega⟩
theorem metR0 (n : Nat) : MetR [] (List.replicate n (-1)) (fun _ => false) := by
 refine ⟨fun x hx => (by cases hx), fun q _ hq _ => ?_, List.Pairwise.nil, fun q hq => (by cases hq)⟩;exact absurd (by rw [List.getD_eq_getElem?_getD, List.getElem?_replicate]; split <;> rfl) hq
theorem replicate_get (n r : Nat) : (List.replicate n (-1 : Int)).getD r (-1) = -1 := by rw [List.getD_eq_getElem?_getD, List.getElem?_replicate]; split <;> rfl
theorem meet0 {n : Nat} (hn : 0 < n) : meetI (List.replicate n (-1)) (0 : Int).toNat 0 = some (depth0 n) := by
 unfold meetI;rw [if_neg (by rw [List.length_replicate]; show ¬ n ≤ 0; omega), if_pos (replicate_get _ _)];rfl
theorem depth0_dp {n : Nat} (hn : 0 < n) : DpI (depth0 n) 0 := fun r => by
 rw [depth0_get _ _ hn];split <;> simp
theorem metR_nil {L : List T} {d : List Int} {gn : Nat → Bool} (h : MetR L d gn) (hl : leastI d gn = none) : L = [] := by
 cases L with
 | nil => rfl
 | cons x r =>
   obtain ⟨q, _, e2, e3, e4, _⟩ := h.all x List.mem_cons_self;rcases leastI_none.1 hl q e2 with e | e
   · exact absurd e e3
   · rw [e] at e4; cases e4
set_option maxRecDepth 20000 in
set_option maxHeartbeats 1000000 in
theorem fit_any {code : List Ins} {v : Value} {w : World} (h : InsIn w v code) (h0 : 0 < code.length) (hn : code.length ≤ 8192) (hR : AllRt code) :
   Calls Tryd.prog 28 #[v] w fun e w' => FitPost code e w w' := by
 obtain ⟨ad, cap, hv, hlc, hcm, hbig⟩ := id h;clear hbig;subst hv;obtain ⟨n, hN⟩ := exHid code.length;have hI : Hid (InsIn w (.slice ad n cap) code) := Lib.hid (by rw [← hN.out]; exact h);rw [hN.out];clear h;have hn1 : n ≤ 8192 := by rw [← hN.out]; exact hn
 have hn0 : 0 < n := by rw [← hN.out]; exact h0
 have rep := fun (W : World) (gx : Nat) (hx : W.cell? ⟨gx, 0, none⟩ = some (.int .i64 (-1))) => repeat_any (-1) n hn0 hn1 W hx
 replace hR := Lib.hid hR;clear hn h0 hlc hcm;go_enter Tryd.func28, Tryd.ntmps28
 go_wp2_with first
   | (go_at_call 44; refine (rep _ _ (World.cell?_alloc_new ..)).mono ?_; rintro e w1 ⟨g, rfl, hg1, hD1, hb1⟩; have hk1 : Below w.heap.size w w1 := below_next (by go_grown) hb1; replace hD1 := Lib.hid hD1; replace hb1 := Lib.hid hb1)
   | (go_at_call 45; refine (hp_new _).mono ?_; rintro e w2 ⟨b, rfl, hH2, hb2⟩; have hk2 : Below w.heap.size w w2 := below_next hk1 hb2; have hH3 := Lib.hid (Hp_bound hH2); clear hH2; replace hb2 := Lib.hid hb2)
   | (go_at_call 46
      have hgg : w.heap.size < g := by simp at hg1; omega
      have T0 := tm_new (cv := .slice ad n cap) hk1 hgg hD1.out hb2.out hH3.out;refine (meet_int T0 (metR0 n) ⟨ad, cap, by rw [List.length_replicate]⟩ (by omega) (q := 0) (v := 0) (Int.le_refl _) (by omega) (Int.le_refl _) (fun r => .inl (replicate_get n r)) (by rw [List.length_replicate]; exact hn1)).mono ?_;rintro e w3 ⟨rfl, ho3, hn3⟩;have hk3 : Below w.heap.size w w3 := (hk2.alloc hk2.size _).trans (ho3.below (by have := hk2.size; simp; omega) (fun k hk e => by omega));replace hn3 := Lib.hid (hn3 _ (meet0 hn0));clear T0 ho3)
 go_loopw [6, 7, 8, 9] (fun t6 t7 t8 t9 wr => Hid (∃ f, FitInv code w.heap.size w2.heap.size g b (.slice ad n cap) f wr) ∧ Below w.heap.size w wr) (fun _ _ _ _ wr => Classical.epsilon (fun f => FitInv code w.heap.size w2.heap.size g b (.slice ad n cap) f wr ∧ ∀ m, FitInv code w.heap.size w2.heap.size g b (.slice ad n cap) m wr → f ≤ m))
 case atStart =>
   obtain ⟨L', p', a1, a2, a3⟩ := hn3.out;refine ⟨Lib.hid ⟨n + 1, depth0 n, L', p', fun _ => false, a1, a2, ?_, ?_, ?_, ?_, ?_, ?_⟩, hk3⟩
   · unfold fitsI; rw [hN.out]
   · rw [hN.out, cntI_none]; omega
   · rw [hN.out]; omega
   · rw [hN.out, Nat.sub_self]; exact depth0_dp hn0
   · rw [hN.out]; omega
   · rw [hN.out, depth0_len]
 case round =>
   obtain ⟨hrel, hbw⟩ := hrel;obtain ⟨f, hfe, hf, hfl⟩ : ∃ f, Hid (Classical.epsilon (fun f => FitInv code w.heap.size w2.heap.size g b (.slice ad n cap) f wr ∧ ∀ m, FitInv code w.heap.size w2.heap.size g b (.slice ad n cap) m wr → f ≤ m) = f) ∧ FitInv code w.heap.size w2.heap.size g b (.slice ad n cap) f wr ∧ True := ⟨_, Lib.hid rfl, (least_of hrel.out).1, trivial⟩;obtain ⟨d, L, p, gn, hT, hM, hfit, hcnt, hfn, hdp, hp, hdl⟩ := hf;have hc2 := hT.c2;have hc1 := hT.c1;rw [hdl, hN.out] at hc1;rw [hN.out] at hcnt hfn hdp hp;have hf1 : f = (f - 1) + 1 := by omega
   have hfit' := hfit;rw [hf1] at hfit';unfold fitI at hfit';have hbw' := Lib.hid hbw;cases hl : leastI d gn with
   | none =>
     rw [hl] at hfit';dsimp only at hfit';obtain rfl := metR_nil hM hl;have P := fun (_ : True) => hp_pop_none hT.hp
     replace hT := Lib.hid hT;replace hM := Lib.hid hM;replace hfit' := Lib.hid hfit';replace hdl := Lib.hid hdl;clear hfit hcnt hfn hdp hp hf1 hfe hrel;go_wp2_with (go_at_call 47; refine (P trivial).mono ?_; rintro e w4 ⟨rfl, rfl⟩)
     refine bodyPost_ret (results_tmp3 rfl _ _ _) rfl ?_;refine ⟨hbw, fun _ => ⟨g, by rw [hN.out]; rfl, by omega, by rw [← hfit'.out]; exact hT.out.dep⟩, fun q hq => ?_⟩;rw [← hfit'.out] at hq;cases hq
   | some q =>
     rw [hl] at hfit';dsimp only at hfit';obtain ⟨l1, l2, l3, l4⟩ := leastI_some.1 hl;have hL0 : 0 < L.length := by
       obtain ⟨x, hx, _⟩ := hM.has q l1 l2 l3;exact List.length_pos_of_mem hx
     have P := fun (_ : True) => hp_pop_some hT.hp hL0
     have F : ∀ (x : T) (L' : List T), IsFirst x L → (x :: L').Perm L → x.key = (q : Int) ∧ x.v = d.getD q (-1) ∧ MetR L' d (goneI gn q) := by
       intro x L' hF hP;obtain ⟨q', a1, a2, a3, a4⟩ := metR_first hM hF hP;rw [hl] at a3;obtain rfl := Option.some.inj a3;exact ⟨a1, a2, a4⟩
     have hN2 := hN.out;have hRR := hR.out;have TH := fun (w4 : World) (hb4 : Below w.heap.size w w4) (L4 : List T) (hT4 : TM w.heap.size w4 w2.heap.size g b (.slice ad n cap) d L4 p) (hM4 : MetR L4 d (goneI gn q)) =>
       through_any (B := w.heap.size) (code := code) (p0 := q) ⟨hT4, hM4, hI.out.below hb4, hdl.symm, (by rw [hdl, hN2]; exact hn1), (by omega), l1, ⟨(by have := (hdp q).1; omega), (by have := (hdp q).2; omega)⟩, fun r => (hdp r).1, hRR.takes q, fun hk => by rw [hdl]; exact hRR.goal (by omega) hk⟩
     replace TH := Lib.hid TH;replace hR := Lib.hid hRR;obtain ⟨dq, hdq⟩ : ∃ x, d.getD q (-1) = x := ⟨_, rfl⟩;rw [hdq] at TH F;have hq64 : (q : Int) ≤ 8192 := by omega
     have hT' := Lib.hid hT;replace hM := Lib.hid hM;replace hcnt := Lib.hid hcnt;replace hfn := Lib.hid hfn;replace hdp := Lib.hid hdp;replace hp := Lib.hid hp;replace hf1 := Lib.hid hf1;replace hdl := Lib.hid hdl;replace hfit' := Lib.hid hfit';replace hdq := Lib.hid hdq;have hh := Lib.hid (And.intro l1 (And.intro l2 l3));clear hfit l1 l2 l3 l4 hl hRR hT hN2;cases hs : stepI code d q with
     | none =>
       rw [hs] at hfit' TH;go_wp2_with first
         | (go_at_call 47
            refine (P trivial).mono ?_;rintro e w4 ⟨x, L4, rfl, hF, hP, hH4, ho4⟩;obtain ⟨e1, e2, hM4⟩ := F x L4 hF hP;rw [e1, e2];have hT4 := Lib.hid (hT'.out.heap ho4 hH4);have hk4 : Below w.heap.size w w4 := hbw.trans (ho4.below hbw.size (fun k hk e => by have := e.1; omega));replace hM4 := Lib.hid hM4;clear hF hP hH4 ho4 e1 e2)
         | (go_at_call 48; refine (TH.out _ hk4 _ hT4.out hM4.out).mono ?_; rintro e w5 ⟨rfl, ho5, -⟩; have hk5 : Below w.heap.size w w5 := hk4.trans (ho5.below hk4.size (fun k hk e => by omega)))
       refine bodyPost_ret (results_tmp3 rfl _ _ _) rfl ?_;refine ⟨hk5, fun hq => ?_, fun q1 hq => ?_⟩
       · rw [← hfit'.out] at hq; cases hq
       · rw [← hfit'.out] at hq; cases hq; rfl
     | some d1 =>
       rw [hs] at hfit' TH;go_wp2_with first
         | (go_at_call 47
            refine (P trivial).mono ?_;rintro e w4 ⟨x, L4, rfl, hF, hP, hH4, ho4⟩;obtain ⟨e1, e2, hM4⟩ := F x L4 hF hP;rw [e1, e2];have hT4 := Lib.hid (hT'.out.heap ho4 hH4);have hk4 : Below w.heap.size w w4 := hbw.trans (ho4.below hbw.size (fun k hk e => by have := e.1; omega));replace hM4 := Lib.hid hM4;clear hF hP hH4 ho4 e1 e2)
         | (go_at_call 48; refine (TH.out _ hk4 _ hT4.out hM4.out).mono ?_; rintro e w5 ⟨rfl, ho5, hn5⟩; have hk5 : Below w.heap.size w w5 := hk4.trans (ho5.below hk4.size (fun k hk e => by omega)); obtain ⟨L5, p5, hT5, hM5, hp5⟩ := hn5 _ rfl; replace hT5 := Lib.hid hT5; replace hM5 := Lib.hid hM5; clear hn5 ho5)
       have hnew : FitInv code w.heap.size w2.heap.size g b (.slice ad n cap) (f - 1) w5 := by
         obtain ⟨g1, g2, g3⟩ := hh.out;obtain ⟨s1, s2, s3⟩ := stepI_some hs g2 hdp.out (hR.out.takes q).1;have hc := cntI_gone (n := n) g3 (by have := hdl.out; have := hN.out; omega);have hcnt := hcnt.out; have hfn := hfn.out; have hp := hp.out;refine ⟨d1, L5, p5, goneI gn q, hT5.out, hM5.out, hfit'.out, by rw [hN.out]; omega, by rw [hN.out]; omega, ?_, by rw [hN.out]; omega, by rw [s2.1]; exact hdl.out⟩;rw [hN.out];have e : ((n + 1 - (f - 1) : Nat) : Int) = ((n + 1 - f : Nat) : Int) + 1 := by omega
         rw [e];exact s3
       replace hnew := Lib.hid hnew;go_roundw
       case rel => exact ⟨Lib.hid ⟨_, hnew.out⟩, hk5⟩
       case measure =>
         have hl2 := (least_of (P := fun f => FitInv code w.heap.size w2.heap.size g b (.slice ad n cap) f w5) ⟨_, hnew.out⟩).2 _ hnew.out;have hf2 := hfe.out;have hf3 := hf1.out;show Classical.epsilon _ < Classical.epsilon _
         rw [hf2];exact Nat.lt_of_le_of_lt hl2 (by omega)
end Go.Proofs.YtefijbpbenmbgaaDoor
