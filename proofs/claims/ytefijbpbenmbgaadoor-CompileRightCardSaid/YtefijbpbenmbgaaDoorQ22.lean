/- A part of the proof: IChk, IChk2, GICk, GWdL, GRightL. No condition. -/
import Derived.BigQuiet
import Derived.ChangeSame
import Derived.Stop.LaidErr
import Derived.Lib.LaidTab
import Derived.Test.YtefijbpbenmbgaaDoorQ11
import Derived.Test.YtefijbpbenmbgaaDoorQ12
import Derived.Test.YtefijbpbenmbgaaDoorQ14
import Derived.Test.YtefijbpbenmbgaaDoorQ20
import Derived.Test.YtefijbpbenmbgaaDoorQ21
set_option linter.unusedVariables false
set_option linter.unusedSimpArgs false
namespace Go.Proofs.YtefijbpbenmbgaaDoor
open Go.RowKit
def slotsP (code : List Ins) (s : Int) : Nat → Int
 | 0 => s
 | i + 1 => if akI (inAt code i).op = 2 ∧ slotsP code s i < (inAt code i).a + 1 then (inAt code i).a + 1 else slotsP code s i
def maxP (d : List Int) : Nat → Int
 | 0 => 0
 | i + 1 => if maxP d i < d.getD i (-1) then d.getD i (-1) else maxP d i
theorem right_slot {x : Ins} {n : Int} (h : rightI x n = true) (hk : akI x.op = 2) : 0 ≤ x.a ∧ x.a < 100 := by
 unfold rightI at h;simp only [Bool.and_eq_true] at h;obtain ⟨⟨⟨_, h1⟩, _⟩, _⟩ := h;unfold aOK at h1;rw [hk] at h1
 simpa using h1
theorem slotsP_range {code : List Ins} (hR : AllRt code) {s : Int} (h0 : 0 ≤ s) (h1 : s ≤ 100) : ∀ i, i ≤ code.length → 0 ≤ slotsP code s i ∧ slotsP code s i ≤ 100
 | 0, _ => ⟨h0, h1⟩
 | i + 1, hi => by
   have ih := slotsP_range hR h0 h1 i (by omega);unfold slotsP;split
   · rename_i h
     have := right_slot (hR i (by omega)) h.1;omega
   · exact ih
set_option maxRecDepth 20000 in
set_option maxHeartbeats 1000000 in
theorem slotsOf_any {code : List Ins} {v : Value} {w : World} (h : InsIn w v code) (hn : code.length ≤ 8192) (hR : AllRt code) {s : Int} (hs0 : 0 ≤ s) (hs1 : s ≤ 100) :
   Calls Tryd.prog 15 #[v, .int .i64 s] w fun e w' => e = .returned (.int .i64 (slotsP code s code.length)) ∧ Below w.heap.size w w' := by
 obtain ⟨ad, cap, hv, hlc, hcm, hbig⟩ := id h;clear hbig;subst hv;obtain ⟨n, hN⟩ := exHid code.length;have hI : Hid (InsIn w (.slice ad n cap) code) := Lib.hid (by rw [← hN.out]; exact h);rw [hN.out];clear h;have hn1 : n ≤ 8192 := by rw [← hN.out]; exact hn
 have hSR := slotsP_range hR hs0 hs1;replace hSR := Lib.hid hSR;have F := fun op W => fieldsOf_any op W
 have rF := fun op => run_field_fld op
 replace hR := Lib.hid hR;clear hn hlc hcm;go_enter Tryd.func15, Tryd.ntmps15
 go_wp2
 go_loopw [1, 6, 9] (fun t1 t6 t9 wr => ∃ i : Nat, i ≤ n ∧ t9 = .int .i64 i ∧ t1 = .int .i64 (slotsP code s i) ∧ Below w.heap.size w wr) (fun _ _ t9 _ => n - (intOf t9).toNat)
 case atStart => exact ⟨0, by omega, rfl, rfl, Below.refl _ _⟩
 case round =>
   obtain ⟨i, hi, rfl, rfl, hbw⟩ := hrel;rcases Nat.lt_or_ge i n with hlt | hge
   · have hil : i < code.length := by rw [hN.out]; exact hlt
     have hlti : (i : Int) < (n : Int) := by omega
     obtain ⟨g0, off, cap0, ecv, hg0, x0, x1, x2, x3⟩ := hI.out.cells hbw hil (op := (inAt code i).op) (a := (inAt code i).a) (x := (inAt code i).num) (tx := (inAt code i).text) rfl;injection ecv with ec1 ec2 ec3;subst ec1 ec3;clear ec2;have hr1 := (hSR.out i (by omega)).1;have hr2 := (hSR.out i (by omega)).2;have hsl := fun hk => right_slot (hR.out i hil) hk
     have hS : slotsP code s (i + 1) = if akI (inAt code i).op = 2 ∧ slotsP code s i < (inAt code i).a + 1 then (inAt code i).a + 1 else slotsP code s i := rfl;have F1 := F (inAt code i).op;have rF1 := rF (inAt code i).op;obtain ⟨fv, hfv⟩ : ∃ x, fldV (inAt code i).op = x := ⟨_, rfl⟩;rw [hfv] at F1 rF1;replace hfv := Lib.hid hfv;generalize slotsP code s i = sv at *;generalize (inAt code i).a = a at *;have hz := hbw.size;by_cases hk : akI (inAt code i).op = 2
     · have ek : ((akI (inAt code i).op : Int) == 2) = true := by rw [hk]; rfl
       obtain ⟨ha0, ha1⟩ := hsl hk;by_cases hm : sv < a + 1
       · rw [if_pos ⟨hk, hm⟩] at hS
         have hm' : sv ≤ a + 1 := by omega
         generalize (akI (inAt code i).op : Int) = k at *;generalize ((inAt code i).op : Int) = op at *;generalize (inAt code i).num = nm at *;generalize (inAt code i).text = tx at *;replace hS := Lib.hid hS;clear hk hsl F rF;go_wp2_with (go_at_call 30; refine (F1 _).mono ?_; rintro e w4 ⟨rfl, hb4⟩; have hk4 : Below w.heap.size w w4 := below_next (by go_grown) hb4; have k0 := (hb4.cell (p := ⟨wr.heap.size, 0, none⟩) (by simp)).trans (World.cell?_alloc_new ..); have k1 := (hb4.cell (p := ⟨wr.heap.size, 1, none⟩) (by simp)).trans (World.cell?_alloc_new ..); have hz4 := hb4.size; replace hb4 := Lib.hid hb4; simp at k0 k1)
         go_roundw
         case rel => exact ⟨i + 1, by omega, by go_num, by rw [hS.out] <;> first | rfl | (congr 1; omega), by go_grown⟩
         case measure => simp [intOf]; omega
       · rw [if_neg (fun h => hm h.2)] at hS
         have hm' : a + 1 ≤ sv := by omega
         generalize (akI (inAt code i).op : Int) = k at *;generalize ((inAt code i).op : Int) = op at *;generalize (inAt code i).num = nm at *;generalize (inAt code i).text = tx at *;replace hS := Lib.hid hS;clear hk hsl F rF;go_wp2_with (go_at_call 30; refine (F1 _).mono ?_; rintro e w4 ⟨rfl, hb4⟩; have hk4 : Below w.heap.size w w4 := below_next (by go_grown) hb4; have k0 := (hb4.cell (p := ⟨wr.heap.size, 0, none⟩) (by simp)).trans (World.cell?_alloc_new ..); have k1 := (hb4.cell (p := ⟨wr.heap.size, 1, none⟩) (by simp)).trans (World.cell?_alloc_new ..); have hz4 := hb4.size; replace hb4 := Lib.hid hb4; simp at k0 k1)
         go_roundw
         case rel => exact ⟨i + 1, by omega, by go_num, by rw [hS.out] <;> first | rfl | (congr 1; omega), by go_grown⟩
         case measure => simp [intOf]; omega
     · have ek : ((akI (inAt code i).op : Int) == 2) = false := beq_eq_false_iff_ne.2 (by omega)
       rw [if_neg (fun h => hk h.1)] at hS;generalize (akI (inAt code i).op : Int) = k at *;generalize ((inAt code i).op : Int) = op at *;generalize (inAt code i).num = nm at *;generalize (inAt code i).text = tx at *;replace hS := Lib.hid hS;clear hk hsl F rF;go_wp2_with (go_at_call 30; refine (F1 _).mono ?_; rintro e w4 ⟨rfl, hb4⟩; have hk4 : Below w.heap.size w w4 := below_next (by go_grown) hb4; have k0 := (hb4.cell (p := ⟨wr.heap.size, 0, none⟩) (by simp)).trans (World.cell?_alloc_new ..); have k1 := (hb4.cell (p := ⟨wr.heap.size, 1, none⟩) (by simp)).trans (World.cell?_alloc_new ..); have hz4 := hb4.size; replace hb4 := Lib.hid hb4; simp at k0 k1)
       go_roundw
       case rel => exact ⟨i + 1, by omega, by go_num, by rw [hS.out] <;> first | rfl | (congr 1; omega), by go_grown⟩
       case measure => simp [intOf]; omega
   · obtain rfl : i = n := by omega
     have hlti : ¬ ((i : Int) < (i : Int)) := by omega
     go_wp2
     go_ret
     exact ⟨rfl, hbw⟩
set_option maxRecDepth 20000 in
set_option maxHeartbeats 1000000 in
theorem max_any {w : World} {d : List Int} {g : Nat} (hD : DepAt w g d) (h0 : 0 < d.length) (hn : d.length ≤ 8192) (hf : d.getD 0 (-1) = 0) :
   Calls Tryd.prog 16 #[.slice (some ⟨g, 0, none⟩) d.length d.length] w fun e w' => e = .returned (.int .i64 (maxP d d.length)) ∧ w = w' := by
 obtain ⟨n, hN⟩ := exHid d.length;have x0 := hD.cell h0;rw [hf] at x0;have hm1 : maxP d 1 = 0 := by
   show (if (0 : Int) < d.getD 0 (-1) then d.getD 0 (-1) else 0) = 0
   rw [hf]; rfl
 rw [hN.out];rw [hN.out] at h0 hn;have h1 : ¬ ((n : Int) < 1) := by omega
 have h2 : 0 < (n : Int) := by omega
 have h3 : (n : Int) ≤ 8192 := by omega
 replace hD := Lib.hid hD;replace hf := Lib.hid hf;replace hm1 := Lib.hid hm1;go_enter Tryd.func16, Tryd.ntmps16
 go_wp2
 clear x0;go_loopw [3, 4] (fun t3 t4 wr => ∃ i : Nat, 1 ≤ i ∧ i ≤ n ∧ t4 = .int .i64 i ∧ t3 = .int .i64 (maxP d i) ∧ w = wr) (fun _ t4 _ => n - (intOf t4).toNat)
 case atStart => exact ⟨1, by omega, by omega, rfl, by rw [hm1.out], rfl⟩
 case round =>
   obtain ⟨i, hi1, hi, rfl, rfl, rfl⟩ := hrel;rcases Nat.lt_or_ge i n with hlt | hge
   · have hlti : (i : Int) < (n : Int) := by omega
     have x0 := hD.out.cell (i := i) (by rw [hN.out]; exact hlt);have hS : maxP d (i + 1) = if maxP d i < d.getD i (-1) then d.getD i (-1) else maxP d i := rfl;generalize maxP d i = mv at *;generalize d.getD i (-1) = di at *;by_cases hm : mv < di
     · rw [if_pos hm] at hS
       have hm' : mv ≤ di := by omega
       replace hS := Lib.hid hS;go_wp2
       go_roundw
       case rel => exact ⟨i + 1, by omega, by omega, by go_num, by rw [hS.out] <;> first | rfl | (congr 1; omega), by trivial⟩
       case measure => simp [intOf]; omega
     · rw [if_neg hm] at hS
       have hm' : di ≤ mv := by omega
       replace hS := Lib.hid hS;go_wp2
       go_roundw
       case rel => exact ⟨i + 1, by omega, by omega, by go_num, by rw [hS.out] <;> first | rfl | (congr 1; omega), by trivial⟩
       case measure => simp [intOf]; omega
   · obtain rfl : i = n := by omega
     have hlti : ¬ ((i : Int) < (i : Int)) := by omega
     go_wp2
     go_ret
     exact ⟨rfl, rfl⟩
end Go.Proofs.YtefijbpbenmbgaaDoor
namespace Go.Proofs.YtefijbpbenmbgaaDoor
open Go.RowKit
def faultI (code : List Ins) (s : Int) : Nat × Nat :=
 if s < 0 ∨ 100 < s then (0, 1) else if 8192 < code.length then (0, 2) else if code.length = 0 then (0, 3) else match badI code with
   | some p => (p, 3)
   | none => match (fitsI code).2 with
     | some p => (p, 140)
     | none => match circI code (fitsI code).1 with
       | some p => (p, 140)
       | none => (0, 0)
def ChkPost (code : List Ins) (s : Int) (e : Ending) (w w' : World) : Prop :=
 Below w.heap.size w w' ∧ ((faultI code s).2 ≠ 0 → e = .returned (.tuple #[.slice none 0 0, .int .i64 (faultI code s).1, .int .i64 (faultI code s).2])) ∧
   ((faultI code s).2 = 0 → ∃ g, e = .returned (.tuple #[.slice (some ⟨g, 0, none⟩) (fitsI code).1.length (fitsI code).1.length, .int .i64 0, .int .i64 0]) ∧ w.heap.size ≤ g ∧ DepAt w' g (fitsI code).1 ∧ 0 < code.length ∧ code.length ≤ 8192 ∧ 0 ≤ s ∧ s ≤ 100 ∧ AllRt code ∧ FitsI code (fitsI code).1 ∧ circI code (fitsI code).1 = none)
theorem fits_of {code : List Ins} (hR : AllRt code) (h0 : 0 < code.length) (h : (fitsI code).2 = none) : FitsI code (fitsI code).1 :=
 fitsI_ok (fun p => (hR.takes p).1) h0 (by rw [← h])
set_option maxRecDepth 20000 in
set_option maxHeartbeats 1000000 in
theorem check_any {code : List Ins} {v : Value} {w : World} {s : Int} (h : InsIn w v code) (hx : ∀ x ∈ code, FitIns x) (hW : WordsOK w) (_hs : I64 s) :
   Calls Tryd.prog 14 #[v, .int .i64 s] w fun e w' => ChkPost code s e w w' := by
 obtain ⟨ad, cap, hv, hlc, hcm, hbig⟩ := id h;clear hbig;subst hv;obtain ⟨F, hF⟩ := exHid (faultI code s);have hF' := hF.out;unfold faultI at hF';have fin : ∀ (a e : Nat) (w' : World) (E : Ending), (a, e) = F → e ≠ 0 → Below w.heap.size w w' → E = .returned (.tuple #[.slice none 0 0, .int .i64 (a : Int), .int .i64 (e : Int)]) → ChkPost code s E w w' := by
   intro a e w' E h1 h2 h3 h4;unfold ChkPost;rw [hF.out, ← h1];exact ⟨h3, fun _ => h4, fun h => absurd h h2⟩
 replace fin := Lib.hid fin;obtain ⟨n, hN⟩ := exHid code.length;have hI : Hid (InsIn w (.slice ad n cap) code) := Lib.hid (by rw [← hN.out]; exact h);rw [hN.out] at hF' ⊢;clear h hlc hcm;by_cases c1 : s < 0 ∨ 100 < s
 · rw [if_pos c1] at hF'
   replace hF' := Lib.hid hF';rcases c1 with c1 | c1
   · go_enter Tryd.func14, Tryd.ntmps14
     go_wp2
     refine bodyPost_ret (results_tmp3 rfl _ _ _) rfl ?_;exact fin.out _ _ _ _ hF'.out (by decide) (Below.refl _ _) rfl
   · have c2 : ¬ s < 0 := by omega
     go_enter Tryd.func14, Tryd.ntmps14
     go_wp2
     refine bodyPost_ret (results_tmp3 rfl _ _ _) rfl ?_;exact fin.out _ _ _ _ hF'.out (by decide) (Below.refl _ _) rfl
 · rw [if_neg c1] at hF'
   have s0 : ¬ s < 0 := by omega
   have s1 : ¬ 100 < s := by omega
   by_cases c2 : 8192 < n
   · rw [if_pos c2] at hF'
     have c2' : 8192 < (n : Int) := by omega
     replace hF' := Lib.hid hF';go_enter Tryd.func14, Tryd.ntmps14
     go_wp2
     refine bodyPost_ret (results_tmp3 rfl _ _ _) rfl ?_;exact fin.out _ _ _ _ hF'.out (by decide) (Below.refl _ _) rfl
   · rw [if_neg c2] at hF'
     have c2' : ¬ 8192 < (n : Int) := by omega
     by_cases c3 : n = 0
     · rw [if_pos c3] at hF'
       have c3' : ((n : Int) == 0) = true := by rw [c3]; rfl
       replace hF' := Lib.hid hF';replace c3 := Lib.hid c3;go_enter Tryd.func14, Tryd.ntmps14
       go_wp2
       refine bodyPost_ret (results_tmp3 rfl _ _ _) rfl ?_;exact fin.out _ _ _ _ hF'.out (by decide) (Below.refl _ _) rfl
     · rw [if_neg c3] at hF'
       have c3' : ((n : Int) == 0) = false := beq_eq_false_iff_ne.2 (by omega);have AR := allRight_any hI.out hx hW;replace hx := Lib.hid hx;replace hW := Lib.hid hW;have hNo := hN.out;cases hb : badI code with
       | some p =>
         rw [hb] at AR hF';replace hF' := Lib.hid hF';clear hNo;go_enter Tryd.func14, Tryd.ntmps14
         go_wp2_with (go_at_call 27; refine AR.mono ?_; rintro e w1 ⟨rfl, hb1⟩)
         refine bodyPost_ret (results_tmp3 rfl _ _ _) rfl ?_;exact fin.out _ _ _ _ hF'.out (by decide) hb1 rfl
       | none =>
         rw [hb] at AR hF';have hR := allRt_of hb;have FT := fun (W : World) (hbW : Below w.heap.size w W) => fit_any (hI.out.below hbW) (by omega) (by omega) hR
         replace FT := Lib.hid FT;dsimp only at hF';cases hf : (fitsI code).2 with
         | some p =>
           rw [hf] at hF';replace hF' := Lib.hid hF';replace hR := Lib.hid hR;clear hNo;go_enter Tryd.func14, Tryd.ntmps14
           go_wp2_with first
             | (go_at_call 27; refine AR.mono ?_; rintro e w1 ⟨rfl, hb1⟩)
             | (go_at_call 28; refine (FT.out _ hb1).mono ?_; rintro e w2 ⟨hb2, -, hfp⟩; obtain rfl := hfp _ hf; have hk2 := below_next hb1 hb2; clear hfp)
           refine bodyPost_ret (results_tmp3 rfl _ _ _) rfl ?_;exact fin.out _ _ _ _ hF'.out (by decide) hk2 rfl
         | none =>
           rw [hf] at hF';dsimp only at hF';have hfits := fits_of hR (by omega) hf;have CR := fun (W : World) (g : Nat) (hbW : Below w.heap.size w W) (hD : DepAt W g (fitsI code).1) => circle_any (hI.out.below hbW) (by omega) (by omega) hR hD hfits
           have hdl : (fitsI code).1.length = n := by rw [hfits.len, hNo]
           rw [hdl] at CR;replace CR := Lib.hid CR;replace hR := Lib.hid hR;replace hfits := Lib.hid hfits;replace hdl := Lib.hid hdl;clear hNo;cases hc : circI code (fitsI code).1 with
           | some p =>
             rw [hc] at hF';have CR2 := CR.out;rw [hc] at CR2;replace CR2 := Lib.hid CR2;replace hF' := Lib.hid hF';go_enter Tryd.func14, Tryd.ntmps14
             go_wp2_with first
               | (go_at_call 27; refine AR.mono ?_; rintro e w1 ⟨rfl, hb1⟩)
               | (go_at_call 28; refine (FT.out _ hb1).mono ?_; rintro e w2 ⟨hb2, hfp, -⟩; obtain ⟨g, rfl, hg, hD⟩ := hfp hf; rw [hN.out]; have hk2 := below_next hb1 hb2; replace hD := Lib.hid hD; clear hfp)
               | (go_at_call 29; refine (CR2.out _ _ hk2 hD.out).mono ?_; unfold cirV; rintro e w3 ⟨rfl, hb3⟩; have hk3 := below_next hk2 hb3)
             refine bodyPost_ret (results_tmp3 rfl _ _ _) rfl ?_;exact fin.out _ _ _ _ hF'.out (by decide) hk3 rfl
           | none =>
             rw [hc] at hF';have CR2 := CR.out;rw [hc] at CR2;replace CR2 := Lib.hid CR2;replace hF' := Lib.hid hF';go_enter Tryd.func14, Tryd.ntmps14
             go_wp2_with first
               | (go_at_call 27; refine AR.mono ?_; rintro e w1 ⟨rfl, hb1⟩)
               | (go_at_call 28; refine (FT.out _ hb1).mono ?_; rintro e w2 ⟨hb2, hfp, -⟩; obtain ⟨g, rfl, hg, hD⟩ := hfp hf; rw [hN.out]; have hk2 := below_next hb1 hb2; replace hD := Lib.hid hD; clear hfp)
               | (go_at_call 29; refine (CR2.out _ _ hk2 hD.out).mono ?_; unfold cirV; rintro e w3 ⟨rfl, hb3⟩; have hk3 := below_next hk2 hb3)
             refine bodyPost_ret (results_tmp3 rfl _ _ _) rfl ?_;refine ⟨hk3, fun h => ?_, fun _ => ⟨g, by rw [hdl.out]; rfl, Nat.le_trans hb1.size hg, hD.out.below hb3, by rw [hN.out]; omega, by rw [hN.out]; omega, by omega, by omega, hR.out, hfits.out, hc⟩⟩;rw [hF.out, ← hF'.out] at h;exact absurd rfl h
end Go.Proofs.YtefijbpbenmbgaaDoor
namespace Go.Proofs.YtefijbpbenmbgaaDoor
open Go.RowKit
theorem results_fourI {fn : Func} {t u v x : Tmp} (h : fn.results = #[.tmp t, .tmp u, .tmp v, .tmp x]) (tmps : Array Value) (P : Program) (w : World) :
   (results fn tmps).run P w = .ok (.tuple #[tmps.getD t undef, tmps.getD u undef, tmps.getD v undef, tmps.getD x undef]) w := by
 simp [results, h]
def checkV (code : List Ins) (s : Int) : Value :=
 if (faultI code s).2 = 0 then .tuple #[.int .i64 (slotsP code s code.length), .int .i64 (maxP (fitsI code).1 (fitsI code).1.length), .int .i64 0, .int .i64 0]
 else .tuple #[.int .i64 0, .int .i64 0, .int .i64 (faultI code s).1, .int .i64 (faultI code s).2]
set_option maxRecDepth 20000 in
set_option maxHeartbeats 1000000 in
theorem iCheck_any {code : List Ins} {v : Value} {w : World} {s : Int} (h : InsIn w v code) (hx : ∀ x ∈ code, FitIns x) (hW : WordsOK w) (hs : I64 s) :
   Calls Tryd.prog 8 #[v, .int .i64 s] w fun e w' => e = .returned (checkV code s) ∧ Below w.heap.size w w' := by
 have C := check_any h hx hW hs;obtain ⟨ad, cap, hv, _⟩ := id h;subst hv;replace hx := Lib.hid hx;replace hW := Lib.hid hW;obtain ⟨R, hR⟩ := exHid (checkV code s);rw [hR.out];have hR' := hR.out;unfold checkV at hR';by_cases h0 : (faultI code s).2 = 0
 · rw [if_pos h0] at hR'
   have h0' := Lib.hid h0;clear h0;replace hR' := Lib.hid hR';have SO := fun (W : World) (hb : Below w.heap.size w W) (h1 : code.length ≤ 8192) (h2 : AllRt code) (h3 : 0 ≤ s) (h4 : s ≤ 100) => slotsOf_any (h.below hb) h1 h2 h3 h4
   replace SO := Lib.hid SO;replace h := Lib.hid h;go_enter Tryd.func8, Tryd.ntmps8
   go_wp2_with first
     | (go_at_call 14; refine C.mono ?_; rintro e w1 ⟨hb, -, h2⟩; obtain ⟨g, rfl, hg, hD, p1, p2, p3, p4, p5, p6, p7⟩ := h2 h0'.out; replace hD := Lib.hid hD; clear h2; replace p5 := Lib.hid p5; replace p6 := Lib.hid p6; replace p7 := Lib.hid p7; replace p1 := Lib.hid p1; replace p2 := Lib.hid p2)
     | (go_at_call 15; refine (SO.out _ hb p2.out p5.out p3 p4).mono ?_; rintro e w2 ⟨rfl, hb2⟩; have hk2 := below_next hb hb2)
     | (go_at_call 16; refine (max_any (hD.out.below hb2) (by rw [p6.out.len]; exact p1.out) (by rw [p6.out.len]; exact p2.out) p6.out.first).mono ?_; rintro e w3 ⟨rfl, rfl⟩)
   refine bodyPost_ret (results_fourI rfl _ _ _) rfl ?_;exact ⟨by rw [← hR'.out]; rfl, hk2⟩
 · rw [if_neg h0] at hR'
   have e1 : ((((faultI code s).2 : Nat) : Int) != 0) = true := by simp; omega
   have h0' := Lib.hid h0;clear h0;replace hR' := Lib.hid hR';replace h := Lib.hid h;go_enter Tryd.func8, Tryd.ntmps8
   go_wp2_with (go_at_call 14; refine C.mono ?_; rintro e w1 ⟨hb, h2, -⟩; obtain rfl := h2 h0'.out; clear h2)
   refine bodyPost_ret (results_fourI rfl _ _ _) rfl ?_;exact ⟨by rw [← hR'.out]; rfl, hb⟩
end Go.Proofs.YtefijbpbenmbgaaDoor
namespace Go.Proofs.YtefijbpbenmbgaaDoor
open Go.RowKit Go.ChangeShapes
theorem cells_of_strs {H : Type} {enc : TypeId × Value → H} {P : Program} {w : World} {base : Nat} {sp : Nat → Bool} {held : Bool} {fuel : Nat} {t e : TypeId} {n : Nat} {cs : List Value} {zs : List (List UInt8)} {p : List MemPlace}
   (ht : P.underlying t = some (.array n e)) (he : P.underlying e = some .string) (hce : P.cellsOf e = 1) (hct : P.cellsOf t = n)
   (h : DataW.trod enc P w base sp held fuel t cs = some (.agg (zs.map fun z => .lit (.string z)), p)) : cs = zs.map fun z => Value.string ⟨z.toArray⟩ := by
 cases fuel with
 | zero => simp [DataW.trod] at h
 | succ fuel =>
   simp only [DataW.trod, ht, hce, hct, Nat.mul_one] at h;split at h
   · rename_i hl
     obtain ⟨xs, hm, hx⟩ := Option.map_eq_some_iff.1 h;have hxs : xs.map (·.1) = zs.map fun z => (DataW.lit (.string z) : DataW H) := by
       have := congrArg Prod.fst hx
       simpa using this
     have hxl : xs.length = n := by simpa using Lib.mapM_length hm
     have hzl : zs.length = n := by
       have := congrArg List.length hxs;simp at this
       omega
     apply List.ext_getElem?
     intro i;by_cases hi : i < n
     · obtain ⟨b, hb, hf⟩ := Lib.mapM_at hm i i (by simp [hi])
       obtain ⟨z, hc, rfl, _⟩ := DataW.trod_string he hf;have h1 : cs[i]? = some (.string z) := by
         have := congrArg (·[0]?) hc
         simpa [List.getElem?_take, List.getElem?_drop] using this
       have h2 : (xs.map (·.1))[i]? = some (DataW.lit (.string z.data.toList) : DataW H) := by simp [hb]
       rw [hxs] at h2;simp only [List.getElem?_map, Option.map_eq_some_iff, DataW.lit.injEq, Lit.string.injEq] at h2;obtain ⟨z', hz', h3⟩ := h2;subst h3;simp [h1, hz']
     · rw [List.getElem?_eq_none (by omega), List.getElem?_eq_none (by simp; omega)]
   · cases h
theorem words_num : Tryd.prog.globalNamed "prompter/instr.words" = some 1 := by kernel_rfl
theorem wordsOK_of {r : List (String × DataW Unit)} {W : World} (h : laidMet Tryd.prog (("prompter/instr.words", .agg (wordL.map fun z => .lit (.string z))) :: r) W) : WordsOK W := by
 obtain ⟨ps, ⟨g', t', cs, fuel, p, q, hg', ht', hvar, hd, _, _⟩, _⟩ := h;obtain rfl := Option.some.inj (words_num.symm.trans hg');obtain rfl := Option.some.inj ((show (Tryd.prog.globals[1]?).map (·.type) = some 125 by kernel_rfl).symm.trans ht');have hcs := cells_of_strs Tryd.underlying125 Tryd.underlying9 (by kernel_rfl) (by kernel_rfl) hd;intro i hi;have h1 := World.var?_cell words_num hvar i;have h2 : cs[i]? = cs.toList[i]? := by simp
 rw [h1, h2, hcs];have hl : i < wordL.length := hi;simp [wordI, List.getElem?_map, List.getElem?_eq_getElem hl, List.getD_eq_getElem?_getD]
end Go.Proofs.YtefijbpbenmbgaaDoor
namespace Go.Proofs.YtefijbpbenmbgaaDoor
open Go.RowKit Go.Shelf
theorem fault_none {code : List Ins} {s : Int} (h : FlowCode code s) : faultI code s = (0, 0) := by
 unfold faultI;have h0 := h.s0;have h1 := h.s1;have h2 := h.len0;have h3 := h.len1;rw [if_neg (by omega), if_neg (by omega), if_neg (by omega), h.bad];dsimp only;rw [h.fits];dsimp only;rw [h.circ]
theorem check_val {code : List Ins} {s : Int} (h : FlowCode code s) : ∃ a b : Int, checkV code s = .tuple #[.int .i64 a, .int .i64 b, .int .i64 0, .int .i64 0] := by
 unfold checkV;rw [if_pos (by rw [fault_none h])];exact ⟨_, _, rfl⟩
theorem opsN_take (o : Nat) (l : List Ins) (i : Nat) (h : i < l.length) : opsN o (l.take (i + 1)) = opsN o (l.take i) + (if l[i].op = o then 1 else 0) := by
 rw [List.take_add_one, List.getElem?_eq_getElem h, opsN_app];show _ + opsN o [l[i]] = _
 rw [opsN_cons, opsN_nil, Nat.zero_add]
theorem twN_take (o : Nat) (l : List Tw) (i : Nat) (h : i < l.length) : twN o (l.take (i + 1)) = twN o (l.take i) + (if l[i].op = o then 1 else 0) := by
 rw [List.take_add_one, List.getElem?_eq_getElem h, twN_app];show _ + twN o [l[i]] = _
 rw [twN_cons, twN_nil, Nat.zero_add]
theorem opsN_le (o : Nat) (l : List Ins) (i : Nat) : opsN o (l.take i) ≤ i := by
 have h := List.countP_le_length (p := fun x : Ins => x.op == o) (l := l.take i);rw [List.length_take] at h;unfold opsN;omega
theorem twN_le (o : Nat) (l : List Tw) (i : Nat) : twN o (l.take i) ≤ i := by
 have h := List.countP_le_length (p := fun x : Tw => x.op == o) (l := l.take i);rw [List.length_take] at h;unfold twN;omega
set_option maxRecDepth 20000 in
set_option maxHeartbeats 4000000 in
theorem compileRight_walk (v : Value) (w : World) (h : TwsIn w v) (hWd : WordsOK w) (hO : OpsOK w) :
   Calls Tryd.prog 3 #[v] w fun e w' => e = .returned (.bool true) ∧ Below w.heap.size w w' := by
 obtain ⟨ts, hT, hf, _⟩ := h;have hWk := Lib.hid (fun (W : World) (hb : Below w.heap.size w W) => wakes15_any W (hO.below hb));obtain ⟨r, hr⟩ := slots_is ts;have kC := Lib.hid (Compile_any w hO hT hf hr);have kN := Lib.hid (fun (W : World) (hb : Below w.heap.size w W) => Names_any W (hT.below hb) hf hr);unfold CompP at kC;have hTT := Lib.hid hT;obtain ⟨a, cap, rfl, hlc, hcm, h3⟩ := hT;clear h3;replace hf := Lib.hid hf;replace hr := Lib.hid hr;replace hO := Lib.hid hO;replace hWd := Lib.hid hWd;by_cases h5 : 5000 < ts.length
 · have h5i : (5000 : Int) < (ts.length : Int) := by omega
   have kW := Lib.hid (hWk.out w (Below.refl _ _));clear kC hWk kN;go_enter Tryd.func3, Tryd.ntmps3
   go_wp2_with fail
   refine kW.out.mono ?_;rintro e w2 ⟨rfl, hb⟩;replace hb := Lib.hid hb;go_wp2_with fail
   go_ret
   exact ⟨rfl, hb.out⟩
 · have h5i : ¬ (5000 : Int) < (ts.length : Int) := by omega
   go_enter Tryd.func3, Tryd.ntmps3
   go_wp2_with fail
   refine kC.out.mono ?_;rintro e w1 ⟨hb1, ⟨he, rfl⟩ | ⟨he, cv, code, x, K, hok, hx, hop, hg, rfl, hI⟩⟩
   · have hq : (r.2.2 != 0) = true := bne_iff_ne.2 he
     have hq2 : (r.2.2 != r.2.2) = false := by simp
     have kN1 := Lib.hid (kN.out w1 hb1);replace he := Lib.hid he;replace hb1 := Lib.hid hb1;clear kC kN;go_wp2_with fail
     refine kN1.out.mono ?_;rintro e w2 ⟨rfl, hb2⟩;have hb3 := hb1.out.trans (hb2.mono hb1.out.size);have kW := Lib.hid (hWk.out w2 hb3);replace hb3 := Lib.hid hb3;clear hb2 hb1 kN1 hWk;go_wp2_with fail
     refine kW.out.mono ?_;rintro e w3 ⟨rfl, hb⟩;have hb4 := Lib.hid (hb3.out.trans (hb.mono hb3.out.size));clear hb hb3 kW;go_wp2_with fail
     go_ret
     exact ⟨rfl, hb4.out⟩
   · obtain ⟨_, st, _, hB⟩ := slots_good hr.out he
     have hn := (flow_tree hr.out he).1;have hFC := flow_code hok hx hop hf.out hn hB hg;have hfk := gens_forks hg ⟨hok.1, hok.2.1, hok.2.2.1, trivial⟩;rw [flat_one, ← hx] at hfk;have hone : twN 1 ts = 1 := by
       obtain ⟨⟨kd, _, _, hp⟩, _⟩ := id hok;rw [hx, twN_cons, no_flow K hok.2.2.1 ⟨_, _, _, hp⟩, if_pos hop]
     rw [hone] at hfk;obtain ⟨ca, cc, rfl, hc1, hc2⟩ := id hI.shape;have hIn := hI.insIn;have kN1 := kN.out w1 hb1;rw [he] at kN1;replace kN1 := Lib.hid kN1;obtain ⟨m, hm⟩ : ∃ m : Nat, x.kids = (m : Int) + 1 := ⟨(x.kids - 1).toNat, by have := hFC.s0; omega⟩;have hs : x.kids - 1 = (m : Int) := by omega
     rw [hs] at hFC;rw [hs];have hs100 := hFC.s1;have hT1 := hTT.out.below hb1;have hx0 : ∀ h : 0 < ts.length, ts[0] = x := fun h => by simp [hx]
     have htl : 0 < ts.length := by rw [hx]; simp only [List.length_cons]; omega
     have hcap := hlc;have hWd1 := Lib.hid (hWd.out.below hb1);have hb1n := hb1.size;replace hb1 := Lib.hid hb1;replace hn := Lib.hid hn;replace hT1 := Lib.hid hT1;replace hIn := Lib.hid hIn;replace hFC := Lib.hid hFC;replace hfk := Lib.hid hfk;replace hx0 := Lib.hid hx0;clear kC kN hI hc1 hc2 hB hg hok hx hop hone hs he hr;go_wp2_with fail
     refine kN1.out.mono ?_;rintro e w2 ⟨rfl, hb2⟩;have hb3 := hb1.out.trans (hb2.mono hb1.out.size);obtain ⟨ka, kb, hkv⟩ := check_val hFC.out;have kK := iCheck_any (s := (m : Int)) (hIn.out.below hb2) (fun y hy => by
       obtain ⟨q1, q2⟩ := hFC.out.fit y hy;exact ⟨q1.len, q2, q1.n64, q1.op⟩) (hWd1.out.below hb2) ⟨by omega, by omega⟩
     rw [hkv] at kK;replace kK := Lib.hid kK;have hT2 := Lib.hid (hT1.out.below hb2);have hI2 := Lib.hid (hIn.out.below hb2);replace hb3 := Lib.hid hb3;clear hb2 kN1 hT1 hIn hWd1 hb1 hb1n hkv;go_wp2_with fail
     refine kK.out.mono ?_;rintro e w3 ⟨rfl, hb4⟩;have hb5 := hb3.out.trans (hb4.mono hb3.out.size);have kW := Lib.hid (hWk.out w3 hb5);obtain ⟨a1, cap1, ea, _, _, hcell⟩ := hT2.out.below hb4;injection ea with e1 _ e3;subst e1;subst e3;obtain ⟨a2, cap2, eb, _, _, hcell2⟩ := hI2.out.below hb4;injection eb with e1 _ e3;subst e1;subst e3;obtain ⟨g, off, rfl, hgl, hc⟩ := hcell htl;have y1 := hc 0 htl 1 (by omega);rw [hx0.out htl] at y1;simp only [twC, List.getElem?_cons_zero, List.getElem?_cons_succ, Nat.zero_mul, Nat.add_zero, hm] at y1;replace hb5 := Lib.hid hb5;have hlen := hFC.out.len1;have hl8 : decide ((8192 : Int) < (code.length : Int)) = false := decide_eq_false (by omega);have hl9 : decide (8192 < code.length) = false := decide_eq_false (by omega);have hl0 : (0 : Int) < (ts.length : Int) := by omega
     have hmm : ((m : Int) != (m : Int)) = false := by simp
     replace hc := Lib.hid hc;replace hcell2 := Lib.hid hcell2;clear hcell hb3 hb4 hT2 hI2 kK hx0 hTT hWk hWd hO hf;go_wp2_with fail
     clear hl8 hl9 y1 hmm hl0;go_loopw [12, 13] (fun t12 t13 wr => ∃ i n : Nat, t13 = .int .i64 i ∧ t12 = .int .i64 n ∧ Hid (i ≤ ts.length) ∧ Hid (n = twN 53 (ts.take i)) ∧ Hid (wr = w3)) (fun _ t13 _ => ts.length - (intOf t13).toNat)
     case atStart => exact ⟨0, 0, rfl, rfl, Lib.hid (by omega), Lib.hid (by simp [twN_nil]), Lib.hid rfl⟩
     case round =>
       obtain ⟨i, n, rfl, rfl, hi, hn1, hw⟩ := hrel;have hw' := hw.out.symm;subst hw';clear hw;have hnl : n ≤ i := by have := hn1.out; have h2 := twN_le 53 ts i; omega
       rcases Nat.lt_or_ge i ts.length with hlt | hge
       · have y0 := hc.out i hlt 0 (by omega)
         have hct := twN_take 53 ts i hlt;rw [← hn1.out] at hct;have hlti : (i : Int) < (ts.length : Int) := by omega
         generalize ts[i] = y at *;obtain ⟨op, ya, yn, yt⟩ := y;simp only [twC, List.getElem?_cons_zero, Nat.add_zero] at y0;dsimp only at hct;by_cases h53 : op = 53
         · have q53 : ((op : Int) == 53) = true := by rw [h53]; rfl
           rw [if_pos h53] at hct;replace hct := Lib.hid hct;replace h53 := Lib.hid h53;clear hgl;go_wp2_with fail
           go_roundw
           case rel => exact ⟨i + 1, n + 1, by go_num, by go_num, Lib.hid (by omega), Lib.hid hct.out.symm, Lib.hid (by first | rfl | trivial)⟩
           case measure => simp [intOf]; omega
         · have q53 : ((op : Int) == 53) = false := beq_eq_false_iff_ne.2 (by omega)
           rw [if_neg h53, Nat.add_zero] at hct;replace hct := Lib.hid hct;replace h53 := Lib.hid h53;clear hgl;go_wp2_with fail
           go_roundw
           case rel => exact ⟨i + 1, n, by go_num, rfl, Lib.hid (by omega), Lib.hid hct.out.symm, Lib.hid (by first | rfl | trivial)⟩
           case measure => simp [intOf]; omega
       · have hie : i = ts.length := by have := hi.out; omega
         subst hie;have hlti : ¬ (ts.length : Int) < (ts.length : Int) := by omega
         have hN := hn1.out;rw [List.take_length] at hN;replace hN := Lib.hid hN;obtain ⟨N, hNe⟩ : ∃ N, N = n := ⟨_, rfl⟩;subst hNe;clear hn1 hi hge hc;go_wp2_with fail
         go_loopw [14, 15, 16] (fun t14 t15 t16 wr => ∃ i n k : Nat, t16 = .int .i64 i ∧ t14 = .int .i64 n ∧ t15 = .int .i64 k ∧ Hid (i ≤ code.length) ∧ Hid (n = opsN 53 (code.take i)) ∧ Hid (k = opsN 28 (code.take i)) ∧ Hid (wr = w3)) (fun _ _ t16 _ => code.length - (intOf t16).toNat)
         case atStart => exact ⟨0, 0, 0, rfl, rfl, rfl, Lib.hid (by omega), Lib.hid (by simp [opsN_nil]), Lib.hid (by simp [opsN_nil]), Lib.hid rfl⟩
         case round =>
           obtain ⟨i, n, k, rfl, rfl, rfl, hi, hn1, hn2, hw⟩ := hrel;have hw' := hw.out.symm;subst hw';clear hw;have hnl : n ≤ i := by have := hn1.out; have h2 := opsN_le 53 code i; omega
           have hnk : k ≤ i := by have := hn2.out; have h2 := opsN_le 28 code i; omega
           rcases Nat.lt_or_ge i code.length with hlt | hge
           · obtain ⟨g2, off2, rfl, hgl2, hc2⟩ := hcell2.out (by omega)
             have y0 := hc2 i hlt 0 (by omega);have hct := opsN_take 53 code i hlt;have hck := opsN_take 28 code i hlt;rw [← hn1.out] at hct;rw [← hn2.out] at hck;have hlti : (i : Int) < (code.length : Int) := by omega
             generalize code[i] = y at *;obtain ⟨op, ya, yn, yt⟩ := y;simp only [insC, List.getElem?_cons_zero, Nat.add_zero] at y0;dsimp only at hct hck;clear hc2;by_cases h53 : op = 53
             · have q53 : ((op : Int) == 53) = true := by rw [h53]; rfl
               have q28 : ((op : Int) == 28) = false := by rw [h53]; rfl
               rw [if_pos h53] at hct;rw [if_neg (by omega), Nat.add_zero] at hck;replace hct := Lib.hid hct;replace hck := Lib.hid hck;replace h53 := Lib.hid h53;clear hgl hgl2 hcell2;go_wp2_with fail
               go_roundw
               case rel => exact ⟨i + 1, n + 1, k, by go_num, by go_num, rfl, Lib.hid (by omega), Lib.hid hct.out.symm, Lib.hid hck.out.symm, Lib.hid (by first | rfl | trivial)⟩
               case measure => simp [intOf]; omega
             · have q53 : ((op : Int) == 53) = false := beq_eq_false_iff_ne.2 (by omega)
               rw [if_neg h53, Nat.add_zero] at hct;by_cases h28 : op = 28
               · have q28 : ((op : Int) == 28) = true := by rw [h28]; rfl
                 rw [if_pos h28] at hck;replace hct := Lib.hid hct;replace hck := Lib.hid hck;replace h53 := Lib.hid h53;replace h28 := Lib.hid h28;clear hgl hgl2 hcell2;go_wp2_with fail
                 go_roundw
                 case rel => exact ⟨i + 1, n, k + 1, by go_num, rfl, by go_num, Lib.hid (by omega), Lib.hid hct.out.symm, Lib.hid hck.out.symm, Lib.hid (by first | rfl | trivial)⟩
                 case measure => simp [intOf]; omega
               · have q28 : ((op : Int) == 28) = false := beq_eq_false_iff_ne.2 (by omega)
                 rw [if_neg h28, Nat.add_zero] at hck;replace hct := Lib.hid hct;replace hck := Lib.hid hck;replace h53 := Lib.hid h53;replace h28 := Lib.hid h28;clear hgl hgl2 hcell2;go_wp2_with fail
                 go_roundw
                 case rel => exact ⟨i + 1, n, k, by go_num, rfl, rfl, Lib.hid (by omega), Lib.hid hct.out.symm, Lib.hid hck.out.symm, Lib.hid (by first | rfl | trivial)⟩
                 case measure => simp [intOf]; omega
           · have hie : i = code.length := by have := hi.out; omega
             subst hie;have hne : n = N := by have := hn1.out; rw [List.take_length] at this; rw [this, hfk.out.1]; exact hN.out.symm
             have hke : k = N + 1 := by have := hn2.out; rw [List.take_length] at this; rw [this, hfk.out.2, ← hfk.out.1]; have := hN.out; have := hfk.out.1; omega
             subst hke;subst hne;obtain ⟨cl, hcl⟩ := hFC.out.last;have hle : code.length = cl.length + 1 := by rw [hcl]; simp
             obtain ⟨g2, off2, rfl, hgl2, hc2⟩ := hcell2.out (by omega);have y0 := hc2 cl.length (by omega) 0 (by omega);have hge2 : code[cl.length]'(by omega) = mkI 28 0 := by simp [hcl]
             rw [hge2] at y0;simp only [insC, List.getElem?_cons_zero, Nat.add_zero] at y0;have hop28 : ((mkI 28 0).op : Int) = 28 := rfl;rw [hop28] at y0;have hL := hFC.out.len1;clear hn1 hn2 hi hN hfk hFC hcell2 hc2 hge2 hcl hge hnl hnk hgl hop28;generalize cl.length = L at *;generalize code.length = M at *;subst hle;have hlti : ¬ ((L + 1 : Nat) : Int) < ((L + 1 : Nat) : Int) := by omega
             have hL1 : (L : Int) < (L : Int) + 1 := by omega
             go_wp2_with fail
             refine kW.out.mono ?_;rintro e w4 ⟨rfl, hb⟩;have hb6 := Lib.hid (hb5.out.trans (hb.mono hb5.out.size));clear hb hb5 kW;go_wp2_with fail
             go_ret
             exact ⟨rfl, hb6.out⟩
end Go.Proofs.YtefijbpbenmbgaaDoor
