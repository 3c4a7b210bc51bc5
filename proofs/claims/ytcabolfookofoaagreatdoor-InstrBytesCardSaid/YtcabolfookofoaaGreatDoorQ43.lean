/- A part of the proof: IChk, IChk2. No condition. -/
import Derived.Test.YtcabolfookofoaaGreatDoorQ09
import Derived.Test.YtcabolfookofoaaGreatDoorQ40
import Derived.Test.YtcabolfookofoaaGreatDoorQ42
set_option linter.unusedVariables false
set_option linter.unusedSimpArgs false
namespace Go.Proofs.YtcabolfookofoaaGreatDoor
open Go.RowKit
def slotsP (code : List Ins) (s : Int) : Nat → Int
 | 0 => s
 | i + 1 => if akI (inAt code i).op = 2 ∧ slotsP code s i < (inAt code i).a + 1 then (inAt code i).a + 1 else slotsP code s i
def maxP (d : List Int) : Nat → Int
 | 0 => 0
 | i + 1 => if maxP d i < d.getD i (-1) then d.getD i (-1) else maxP d i
theorem right_slot {x : Ins} {n : Int} (h : rightI x n = true) (hk : akI x.op = 2) : 0 ≤ x.a ∧ x.a < 100 := by
 unfold rightI at h;simp only [Bool.and_eq_true] at h;obtain ⟨⟨⟨_, h1⟩, _⟩, _⟩ := h;unfold aOK at h1;rw [hk] at h1
 simpa using h1
theorem slotsP_range {code : List Ins} (hR : AllRt code) {s : Int} (h0 : 0 ≤ s) (h1 : s ≤ 100) : ∀ i, i ≤ code.length → 0 ≤ slotsP code s i ∧ slotsP code s i ≤ 100
 | 0, _ => ⟨h0, h1⟩
 | i + 1, hi => by
   have ih := slotsP_range hR h0 h1 i (by omega);unfold slotsP;split
   · rename_i h
     have := right_slot (hR i (by omega)) h.1;omega
   · exact ih
set_option maxRecDepth 20000 in
set_option maxHeartbeats 1000000 in
theorem slotsOf_any {code : List Ins} {v : Value} {w : World} (h : InsIn w v code) (hn : code.length ≤ 8192) (hR : AllRt code) {s : Int} (hs0 : 0 ≤ s) (hs1 : s ≤ 100) :
   Calls Tryz.prog 23 #[v, .int .i64 s] w fun e w' => e = .returned (.int .i64 (slotsP code s code.length)) ∧ Below w.heap.size w w' := by
 obtain ⟨ad, cap, hv, hlc, hcm, hbig⟩ := id h;clear hbig;subst hv;obtain ⟨n, hN⟩ := exHid code.length;have hI : Hid (InsIn w (.slice ad n cap) code) := Lib.hid (by rw [← hN.out]; exact h);rw [hN.out];clear h;have hn1 : n ≤ 8192 := by rw [← hN.out]; exact hn
 have hSR := slotsP_range hR hs0 hs1;replace hSR := Lib.hid hSR;have F := fun op W => fieldsOf_any op W
 have rF := fun op => run_field_fld op
 replace hR := Lib.hid hR;clear hn hlc hcm;go_enter Tryz.func23, Tryz.ntmps23
 go_wp2
 go_loopw [1, 6, 9] (fun t1 t6 t9 wr => ∃ i : Nat, i ≤ n ∧ t9 = .int .i64 i ∧ t1 = .int .i64 (slotsP code s i) ∧ Below w.heap.size w wr) (fun _ _ t9 _ => n - (intOf t9).toNat)
 case atStart => exact ⟨0, by omega, rfl, rfl, Below.refl _ _⟩
 case round =>
   obtain ⟨i, hi, rfl, rfl, hbw⟩ := hrel;rcases Nat.lt_or_ge i n with hlt | hge
   · have hil : i < code.length := by rw [hN.out]; exact hlt
     have hlti : (i : Int) < (n : Int) := by omega
     obtain ⟨g0, off, cap0, ecv, hg0, x0, x1, x2, x3⟩ := hI.out.cells hbw hil (op := (inAt code i).op) (a := (inAt code i).a) (x := (inAt code i).num) (tx := (inAt code i).text) rfl;injection ecv with ec1 ec2 ec3;subst ec1 ec3;clear ec2;have hr1 := (hSR.out i (by omega)).1;have hr2 := (hSR.out i (by omega)).2;have hsl := fun hk => right_slot (hR.out i hil) hk
     have hS : slotsP code s (i + 1) = if akI (inAt code i).op = 2 ∧ slotsP code s i < (inAt code i).a + 1 then (inAt code i).a + 1 else slotsP code s i := rfl;have F1 := F (inAt code i).op;have rF1 := rF (inAt code i).op;obtain ⟨fv, hfv⟩ : ∃ x, fldV (inAt code i).op = x := ⟨_, rfl⟩;rw [hfv] at F1 rF1;replace hfv := Lib.hid hfv;generalize slotsP code s i = sv at *;generalize (inAt code i).a = a at *;have hz := hbw.size;by_cases hk : akI (inAt code i).op = 2
     · have ek : ((akI (inAt code i).op : Int) == 2) = true := by rw [hk]; rfl
       obtain ⟨ha0, ha1⟩ := hsl hk;by_cases hm : sv < a + 1
       · rw [if_pos ⟨hk, hm⟩] at hS
         have hm' : sv ≤ a + 1 := by omega
         generalize (akI (inAt code i).op : Int) = k at *;generalize ((inAt code i).op : Int) = op at *;generalize (inAt code i).num = nm at *;generalize (inAt code i).text = tx at *;replace hS := Lib.hid hS;clear hk hsl F rF;go_wp2_with (go_at_call 42; refine (F1 _).mono ?_; rintro e w4 ⟨rfl, hb4⟩; have hk4 : Below w.heap.size w w4 := below_next (by go_grown) hb4; have k0 := (hb4.cell (p := ⟨wr.heap.size, 0, none⟩) (by simp)).trans (World.cell?_alloc_new ..); have k1 := (hb4.cell (p := ⟨wr.heap.size, 1, none⟩) (by simp)).trans (World.cell?_alloc_new ..); have hz4 := hb4.size; replace hb4 := Lib.hid hb4; simp at k0 k1)
         go_roundw
         case rel => exact ⟨i + 1, by omega, by go_num, by rw [hS.out] <;> first | rfl | (congr 1; omega), by go_grown⟩
         case measure => simp [intOf]; omega
       · rw [if_neg (fun h => hm h.2)] at hS
         have hm' : a + 1 ≤ sv := by omega
         generalize (akI (inAt code i).op : Int) = k at *;generalize ((inAt code i).op : Int) = op at *;generalize (inAt code i).num = nm at *;generalize (inAt code i).text = tx at *;replace hS := Lib.hid hS;clear hk hsl F rF;go_wp2_with (go_at_call 42; refine (F1 _).mono ?_; rintro e w4 ⟨rfl, hb4⟩; have hk4 : Below w.heap.size w w4 := below_next (by go_grown) hb4; have k0 := (hb4.cell (p := ⟨wr.heap.size, 0, none⟩) (by simp)).trans (World.cell?_alloc_new ..); have k1 := (hb4.cell (p := ⟨wr.heap.size, 1, none⟩) (by simp)).trans (World.cell?_alloc_new ..); have hz4 := hb4.size; replace hb4 := Lib.hid hb4; simp at k0 k1)
         go_roundw
         case rel => exact ⟨i + 1, by omega, by go_num, by rw [hS.out] <;> first | rfl | (congr 1; omega), by go_grown⟩
         case measure => simp [intOf]; omega
     · have ek : ((akI (inAt code i).op : Int) == 2) = false := beq_eq_false_iff_ne.2 (by omega)
       rw [if_neg (fun h => hk h.1)] at hS;generalize (akI (inAt code i).op : Int) = k at *;generalize ((inAt code i).op : Int) = op at *;generalize (inAt code i).num = nm at *;generalize (inAt code i).text = tx at *;replace hS := Lib.hid hS;clear hk hsl F rF;go_wp2_with (go_at_call 42; refine (F1 _).mono ?_; rintro e w4 ⟨rfl, hb4⟩; have hk4 : Below w.heap.size w w4 := below_next (by go_grown) hb4; have k0 := (hb4.cell (p := ⟨wr.heap.size, 0, none⟩) (by simp)).trans (World.cell?_alloc_new ..); have k1 := (hb4.cell (p := ⟨wr.heap.size, 1, none⟩) (by simp)).trans (World.cell?_alloc_new ..); have hz4 := hb4.size; replace hb4 := Lib.hid hb4; simp at k0 k1)
       go_roundw
       case rel => exact ⟨i + 1, by omega, by go_num, by rw [hS.out] <;> first | rfl | (congr 1; omega), by go_grown⟩
       case measure => simp [intOf]; omega
   · obtain rfl : i = n := by omega
     have hlti : ¬ ((i : Int) < (i : Int)) := by omega
     go_wp2
     go_ret
     exact ⟨rfl, hbw⟩
set_option maxRecDepth 20000 in
set_option maxHeartbeats 1000000 in
theorem max_any {w : World} {d : List Int} {g : Nat} (hD : DepAt w g d) (h0 : 0 < d.length) (hn : d.length ≤ 8192) (hf : d.getD 0 (-1) = 0) :
   Calls Tryz.prog 24 #[.slice (some ⟨g, 0, none⟩) d.length d.length] w fun e w' => e = .returned (.int .i64 (maxP d d.length)) ∧ w = w' := by
 obtain ⟨n, hN⟩ := exHid d.length;have x0 := hD.cell h0;rw [hf] at x0;have hm1 : maxP d 1 = 0 := by
   show (if (0 : Int) < d.getD 0 (-1) then d.getD 0 (-1) else 0) = 0
   rw [hf]; rfl
 rw [hN.out];rw [hN.out] at h0 hn;have h1 : ¬ ((n : Int) < 1) := by omega
 have h2 : 0 < (n : Int) := by omega
 have h3 : (n : Int) ≤ 8192 := by omega
 replace hD := Lib.hid hD;replace hf := Lib.hid hf;replace hm1 := Lib.hid hm1;go_enter Tryz.func24, Tryz.ntmps24
 go_wp2
 clear x0;go_loopw [3, 4] (fun t3 t4 wr => ∃ i : Nat, 1 ≤ i ∧ i ≤ n ∧ t4 = .int .i64 i ∧ t3 = .int .i64 (maxP d i) ∧ w = wr) (fun _ t4 _ => n - (intOf t4).toNat)
 case atStart => exact ⟨1, by omega, by omega, rfl, by rw [hm1.out], rfl⟩
 case round =>
   obtain ⟨i, hi1, hi, rfl, rfl, rfl⟩ := hrel;rcases Nat.lt_or_ge i n with hlt | hge
   · have hlti : (i : Int) < (n : Int) := by omega
     have x0 := hD.out.cell (i := i) (by rw [hN.out]; exact hlt);have hS : maxP d (i + 1) = if maxP d i < d.getD i (-1) then d.getD i (-1) else maxP d i := rfl;generalize maxP d i = mv at *;generalize d.getD i (-1) = di at *;by_cases hm : mv < di
     · rw [if_pos hm] at hS
       have hm' : mv ≤ di := by omega
       replace hS := Lib.hid hS;go_wp2
       go_roundw
       case rel => exact ⟨i + 1, by omega, by omega, by go_num, by rw [hS.out] <;> first | rfl | (congr 1; omega), by trivial⟩
       case measure => simp [intOf]; omega
     · rw [if_neg hm] at hS
       have hm' : di ≤ mv := by omega
       replace hS := Lib.hid hS;go_wp2
       go_roundw
       case rel => exact ⟨i + 1, by omega, by omega, by go_num, by rw [hS.out] <;> first | rfl | (congr 1; omega), by trivial⟩
       case measure => simp [intOf]; omega
   · obtain rfl : i = n := by omega
     have hlti : ¬ ((i : Int) < (i : Int)) := by omega
     go_wp2
     go_ret
     exact ⟨rfl, rfl⟩
end Go.Proofs.YtcabolfookofoaaGreatDoor
namespace Go.Proofs.YtcabolfookofoaaGreatDoor
open Go.RowKit
def faultI (code : List Ins) (s : Int) : Nat × Nat :=
 if s < 0 ∨ 100 < s then (0, 1) else if 8192 < code.length then (0, 2) else if code.length = 0 then (0, 3) else match badI code with
   | some p => (p, 3)
   | none => match (fitsI code).2 with
     | some p => (p, 140)
     | none => match circI code (fitsI code).1 with
       | some p => (p, 140)
       | none => (0, 0)
def ChkPost (code : List Ins) (s : Int) (e : Ending) (w w' : World) : Prop :=
 Below w.heap.size w w' ∧ ((faultI code s).2 ≠ 0 → e = .returned (.tuple #[.slice none 0 0, .int .i64 (faultI code s).1, .int .i64 (faultI code s).2])) ∧
   ((faultI code s).2 = 0 → ∃ g, e = .returned (.tuple #[.slice (some ⟨g, 0, none⟩) (fitsI code).1.length (fitsI code).1.length, .int .i64 0, .int .i64 0]) ∧ w.heap.size ≤ g ∧ DepAt w' g (fitsI code).1 ∧ 0 < code.length ∧ code.length ≤ 8192 ∧ 0 ≤ s ∧ s ≤ 100 ∧ AllRt code ∧ FitsI code (fitsI code).1 ∧ circI code (fitsI code).1 = none)
theorem fits_of {code : List Ins} (hR : AllRt code) (h0 : 0 < code.length) (h : (fitsI code).2 = none) : FitsI code (fitsI code).1 :=
 fitsI_ok (fun p => (hR.takes p).1) h0 (by rw [← h])
set_option maxRecDepth 20000 in
set_option maxHeartbeats 1000000 in
theorem check_any {code : List Ins} {v : Value} {w : World} {s : Int} (h : InsIn w v code) (hx : ∀ x ∈ code, FitIns x) (hW : WordsOK w) (_hs : I64 s) :
   Calls Tryz.prog 22 #[v, .int .i64 s] w fun e w' => ChkPost code s e w w' := by
 obtain ⟨ad, cap, hv, hlc, hcm, hbig⟩ := id h;clear hbig;subst hv;obtain ⟨F, hF⟩ := exHid (faultI code s);have hF' := hF.out;unfold faultI at hF';have fin : ∀ (a e : Nat) (w' : World) (E : Ending), (a, e) = F → e ≠ 0 → Below w.heap.size w w' → E = .returned (.tuple #[.slice none 0 0, .int .i64 (a : Int), .int .i64 (e : Int)]) → ChkPost code s E w w' := by
   intro a e w' E h1 h2 h3 h4;unfold ChkPost;rw [hF.out, ← h1];exact ⟨h3, fun _ => h4, fun h => absurd h h2⟩
 replace fin := Lib.hid fin;obtain ⟨n, hN⟩ := exHid code.length;have hI : Hid (InsIn w (.slice ad n cap) code) := Lib.hid (by rw [← hN.out]; exact h);rw [hN.out] at hF' ⊢;clear h hlc hcm;by_cases c1 : s < 0 ∨ 100 < s
 · rw [if_pos c1] at hF'
   replace hF' := Lib.hid hF';rcases c1 with c1 | c1
   · go_enter Tryz.func22, Tryz.ntmps22
     go_wp2
     refine bodyPost_ret (results_tmp3 rfl _ _ _) rfl ?_;exact fin.out _ _ _ _ hF'.out (by decide) (Below.refl _ _) rfl
   · have c2 : ¬ s < 0 := by omega
     go_enter Tryz.func22, Tryz.ntmps22
     go_wp2
     refine bodyPost_ret (results_tmp3 rfl _ _ _) rfl ?_;exact fin.out _ _ _ _ hF'.out (by decide) (Below.refl _ _) rfl
 · rw [if_neg c1] at hF'
   have s0 : ¬ s < 0 := by omega
   have s1 : ¬ 100 < s := by omega
   by_cases c2 : 8192 < n
   · rw [if_pos c2] at hF'
     have c2' : 8192 < (n : Int) := by omega
     replace hF' := Lib.hid hF';go_enter Tryz.func22, Tryz.ntmps22
     go_wp2
     refine bodyPost_ret (results_tmp3 rfl _ _ _) rfl ?_;exact fin.out _ _ _ _ hF'.out (by decide) (Below.refl _ _) rfl
   · rw [if_neg c2] at hF'
     have c2' : ¬ 8192 < (n : Int) := by omega
     by_cases c3 : n = 0
     · rw [if_pos c3] at hF'
       have c3' : ((n : Int) == 0) = true := by rw [c3]; rfl
       replace hF' := Lib.hid hF';replace c3 := Lib.hid c3;go_enter Tryz.func22, Tryz.ntmps22
       go_wp2
       refine bodyPost_ret (results_tmp3 rfl _ _ _) rfl ?_;exact fin.out _ _ _ _ hF'.out (by decide) (Below.refl _ _) rfl
     · rw [if_neg c3] at hF'
       have c3' : ((n : Int) == 0) = false := beq_eq_false_iff_ne.2 (by omega);have AR := allRight_any hI.out hx hW;replace hx := Lib.hid hx;replace hW := Lib.hid hW;have hNo := hN.out;cases hb : badI code with
       | some p =>
         rw [hb] at AR hF';replace hF' := Lib.hid hF';clear hNo;go_enter Tryz.func22, Tryz.ntmps22
         go_wp2_with (go_at_call 39; refine AR.mono ?_; rintro e w1 ⟨rfl, hb1⟩)
         refine bodyPost_ret (results_tmp3 rfl _ _ _) rfl ?_;exact fin.out _ _ _ _ hF'.out (by decide) hb1 rfl
       | none =>
         rw [hb] at AR hF';have hR := allRt_of hb;have FT := fun (W : World) (hbW : Below w.heap.size w W) => fit_any (hI.out.below hbW) (by omega) (by omega) hR
         replace FT := Lib.hid FT;dsimp only at hF';cases hf : (fitsI code).2 with
         | some p =>
           rw [hf] at hF';replace hF' := Lib.hid hF';replace hR := Lib.hid hR;clear hNo;go_enter Tryz.func22, Tryz.ntmps22
           go_wp2_with first
             | (go_at_call 39; refine AR.mono ?_; rintro e w1 ⟨rfl, hb1⟩)
             | (go_at_call 40; refine (FT.out _ hb1).mono ?_; rintro e w2 ⟨hb2, -, hfp⟩; obtain rfl := hfp _ hf; have hk2 := below_next hb1 hb2; clear hfp)
           refine bodyPost_ret (results_tmp3 rfl _ _ _) rfl ?_;exact fin.out _ _ _ _ hF'.out (by decide) hk2 rfl
         | none =>
           rw [hf] at hF';dsimp only at hF';have hfits := fits_of hR (by omega) hf;have CR := fun (W : World) (g : Nat) (hbW : Below w.heap.size w W) (hD : DepAt W g (fitsI code).1) => circle_any (hI.out.below hbW) (by omega) (by omega) hR hD hfits
           have hdl : (fitsI code).1.length = n := by rw [hfits.len, hNo]
           rw [hdl] at CR;replace CR := Lib.hid CR;replace hR := Lib.hid hR;replace hfits := Lib.hid hfits;replace hdl := Lib.hid hdl;clear hNo;cases hc : circI code (fitsI code).1 with
           | some p =>
             rw [hc] at hF';have CR2 := CR.out;rw [hc] at CR2;replace CR2 := Lib.hid CR2;replace hF' := Lib.hid hF';go_enter Tryz.func22, Tryz.ntmps22
             go_wp2_with first
               | (go_at_call 39; refine AR.mono ?_; rintro e w1 ⟨rfl, hb1⟩)
               | (go_at_call 40; refine (FT.out _ hb1).mono ?_; rintro e w2 ⟨hb2, hfp, -⟩; obtain ⟨g, rfl, hg, hD⟩ := hfp hf; rw [hN.out]; have hk2 := below_next hb1 hb2; replace hD := Lib.hid hD; clear hfp)
               | (go_at_call 41; refine (CR2.out _ _ hk2 hD.out).mono ?_; unfold cirV; rintro e w3 ⟨rfl, hb3⟩; have hk3 := below_next hk2 hb3)
             refine bodyPost_ret (results_tmp3 rfl _ _ _) rfl ?_;exact fin.out _ _ _ _ hF'.out (by decide) hk3 rfl
           | none =>
             rw [hc] at hF';have CR2 := CR.out;rw [hc] at CR2;replace CR2 := Lib.hid CR2;replace hF' := Lib.hid hF';go_enter Tryz.func22, Tryz.ntmps22
             go_wp2_with first
               | (go_at_call 39; refine AR.mono ?_; rintro e w1 ⟨rfl, hb1⟩)
               | (go_at_call 40; refine (FT.out _ hb1).mono ?_; rintro e w2 ⟨hb2, hfp, -⟩; obtain ⟨g, rfl, hg, hD⟩ := hfp hf; rw [hN.out]; have hk2 := below_next hb1 hb2; replace hD := Lib.hid hD; clear hfp)
               | (go_at_call 41; refine (CR2.out _ _ hk2 hD.out).mono ?_; unfold cirV; rintro e w3 ⟨rfl, hb3⟩; have hk3 := below_next hk2 hb3)
             refine bodyPost_ret (results_tmp3 rfl _ _ _) rfl ?_;refine ⟨hk3, fun h => ?_, fun _ => ⟨g, by rw [hdl.out]; rfl, Nat.le_trans hb1.size hg, hD.out.below hb3, by rw [hN.out]; omega, by rw [hN.out]; omega, by omega, by omega, hR.out, hfits.out, hc⟩⟩;rw [hF.out, ← hF'.out] at h;exact absurd rfl h
end Go.Proofs.YtcabolfookofoaaGreatDoor
