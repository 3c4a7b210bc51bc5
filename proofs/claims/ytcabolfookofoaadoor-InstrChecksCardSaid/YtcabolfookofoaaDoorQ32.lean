/- A part of the proof: IChk2, IDeps. No condition. -/
import Derived.BigQuiet
import Derived.Test.YtcabolfookofoaaDoorQ31
set_option linter.unusedVariables false
set_option linter.unusedSimpArgs false
namespace Go.Proofs.YtcabolfookofoaaDoor
open Go.RowKit
def faultI (code : List Ins) (s : Int) : Nat × Nat :=
 if s < 0 ∨ 100 < s then (0, 1) else if 8192 < code.length then (0, 2) else if code.length = 0 then (0, 3) else match badI code with
   | some p => (p, 3)
   | none => match (fitsI code).2 with
     | some p => (p, 140)
     | none => match circI code (fitsI code).1 with
       | some p => (p, 140)
       | none => (0, 0)
def ChkPost (code : List Ins) (s : Int) (e : Ending) (w w' : World) : Prop :=
 Below w.heap.size w w' ∧ ((faultI code s).2 ≠ 0 → e = .returned (.tuple #[.slice none 0 0, .int .i64 (faultI code s).1, .int .i64 (faultI code s).2])) ∧
   ((faultI code s).2 = 0 → ∃ g, e = .returned (.tuple #[.slice (some ⟨g, 0, none⟩) (fitsI code).1.length (fitsI code).1.length, .int .i64 0, .int .i64 0]) ∧ w.heap.size ≤ g ∧ DepAt w' g (fitsI code).1 ∧ 0 < code.length ∧ code.length ≤ 8192 ∧ 0 ≤ s ∧ s ≤ 100 ∧ AllRt code ∧ FitsI code (fitsI code).1 ∧ circI code (fitsI code).1 = none)
theorem faultI_ok {code : List Ins} {s : Int} (h : (faultI code s).2 = 0) : 0 ≤ s ∧ s ≤ 100 ∧ code.length ≤ 8192 ∧ 0 < code.length ∧ badI code = none ∧ (fitsI code).2 = none ∧ circI code (fitsI code).1 = none := by
 unfold faultI at h;split at h
 · cases h
 split at h
 · cases h
 split at h
 · cases h
 split at h
 · cases h
 split at h
 · cases h
 split at h
 · cases h
 exact ⟨by omega, by omega, by omega, by omega, by assumption, by assumption, by assumption⟩
theorem fits_of {code : List Ins} (hR : AllRt code) (h0 : 0 < code.length) (h : (fitsI code).2 = none) : FitsI code (fitsI code).1 :=
 fitsI_ok (fun p => (hR.takes p).1) h0 (by rw [← h])
set_option maxRecDepth 20000 in
set_option maxHeartbeats 1000000 in
theorem check_any {code : List Ins} {v : Value} {w : World} {s : Int} (h : InsIn w v code) (hx : ∀ x ∈ code, FitIns x) (hW : WordsOK w) (_hs : I64 s) :
   Calls Tryd.prog 10 #[v, .int .i64 s] w fun e w' => ChkPost code s e w w' := by
 obtain ⟨ad, cap, hv, hlc, hcm, hbig⟩ := id h;clear hbig;subst hv;obtain ⟨F, hF⟩ := exHid (faultI code s);have hF' := hF.out;unfold faultI at hF';have fin : ∀ (a e : Nat) (w' : World) (E : Ending), (a, e) = F → e ≠ 0 → Below w.heap.size w w' → E = .returned (.tuple #[.slice none 0 0, .int .i64 (a : Int), .int .i64 (e : Int)]) → ChkPost code s E w w' := by
   intro a e w' E h1 h2 h3 h4;unfold ChkPost;rw [hF.out, ← h1];exact ⟨h3, fun _ => h4, fun h => absurd h h2⟩
 replace fin := Lib.hid fin;obtain ⟨n, hN⟩ := exHid code.length;have hI : Hid (InsIn w (.slice ad n cap) code) := Lib.hid (by rw [← hN.out]; exact h);rw [hN.out] at hF' ⊢;clear h hlc hcm;by_cases c1 : s < 0 ∨ 100 < s
 · rw [if_pos c1] at hF'
   replace hF' := Lib.hid hF';rcases c1 with c1 | c1
   · go_enter Tryd.func10, Tryd.ntmps10
     go_wp2
     refine bodyPost_ret (results_tmp3 rfl _ _ _) rfl ?_;exact fin.out _ _ _ _ hF'.out (by decide) (Below.refl _ _) rfl
   · have c2 : ¬ s < 0 := by omega
     go_enter Tryd.func10, Tryd.ntmps10
     go_wp2
     refine bodyPost_ret (results_tmp3 rfl _ _ _) rfl ?_;exact fin.out _ _ _ _ hF'.out (by decide) (Below.refl _ _) rfl
 · rw [if_neg c1] at hF'
   have s0 : ¬ s < 0 := by omega
   have s1 : ¬ 100 < s := by omega
   by_cases c2 : 8192 < n
   · rw [if_pos c2] at hF'
     have c2' : 8192 < (n : Int) := by omega
     replace hF' := Lib.hid hF';go_enter Tryd.func10, Tryd.ntmps10
     go_wp2
     refine bodyPost_ret (results_tmp3 rfl _ _ _) rfl ?_;exact fin.out _ _ _ _ hF'.out (by decide) (Below.refl _ _) rfl
   · rw [if_neg c2] at hF'
     have c2' : ¬ 8192 < (n : Int) := by omega
     by_cases c3 : n = 0
     · rw [if_pos c3] at hF'
       have c3' : ((n : Int) == 0) = true := by rw [c3]; rfl
       replace hF' := Lib.hid hF';replace c3 := Lib.hid c3;go_enter Tryd.func10, Tryd.ntmps10
       go_wp2
       refine bodyPost_ret (results_tmp3 rfl _ _ _) rfl ?_;exact fin.out _ _ _ _ hF'.out (by decide) (Below.refl _ _) rfl
     · rw [if_neg c3] at hF'
       have c3' : ((n : Int) == 0) = false := beq_eq_false_iff_ne.2 (by omega);have AR := allRight_any hI.out hx hW;replace hx := Lib.hid hx;replace hW := Lib.hid hW;have hNo := hN.out;cases hb : badI code with
       | some p =>
         rw [hb] at AR hF';replace hF' := Lib.hid hF';clear hNo;go_enter Tryd.func10, Tryd.ntmps10
         go_wp2_with (go_at_call 17; refine AR.mono ?_; rintro e w1 ⟨rfl, hb1⟩)
         refine bodyPost_ret (results_tmp3 rfl _ _ _) rfl ?_;exact fin.out _ _ _ _ hF'.out (by decide) hb1 rfl
       | none =>
         rw [hb] at AR hF';have hR := allRt_of hb;have FT := fun (W : World) (hbW : Below w.heap.size w W) => fit_any (hI.out.below hbW) (by omega) (by omega) hR
         replace FT := Lib.hid FT;dsimp only at hF';cases hf : (fitsI code).2 with
         | some p =>
           rw [hf] at hF';replace hF' := Lib.hid hF';replace hR := Lib.hid hR;clear hNo;go_enter Tryd.func10, Tryd.ntmps10
           go_wp2_with first
             | (go_at_call 17; refine AR.mono ?_; rintro e w1 ⟨rfl, hb1⟩)
             | (go_at_call 18; refine (FT.out _ hb1).mono ?_; rintro e w2 ⟨hb2, -, hfp⟩; obtain rfl := hfp _ hf; have hk2 := below_next hb1 hb2; clear hfp)
           refine bodyPost_ret (results_tmp3 rfl _ _ _) rfl ?_;exact fin.out _ _ _ _ hF'.out (by decide) hk2 rfl
         | none =>
           rw [hf] at hF';dsimp only at hF';have hfits := fits_of hR (by omega) hf;have CR := fun (W : World) (g : Nat) (hbW : Below w.heap.size w W) (hD : DepAt W g (fitsI code).1) => circle_any (hI.out.below hbW) (by omega) (by omega) hR hD hfits
           have hdl : (fitsI code).1.length = n := by rw [hfits.len, hNo]
           rw [hdl] at CR;replace CR := Lib.hid CR;replace hR := Lib.hid hR;replace hfits := Lib.hid hfits;replace hdl := Lib.hid hdl;clear hNo;cases hc : circI code (fitsI code).1 with
           | some p =>
             rw [hc] at hF';have CR2 := CR.out;rw [hc] at CR2;replace CR2 := Lib.hid CR2;replace hF' := Lib.hid hF';go_enter Tryd.func10, Tryd.ntmps10
             go_wp2_with first
               | (go_at_call 17; refine AR.mono ?_; rintro e w1 ⟨rfl, hb1⟩)
               | (go_at_call 18; refine (FT.out _ hb1).mono ?_; rintro e w2 ⟨hb2, hfp, -⟩; obtain ⟨g, rfl, hg, hD⟩ := hfp hf; rw [hN.out]; have hk2 := below_next hb1 hb2; replace hD := Lib.hid hD; clear hfp)
               | (go_at_call 19; refine (CR2.out _ _ hk2 hD.out).mono ?_; unfold cirV; rintro e w3 ⟨rfl, hb3⟩; have hk3 := below_next hk2 hb3)
             refine bodyPost_ret (results_tmp3 rfl _ _ _) rfl ?_;exact fin.out _ _ _ _ hF'.out (by decide) hk3 rfl
           | none =>
             rw [hc] at hF';have CR2 := CR.out;rw [hc] at CR2;replace CR2 := Lib.hid CR2;replace hF' := Lib.hid hF';go_enter Tryd.func10, Tryd.ntmps10
             go_wp2_with first
               | (go_at_call 17; refine AR.mono ?_; rintro e w1 ⟨rfl, hb1⟩)
               | (go_at_call 18; refine (FT.out _ hb1).mono ?_; rintro e w2 ⟨hb2, hfp, -⟩; obtain ⟨g, rfl, hg, hD⟩ := hfp hf; rw [hN.out]; have hk2 := below_next hb1 hb2; replace hD := Lib.hid hD; clear hfp)
               | (go_at_call 19; refine (CR2.out _ _ hk2 hD.out).mono ?_; unfold cirV; rintro e w3 ⟨rfl, hb3⟩; have hk3 := below_next hk2 hb3)
             refine bodyPost_ret (results_tmp3 rfl _ _ _) rfl ?_;refine ⟨hk3, fun h => ?_, fun _ => ⟨g, by rw [hdl.out]; rfl, Nat.le_trans hb1.size hg, hD.out.below hb3, by rw [hN.out]; omega, by rw [hN.out]; omega, by omega, by omega, hR.out, hfits.out, hc⟩⟩;rw [hF.out, ← hF'.out] at h;exact absurd rfl h
end Go.Proofs.YtcabolfookofoaaDoor
namespace Go.Proofs.YtcabolfookofoaaDoor
open Go.RowKit
theorem results_fourI {fn : Func} {t u v x : Tmp} (h : fn.results = #[.tmp t, .tmp u, .tmp v, .tmp x]) (tmps : Array Value) (P : Program) (w : World) :
   (results fn tmps).run P w = .ok (.tuple #[tmps.getD t undef, tmps.getD u undef, tmps.getD v undef, tmps.getD x undef]) w := by
 simp [results, h]
def DepsPost (code : List Ins) (s : Int) (e : Ending) (w w' : World) : Prop :=
 Below w.heap.size w w' ∧ ((faultI code s).2 ≠ 0 → e = .returned (.tuple #[.slice none 0 0, .int .i64 (faultI code s).2])) ∧
   ((faultI code s).2 = 0 → ∃ g, e = .returned (.tuple #[.slice (some ⟨g, 0, none⟩) (fitsI code).1.length (fitsI code).1.length, .int .i64 0]) ∧ w.heap.size ≤ g ∧ DepAt w' g (fitsI code).1)
set_option maxRecDepth 20000 in
set_option maxHeartbeats 1000000 in
theorem Depths_any {code : List Ins} {v : Value} {w : World} {s : Int} (h : InsIn w v code) (hx : ∀ x ∈ code, FitIns x) (hW : WordsOK w) (hs : I64 s) :
   Calls Tryd.prog 8 #[v, .int .i64 s] w fun e w' => DepsPost code s e w w' := by
 have C := check_any h hx hW hs;obtain ⟨ad, cap, hv, _⟩ := id h;clear h;subst hv;replace hx := Lib.hid hx;replace hW := Lib.hid hW;by_cases h0 : (faultI code s).2 = 0
 · have h0' := Lib.hid h0
   clear h0;go_enter Tryd.func8, Tryd.ntmps8
   go_wp2_with (go_at_call 10; refine C.mono ?_; rintro e w1 ⟨hb, -, h2⟩; obtain ⟨g, rfl, hg, hD, -⟩ := h2 h0'.out; replace hD := Lib.hid hD; clear h2)
   refine bodyPost_ret (results_tmp2 rfl _ _ _) rfl ?_;exact ⟨hb, fun h => absurd h0'.out h, fun _ => ⟨g, rfl, hg, hD.out⟩⟩
 · have h0' := Lib.hid h0
   clear h0;go_enter Tryd.func8, Tryd.ntmps8
   go_wp2_with (go_at_call 10; refine C.mono ?_; rintro e w1 ⟨hb, h2, -⟩; obtain rfl := h2 h0'.out; clear h2)
   refine bodyPost_ret (results_tmp2 rfl _ _ _) rfl ?_;exact ⟨hb, fun _ => rfl, fun h => absurd h h0'.out⟩
def checkV (code : List Ins) (s : Int) : Value :=
 if (faultI code s).2 = 0 then .tuple #[.int .i64 (slotsP code s code.length), .int .i64 (maxP (fitsI code).1 (fitsI code).1.length), .int .i64 0, .int .i64 0]
 else .tuple #[.int .i64 0, .int .i64 0, .int .i64 (faultI code s).1, .int .i64 (faultI code s).2]
set_option maxRecDepth 20000 in
set_option maxHeartbeats 1000000 in
theorem Check_any {code : List Ins} {v : Value} {w : World} {s : Int} (h : InsIn w v code) (hx : ∀ x ∈ code, FitIns x) (hW : WordsOK w) (hs : I64 s) :
   Calls Tryd.prog 6 #[v, .int .i64 s] w fun e w' => e = .returned (checkV code s) ∧ Below w.heap.size w w' := by
 have C := check_any h hx hW hs;obtain ⟨ad, cap, hv, _⟩ := id h;subst hv;replace hx := Lib.hid hx;replace hW := Lib.hid hW;obtain ⟨R, hR⟩ := exHid (checkV code s);rw [hR.out];have hR' := hR.out;unfold checkV at hR';by_cases h0 : (faultI code s).2 = 0
 · rw [if_pos h0] at hR'
   have h0' := Lib.hid h0;clear h0;replace hR' := Lib.hid hR';have SO := fun (W : World) (hb : Below w.heap.size w W) (h1 : code.length ≤ 8192) (h2 : AllRt code) (h3 : 0 ≤ s) (h4 : s ≤ 100) => slotsOf_any (h.below hb) h1 h2 h3 h4
   replace SO := Lib.hid SO;replace h := Lib.hid h;go_enter Tryd.func6, Tryd.ntmps6
   go_wp2_with first
     | (go_at_call 10; refine C.mono ?_; rintro e w1 ⟨hb, -, h2⟩; obtain ⟨g, rfl, hg, hD, p1, p2, p3, p4, p5, p6, p7⟩ := h2 h0'.out; replace hD := Lib.hid hD; clear h2; replace p5 := Lib.hid p5; replace p6 := Lib.hid p6; replace p7 := Lib.hid p7; replace p1 := Lib.hid p1; replace p2 := Lib.hid p2)
     | (go_at_call 11; refine (SO.out _ hb p2.out p5.out p3 p4).mono ?_; rintro e w2 ⟨rfl, hb2⟩; have hk2 := below_next hb hb2)
     | (go_at_call 12; refine (max_any (hD.out.below hb2) (by rw [p6.out.len]; exact p1.out) (by rw [p6.out.len]; exact p2.out) p6.out.first).mono ?_; rintro e w3 ⟨rfl, rfl⟩)
   refine bodyPost_ret (results_fourI rfl _ _ _) rfl ?_;exact ⟨by rw [← hR'.out]; rfl, hk2⟩
 · rw [if_neg h0] at hR'
   have e1 : ((((faultI code s).2 : Nat) : Int) != 0) = true := by simp; omega
   have h0' := Lib.hid h0;clear h0;replace hR' := Lib.hid hR';replace h := Lib.hid h;go_enter Tryd.func6, Tryd.ntmps6
   go_wp2_with (go_at_call 10; refine C.mono ?_; rintro e w1 ⟨hb, h2, -⟩; obtain rfl := h2 h0'.out; clear h2)
   refine bodyPost_ret (results_fourI rfl _ _ _) rfl ?_;exact ⟨by rw [← hR'.out]; rfl, hb⟩
def addsL : List Ins := [⟨26, 0, 0, []⟩, ⟨23, 0, 1, []⟩, ⟨36, 0, 0, []⟩, ⟨8, 0, 0, []⟩, ⟨28, 0, 0, []⟩]
theorem adds_fit : ∀ x ∈ addsL, FitIns x := by
 intro x hx;simp only [addsL, List.mem_cons, List.not_mem_nil, or_false] at hx;rcases hx with rfl | rfl | rfl | rfl | rfl <;> exact ⟨by decide, ⟨by decide, by decide⟩, ⟨by decide, by decide⟩, by decide⟩
theorem adds_check : checkV addsL 1 = .tuple #[.int .i64 1, .int .i64 2, .int .i64 0, .int .i64 0] := by
 have h1 : (faultI addsL 1).2 = 0 := by decide +kernel
 have h2 : slotsP addsL 1 addsL.length = 1 := by decide +kernel
 have h3 : maxP (fitsI addsL).1 (fitsI addsL).1.length = 2 := by decide +kernel
 unfold checkV;rw [if_pos h1, h2, h3]
set_option maxRecDepth 20000 in
set_option maxHeartbeats 1000000 in
theorem adds_any (w : World) :
   Calls Tryd.prog 9 #[] w fun e w' => ∃ v, e = .returned v ∧ InsIn w' v addsL ∧ Below w.heap.size w w' := by
 go_enter Tryd.func9, Tryd.ntmps9
 go_wp2
 go_ret
 refine ⟨_, rfl, ⟨_, _, rfl, by decide, by decide, fun _ => ⟨w.heap.size, 0, rfl, ?_, fun i hi c hc => ?_⟩⟩, by go_grown⟩
 · simp
 · have hi' : i < 5 := hi
   rw [World.cell?_alloc_new]
   match i, hi', c, hc with
   | 0, _, 0, _ => rfl
   | 0, _, 1, _ => rfl
   | 0, _, 2, _ => rfl
   | 0, _, 3, _ => rfl
   | 1, _, 0, _ => rfl
   | 1, _, 1, _ => rfl
   | 1, _, 2, _ => rfl
   | 1, _, 3, _ => rfl
   | 2, _, 0, _ => rfl
   | 2, _, 1, _ => rfl
   | 2, _, 2, _ => rfl
   | 2, _, 3, _ => rfl
   | 3, _, 0, _ => rfl
   | 3, _, 1, _ => rfl
   | 3, _, 2, _ => rfl
   | 3, _, 3, _ => rfl
   | 4, _, 0, _ => rfl
   | 4, _, 1, _ => rfl
   | 4, _, 2, _ => rfl
   | 4, _, 3, _ => rfl
set_option maxRecDepth 20000 in
set_option maxHeartbeats 1000000 in
theorem awake14_any (w : World) (hW : WordsOK w) :
   Calls Tryd.prog 4 #[] w fun e w' => e = .returned (.bool true) ∧ Below w.heap.size w w' := by
 have A := adds_any w;have C := fun (W : World) (v : Value) (hb : Below w.heap.size w W) (hI : InsIn W v addsL) => Check_any hI adds_fit (hW.below hb) (s := 1) ⟨by decide, by decide⟩
 rw [adds_check] at C;replace hW := Lib.hid hW;go_enter Tryd.func4, Tryd.ntmps4
 go_wp2_with first
   | (go_at_call 9; refine A.mono ?_; rintro e w1 ⟨v, rfl, hI, hb⟩; replace hI := Lib.hid hI)
   | (go_at_call 6; refine (C _ _ hb hI.out).mono ?_; rintro e w2 ⟨rfl, hb2⟩; have hk2 := below_next hb hb2)
 go_ret
 exact ⟨rfl, hk2⟩
end Go.Proofs.YtcabolfookofoaaDoor
