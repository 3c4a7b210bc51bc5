/- instr's check, Depths, Check (layer 14), walked. No condition but the table of words, which the card ties. -/
import Derived.Test.YtlhabgfgoainlaaDoorIChk
namespace Go.Proofs.YtlhabgfgoainlaaDoor
open Go.RowKit

/-- What is wrong with code, and where: the place, the error. -/
def faultI (code : List Ins) (s : Int) : Nat × Nat :=
  if s < 0 ∨ 100 < s then (0, 1) else if 8192 < code.length then (0, 2) else if code.length = 0 then (0, 3) else match badI code with
    | some p => (p, 3)
    | none => match (fitsI code).2 with
      | some p => (p, 140)
      | none => match circI code (fitsI code).1 with
        | some p => (p, 140)
        | none => (0, 0)
/-- What check answers. -/
def ChkPost (code : List Ins) (s : Int) (e : Ending) (w w' : World) : Prop :=
  Below w.heap.size w w' ∧ ((faultI code s).2 ≠ 0 → e = .returned (.tuple #[.slice none 0 0, .int .i64 (faultI code s).1, .int .i64 (faultI code s).2])) ∧
    ((faultI code s).2 = 0 → ∃ g, e = .returned (.tuple #[.slice (some ⟨g, 0, none⟩) (fitsI code).1.length (fitsI code).1.length, .int .i64 0, .int .i64 0]) ∧ w.heap.size ≤ g ∧ DepAt w' g (fitsI code).1 ∧ 0 < code.length ∧ code.length ≤ 8192 ∧ 0 ≤ s ∧ s ≤ 100 ∧ AllRt code ∧ FitsI code (fitsI code).1 ∧ circI code (fitsI code).1 = none)
theorem faultI_ok {code : List Ins} {s : Int} (h : (faultI code s).2 = 0) : 0 ≤ s ∧ s ≤ 100 ∧ code.length ≤ 8192 ∧ 0 < code.length ∧ badI code = none ∧ (fitsI code).2 = none ∧ circI code (fitsI code).1 = none := by
  unfold faultI at h
  split at h
  · cases h
  split at h
  · cases h
  split at h
  · cases h
  split at h
  · cases h
  split at h
  · cases h
  split at h
  · cases h
  exact ⟨by omega, by omega, by omega, by omega, by assumption, by assumption, by assumption⟩
theorem fits_of {code : List Ins} (hR : AllRt code) (h0 : 0 < code.length) (h : (fitsI code).2 = none) : FitsI code (fitsI code).1 :=
  fitsI_ok (fun p => (hR.takes p).1) h0 (by rw [← h])
set_option maxRecDepth 20000 in
set_option maxHeartbeats 1000000 in
theorem check_any {code : List Ins} {v : Value} {w : World} {s : Int} (h : InsIn w v code) (hx : ∀ x ∈ code, FitIns x) (hW : WordsOK w) (_hs : I64 s) :
    Calls Tryd.prog 19 #[v, .int .i64 s] w fun e w' => ChkPost code s e w w' := by
  obtain ⟨ad, cap, hv, hlc, hcm, hbig⟩ := id h
  clear hbig
  subst hv
  obtain ⟨F, hF⟩ := exHid (faultI code s)
  have hF' := hF.out
  unfold faultI at hF'
  have fin : ∀ (a e : Nat) (w' : World) (E : Ending), (a, e) = F → e ≠ 0 → Below w.heap.size w w' → E = .returned (.tuple #[.slice none 0 0, .int .i64 (a : Int), .int .i64 (e : Int)]) → ChkPost code s E w w' := by
    intro a e w' E h1 h2 h3 h4
    unfold ChkPost
    rw [hF.out, ← h1]
    exact ⟨h3, fun _ => h4, fun h => absurd h h2⟩
  replace fin := Lib.hid fin
  obtain ⟨n, hN⟩ := exHid code.length
  have hI : Hid (InsIn w (.slice ad n cap) code) := Lib.hid (by rw [← hN.out]; exact h)
  rw [hN.out] at hF' ⊢
  clear h hlc hcm
  by_cases c1 : s < 0 ∨ 100 < s
  · rw [if_pos c1] at hF'
    replace hF' := Lib.hid hF'
    rcases c1 with c1 | c1
    · go_enter Tryd.func19, Tryd.ntmps19
      go_wp2
      refine bodyPost_ret (results_tmp3 rfl _ _ _) rfl ?_
      exact fin.out _ _ _ _ hF'.out (by decide) (Below.refl _ _) rfl
    · have c2 : ¬ s < 0 := by omega
      go_enter Tryd.func19, Tryd.ntmps19
      go_wp2
      refine bodyPost_ret (results_tmp3 rfl _ _ _) rfl ?_
      exact fin.out _ _ _ _ hF'.out (by decide) (Below.refl _ _) rfl
  · rw [if_neg c1] at hF'
    have s0 : ¬ s < 0 := by omega
    have s1 : ¬ 100 < s := by omega
    by_cases c2 : 8192 < n
    · rw [if_pos c2] at hF'
      have c2' : 8192 < (n : Int) := by omega
      replace hF' := Lib.hid hF'
      go_enter Tryd.func19, Tryd.ntmps19
      go_wp2
      refine bodyPost_ret (results_tmp3 rfl _ _ _) rfl ?_
      exact fin.out _ _ _ _ hF'.out (by decide) (Below.refl _ _) rfl
    · rw [if_neg c2] at hF'
      have c2' : ¬ 8192 < (n : Int) := by omega
      by_cases c3 : n = 0
      · rw [if_pos c3] at hF'
        have c3' : ((n : Int) == 0) = true := by rw [c3]; rfl
        replace hF' := Lib.hid hF'
        replace c3 := Lib.hid c3
        go_enter Tryd.func19, Tryd.ntmps19
        go_wp2
        refine bodyPost_ret (results_tmp3 rfl _ _ _) rfl ?_
        exact fin.out _ _ _ _ hF'.out (by decide) (Below.refl _ _) rfl
      · rw [if_neg c3] at hF'
        have c3' : ((n : Int) == 0) = false := beq_eq_false_iff_ne.2 (by omega)
        have AR := allRight_any hI.out hx hW
        replace hx := Lib.hid hx
        replace hW := Lib.hid hW
        have hNo := hN.out
        cases hb : badI code with
        | some p =>
          rw [hb] at AR hF'
          replace hF' := Lib.hid hF'
          clear hNo
          go_enter Tryd.func19, Tryd.ntmps19
          go_wp2_with (go_at_call 30; refine AR.mono ?_; rintro e w1 ⟨rfl, hb1⟩)
          refine bodyPost_ret (results_tmp3 rfl _ _ _) rfl ?_
          exact fin.out _ _ _ _ hF'.out (by decide) hb1 rfl
        | none =>
          rw [hb] at AR hF'
          have hR := allRt_of hb
          have FT := fun (W : World) (hbW : Below w.heap.size w W) => fit_any (hI.out.below hbW) (by omega) (by omega) hR
          replace FT := Lib.hid FT
          dsimp only at hF'
          cases hf : (fitsI code).2 with
          | some p =>
            rw [hf] at hF'
            replace hF' := Lib.hid hF'
            replace hR := Lib.hid hR
            clear hNo
            go_enter Tryd.func19, Tryd.ntmps19
            go_wp2_with first
              | (go_at_call 30; refine AR.mono ?_; rintro e w1 ⟨rfl, hb1⟩)
              | (go_at_call 31; refine (FT.out _ hb1).mono ?_; rintro e w2 ⟨hb2, -, hfp⟩; obtain rfl := hfp _ hf; have hk2 := below_next hb1 hb2; clear hfp)
            refine bodyPost_ret (results_tmp3 rfl _ _ _) rfl ?_
            exact fin.out _ _ _ _ hF'.out (by decide) hk2 rfl
          | none =>
            rw [hf] at hF'
            dsimp only at hF'
            have hfits := fits_of hR (by omega) hf
            have CR := fun (W : World) (g : Nat) (hbW : Below w.heap.size w W) (hD : DepAt W g (fitsI code).1) => circle_any (hI.out.below hbW) (by omega) (by omega) hR hD hfits
            have hdl : (fitsI code).1.length = n := by rw [hfits.len, hNo]
            rw [hdl] at CR
            replace CR := Lib.hid CR
            replace hR := Lib.hid hR
            replace hfits := Lib.hid hfits
            replace hdl := Lib.hid hdl
            clear hNo
            cases hc : circI code (fitsI code).1 with
            | some p =>
              rw [hc] at hF'
              have CR2 := CR.out
              rw [hc] at CR2
              replace CR2 := Lib.hid CR2
              replace hF' := Lib.hid hF'
              go_enter Tryd.func19, Tryd.ntmps19
              go_wp2_with first
                | (go_at_call 30; refine AR.mono ?_; rintro e w1 ⟨rfl, hb1⟩)
                | (go_at_call 31; refine (FT.out _ hb1).mono ?_; rintro e w2 ⟨hb2, hfp, -⟩; obtain ⟨g, rfl, hg, hD⟩ := hfp hf; rw [hN.out]; have hk2 := below_next hb1 hb2; replace hD := Lib.hid hD; clear hfp)
                | (go_at_call 32; refine (CR2.out _ _ hk2 hD.out).mono ?_; unfold cirV; rintro e w3 ⟨rfl, hb3⟩; have hk3 := below_next hk2 hb3)
              refine bodyPost_ret (results_tmp3 rfl _ _ _) rfl ?_
              exact fin.out _ _ _ _ hF'.out (by decide) hk3 rfl
            | none =>
              rw [hc] at hF'
              have CR2 := CR.out
              rw [hc] at CR2
              replace CR2 := Lib.hid CR2
              replace hF' := Lib.hid hF'
              go_enter Tryd.func19, Tryd.ntmps19
              go_wp2_with first
                | (go_at_call 30; refine AR.mono ?_; rintro e w1 ⟨rfl, hb1⟩)
                | (go_at_call 31; refine (FT.out _ hb1).mono ?_; rintro e w2 ⟨hb2, hfp, -⟩; obtain ⟨g, rfl, hg, hD⟩ := hfp hf; rw [hN.out]; have hk2 := below_next hb1 hb2; replace hD := Lib.hid hD; clear hfp)
                | (go_at_call 32; refine (CR2.out _ _ hk2 hD.out).mono ?_; unfold cirV; rintro e w3 ⟨rfl, hb3⟩; have hk3 := below_next hk2 hb3)
              refine bodyPost_ret (results_tmp3 rfl _ _ _) rfl ?_
              refine ⟨hk3, fun h => ?_, fun _ => ⟨g, by rw [hdl.out]; rfl, Nat.le_trans hb1.size hg, hD.out.below hb3, by rw [hN.out]; omega, by rw [hN.out]; omega, by omega, by omega, hR.out, hfits.out, hc⟩⟩
              rw [hF.out, ← hF'.out] at h
              exact absurd rfl h
end Go.Proofs.YtlhabgfgoainlaaDoor
