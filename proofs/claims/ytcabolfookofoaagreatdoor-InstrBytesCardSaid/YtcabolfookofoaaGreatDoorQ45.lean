/- A part of the proof: UBL. No condition. -/
import Derived.Test.YtcabolfookofoaaGreatDoorQ18
import Derived.Test.YtcabolfookofoaaGreatDoorQ26
import Derived.Test.YtcabolfookofoaaGreatDoorQ44
set_option linter.unusedVariables false
set_option linter.unusedSimpArgs false
namespace Go.Proofs.YtcabolfookofoaaGreatDoor
open Go.RowKit
theorem nil_stringU (c : Nat) (W : World) : (convert 36 9 (.slice none 0 c)).run Tryz.prog W = .ok (.string ⟨#[]⟩) W :=
 Lib.run_convert_nil_bytes W _ _ _ c Tryz.underlying36 Tryz.underlying5 Tryz.underlying9
set_option maxRecDepth 20000 in
set_option maxHeartbeats 4000000 in
theorem instrBytes_walk (v0 : Value) (w : World) (n0 : InssIn w v0) (hT : TabOK w) (hW : WordsOK w) :
   Calls Tryz.prog 4 #[v0] w fun e w' => e = .returned (.bool true) ∧ Below w.heap.size w w' := by
 obtain ⟨code, hI, hfit, hnone⟩ := n0;clear hnone;obtain ⟨ad, cap, hv0, hlc, hcm, hbig⟩ := id hI;clear hbig;subst hv0;have AW := awake14_any w hW;have LG := fun W => long_any ad code.length cap (by omega) W
 have HV := fun W (hb : Below w.heap.size w W) => heavy_any (hI.below hb) hfit (by omega)
 have key : (∀ j, j < code.length → j ≤ 8192 → (inAt code j).text.length ≤ 20000) → mayE code = 0 → ∀ x ∈ code, x.text.length ≤ 20000 := by
   intro h h0 x hx;obtain ⟨j, hj, rfl⟩ := List.getElem_of_mem hx;rw [← inAt_get hj];exact h j hj (by have := (mayE_ok h0).1; omega)
 have BY := fun (ht : mayE code = 0 → ∀ x ∈ code, x.text.length ≤ 20000) W (hb : Below w.heap.size w W) => Bytes_any (hI.below hb) hfit (hW.below hb) (fun h0 x hx => by have := ht h0 x hx; omega)
 have RB := fun (ht : mayE code = 0 → ∀ x ∈ code, x.text.length ≤ 20000) W (hb : Below w.heap.size w W) => refBytes_any (hI.below hb) hfit (fun h0 x hx => by have := ht h0 x hx; omega)
 have LS := fun (ht : mayE code = 0 → ∀ x ∈ code, x.text.length ≤ 20000) W (hb : Below w.heap.size w W) => List_any (hI.below hb) hfit (hW.below hb) (hT.below hb) ht
 have RL := fun (ht : mayE code = 0 → ∀ x ∈ code, x.text.length ≤ 20000) W (hb : Below w.heap.size w W) => refList_any (hI.below hb) hfit ht
 unfold BytesPost at BY RB;unfold listV at LS RL;unfold HeavyPost at HV;obtain ⟨n, hN⟩ := exHid code.length;rw [hN.out] at LG HV BY RB LS RL hlc key ⊢;clear hI hfit hlc hW hT;replace key := Lib.hid key;replace HV := Lib.hid HV;cases hlb : longB n with
 | true =>
   rw [hlb] at LG;replace LG := Lib.hid LG;clear BY RB LS RL;go_enter Tryz.func4, Tryz.ntmps4
   go_wp2_with first
     | (go_at_call 11; refine AW.mono ?_; rintro e w1 ⟨rfl, hb1⟩)
     | (go_at_call 12; refine (LG.out _).mono ?_; rintro e w2 ⟨rfl, rfl⟩)
   go_ret
   exact ⟨rfl, hb1⟩
 | false =>
   rw [hlb] at LG;replace LG := Lib.hid LG;by_cases h0 : mayE code = 0
   · simp only [h0, if_true, ne_eq, not_true, false_imp_iff, true_imp_iff, true_and] at BY RB LS RL
     generalize linesL 0 code = R at LS RL;generalize putL code = P at BY RB;have key2 := Lib.hid (fun hh => key.out hh h0);replace BY := Lib.hid BY;replace RB := Lib.hid RB;replace LS := Lib.hid LS;replace RL := Lib.hid RL;clear key h0;go_enter Tryz.func4, Tryz.ntmps4
     go_wp2_with first
       | (go_at_call 11; refine AW.mono ?_; rintro e w1 ⟨rfl, hb1⟩; replace hb1 := Lib.hid hb1)
       | (go_at_call 12; refine (LG.out _).mono ?_; rintro e w2 ⟨rfl, rfl⟩)
       | (go_at_call 13; refine (HV.out _ hb1.out).mono ?_; rintro e w3 ⟨B, rfl, rfl, hB⟩; replace hB := Lib.hid hB)
     all_goals first
       | (go_ret; exact ⟨rfl, hb1.out⟩)
       | skip
     have hBf : B = false := by assumption
     have ht := Lib.hid (key2.out (hB.out hBf));clear key2 hB HV LG;replace hBf := Lib.hid hBf;obtain ⟨SB, hSB⟩ : ∃ SB, bytesB P = SB := ⟨_, rfl⟩;go_wp2_with first
       | (go_at_call 14; refine (BY.out ht.out _ hb1.out).mono ?_; rintro e w4 ⟨hbx, v4, rfl, hB4⟩; have hb4 := Lib.hid (below_next hb1.out hbx); have hC4 := Lib.hid hB4; obtain ⟨a4, c4, rfl, h41, h42, h43⟩ := id hB4; clear hbx hB4 h41 h42 h43)
       | (go_at_call 15; refine (RB.out ht.out _ hb4.out).mono ?_; rintro e w5 ⟨hbx, v5, rfl, hB5⟩; have hb5 := Lib.hid (below_next hb4.out hbx); have hC5 := Lib.hid hB5; have hD5 := Lib.hid (hC4.out.below hbx); obtain ⟨a5, c5, rfl, h51, h52, h53⟩ := id hB5; clear hbx hB5 h51 h52 h53)
       | (go_at_call 16; refine (LS.out ht.out _ hb5.out).mono ?_; rintro e w6 ⟨rfl, hbx⟩; have hb6 := Lib.hid (below_next hb5.out hbx); have hC6 := Lib.hid (hC5.out.below hbx); have hD6 := Lib.hid (hD5.out.below hbx); clear hbx)
       | (go_at_call 17; refine (RL.out ht.out _ hb6.out).mono ?_; rintro e w7 ⟨rfl, hbx⟩; have hb7 := Lib.hid (below_next hb6.out hbx); have hs1 := (hC6.out.below hbx).string; have hs2 := (hD6.out.below hbx).string; rw [hSB] at hs1 hs2; clear hbx)
     go_ret
     exact ⟨rfl, hb7.out⟩
   · have ht : Hid (mayE code = 0 → ∀ x ∈ code, x.text.length ≤ 20000) := Lib.hid (fun h => absurd h h0)
     simp only [h0, if_false, ne_eq, not_false_iff, true_imp_iff, false_imp_iff, and_true] at BY RB LS RL;obtain ⟨R, hR⟩ : ∃ y, mayE code = y := ⟨_, rfl⟩;rw [hR] at BY RB LS RL;replace BY := Lib.hid BY;replace RB := Lib.hid RB;replace LS := Lib.hid LS;replace RL := Lib.hid RL;have hnil := fun W => nil_stringU 0 W
     clear key h0 hR;go_enter Tryz.func4, Tryz.ntmps4
     go_wp2_with first
       | (go_at_call 11; refine AW.mono ?_; rintro e w1 ⟨rfl, hb1⟩; replace hb1 := Lib.hid hb1)
       | (go_at_call 12; refine (LG.out _).mono ?_; rintro e w2 ⟨rfl, rfl⟩)
       | (go_at_call 13; refine (HV.out _ hb1.out).mono ?_; rintro e w3 ⟨B, rfl, rfl, hB⟩; replace hB := Lib.hid hB)
     all_goals first
       | (go_ret; exact ⟨rfl, hb1.out⟩)
       | skip
     have hBf : B = false := by assumption
     clear hB HV LG;replace hBf := Lib.hid hBf;go_wp2_with first
       | (go_at_call 14; refine (BY.out _ hb1.out).mono ?_; rintro e w4 ⟨hbx, rfl⟩; have hb4 := Lib.hid (below_next hb1.out hbx); clear hbx)
       | (go_at_call 15; refine (RB.out _ hb4.out).mono ?_; rintro e w5 ⟨hbx, rfl⟩; have hb5 := Lib.hid (below_next hb4.out hbx); clear hbx)
       | (go_at_call 16; refine (LS.out _ hb5.out).mono ?_; rintro e w6 ⟨rfl, hbx⟩; have hb6 := Lib.hid (below_next hb5.out hbx); clear hbx)
       | (go_at_call 17; refine (RL.out _ hb6.out).mono ?_; rintro e w7 ⟨rfl, hbx⟩; have hb7 := Lib.hid (below_next hb6.out hbx); clear hbx)
     go_ret
     exact ⟨rfl, hb7.out⟩
end Go.Proofs.YtcabolfookofoaaGreatDoor
