/- compile's fork (layer 15), walked. No condition. -/
import Derived.Test.YtefijbpbenmbgaaDoorGIf
import Derived.StillTailTactics
namespace Go.Proofs.YtefijbpbenmbgaaDoor
open Go.RowKit Go.Shelf

section
variable {w0 : World} {bc : Nat} {a x : Tw} {ka : Fs}
set_option maxRecDepth 20000 in
set_option maxHeartbeats 2000000 in
theorem fork_any (hx : x.op = 53) (ha : PartOK w0 bc a ka) {w : World} {rest : List Tw} {code : List Ins} (hM : CM w0 w bc (a :: (ka.flat ++ rest)) code) (hk : code.length + 3 * (2 + ka.flat.length) ≤ 1000000) :
    Calls Tryd.prog 25 #[.pointer (some ⟨bc, 0, none⟩)] w (GP w0 bc rest (.cons x (.cons a ka .nil) .nil) code w) := by
  have kW := Lib.hid (here_any (hM.below (Below.refl _ w).drew))
  have kG := Lib.hid (goTo_any (hM.below (Below.refl _ w).drew) 53 ((code.length : Int) + 2) (by omega))
  replace ha := Lib.hid ha
  replace hx := Lib.hid hx
  have hcl : (code.length : Int) ≤ 1000000 := by omega
  clear hM
  go_enter_defers Tryd.func25, Tryd.ntmps25
  go_wp2_with fail
  refine wp_region_still_tail 8 (by kernel_rfl) (by kernel_rfl) ?_
  simp only [List.take_succ_cons, List.take_zero, List.drop_succ_cons, List.drop_zero]
  repeat still_step
  still_call kW.out
  repeat still_step
  refine wpStill_nil ?_
  change wpList _ _ _ _ _ w.drew
  go_wp2_with fail
  refine kG.out.mono ?_
  rintro e w1 ⟨rfl, hM1, ho1⟩
  have hoD : Only (Fcm w0.heap.size w) w w1 := Only.drew0 ho1
  have kH := Lib.hid (hole_any hM1 1 (by simp only [List.length_append, List.length_cons, List.length_nil]; omega))
  unfold holeF at kH
  replace ho1 := Lib.hid hoD
  clear kG hM1 kW hoD
  go_wp2_with fail
  refine kH.out.mono ?_
  rintro e w2 ⟨gb, gi, rfl, hH2, hM2, ho2⟩
  have kA := Lib.hid (ha.out w2 _ _ hM2 (by simp only [List.length_append, List.length_cons, List.length_nil]; omega))
  replace ho2 := Lib.hid (cm_then ho1.out ho2)
  replace hH2 := Lib.hid hH2
  clear kH hM2 ho1
  go_wp2_with fail
  refine kA.out.mono ?_
  rintro e w3 ⟨rfl, c, hg1, hM3, ho3⟩
  have hl1 := gens_len hg1
  rw [flat_one, List.length_cons] at hl1
  have kG := Lib.hid (op_any hM3 28 (by simp only [List.length_append, List.length_cons, List.length_nil]; omega))
  have hH3 := Lib.hid (hH2.out.keep ho3)
  have ho4 := Lib.hid (cm_then ho2.out ho3)
  replace hg1 := Lib.hid hg1
  clear kA ho2 hH2 hM3 ho3
  go_wp2_with fail
  refine kG.out.mono ?_
  rintro e w4 ⟨rfl, hM4, ho5⟩
  rw [List.append_assoc, List.append_assoc, List.singleton_append] at hM4
  have kF := Lib.hid (fill_any .returning hM4 (hH3.out.keep ho5) (by simp only [List.length_append, List.length_cons, List.length_nil]; omega))
  have ho6 := Lib.hid (cm_then ho4.out ho5)
  clear kG hM4 ho4 ho5 hH3
  go_wp2_with fail
  refine leaves_cons (f := 61) (args := #[.pointer (some ⟨gb, 0, none⟩), .pointer (some ⟨gi, 0, none⟩)]) (by simp) (by simp [go_sem]) ?_
  refine kF.out.mono ?_
  rintro e u' w5 ⟨rfl, rfl, hM5, ho7⟩
  refine ⟨_, results_none rfl _ _ _, rfl, mkI 53 ((code.length + 2 : Nat) : Int) :: mkI 1 ((code.length + 2 + c.length + 1 : Nat) : Int) :: (c ++ [mkI 28 0]), ?_, ?_, cm_then ho6.out ho7⟩
  · refine .fork hx.out ?_
    have := hg1.out
    simp only [List.length_append, List.length_cons, List.length_nil] at this
    exact this
  · rw [filled (n := code.length + 2 + c.length + 1) (by simp only [List.length_append, List.length_cons, List.length_nil]; omega)] at hM5
    simpa using hM5
end
end Go.Proofs.YtefijbpbenmbgaaDoor
