/- compile's loop and either (layer 15), walked: deferred closures. No condition. -/
import Derived.Test.YtefijbpbenmbgaaDoorGIf
namespace Go.Proofs.YtefijbpbenmbgaaDoor
open Go.RowKit Go.Shelf

section
variable {w0 : World} {bc : Nat} {a b f x : Tw} {ka kb kf : Fs}
set_option maxRecDepth 20000 in
set_option maxHeartbeats 2000000 in
theorem loop_any (hx : x.op = 7) (ha : PartOK w0 bc a ka) (hb : PartOK w0 bc b kb) {w : World} {rest : List Tw} {code : List Ins} (hM : CM w0 w bc (a :: (ka.flat ++ (b :: (kb.flat ++ rest)))) code) (hk : code.length + 3 * (3 + ka.flat.length + kb.flat.length) ≤ 1000000) :
    Calls Tryd.prog 23 #[.pointer (some ⟨bc, 0, none⟩)] w (GP w0 bc rest (.cons x (.cons a ka (.cons b kb .nil)) .nil) code w) := by
  have kW := Lib.hid (here_any hM)
  have kA := Lib.hid (ha w _ code hM (by omega))
  replace hb := Lib.hid hb
  replace hx := Lib.hid hx
  clear hM ha
  go_enter_defers Tryd.func23, Tryd.ntmps23
  go_wp2_with fail
  refine kW.out.mono ?_
  rintro e w1 ⟨rfl, rfl⟩
  go_wp2_with fail
  refine kA.out.mono ?_
  rintro e w1 ⟨rfl, c, hg1, hM1, ho1⟩
  have hl1 := gens_len hg1
  rw [flat_one, List.length_cons] at hl1
  have kH := Lib.hid (hole_any hM1 2 (by simp only [List.length_append]; omega))
  unfold holeF at kH
  replace hg1 := Lib.hid hg1
  replace ho1 := Lib.hid ho1
  clear kA hM1 kW
  go_wp2_with fail
  refine kH.out.mono ?_
  rintro e w2 ⟨gb, gi, rfl, hH2, hM2, ho2⟩
  have kB := Lib.hid (hb.out w2 rest _ hM2 (by simp only [List.length_append, List.length_cons, List.length_nil]; omega))
  replace ho2 := Lib.hid (cm_then ho1.out ho2)
  replace hH2 := Lib.hid hH2
  clear kH hM2 ho1
  go_wp2_with fail
  refine kB.out.mono ?_
  rintro e w3 ⟨rfl, d, hg2, hM3, ho3⟩
  have hl2 := gens_len hg2
  rw [flat_one, List.length_cons] at hl2
  have kG := Lib.hid (goTo_any hM3 1 (code.length : Int) (by simp only [List.length_append, List.length_cons, List.length_nil]; omega))
  have hH3 := Lib.hid (hH2.out.keep ho3)
  have ho4 := Lib.hid (cm_then ho2.out ho3)
  replace hg2 := Lib.hid hg2
  clear kB ho2 hH2 hM3 ho3
  go_wp2_with fail
  refine kG.out.mono ?_
  rintro e w4 ⟨rfl, hM4, ho5⟩
  rw [List.append_assoc, List.append_assoc, List.singleton_append] at hM4
  have kF := Lib.hid (fill_any .returning hM4 (hH3.out.keep ho5) (by simp only [List.length_append, List.length_cons, List.length_nil]; omega))
  have ho6 := Lib.hid (cm_then ho4.out ho5)
  clear kG hM4 ho4 ho5 hH3
  go_wp2_with fail
  refine leaves_cons (f := 61) (args := #[.pointer (some ⟨gb, 0, none⟩), .pointer (some ⟨gi, 0, none⟩)]) (by simp) (by simp [go_sem]) ?_
  refine kF.out.mono ?_
  rintro e u' w5 ⟨rfl, rfl, hM5, ho7⟩
  refine ⟨_, results_none rfl _ _ _, rfl, c ++ mkI 2 ((code.length + c.length + 1 + d.length + 1 : Nat) : Int) :: (d ++ [mkI 1 (code.length : Int)]), ?_, ?_, cm_then ho6.out ho7⟩
  · refine .loop hx.out hg1.out ?_
    have := hg2.out
    rw [List.length_append, List.length_append] at this
    exact this
  · rw [← List.append_assoc]
    rw [filled (n := code.length + c.length + 1 + d.length + 1) (by simp only [List.length_append, List.length_cons, List.length_nil]; omega)] at hM5
    exact hM5
set_option maxRecDepth 20000 in
set_option maxHeartbeats 2000000 in
theorem either_any (hx : x.op = 30 ∨ x.op = 31) (ha : PartOK w0 bc a ka) (hb : PartOK w0 bc b kb) {w : World} {rest : List Tw} {code : List Ins} (hM : CM w0 w bc (a :: (ka.flat ++ (b :: (kb.flat ++ rest)))) code) (hk : code.length + 3 * (3 + ka.flat.length + kb.flat.length) ≤ 1000000) {op : Nat} (hop : op = x.op - 27) :
    Calls Tryd.prog 24 #[.pointer (some ⟨bc, 0, none⟩), .int .u8 op] w (GP w0 bc rest (.cons x (.cons a ka (.cons b kb .nil)) .nil) code w) := by
  have kA := Lib.hid (ha w _ code hM (by omega))
  replace hb := Lib.hid hb
  replace hx := Lib.hid hx
  replace hop := Lib.hid hop
  clear hM ha
  go_enter_defers Tryd.func24, Tryd.ntmps24
  go_wp2_with fail
  refine kA.out.mono ?_
  rintro e w1 ⟨rfl, c, hg1, hM1, ho1⟩
  have hl1 := gens_len hg1
  rw [flat_one, List.length_cons] at hl1
  have kH := Lib.hid (hole_any hM1 op (by simp only [List.length_append]; omega))
  unfold holeF at kH
  replace hg1 := Lib.hid hg1
  replace ho1 := Lib.hid ho1
  clear kA hM1
  go_wp2_with fail
  refine kH.out.mono ?_
  rintro e w2 ⟨gb, gi, rfl, hH2, hM2, ho2⟩
  have kB := Lib.hid (hb.out w2 rest _ hM2 (by simp only [List.length_append, List.length_cons, List.length_nil]; omega))
  replace ho2 := Lib.hid (cm_then ho1.out ho2)
  replace hH2 := Lib.hid hH2
  clear kH hM2 ho1
  go_wp2_with fail
  refine kB.out.mono ?_
  rintro e w3 ⟨rfl, d, hg2, hM3, ho3⟩
  have hl2 := gens_len hg2
  rw [flat_one, List.length_cons] at hl2
  have kG := Lib.hid (op_any hM3 5 (by simp only [List.length_append, List.length_cons, List.length_nil]; omega))
  have hH3 := Lib.hid (hH2.out.keep ho3)
  have ho4 := Lib.hid (cm_then ho2.out ho3)
  replace hg2 := Lib.hid hg2
  clear kB ho2 hH2 hM3 ho3
  go_wp2_with fail
  refine kG.out.mono ?_
  rintro e w4 ⟨rfl, hM4, ho5⟩
  rw [List.append_assoc, List.append_assoc, List.singleton_append] at hM4
  have kF := Lib.hid (fill_any .returning hM4 (hH3.out.keep ho5) (by simp only [List.length_append, List.length_cons, List.length_nil]; omega))
  have ho6 := Lib.hid (cm_then ho4.out ho5)
  clear kG hM4 ho4 ho5 hH3
  go_wp2_with fail
  refine leaves_cons (f := 61) (args := #[.pointer (some ⟨gb, 0, none⟩), .pointer (some ⟨gi, 0, none⟩)]) (by simp) (by simp [go_sem]) ?_
  refine kF.out.mono ?_
  rintro e u' w5 ⟨rfl, rfl, hM5, ho7⟩
  refine ⟨_, results_none rfl _ _ _, rfl, c ++ mkI (x.op - 27) ((code.length + c.length + 1 + d.length + 1 : Nat) : Int) :: (d ++ [mkI 5 0]), ?_, ?_, cm_then ho6.out ho7⟩
  · refine .either hx.out hg1.out ?_
    have := hg2.out
    rw [List.length_append, List.length_append] at this
    exact this
  · rw [← List.append_assoc, ← hop.out]
    rw [filled (n := code.length + c.length + 1 + d.length + 1) (by simp only [List.length_append, List.length_cons, List.length_nil]; omega)] at hM5
    exact hM5
end
end Go.Proofs.YtefijbpbenmbgaaDoor
