/- compile's choice and then (layer 15), walked: deferred closures. No condition. -/
import Derived.Test.YtefijbpbenmbgaaDoorGPart1
namespace Go.Proofs.YtefijbpbenmbgaaDoor
open Go.RowKit Go.Shelf

section
variable {w0 : World} {bc : Nat} {a b f x : Tw} {ka kb kf : Fs}
set_option maxRecDepth 20000 in
set_option maxHeartbeats 2000000 in
theorem choice2_any (hx : x.op = 6) (ha : PartOK w0 bc a ka) (hb : PartOK w0 bc b kb) {w : World} {rest : List Tw} {code : List Ins} (hM : CM w0 w bc (a :: (ka.flat ++ (b :: (kb.flat ++ rest)))) code) (hk : code.length + 3 * (3 + ka.flat.length + kb.flat.length) ≤ 1000000) :
    Calls Tryd.prog 22 #[.pointer (some ⟨bc, 0, none⟩), .int .i64 2] w (GP w0 bc rest (.cons x (.cons a ka (.cons b kb .nil)) .nil) code w) := by
  have kA := Lib.hid (ha w _ code hM (by omega))
  replace hb := Lib.hid hb
  replace hx := Lib.hid hx
  clear hM ha
  go_enter_defers Tryd.func22, Tryd.ntmps22
  go_wp2_with fail
  refine kA.out.mono ?_
  rintro e w1 ⟨rfl, c, hg1, hM1, ho1⟩
  have hl1 := gens_len hg1
  rw [flat_one, List.length_cons] at hl1
  have kH := Lib.hid (hole_any hM1 2 (by simp only [List.length_append]; omega))
  unfold holeF at kH
  replace hg1 := Lib.hid hg1
  replace ho1 := Lib.hid ho1
  clear kA hM1
  go_wp2_with fail
  refine kH.out.mono ?_
  rintro e w2 ⟨gb, gi, rfl, hH2, hM2, ho2⟩
  have kB := Lib.hid (hb.out w2 rest _ hM2 (by simp only [List.length_append, List.length_cons, List.length_nil]; omega))
  replace ho2 := Lib.hid (cm_then ho1.out ho2)
  replace hH2 := Lib.hid hH2
  clear kH hM2 ho1
  go_wp2_with fail
  refine kB.out.mono ?_
  rintro e w3 ⟨rfl, d, hg2, hM3, ho3⟩
  have hl2 := gens_len hg2
  rw [flat_one, List.length_cons] at hl2
  have hH3 := hH2.out.keep ho3
  have ho4 := Lib.hid (cm_then ho2.out ho3)
  rw [List.append_assoc, List.singleton_append] at hM3
  have kF := Lib.hid (fill_any .returning hM3 hH3 (by simp only [List.length_append, List.length_cons]; omega))
  replace hg2 := Lib.hid hg2
  clear kB ho2 hH2 hM3 ho3 hH3
  go_wp2_with fail
  refine leaves_cons (f := 61) (args := #[.pointer (some ⟨gb, 0, none⟩), .pointer (some ⟨gi, 0, none⟩)]) (by simp) (by simp [go_sem]) ?_
  refine kF.out.mono ?_
  rintro e u' w4 ⟨rfl, rfl, hM4, ho5⟩
  refine ⟨_, results_none rfl _ _ _, rfl, c ++ mkI 2 ((code.length + c.length + 1 + d.length : Nat) : Int) :: d, ?_, ?_, cm_then ho4.out ho5⟩
  · refine .if2 hx.out hg1.out ?_
    have := hg2.out
    rw [List.length_append, List.length_append] at this
    exact this
  · rw [← List.append_assoc]
    have e1 : (⟨(mkI 2 0).op, (((code ++ c) ++ mkI 2 0 :: d).length : Int), (mkI 2 0).num, (mkI 2 0).text⟩ : Ins) = mkI 2 ((code.length + c.length + 1 + d.length : Nat) : Int) := by
      have : ((code ++ c) ++ mkI 2 0 :: d).length = code.length + c.length + 1 + d.length := by simp only [List.length_append, List.length_cons]; omega
      rw [this]
      rfl
    rw [e1] at hM4
    exact hM4
theorem filled {L : List Ins} {op : Nat} {R : List Ins} {n : Nat} (h : (L ++ mkI op 0 :: R).length = n) : (⟨(mkI op 0).op, ((L ++ mkI op 0 :: R).length : Int), (mkI op 0).num, (mkI op 0).text⟩ : Ins) = mkI op (n : Int) := by
  rw [h]; rfl
set_option maxRecDepth 20000 in
set_option maxHeartbeats 2000000 in
theorem then_any (hb : PartOK w0 bc b kb) {w : World} {rest : List Tw} {code : List Ins} (hM : CM w0 w bc (b :: (kb.flat ++ rest)) code) (hk : code.length + 3 * (3 + kb.flat.length) ≤ 1000000) :
    Calls Tryd.prog 38 #[.pointer (some ⟨bc, 0, none⟩)] w fun e w' => ∃ gb gi d, e = .returned (holeF gb gi) ∧ HoleAt w' bc gb gi (code.length + 1 + d.length) ∧ Gens (.cons b kb .nil) (code.length + 1) d ∧
      CM w0 w' bc rest (code ++ mkI 2 ((code.length + 1 + d.length + 1 : Nat) : Int) :: (d ++ [mkI 1 0])) ∧ Only (Fcm w0.heap.size w) w w' := by
  have kH := Lib.hid (hole_any hM 2 (by omega))
  unfold holeF at kH ⊢
  replace hb := Lib.hid hb
  clear hM
  go_enter_defers Tryd.func38, Tryd.ntmps38
  go_wp2_with fail
  refine kH.out.mono ?_
  rintro e w2 ⟨gb, gi, rfl, hH2, hM2, ho2⟩
  have kB := Lib.hid (hb.out w2 rest _ hM2 (by simp only [List.length_append, List.length_cons, List.length_nil]; omega))
  replace ho2 := Lib.hid ho2
  replace hH2 := Lib.hid hH2
  clear kH hM2
  go_wp2_with fail
  refine kB.out.mono ?_
  rintro e w3 ⟨rfl, d, hg2, hM3, ho3⟩
  have hl2 := gens_len hg2
  rw [flat_one, List.length_cons] at hl2
  have kJ := Lib.hid (hole_any hM3 1 (by simp only [List.length_append, List.length_cons, List.length_nil]; omega))
  unfold holeF at kJ
  have hH3 := Lib.hid (hH2.out.keep ho3)
  have ho4 := Lib.hid (cm_then ho2.out ho3)
  replace hg2 := Lib.hid hg2
  clear kB ho2 hH2 hM3 ho3
  go_wp2_with fail
  refine kJ.out.mono ?_
  rintro e w4 ⟨gb2, gi2, rfl, hH4, hM4, ho5⟩
  rw [List.append_assoc, List.append_assoc, List.singleton_append] at hM4
  have kF := Lib.hid (fill_any .returning hM4 (hH3.out.keep ho5) (by simp only [List.length_append, List.length_cons, List.length_nil]; omega))
  have ho6 := Lib.hid (cm_then ho4.out ho5)
  replace hH4 := Lib.hid hH4
  clear kJ hM4 ho4 ho5 hH3
  go_wp2_with fail
  refine leaves_cons (f := 61) (args := #[.pointer (some ⟨gb, 0, none⟩), .pointer (some ⟨gi, 0, none⟩)]) (by simp) (by simp [go_sem]) ?_
  refine kF.out.mono ?_
  rintro e u' w5 ⟨rfl, rfl, hM5, ho7⟩
  have hlen : (code ++ mkI 2 0 :: (d ++ [mkI 1 0])).length = code.length + 1 + d.length + 1 := by simp only [List.length_append, List.length_cons, List.length_nil]; omega
  have hH5 := hH4.out.keep ho7
  simp only [List.length_append, List.length_cons, List.length_nil, Nat.zero_add] at hH5
  refine ⟨.func (.func 61) #[] #[.pointer (some ⟨gb2, 0, none⟩), .pointer (some ⟨gi2, 0, none⟩)], ?_, gb2, gi2, d, rfl, hH5, ?_, ?_, cm_then ho6.out ho7⟩
  · simp [results, Tryd.results38, go_sem]
  · have := hg2.out
    rw [List.length_append] at this
    exact this
  · rw [filled hlen] at hM5
    exact hM5
set_option maxRecDepth 20000 in
set_option maxHeartbeats 2000000 in
theorem choice3_any (hx : x.op = 6) (ha : PartOK w0 bc a ka) (hb : PartOK w0 bc b kb) (hf : PartOK w0 bc f kf) {w : World} {rest : List Tw} {code : List Ins} (hM : CM w0 w bc (a :: (ka.flat ++ (b :: (kb.flat ++ (f :: (kf.flat ++ rest)))))) code) (hk : code.length + 3 * (4 + ka.flat.length + kb.flat.length + kf.flat.length) ≤ 1000000) :
    Calls Tryd.prog 22 #[.pointer (some ⟨bc, 0, none⟩), .int .i64 3] w (GP w0 bc rest (.cons x (.cons a ka (.cons b kb (.cons f kf .nil))) .nil) code w) := by
  have kA := Lib.hid (ha w _ code hM (by omega))
  replace hb := Lib.hid hb
  replace hf := Lib.hid hf
  replace hx := Lib.hid hx
  clear hM ha
  go_enter_defers Tryd.func22, Tryd.ntmps22
  go_wp2_with fail
  refine kA.out.mono ?_
  rintro e w1 ⟨rfl, c, hg1, hM1, ho1⟩
  have hl1 := gens_len hg1
  rw [flat_one, List.length_cons] at hl1
  have kH := Lib.hid (then_any hb.out hM1 (by simp only [List.length_append]; omega))
  unfold holeF at kH
  replace hg1 := Lib.hid hg1
  replace ho1 := Lib.hid ho1
  clear kA hM1
  go_wp2_with fail
  refine kH.out.mono ?_
  rintro e w2 ⟨gb, gi, d, rfl, hH2, hg2, hM2, ho2⟩
  have hl2 := gens_len hg2
  rw [flat_one, List.length_cons] at hl2
  have kB := Lib.hid (hf.out w2 rest _ hM2 (by simp only [List.length_append, List.length_cons, List.length_nil]; omega))
  replace ho2 := Lib.hid (cm_then ho1.out ho2)
  replace hH2 := Lib.hid hH2
  replace hg2 := Lib.hid hg2
  clear kH hM2 ho1
  go_wp2_with fail
  refine kB.out.mono ?_
  rintro e w3 ⟨rfl, g, hg3, hM3, ho3⟩
  have hl3 := gens_len hg3
  rw [flat_one, List.length_cons] at hl3
  have hH3 := hH2.out.keep ho3
  have ho4 := Lib.hid (cm_then ho2.out ho3)
  have eL : code ++ c ++ mkI 2 (((code ++ c).length + 1 + d.length + 1 : Nat) : Int) :: (d ++ [mkI 1 0]) ++ g = (code ++ c ++ mkI 2 (((code ++ c).length + 1 + d.length + 1 : Nat) : Int) :: d) ++ mkI 1 0 :: g := by simp
  rw [eL] at hM3
  have eN : (code ++ c).length + 1 + d.length = (code ++ c ++ mkI 2 (((code ++ c).length + 1 + d.length + 1 : Nat) : Int) :: d).length := by simp only [List.length_append, List.length_cons]; omega
  rw [eN] at hH3
  have kF := Lib.hid (fill_any .returning hM3 hH3 (by simp only [List.length_append, List.length_cons]; omega))
  replace hg3 := Lib.hid hg3
  clear kB ho2 hH2 hM3 ho3 hH3 eL eN
  go_wp2_with fail
  refine leaves_cons (f := 61) (args := #[.pointer (some ⟨gb, 0, none⟩), .pointer (some ⟨gi, 0, none⟩)]) (by simp) (by simp [go_sem]) ?_
  refine kF.out.mono ?_
  rintro e u' w4 ⟨rfl, rfl, hM4, ho5⟩
  refine ⟨_, results_none rfl _ _ _, rfl, c ++ mkI 2 ((code.length + c.length + 1 + d.length + 1 : Nat) : Int) :: (d ++ mkI 1 ((code.length + c.length + 1 + d.length + 1 + g.length : Nat) : Int) :: g), ?_, ?_, cm_then ho4.out ho5⟩
  · refine .if3 hx.out hg1.out ?_ ?_
    · have := hg2.out
      rw [List.length_append] at this
      exact this
    · have := hg3.out
      simp only [List.length_append, List.length_cons, List.length_nil] at this
      rw [show code.length + c.length + 1 + d.length + 1 = code.length + c.length + (d.length + (0 + 1) + 1) by omega]
      exact this
  · rw [filled (n := code.length + c.length + 1 + d.length + 1 + g.length) (by simp only [List.length_append, List.length_cons]; omega)] at hM4
    rw [List.length_append] at hM4
    simpa using hM4
end
end Go.Proofs.YtefijbpbenmbgaaDoor
