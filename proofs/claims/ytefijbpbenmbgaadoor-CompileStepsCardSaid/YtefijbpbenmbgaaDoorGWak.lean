/- The wakes of layer 15's statements: a loop's code. No condition. -/
import Derived.Test.YtefijbpbenmbgaaDoorGTop
import Derived.Test.YtefijbpbenmbgaaDoorGHead
import Derived.Test.YtefijbpbenmbgaaDoorGSame
namespace Go.Proofs.YtefijbpbenmbgaaDoor
open Go.RowKit Go.Shelf

theorem loop_is : SlotsIs loopT ([-1, -1, -1, -1, -1], 0, 0) := by
  have h1 : (lookF loopT).2.2 = 0 := by kernel_rfl
  exact .inr ⟨h1, by decide, ⟨1, 1, 0, [102]⟩, loopK, loop_ok, rfl, by kernel_rfl⟩
theorem loop_fit : ∀ x ∈ loopT, FitT x := by
  intro x hx
  simp only [loopT, List.mem_cons, List.not_mem_nil, or_false] at hx
  rcases hx with rfl | rfl | rfl | rfl | rfl <;> exact ⟨by decide, ⟨by decide, by decide⟩, ⟨by decide, by decide⟩, by decide⟩
set_option maxRecDepth 20000 in
set_option maxHeartbeats 1000000 in
theorem loopT_any (w : World) : Calls Tryd.prog 10 #[] w fun e w' => ∃ v, e = .returned v ∧ TwIn w' v loopT ∧ Below w.heap.size w w' := by
  have hb := (Below.refl w.heap.size w).alloc (Nat.le_refl _) (.cells (rowOf twC loopT).toArray 34)
  have hT : TwIn (w.alloc (.cells (rowOf twC loopT).toArray 34)) (.slice (some ⟨w.heap.size, 0, none⟩) 5 5) loopT := by
    refine ⟨_, 5, rfl, by decide, by decide, fun _ => ⟨w.heap.size, 0, rfl, by simp, fun i hi c hc => ?_⟩⟩
    rw [one_cell, Nat.zero_add, List.getElem?_toArray, rowOf_get twC_len loopT i c hi hc]
  go_enter Tryd.func10, Tryd.ntmps10
  go_wp2_with fail
  go_ret
  exact ⟨_, rfl, hT, hb⟩
set_option maxRecDepth 20000 in
set_option maxHeartbeats 1000000 in
theorem wakes15_any (w : World) (hO : OpsOK w) : Calls Tryd.prog 5 #[] w fun e w' => e = .returned (.bool true) ∧ Below w.heap.size w w' := by
  have kM := Lib.hid (loopT_any w)
  have kC := Lib.hid (fun (v : Value) (W : World) (hO : OpsOK W) (h : TwIn W v loopT) => Compile_any W hO h loop_fit loop_is)
  replace hO := Lib.hid hO
  go_enter Tryd.func5, Tryd.ntmps5
  go_wp2_with fail
  refine kM.out.mono ?_
  rintro e' w1 ⟨v, rfl, hT, hb1⟩
  obtain ⟨va, vc, rfl, _, _, _⟩ := id hT
  have kC1 := Lib.hid (kC.out _ w1 (hO.out.below hb1) hT)
  clear hT kC
  replace hb1 := Lib.hid hb1
  go_wp2_with fail
  refine kC1.out.mono ?_
  rintro e' w2 ⟨hb2, h | ⟨_, cv, code, x, K, hok, hx, _, hg, rfl, hI⟩⟩
  · exact absurd rfl h.1
  obtain ⟨rfl, hk⟩ := loop_code hok hx hg
  rw [hk]
  obtain ⟨ca, cc, rfl, hc1, hc2⟩ := id hI.shape
  clear hc1 hc2 hok hx hg hk kC1
  have hbA := (Below.refl w2.heap.size w2).alloc (Nat.le_refl _) (.cells (rowOf insC loopC).toArray 36)
  have hA : InsIn (w2.alloc (.cells (rowOf insC loopC).toArray 36)) (.slice (some ⟨w2.heap.size, 0, none⟩) 4 4) loopC := by
    refine ⟨_, 4, rfl, by decide, by decide, fun _ => ⟨w2.heap.size, 0, rfl, by simp, fun i hi c hc => ?_⟩⟩
    rw [one_cell, Nat.zero_add, List.getElem?_toArray, rowOf_get insC_len loopC i c hi hc]
  have kS := Lib.hid (alike15_ins (hI.insIn.below hbA) hA)
  have hb3 := Lib.hid (hb1.out.trans ((hb2.mono hb1.out.size).trans (hbA.mono (Nat.le_trans hb1.out.size hb2.size))))
  clear hI hA hbA hb2
  go_wp2_with fail
  refine kS.out.mono ?_
  rintro e w3 ⟨rfl, hb4⟩
  have hb5 := Lib.hid (hb3.out.trans (hb4.mono hb3.out.size))
  clear hb4 kS hb3
  go_wp2_with fail
  go_ret
  exact ⟨rfl, hb5.out⟩
end Go.Proofs.YtefijbpbenmbgaaDoor
