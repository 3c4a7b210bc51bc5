/- The laws' own functions of layer 11 (ints, small, wakes), cut of CkW for a seat without makes and uses, walked. No condition. -/
import Derived.Test.YtnghfjlmmmjekaaCkU
namespace Go.Proofs.Ytnghfjlmmmjekaa
open Go.RowKit Go.Shelf

/-- Whole numbers lie in memory as v. -/
def IntsR (w : World) (v : Value) (ns : List Int) : Prop :=
  ∃ a cap, v = .slice a ns.length cap ∧ ns.length ≤ cap ∧ cap ≤ 9223372036854775807 ∧ (0 < ns.length → ∃ g, a = some ⟨g, 0, none⟩ ∧ g < w.heap.size ∧ ∀ i (hi : i < ns.length), w.cell? ⟨g, i, none⟩ = some (intV ns[i]))
theorem IntsAt.read {w : World} {base : Nat} {v : Value} {ns : List Int} (h : IntsAt w base v ns) : IntsR w v ns := by
  obtain ⟨a, cap, rfl, h1, h2⟩ := h.shape
  refine ⟨a, cap, rfl, h1, h2, fun h0 => ?_⟩
  obtain ⟨g, cap', e, _, hg, _⟩ := ownsRow_head h h0
  injection e with e1 _ e3
  subst e1 e3
  refine ⟨g, rfl, hg, fun i hi => ?_⟩
  rw [World.ownsRow.cellAt (g := g) (cap := cap) h i (by omega), List.getElem?_map, List.getElem?_eq_getElem hi]
  rfl
theorem IntsR.below {w W : World} {v : Value} {ns : List Int} (h : IntsR w v ns) (hb : Below w.heap.size w W) : IntsR W v ns := by
  obtain ⟨a, cap, rfl, h1, h2, h3⟩ := h
  refine ⟨a, cap, rfl, h1, h2, fun h0 => ?_⟩
  obtain ⟨g, rfl, hg, hc⟩ := h3 h0
  exact ⟨g, rfl, Nat.lt_of_lt_of_le hg hb.size, fun i hi => (hb.cell (p := ⟨g, i, none⟩) hg).trans (hc i hi)⟩
set_option maxRecDepth 20000 in
set_option maxHeartbeats 1000000 in
theorem ints_true {w : World} {v1 v2 : Value} {ns : List Int} (h1 : IntsR w v1 ns) (h2 : IntsR w v2 ns) :
    Calls Try.prog 12 #[v1, v2] w fun e w' => e = .returned (.bool true) ∧ Below w.heap.size w w' := by
  obtain ⟨a1, cap1, rfl, _, _, k1⟩ := h1
  obtain ⟨a2, cap2, rfl, hlc, hcm, k2⟩ := h2
  have hne : ((ns.length : Int) != (ns.length : Int)) = false := by simp
  replace k1 := Lib.hid k1
  replace k2 := Lib.hid k2
  go_enter Try.func12, Try.ntmps12
  go_wp2_with fail
  go_loopw [5] (fun t5 wr => ∃ i : Nat, i ≤ ns.length ∧ t5 = .int .i64 i ∧ Hid (Below w.heap.size w wr)) (fun t5 _ => ns.length - (intOf t5).toNat)
  case atStart => exact ⟨0, by omega, rfl, Lib.hid (Below.refl _ _)⟩
  case round =>
    obtain ⟨i, hi, rfl, hb⟩ := hrel
    rcases Nat.lt_or_ge i ns.length with hlt | hge
    · have hlti : (i : Int) < (ns.length : Int) := by omega
      obtain ⟨g1, rfl, hg1, c1⟩ := k1.out (by omega)
      obtain ⟨g2, rfl, hg2, c2⟩ := k2.out (by omega)
      have y1 := (hb.out.cell (p := ⟨g1, i, none⟩) hg1).trans (c1 i hlt)
      have y2 := (hb.out.cell (p := ⟨g2, i, none⟩) hg2).trans (c2 i hlt)
      unfold intV at y1 y2
      have hb2 := Lib.hid hb.out.drew
      have hnn : (ns[i] != ns[i]) = false := by simp
      generalize ns[i] = z at *
      clear c1 c2
      go_wp2_with fail
      go_region
      go_wp2_with fail
      go_roundw
      case rel => exact ⟨i + 1, by omega, by go_num, hb2⟩
      case measure => simp [intOf]; omega
    · obtain rfl : i = ns.length := by omega
      have hlti : ¬ ((ns.length : Int) < (ns.length : Int)) := by omega
      go_wp2_with fail
      go_ret
      exact ⟨rfl, hb.out⟩
def smallT : List Tw := [⟨1, 2, 0, [102]⟩, ⟨2, 0, 0, [112]⟩, ⟨3, 1, 0, []⟩, ⟨4, 1, 0, [97]⟩, ⟨26, 0, 0, [112]⟩]
def smallK : Fs := .cons ⟨2, 0, 0, [112]⟩ .nil (.cons ⟨3, 1, 0, []⟩ (.cons ⟨4, 1, 0, [97]⟩ (.cons ⟨26, 0, 0, [112]⟩ .nil .nil) .nil) .nil)
theorem small_is : SlotsIs smallT ([-1, 0, -1, 1, 0], 0, 0) := by
  have h1 : (lookF smallT).2.2 = 0 := by kernel_rfl
  refine .inr ⟨h1, by decide, ⟨1, 2, 0, [102]⟩, smallK, ?_, rfl, by kernel_rfl⟩
  refine ⟨⟨_, rfl, by kernel_rfl, by kernel_rfl, by kernel_rfl, trivial⟩, rfl, ?_, trivial⟩
  refine ⟨⟨_, rfl, by kernel_rfl, trivial⟩, rfl, trivial, ⟨_, rfl, by kernel_rfl, by kernel_rfl, trivial⟩, rfl, ?_, trivial⟩
  exact ⟨⟨_, rfl, by kernel_rfl, by kernel_rfl, trivial⟩, rfl, ⟨⟨_, rfl, by kernel_rfl, trivial⟩, rfl, trivial, trivial⟩, trivial⟩
theorem small_fit : ∀ x ∈ smallT, FitT x := by
  intro x hx
  simp only [smallT, List.mem_cons, List.not_mem_nil, or_false] at hx
  rcases hx with rfl | rfl | rfl | rfl | rfl <;> exact ⟨by decide, ⟨by decide, by decide⟩, ⟨by decide, by decide⟩, by decide⟩
set_option maxRecDepth 20000 in
set_option maxHeartbeats 1000000 in
theorem small_any (w : World) : Calls Try.prog 20 #[] w fun e w' => ∃ v, e = .returned v ∧ TwIn w' v smallT ∧ Below w.heap.size w w' := by
  have hb := (Below.refl w.heap.size w).alloc (Nat.le_refl _) (.cells (rowOf twC smallT).toArray 49)
  have hT : TwIn (w.alloc (.cells (rowOf twC smallT).toArray 49)) (.slice (some ⟨w.heap.size, 0, none⟩) 5 5) smallT := by
    refine ⟨_, 5, rfl, by decide, by decide, fun _ => ⟨w.heap.size, 0, rfl, by simp, fun i hi c hc => ?_⟩⟩
    rw [one_cell, Nat.zero_add, List.getElem?_toArray, rowOf_get twC_len smallT i c hi hc]
  go_enter Try.func20, Try.ntmps20
  go_wp2_with fail
  go_ret
  exact ⟨_, rfl, hT, hb⟩
set_option maxRecDepth 20000 in
set_option maxHeartbeats 1000000 in
theorem wakes11_any (w : World) : Calls Try.prog 7 #[] w fun e w' => e = .returned (.bool true) ∧ Below w.heap.size w w' := by
  have kM := Lib.hid (small_any w)
  have kS := Lib.hid (fun (v : Value) (W : World) (h : TwIn W v smallT) => Slots_any W h small_fit small_is)
  unfold SlotsP at kS
  dsimp only at kS
  go_enter Try.func7, Try.ntmps7
  go_wp2_with fail
  refine kM.out.mono ?_
  rintro e' w1 ⟨v, rfl, hT, hb1⟩
  obtain ⟨va, vc, rfl, _, _, _⟩ := id hT
  go_wp2_with fail
  refine (kS.out _ _ hT).mono ?_
  rintro e' w2 ⟨lv, rfl, hl, hb2⟩
  have hb3 := below_next hb1 hb2
  obtain ⟨la, lc, rfl, _, _⟩ := id hl.shape
  have hal := (Below.refl w2.heap.size w2).alloc (Nat.le_refl _) (.cells #[.int .i64 (-1), .int .i64 0, .int .i64 (-1), .int .i64 1, .int .i64 0] 3)
  have hl2 := hl.read.below hal
  have hl3 : IntsR (w2.alloc (.cells #[.int .i64 (-1), .int .i64 0, .int .i64 (-1), .int .i64 1, .int .i64 0] 3)) (.slice (some ⟨w2.heap.size, 0, none⟩) 5 5) [-1, 0, -1, 1, 0] := by
    refine ⟨_, 5, rfl, by decide, by decide, fun _ => ⟨w2.heap.size, rfl, by simp, fun i hi => ?_⟩⟩
    rw [one_cell]
    match i, hi with
    | 0, _ | 1, _ | 2, _ | 3, _ | 4, _ => rfl
  have kI := Lib.hid (ints_true hl2 hl3)
  have hb4 := below_next hb3 hal
  clear hT hl hl2 hl3 hb1 hb2 hb3 hal
  go_wp2_with fail
  refine kI.out.mono ?_
  rintro e' w3 ⟨rfl, hb5⟩
  go_wp2_with fail
  go_ret
  exact ⟨rfl, below_next hb4 hb5⟩
end Go.Proofs.Ytnghfjlmmmjekaa
