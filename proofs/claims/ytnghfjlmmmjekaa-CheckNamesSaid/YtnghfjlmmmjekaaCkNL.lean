/- The law CheckNames: whether a flow's names are right, and which twig is the first that is wrong, are the document's. No condition. -/
import Derived.Test.YtnghfjlmmmjekaaCkSL
import Derived.Test.YtnghfjlmmmjekaaRAlike
import Derived.Test.YtnghfjlmmmjekaaRTws
namespace Go.Proofs.Ytnghfjlmmmjekaa
open Go.RowKit Go.Shelf

theorem tws_newN (w : World) (cs : Array Value) (hcs : cs = #[]) : TwsAt (w.alloc (.cells cs 49)) w.heap.size (.slice (some ⟨w.heap.size, 0, none⟩) 0 0) [] := by
  subst hcs
  exact ⟨rfl, .inr ⟨w.heap.size, 0, #[], rfl, Nat.le_refl _, heap_alloc_new w _, Nat.le_refl _, by unfold maxLen; omega, rfl, rfl⟩⟩
theorem append_noneN (w : World) (ty : TypeId) (b cap : Nat) : (Builtin.append_ #[23, 23] ty #[.slice (some ⟨b, 0, none⟩) 0 0, .slice none 0 cap]).run Try.prog w = .ok (.slice (some ⟨b, 0, none⟩) 0 0) w := by
  obtain ⟨i0, hi, hz0, hz1, hz2⟩ := tw_parts
  have h := run_append_room_src (P := Try.prog) w 23 23 ty 49 i0 Try.underlying23 hi b 0 0 0 (.slice none 0 cap) 0 [] (Src.ofNil w Try.underlying23 cap) (Nat.le_refl _) (by simp) (by simp)
  rw [h]
  rfl
set_option maxRecDepth 20000 in
set_option maxHeartbeats 4000000 in
theorem checkNames_nil (cap : Nat) (w : World) (hT : TwIn w (.slice none 0 cap) []) :
    Calls Try.prog 3 #[.slice none 0 cap] w fun e w' => e = .returned (.bool true) ∧ Below w.heap.size w w' := by
  have hWk := Lib.hid wakes11_any
  have hr : SlotsIs [] ([], 0, 3) := .inl ⟨by decide, rfl⟩
  have kN := Lib.hid (fun (g : Nat) (W : World) => Names_any (v := .slice (some ⟨g, 0, none⟩) 0 0) W ⟨_, 0, rfl, by simp, by omega, fun h => absurd h (by simp)⟩ (by simp) hr)
  have kR := Lib.hid (fun (W : World) (hb : Below w.heap.size w W) => refSlots_any W (hT.below hb) (by simp) hr)
  have kA := Lib.hid (fun (g : Nat) (W : World) (hb : Below w.heap.size w W) => alike_tw (v1 := .slice (some ⟨g, 0, none⟩) 0 0) (w := W) (ts := []) ⟨_, 0, rfl, by simp, by omega, fun h => absurd h (by simp)⟩ (hT.below hb))
  unfold SlotsP at kR
  dsimp only at kN kR
  have hal := (Below.refl w.heap.size w).alloc (Nat.le_refl _) (.cells #[] 49)
  have hap := fun (W : World) => append_noneN W 23 w.heap.size cap
  replace hal := Lib.hid hal
  clear hr hT
  go_enter Try.func3, Try.ntmps3
  go_wp2_with fail
  refine (kN.out _ _).mono ?_
  rintro e' w1 ⟨rfl, hb1⟩
  have hb2 := Lib.hid (below_next hal.out hb1)
  go_wp2_with fail
  refine (kR.out _ hb2.out).mono ?_
  rintro e' w2 ⟨lv, rfl, hl, hb3⟩
  have hb4 := Lib.hid (below_next hb2.out hb3)
  obtain ⟨la, lc, rfl, _, _⟩ := id hl.shape
  clear hl
  go_wp2_with fail
  refine (kA.out _ _ hb4.out).mono ?_
  rintro e' w3 ⟨rfl, hb5⟩
  have hb6 := Lib.hid (below_next hb4.out hb5)
  go_wp2_with fail
  refine (hWk.out _).mono ?_
  rintro e w7 ⟨rfl, hb10⟩
  go_wp2_with fail
  go_ret
  exact ⟨rfl, below_next hb6.out hb10⟩
set_option maxRecDepth 20000 in
set_option maxHeartbeats 4000000 in
theorem checkNames_walk (v : Value) (w : World) (h : TwsIn w v) :
    Calls Try.prog 3 #[v] w fun e w' => e = .returned (.bool true) ∧ Below w.heap.size w w' := by
  obtain ⟨ts, hT, hf, _⟩ := h
  have hWk := Lib.hid wakes11_any
  obtain ⟨r, hr⟩ := slots_is ts
  by_cases h5 : 5000 < ts.length
  · have h5i : (5000 : Int) < (ts.length : Int) := by omega
    obtain ⟨a, cap, rfl, _⟩ := hT
    go_enter Try.func3, Try.ntmps3
    go_wp2_with fail
    refine (hWk.out _).mono ?_
    rintro e w2 ⟨rfl, hb⟩
    go_wp2_with fail
    go_ret
    exact ⟨rfl, hb⟩
  · have h5i : ¬ (5000 : Int) < (ts.length : Int) := by omega
    have kN := Lib.hid (fun (W : World) (u : Value) (hu : TwIn W u ts) => Names_any W hu hf hr)
    have kR := Lib.hid (fun (W : World) (hb : Below w.heap.size w W) => refSlots_any W (hT.below hb) hf hr)
    have kA := Lib.hid (fun (W : World) (u : Value) (hu : TwIn W u ts) (hb : Below w.heap.size w W) => alike_tw hu (hT.below hb))
    obtain ⟨l, at_, er⟩ := r
    unfold SlotsP at kR
    dsimp only at kN kR
    have hTT := hT
    obtain ⟨a, cap, rfl, hlc, hcm, h3⟩ := hT
    rcases a with _ | ad
    · have h0 : ts.length = 0 := by
        rcases Nat.eq_zero_or_pos ts.length with h | h
        · exact h
        · obtain ⟨g, off, e, _⟩ := h3 h
          cases e
      obtain rfl := List.length_eq_zero_iff.1 h0
      exact checkNames_nil cap w ⟨none, cap, rfl, hlc, hcm, h3⟩
    · have q1 : (at_ == at_) = true := by simp
      have q2 : (er == er) = true := by simp
      have hal := (Below.refl w.heap.size w).alloc (Nat.le_refl _) (.cells #[] 49)
      have hsr := Lib.hid (hTT.below hal)
      replace hal := Lib.hid hal
      clear h3 hf hr h5 hTT
      go_enter Try.func3, Try.ntmps3
      go_wp2_with (at_builtin; refine wpList_append_tws (base := w.heap.size) (v := _) (ts := []) (us := ts) rfl _ _ rfl rfl (tws_newN w _ rfl) rfl hsr.out (by simp) (by omega) (by simp) ?_; intro a2 c2 w2 hU2 hB2)
      have hU2' : Hid (TwIn w2 (.slice a2 ts.length c2) ts) := Lib.hid (by
        have h2 : TwsAt w2 w.heap.size (.slice a2 ts.length c2) ts := by simpa using hU2
        exact h2.twIn)
      have hB0 := Lib.hid (hal.out.trans hB2)
      clear hsr hal hB2 hU2
      refine (kN.out _ _ hU2'.out).mono ?_
      rintro e' w3 ⟨rfl, hb3⟩
      have hU3 := Lib.hid (hU2'.out.below hb3)
      have hb4 := Lib.hid (below_next hB0.out hb3)
      clear hU2' hB0 hb3
      go_wp2_with fail
      refine (kR.out _ hb4.out).mono ?_
      rintro e' w4 ⟨lv, rfl, hl, hb5⟩
      obtain ⟨la, lc, rfl, _, _⟩ := id hl.shape
      have hU4 := Lib.hid (hU3.out.below hb5)
      have hb6 := Lib.hid (below_next hb4.out hb5)
      clear hU3 hl hb5
      go_wp2_with fail
      refine (kA.out _ _ hU4.out hb6.out).mono ?_
      rintro e' w5 ⟨rfl, hb7⟩
      have hb8 := Lib.hid (below_next hb6.out hb7)
      go_wp2_with fail
      refine (hWk.out _).mono ?_
      rintro e w7 ⟨rfl, hb10⟩
      go_wp2_with fail
      go_ret
      exact ⟨rfl, below_next hb8.out hb10⟩
end Go.Proofs.Ytnghfjlmmmjekaa
