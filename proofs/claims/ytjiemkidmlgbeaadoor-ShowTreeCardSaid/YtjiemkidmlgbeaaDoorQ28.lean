/- A part of the proof: SdR. No condition. -/
import Derived.Test.YtjiemkidmlgbeaaDoorQ26
import Derived.Test.YtjiemkidmlgbeaaDoorQ27
set_option linter.unusedVariables false
set_option linter.unusedSimpArgs false
namespace Go.Proofs.YtjiemkidmlgbeaaDoor
open Go.RowKit Go.Shelf Tok
theorem tws_newT (w : World) (cs : Array Value) (hcs : cs = #[]) : TwsAt (w.alloc (.cells cs 37)) w.heap.size (.slice (some ⟨w.heap.size, 0, none⟩) 0 0) [] := by
 subst hcs;exact ⟨rfl, .inr ⟨w.heap.size, 0, #[], rfl, Nat.le_refl _, heap_alloc_new w _, Nat.le_refl _, by unfold maxLen; omega, rfl, rfl⟩⟩
theorem append_noneT (w : World) (ty : TypeId) (b cap : Nat) : (Builtin.append_ #[23, 23] ty #[.slice (some ⟨b, 0, none⟩) 0 0, .slice none 0 cap]).run Tryd.prog w = .ok (.slice (some ⟨b, 0, none⟩) 0 0) w := by
 obtain ⟨i0, hi, hz0, hz1, hz2⟩ := tw_parts;have h := run_append_room_src (P := Tryd.prog) w 23 23 ty 37 i0 Tryd.underlying23 hi b 0 0 0 (.slice none 0 cap) 0 [] (Src.ofNil w Tryd.underlying23 cap) (Nat.le_refl _) (by simp) (by simp);rw [h];rfl
set_option maxRecDepth 20000 in
set_option maxHeartbeats 4000000 in
theorem showTree_nil (cap : Nat) (w : World) (hT : TwIn w (.slice none 0 cap) []) (hS : SignsOK w) (hM : MarksOK w) (hP : PowOK w.heap.size w) :
   Calls Tryd.prog 3 #[.slice none 0 cap] w fun e w' => e = .returned (.bool true) ∧ Below w.heap.size w w' := by
 have hWk := Lib.hid (fun W (hb : Below w.heap.size w W) => wakes10_any W (hM.below hM.lt hb) (hS.below hb) (hP.next10 hb));obtain ⟨st, cd, hI⟩ := tree_is [];have hee : (cd == cd) = true := by simp
 have kN := Lib.hid (fun (g : Nat) (W : World) (hb : Below w.heap.size w W) => Tree_is10 (v := .slice (some ⟨g, 0, none⟩) 0 0) (w := W) ⟨_, 0, rfl, by simp, by omega, fun h => absurd h (by simp)⟩ (by simp) (hM.below hM.lt hb) (hS.below hb) (hP.next10 hb) hI);have kR := Lib.hid (fun (W : World) (hb : Below w.heap.size w W) => refTree_is10 (hT.below hb) (by simp) hI);have kA := Lib.hid (fun (g : Nat) (W : World) (hb : Below w.heap.size w W) => alike_tw (v1 := .slice (some ⟨g, 0, none⟩) 0 0) (w := W) (ts := []) ⟨_, 0, rfl, by simp, by omega, fun h => absurd h (by simp)⟩ (hT.below hb));have hal := (Below.refl w.heap.size w).alloc (Nat.le_refl _) (.cells #[] 37);have hap := fun (W : World) => append_noneT W 23 w.heap.size cap
 replace hal := Lib.hid hal;clear hI hT hS hM hP;go_enter Tryd.func3, Tryd.ntmps3
 go_wp2_with fail
 refine (kN.out _ _ hal.out).mono ?_;rintro e' w1 ⟨rfl, hb1⟩;have hb2 := Lib.hid (below_next hal.out hb1);go_wp2_with fail
 refine (kR.out _ hb2.out).mono ?_;rintro e' w2 ⟨rfl, hb3⟩;have hb4 := Lib.hid (below_next hb2.out hb3);go_wp2_with fail
 refine (kA.out _ _ hb4.out).mono ?_;rintro e' w3 ⟨rfl, hb5⟩;have hb6 := Lib.hid (below_next hb4.out hb5);go_wp2_with fail
 refine (hWk.out _ hb6.out).mono ?_;rintro e w7 ⟨rfl, hb10⟩;go_wp2_with fail
 go_ret
 exact ⟨rfl, below_next hb6.out hb10⟩
set_option maxRecDepth 20000 in
set_option maxHeartbeats 4000000 in
theorem showTree_walk (v : Value) (w : World) (h : TwsIn w v) (hS : SignsOK w) (hM : MarksOK w) (hP : PowOK w.heap.size w) :
   Calls Tryd.prog 3 #[v] w fun e w' => e = .returned (.bool true) ∧ Below w.heap.size w w' := by
 obtain ⟨ts, hT, hf, hnil⟩ := h;have hWk := Lib.hid (fun W (hb : Below w.heap.size w W) => wakes10_any W (hM.below hM.lt hb) (hS.below hb) (hP.next10 hb));by_cases h5 : 5000 < ts.length
 · have h5i : (5000 : Int) < (ts.length : Int) := by omega
   obtain ⟨a, cap, rfl, _⟩ := hT;go_enter Tryd.func3, Tryd.ntmps3
   go_wp2_with fail
   refine (hWk.out _ (Below.refl _ _)).mono ?_;rintro e w2 ⟨rfl, hb⟩;go_wp2_with fail
   go_ret
   exact ⟨rfl, hb⟩
 · have h5i : ¬ (5000 : Int) < (ts.length : Int) := by omega
   obtain ⟨st, cd, hI⟩ := tree_is ts;have hee : (cd == cd) = true := by simp
   have kN := Lib.hid (fun (W : World) (u : Value) (hb : Below w.heap.size w W) (hu : TwIn W u ts) => Tree_is10 hu hf (hM.below hM.lt hb) (hS.below hb) (hP.next10 hb) hI);have kR := Lib.hid (fun (W : World) (hb : Below w.heap.size w W) => refTree_is10 (hT.below hb) hf hI);have kA := Lib.hid (fun (W : World) (u : Value) (hu : TwIn W u ts) (hb : Below w.heap.size w W) => alike_tw hu (hT.below hb));have hTT := hT;obtain ⟨a, cap, rfl, hlc, hcm, h3⟩ := hT;rcases a with _ | ad
   · have h0 : ts.length = 0 := by
       rcases Nat.eq_zero_or_pos ts.length with h | h
       · exact h
       · obtain ⟨g, off, e, _⟩ := h3 h
         cases e
     obtain rfl := List.length_eq_zero_iff.1 h0;exact showTree_nil cap w ⟨none, cap, rfl, hlc, hcm, h3⟩ hS hM hP
   · have hal := (Below.refl w.heap.size w).alloc (Nat.le_refl _) (.cells #[] 37)
     have hsr := Lib.hid (hTT.below hal);replace hal := Lib.hid hal;clear h3 hf hI h5 hTT hS hM hP hnil;go_enter Tryd.func3, Tryd.ntmps3
     go_wp2_with (at_builtin; refine wpList_append_tws (base := w.heap.size) (v := _) (ts := []) (us := ts) rfl _ _ rfl rfl (tws_newT w _ rfl) rfl hsr.out (by simp) (by omega) (by simp) ?_; intro a2 c2 w2 hU2 hB2)
     have hU2' : Hid (TwIn w2 (.slice a2 ts.length c2) ts) := Lib.hid (by
       have h2 : TwsAt w2 w.heap.size (.slice a2 ts.length c2) ts := by simpa using hU2
       exact h2.twIn)
     have hB0 := Lib.hid (hal.out.trans hB2);clear hsr hal hB2 hU2;refine (kN.out _ _ hB0.out hU2'.out).mono ?_;rintro e' w3 ⟨rfl, hb3⟩;have hU3 := Lib.hid (hU2'.out.below hb3);have hb4 := Lib.hid (below_next hB0.out hb3);clear hU2' hB0 hb3;go_wp2_with fail
     refine (kR.out _ hb4.out).mono ?_;rintro e' w4 ⟨rfl, hb5⟩;have hU4 := Lib.hid (hU3.out.below hb5);have hb6 := Lib.hid (below_next hb4.out hb5);clear hU3 hb5;go_wp2_with fail
     refine (kA.out _ _ hU4.out hb6.out).mono ?_;rintro e' w5 ⟨rfl, hb7⟩;have hb8 := Lib.hid (below_next hb6.out hb7);go_wp2_with fail
     refine (hWk.out _ hb8.out).mono ?_;rintro e w7 ⟨rfl, hb10⟩;go_wp2_with fail
     go_ret
     exact ⟨rfl, below_next hb8.out hb10⟩
end Go.Proofs.YtjiemkidmlgbeaaDoor
