/- A part of the proof: IAr. No condition. -/
import Derived.Shelf.Abstract
import Derived.Test.YtcabolfookofoaaGreatDoorQ07
import Derived.Test.YtcabolfookofoaaGreatDoorQ08
set_option linter.unusedVariables false
set_option linter.unusedSimpArgs false
namespace Go.Proofs.YtcabolfookofoaaGreatDoor
open Go.RowKit Go.Shelf
set_option maxRecDepth 20000 in
set_option maxHeartbeats 4000000 in
theorem right_closure (x : Ins) (hx : FitIns x) (w : World) (hW : WordsOK w) {gl n cap : Nat} {ad : Option Addr} (hg : w.cell? ⟨gl, 0, none⟩ = some (.slice ad n cap)) :
   Calls Tryz.prog 64 #[insV x, .pointer (some ⟨gl, 0, none⟩)] w fun e w' => e = .returned (.bool (!rightI x n)) ∧ Below w.heap.size w w' := by
 have R := fun (W : World) (hb : Below w.heap.size w W) => isRight_any x hx n W (hW.below hb)
 have hgl := World.block_lt_of_cell? w _ hg;obtain ⟨op, a, num, tx⟩ := x;unfold insV at *;dsimp only at *;generalize rightI ⟨op, a, num, tx⟩ n = t at *;replace hW := Lib.hid hW;go_enter Tryz.func64, Tryz.ntmps64
 go_wp2_with (go_at_call 65; refine (R _ (by go_grown)).mono ?_; rintro e w1 ⟨rfl, hb⟩; have hk : Below w.heap.size w w1 := below_next (by go_grown) hb; have hz := hk.size)
 go_ret
 exact ⟨rfl, by go_grown⟩
theorem badI_some {code : List Ins} {i : Nat} (hi : i < code.length) (h : rightI (inAt code i) code.length = false) (hj : ∀ j, j < i → rightI (inAt code j) code.length = true) : badI code = some i := by
 unfold badI;rw [List.findIdx?_eq_some_iff_getElem];refine ⟨hi, by rw [← inAt_get hi, h]; rfl, fun j hji => ?_⟩;rw [← inAt_get (by omega), hj j hji];simp
theorem badI_none {code : List Ins} (hj : ∀ j, j < code.length → rightI (inAt code j) code.length = true) : badI code = none := by
 unfold badI;rw [List.findIdx?_eq_none_iff];intro x hx;obtain ⟨j, hjl, rfl⟩ := List.mem_iff_getElem.1 hx;rw [← inAt_get hjl, hj j hjl];rfl
def badN (code : List Ins) : Int := match badI code with
 | some i => i
 | none => -1
set_option maxRecDepth 20000 in
set_option maxHeartbeats 4000000 in
theorem indexFunc_any {code : List Ins} {v : Value} {w : World} (h : InsIn w v code) (hx : ∀ x ∈ code, FitIns x) (hW : WordsOK w) {gl : Nat} (hg : w.cell? ⟨gl, 0, none⟩ = some v) :
   Calls Tryz.prog 63 #[v, .func (.func 64) #[] #[.pointer (some ⟨gl, 0, none⟩)]] w fun e w' => e = .returned (.int .i64 (badN code)) ∧ Below w.heap.size w w' := by
 have hgl := World.block_lt_of_cell? w _ hg;have hK := Lib.hid h;have hen : ∀ args w, (callFunc 64 args).run Tryz.prog w = .ok (.enter 64 args) w := enters_of Tryz.func64 (by kernel_rfl) rfl;obtain ⟨ad, cap, rfl, hlc, hcm, h3⟩ := h;have C := fun (x : Ins) (hxx : FitIns x) (W : World) (hb : Below w.heap.size w W) => right_closure x hxx W (hW.below hb) (gl := gl) (n := code.length) (cap := cap) (ad := ad) ((hb.cell (p := ⟨gl, 0, none⟩) hgl).trans hg)
 replace C := Lib.hid C;replace h3 := Lib.hid h3;replace hx := Lib.hid hx;replace hW := Lib.hid hW;obtain ⟨R, hR⟩ := exHid (badN code);rw [hR.out];obtain ⟨n, hn⟩ := exHid code.length;rw [hn.out] at hlc ⊢;go_enter Tryz.func63, Tryz.ntmps63
 go_wp2
 go_loopw [5, 8] (fun t5 t8 wr => ∃ i : Nat, i ≤ n ∧ t8 = .int .i64 i ∧ Below w.heap.size w wr ∧ Hid (∀ j, j < i → rightI (inAt code j) code.length = true)) (fun _ t8 _ => n - (intOf t8).toNat)
 case atStart => exact ⟨0, by omega, rfl, Below.refl _ _, Lib.hid (fun j hj => by omega)⟩
 case round =>
   obtain ⟨i, hi, rfl, hbw, hall⟩ := hrel;rcases Nat.lt_or_ge i n with hlt | hge
   · have hil : i < code.length := by rw [hn.out]; exact hlt
     obtain ⟨g, off, rfl, hgw, hc⟩ := h3.out (by omega);have hlti : (i : Int) < (n : Int) := by omega
     have Ci := C.out (inAt code i) (hx.out _ (by rw [inAt_get hil]; exact List.getElem_mem hil));obtain ⟨B, hB⟩ := exHid (rightI (inAt code i) code.length);rw [hB.out] at Ci;rcases hxi : inAt code i with ⟨op, a, num, tx⟩
     rw [hxi] at Ci;obtain ⟨p0, p1, p2, p3⟩ := ins_cells hgw hc hbw hil ((inAt_get hil).symm.trans hxi);unfold insV at Ci;dsimp only at Ci;replace hc := Lib.hid hc;have hbw' := Lib.hid hbw;cases B with
     | true =>
       go_wp2_with (refine (Ci wr hbw).mono ?_; rintro e w1 ⟨rfl, hb⟩; have hk : Below w.heap.size w w1 := below_next hbw hb)
       go_roundw
       case rel => exact ⟨i + 1, by omega, by go_num, hk, Lib.hid (fun j hj => by
         by_cases e : j = i
         · subst e; exact hB.out
         · exact hall.out j (by omega))⟩
       case measure => simp [intOf]; omega
     | false =>
       go_wp2_with (refine (Ci wr hbw).mono ?_; rintro e w1 ⟨rfl, hb⟩; have hk : Below w.heap.size w w1 := below_next hbw hb)
       go_ret
       exact ⟨ret_int (by rw [← hR.out]; unfold badN; rw [badI_some hil hB.out hall.out]), hk⟩
   · obtain rfl : i = n := by omega
     have hlti : ¬ ((i : Int) < (i : Int)) := by omega
     go_wp2
     go_ret
     exact ⟨ret_int (by rw [← hR.out]; unfold badN; rw [badI_none (fun j hj => hall.out j (by rw [← hn.out]; exact hj))]), hbw⟩
set_option maxRecDepth 20000 in
set_option maxHeartbeats 4000000 in
theorem allRight_any {code : List Ins} {v : Value} {w : World} (h : InsIn w v code) (hx : ∀ x ∈ code, FitIns x) (hW : WordsOK w) :
   Calls Tryz.prog 39 #[v] w fun e w' => e = .returned (.tuple #[.int .i64 ((badI code).getD 0 : Nat), .bool (badI code).isNone]) ∧ Below w.heap.size w w' := by
 have hs : ∃ ad n cap, v = .slice ad n cap := by obtain ⟨ad, cap, e, _⟩ := h; exact ⟨_, _, _, e⟩
 have X := fun (W : World) (hb : Below w.heap.size w W) (gl : Nat) (hg : W.cell? ⟨gl, 0, none⟩ = some v) => indexFunc_any (h.below hb) hx (hW.below hb) hg
 replace X := Lib.hid X;replace hW := Lib.hid hW;replace hx := Lib.hid hx;clear h;obtain ⟨ad, n, cap, rfl⟩ := hs;unfold badN at X;cases hb : badI code with
 | none =>
   simp only [hb] at X;go_enter Tryz.func39, Tryz.ntmps39
   go_wp2_with (go_at_call 63; refine (X.out _ (by go_grown) _ (World.cell?_alloc_new ..)).mono ?_; rintro e w1 ⟨rfl, hb⟩; have hk : Below w.heap.size w w1 := below_next (by go_grown) hb)
   refine bodyPost_ret (results_tmp2 rfl _ _ _) rfl ?_;exact ⟨rfl, by go_grown⟩
 | some i =>
   simp only [hb] at X;have hi : 0 ≤ (i : Int) := by omega
   have hi2 : ¬ ((i : Int) < 0) := by omega
   go_enter Tryz.func39, Tryz.ntmps39
   go_wp2_with (go_at_call 63; refine (X.out _ (by go_grown) _ (World.cell?_alloc_new ..)).mono ?_; rintro e w1 ⟨rfl, hb⟩; have hk : Below w.heap.size w w1 := below_next (by go_grown) hb)
   refine bodyPost_ret (results_tmp2 rfl _ _ _) rfl ?_;exact ⟨by congr 3 <;> first | rfl | (congr 1; omega), by go_grown⟩
end Go.Proofs.YtcabolfookofoaaGreatDoor
