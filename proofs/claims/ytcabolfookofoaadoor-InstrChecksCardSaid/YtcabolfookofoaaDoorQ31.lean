/- A part of the proof: IAr, IChk. No condition. -/
import Derived.Shelf.Abstract
import Derived.Test.YtcabolfookofoaaDoorQ04
import Derived.Test.YtcabolfookofoaaDoorQ19
import Derived.Test.YtcabolfookofoaaDoorQ30
set_option linter.unusedVariables false
set_option linter.unusedSimpArgs false
namespace Go.Proofs.YtcabolfookofoaaDoor
open Go.RowKit Go.Shelf
set_option maxRecDepth 20000 in
set_option maxHeartbeats 4000000 in
theorem right_closure (x : Ins) (hx : FitIns x) (w : World) (hW : WordsOK w) {gl n cap : Nat} {ad : Option Addr} (hg : w.cell? ⟨gl, 0, none⟩ = some (.slice ad n cap)) :
   Calls Tryd.prog 28 #[insV x, .pointer (some ⟨gl, 0, none⟩)] w fun e w' => e = .returned (.bool (!rightI x n)) ∧ Below w.heap.size w w' := by
 have R := fun (W : World) (hb : Below w.heap.size w W) => isRight_any x hx n W (hW.below hb)
 have hgl := World.block_lt_of_cell? w _ hg;obtain ⟨op, a, num, tx⟩ := x;unfold insV at *;dsimp only at *;generalize rightI ⟨op, a, num, tx⟩ n = t at *;replace hW := Lib.hid hW;go_enter Tryd.func28, Tryd.ntmps28
 go_wp2_with (go_at_call 29; refine (R _ (by go_grown)).mono ?_; rintro e w1 ⟨rfl, hb⟩; have hk : Below w.heap.size w w1 := below_next (by go_grown) hb; have hz := hk.size)
 go_ret
 exact ⟨rfl, by go_grown⟩
theorem badI_some {code : List Ins} {i : Nat} (hi : i < code.length) (h : rightI (inAt code i) code.length = false) (hj : ∀ j, j < i → rightI (inAt code j) code.length = true) : badI code = some i := by
 unfold badI;rw [List.findIdx?_eq_some_iff_getElem];refine ⟨hi, by rw [← inAt_get hi, h]; rfl, fun j hji => ?_⟩;rw [← inAt_get (by omega), hj j hji];simp
theorem badI_none {code : List Ins} (hj : ∀ j, j < code.length → rightI (inAt code j) code.length = true) : badI code = none := by
 unfold badI;rw [List.findIdx?_eq_none_iff];intro x hx;obtain ⟨j, hjl, rfl⟩ := List.mem_iff_getElem.1 hx;rw [← inAt_get hjl, hj j hjl];rfl
def badN (code : List Ins) : Int := match badI code with
 | some i => i
 | none => -1
set_option maxRecDepth 20000 in
set_option maxHeartbeats 4000000 in
theorem indexFunc_any {code : List Ins} {v : Value} {w : World} (h : InsIn w v code) (hx : ∀ x ∈ code, FitIns x) (hW : WordsOK w) {gl : Nat} (hg : w.cell? ⟨gl, 0, none⟩ = some v) :
   Calls Tryd.prog 27 #[v, .func (.func 28) #[] #[.pointer (some ⟨gl, 0, none⟩)]] w fun e w' => e = .returned (.int .i64 (badN code)) ∧ Below w.heap.size w w' := by
 have hgl := World.block_lt_of_cell? w _ hg;have hK := Lib.hid h;have hen : ∀ args w, (callFunc 28 args).run Tryd.prog w = .ok (.enter 28 args) w := enters_of Tryd.func28 (by kernel_rfl) rfl;obtain ⟨ad, cap, rfl, hlc, hcm, h3⟩ := h;have C := fun (x : Ins) (hxx : FitIns x) (W : World) (hb : Below w.heap.size w W) => right_closure x hxx W (hW.below hb) (gl := gl) (n := code.length) (cap := cap) (ad := ad) ((hb.cell (p := ⟨gl, 0, none⟩) hgl).trans hg)
 replace C := Lib.hid C;replace h3 := Lib.hid h3;replace hx := Lib.hid hx;replace hW := Lib.hid hW;obtain ⟨R, hR⟩ := exHid (badN code);rw [hR.out];obtain ⟨n, hn⟩ := exHid code.length;rw [hn.out] at hlc ⊢;go_enter Tryd.func27, Tryd.ntmps27
 go_wp2
 go_loopw [5, 8] (fun t5 t8 wr => ∃ i : Nat, i ≤ n ∧ t8 = .int .i64 i ∧ Below w.heap.size w wr ∧ Hid (∀ j, j < i → rightI (inAt code j) code.length = true)) (fun _ t8 _ => n - (intOf t8).toNat)
 case atStart => exact ⟨0, by omega, rfl, Below.refl _ _, Lib.hid (fun j hj => by omega)⟩
 case round =>
   obtain ⟨i, hi, rfl, hbw, hall⟩ := hrel;rcases Nat.lt_or_ge i n with hlt | hge
   · have hil : i < code.length := by rw [hn.out]; exact hlt
     obtain ⟨g, off, rfl, hgw, hc⟩ := h3.out (by omega);have hlti : (i : Int) < (n : Int) := by omega
     have Ci := C.out (inAt code i) (hx.out _ (by rw [inAt_get hil]; exact List.getElem_mem hil));obtain ⟨B, hB⟩ := exHid (rightI (inAt code i) code.length);rw [hB.out] at Ci;rcases hxi : inAt code i with ⟨op, a, num, tx⟩
     rw [hxi] at Ci;obtain ⟨p0, p1, p2, p3⟩ := ins_cells hgw hc hbw hil ((inAt_get hil).symm.trans hxi);unfold insV at Ci;dsimp only at Ci;replace hc := Lib.hid hc;have hbw' := Lib.hid hbw;cases B with
     | true =>
       go_wp2_with (refine (Ci wr hbw).mono ?_; rintro e w1 ⟨rfl, hb⟩; have hk : Below w.heap.size w w1 := below_next hbw hb)
       go_roundw
       case rel => exact ⟨i + 1, by omega, by go_num, hk, Lib.hid (fun j hj => by
         by_cases e : j = i
         · subst e; exact hB.out
         · exact hall.out j (by omega))⟩
       case measure => simp [intOf]; omega
     | false =>
       go_wp2_with (refine (Ci wr hbw).mono ?_; rintro e w1 ⟨rfl, hb⟩; have hk : Below w.heap.size w w1 := below_next hbw hb)
       go_ret
       exact ⟨ret_int (by rw [← hR.out]; unfold badN; rw [badI_some hil hB.out hall.out]), hk⟩
   · obtain rfl : i = n := by omega
     have hlti : ¬ ((i : Int) < (i : Int)) := by omega
     go_wp2
     go_ret
     exact ⟨ret_int (by rw [← hR.out]; unfold badN; rw [badI_none (fun j hj => hall.out j (by rw [← hn.out]; exact hj))]), hbw⟩
set_option maxRecDepth 20000 in
set_option maxHeartbeats 4000000 in
theorem allRight_any {code : List Ins} {v : Value} {w : World} (h : InsIn w v code) (hx : ∀ x ∈ code, FitIns x) (hW : WordsOK w) :
   Calls Tryd.prog 17 #[v] w fun e w' => e = .returned (.tuple #[.int .i64 ((badI code).getD 0 : Nat), .bool (badI code).isNone]) ∧ Below w.heap.size w w' := by
 have hs : ∃ ad n cap, v = .slice ad n cap := by obtain ⟨ad, cap, e, _⟩ := h; exact ⟨_, _, _, e⟩
 have X := fun (W : World) (hb : Below w.heap.size w W) (gl : Nat) (hg : W.cell? ⟨gl, 0, none⟩ = some v) => indexFunc_any (h.below hb) hx (hW.below hb) hg
 replace X := Lib.hid X;replace hW := Lib.hid hW;replace hx := Lib.hid hx;clear h;obtain ⟨ad, n, cap, rfl⟩ := hs;unfold badN at X;cases hb : badI code with
 | none =>
   simp only [hb] at X;go_enter Tryd.func17, Tryd.ntmps17
   go_wp2_with (go_at_call 27; refine (X.out _ (by go_grown) _ (World.cell?_alloc_new ..)).mono ?_; rintro e w1 ⟨rfl, hb⟩; have hk : Below w.heap.size w w1 := below_next (by go_grown) hb)
   refine bodyPost_ret (results_tmp2 rfl _ _ _) rfl ?_;exact ⟨rfl, by go_grown⟩
 | some i =>
   simp only [hb] at X;have hi : 0 ≤ (i : Int) := by omega
   have hi2 : ¬ ((i : Int) < 0) := by omega
   go_enter Tryd.func17, Tryd.ntmps17
   go_wp2_with (go_at_call 27; refine (X.out _ (by go_grown) _ (World.cell?_alloc_new ..)).mono ?_; rintro e w1 ⟨rfl, hb⟩; have hk : Below w.heap.size w w1 := below_next (by go_grown) hb)
   refine bodyPost_ret (results_tmp2 rfl _ _ _) rfl ?_;exact ⟨by congr 3 <;> first | rfl | (congr 1; omega), by go_grown⟩
end Go.Proofs.YtcabolfookofoaaDoor
namespace Go.Proofs.YtcabolfookofoaaDoor
open Go.RowKit
def slotsP (code : List Ins) (s : Int) : Nat → Int
 | 0 => s
 | i + 1 => if akI (inAt code i).op = 2 ∧ slotsP code s i < (inAt code i).a + 1 then (inAt code i).a + 1 else slotsP code s i
def maxP (d : List Int) : Nat → Int
 | 0 => 0
 | i + 1 => if maxP d i < d.getD i (-1) then d.getD i (-1) else maxP d i
theorem right_slot {x : Ins} {n : Int} (h : rightI x n = true) (hk : akI x.op = 2) : 0 ≤ x.a ∧ x.a < 100 := by
 unfold rightI at h;simp only [Bool.and_eq_true] at h;obtain ⟨⟨⟨_, h1⟩, _⟩, _⟩ := h;unfold aOK at h1;rw [hk] at h1
 simpa using h1
theorem slotsP_range {code : List Ins} (hR : AllRt code) {s : Int} (h0 : 0 ≤ s) (h1 : s ≤ 100) : ∀ i, i ≤ code.length → 0 ≤ slotsP code s i ∧ slotsP code s i ≤ 100
 | 0, _ => ⟨h0, h1⟩
 | i + 1, hi => by
   have ih := slotsP_range hR h0 h1 i (by omega);unfold slotsP;split
   · rename_i h
     have := right_slot (hR i (by omega)) h.1;omega
   · exact ih
set_option maxRecDepth 20000 in
set_option maxHeartbeats 1000000 in
theorem slotsOf_any {code : List Ins} {v : Value} {w : World} (h : InsIn w v code) (hn : code.length ≤ 8192) (hR : AllRt code) {s : Int} (hs0 : 0 ≤ s) (hs1 : s ≤ 100) :
   Calls Tryd.prog 11 #[v, .int .i64 s] w fun e w' => e = .returned (.int .i64 (slotsP code s code.length)) ∧ Below w.heap.size w w' := by
 obtain ⟨ad, cap, hv, hlc, hcm, hbig⟩ := id h;clear hbig;subst hv;obtain ⟨n, hN⟩ := exHid code.length;have hI : Hid (InsIn w (.slice ad n cap) code) := Lib.hid (by rw [← hN.out]; exact h);rw [hN.out];clear h;have hn1 : n ≤ 8192 := by rw [← hN.out]; exact hn
 have hSR := slotsP_range hR hs0 hs1;replace hSR := Lib.hid hSR;have F := fun op W => fieldsOf_any op W
 have rF := fun op => run_field_fld op
 replace hR := Lib.hid hR;clear hn hlc hcm;go_enter Tryd.func11, Tryd.ntmps11
 go_wp2
 go_loopw [1, 6, 9] (fun t1 t6 t9 wr => ∃ i : Nat, i ≤ n ∧ t9 = .int .i64 i ∧ t1 = .int .i64 (slotsP code s i) ∧ Below w.heap.size w wr) (fun _ _ t9 _ => n - (intOf t9).toNat)
 case atStart => exact ⟨0, by omega, rfl, rfl, Below.refl _ _⟩
 case round =>
   obtain ⟨i, hi, rfl, rfl, hbw⟩ := hrel;rcases Nat.lt_or_ge i n with hlt | hge
   · have hil : i < code.length := by rw [hN.out]; exact hlt
     have hlti : (i : Int) < (n : Int) := by omega
     obtain ⟨g0, off, cap0, ecv, hg0, x0, x1, x2, x3⟩ := hI.out.cells hbw hil (op := (inAt code i).op) (a := (inAt code i).a) (x := (inAt code i).num) (tx := (inAt code i).text) rfl;injection ecv with ec1 ec2 ec3;subst ec1 ec3;clear ec2;have hr1 := (hSR.out i (by omega)).1;have hr2 := (hSR.out i (by omega)).2;have hsl := fun hk => right_slot (hR.out i hil) hk
     have hS : slotsP code s (i + 1) = if akI (inAt code i).op = 2 ∧ slotsP code s i < (inAt code i).a + 1 then (inAt code i).a + 1 else slotsP code s i := rfl;have F1 := F (inAt code i).op;have rF1 := rF (inAt code i).op;obtain ⟨fv, hfv⟩ : ∃ x, fldV (inAt code i).op = x := ⟨_, rfl⟩;rw [hfv] at F1 rF1;replace hfv := Lib.hid hfv;generalize slotsP code s i = sv at *;generalize (inAt code i).a = a at *;have hz := hbw.size;by_cases hk : akI (inAt code i).op = 2
     · have ek : ((akI (inAt code i).op : Int) == 2) = true := by rw [hk]; rfl
       obtain ⟨ha0, ha1⟩ := hsl hk;by_cases hm : sv < a + 1
       · rw [if_pos ⟨hk, hm⟩] at hS
         have hm' : sv ≤ a + 1 := by omega
         generalize (akI (inAt code i).op : Int) = k at *;generalize ((inAt code i).op : Int) = op at *;generalize (inAt code i).num = nm at *;generalize (inAt code i).text = tx at *;replace hS := Lib.hid hS;clear hk hsl F rF;go_wp2_with (go_at_call 20; refine (F1 _).mono ?_; rintro e w4 ⟨rfl, hb4⟩; have hk4 : Below w.heap.size w w4 := below_next (by go_grown) hb4; have k0 := (hb4.cell (p := ⟨wr.heap.size, 0, none⟩) (by simp)).trans (World.cell?_alloc_new ..); have k1 := (hb4.cell (p := ⟨wr.heap.size, 1, none⟩) (by simp)).trans (World.cell?_alloc_new ..); have hz4 := hb4.size; replace hb4 := Lib.hid hb4; simp at k0 k1)
         go_roundw
         case rel => exact ⟨i + 1, by omega, by go_num, by rw [hS.out] <;> first | rfl | (congr 1; omega), by go_grown⟩
         case measure => simp [intOf]; omega
       · rw [if_neg (fun h => hm h.2)] at hS
         have hm' : a + 1 ≤ sv := by omega
         generalize (akI (inAt code i).op : Int) = k at *;generalize ((inAt code i).op : Int) = op at *;generalize (inAt code i).num = nm at *;generalize (inAt code i).text = tx at *;replace hS := Lib.hid hS;clear hk hsl F rF;go_wp2_with (go_at_call 20; refine (F1 _).mono ?_; rintro e w4 ⟨rfl, hb4⟩; have hk4 : Below w.heap.size w w4 := below_next (by go_grown) hb4; have k0 := (hb4.cell (p := ⟨wr.heap.size, 0, none⟩) (by simp)).trans (World.cell?_alloc_new ..); have k1 := (hb4.cell (p := ⟨wr.heap.size, 1, none⟩) (by simp)).trans (World.cell?_alloc_new ..); have hz4 := hb4.size; replace hb4 := Lib.hid hb4; simp at k0 k1)
         go_roundw
         case rel => exact ⟨i + 1, by omega, by go_num, by rw [hS.out] <;> first | rfl | (congr 1; omega), by go_grown⟩
         case measure => simp [intOf]; omega
     · have ek : ((akI (inAt code i).op : Int) == 2) = false := beq_eq_false_iff_ne.2 (by omega)
       rw [if_neg (fun h => hk h.1)] at hS;generalize (akI (inAt code i).op : Int) = k at *;generalize ((inAt code i).op : Int) = op at *;generalize (inAt code i).num = nm at *;generalize (inAt code i).text = tx at *;replace hS := Lib.hid hS;clear hk hsl F rF;go_wp2_with (go_at_call 20; refine (F1 _).mono ?_; rintro e w4 ⟨rfl, hb4⟩; have hk4 : Below w.heap.size w w4 := below_next (by go_grown) hb4; have k0 := (hb4.cell (p := ⟨wr.heap.size, 0, none⟩) (by simp)).trans (World.cell?_alloc_new ..); have k1 := (hb4.cell (p := ⟨wr.heap.size, 1, none⟩) (by simp)).trans (World.cell?_alloc_new ..); have hz4 := hb4.size; replace hb4 := Lib.hid hb4; simp at k0 k1)
       go_roundw
       case rel => exact ⟨i + 1, by omega, by go_num, by rw [hS.out] <;> first | rfl | (congr 1; omega), by go_grown⟩
       case measure => simp [intOf]; omega
   · obtain rfl : i = n := by omega
     have hlti : ¬ ((i : Int) < (i : Int)) := by omega
     go_wp2
     go_ret
     exact ⟨rfl, hbw⟩
set_option maxRecDepth 20000 in
set_option maxHeartbeats 1000000 in
theorem max_any {w : World} {d : List Int} {g : Nat} (hD : DepAt w g d) (h0 : 0 < d.length) (hn : d.length ≤ 8192) (hf : d.getD 0 (-1) = 0) :
   Calls Tryd.prog 12 #[.slice (some ⟨g, 0, none⟩) d.length d.length] w fun e w' => e = .returned (.int .i64 (maxP d d.length)) ∧ w = w' := by
 obtain ⟨n, hN⟩ := exHid d.length;have x0 := hD.cell h0;rw [hf] at x0;have hm1 : maxP d 1 = 0 := by
   show (if (0 : Int) < d.getD 0 (-1) then d.getD 0 (-1) else 0) = 0
   rw [hf]; rfl
 rw [hN.out];rw [hN.out] at h0 hn;have h1 : ¬ ((n : Int) < 1) := by omega
 have h2 : 0 < (n : Int) := by omega
 have h3 : (n : Int) ≤ 8192 := by omega
 replace hD := Lib.hid hD;replace hf := Lib.hid hf;replace hm1 := Lib.hid hm1;go_enter Tryd.func12, Tryd.ntmps12
 go_wp2
 clear x0;go_loopw [3, 4] (fun t3 t4 wr => ∃ i : Nat, 1 ≤ i ∧ i ≤ n ∧ t4 = .int .i64 i ∧ t3 = .int .i64 (maxP d i) ∧ w = wr) (fun _ t4 _ => n - (intOf t4).toNat)
 case atStart => exact ⟨1, by omega, by omega, rfl, by rw [hm1.out], rfl⟩
 case round =>
   obtain ⟨i, hi1, hi, rfl, rfl, rfl⟩ := hrel;rcases Nat.lt_or_ge i n with hlt | hge
   · have hlti : (i : Int) < (n : Int) := by omega
     have x0 := hD.out.cell (i := i) (by rw [hN.out]; exact hlt);have hS : maxP d (i + 1) = if maxP d i < d.getD i (-1) then d.getD i (-1) else maxP d i := rfl;generalize maxP d i = mv at *;generalize d.getD i (-1) = di at *;by_cases hm : mv < di
     · rw [if_pos hm] at hS
       have hm' : mv ≤ di := by omega
       replace hS := Lib.hid hS;go_wp2
       go_roundw
       case rel => exact ⟨i + 1, by omega, by omega, by go_num, by rw [hS.out] <;> first | rfl | (congr 1; omega), by trivial⟩
       case measure => simp [intOf]; omega
     · rw [if_neg hm] at hS
       have hm' : di ≤ mv := by omega
       replace hS := Lib.hid hS;go_wp2
       go_roundw
       case rel => exact ⟨i + 1, by omega, by omega, by go_num, by rw [hS.out] <;> first | rfl | (congr 1; omega), by trivial⟩
       case measure => simp [intOf]; omega
   · obtain rfl : i = n := by omega
     have hlti : ¬ ((i : Int) < (i : Int)) := by omega
     go_wp2
     go_ret
     exact ⟨rfl, rfl⟩
end Go.Proofs.YtcabolfookofoaaDoor
