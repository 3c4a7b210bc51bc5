/- A part of the proof: ULs. No condition. -/
import Derived.Test.YtcabolfookofoaaGreatDoorQ17
import Derived.Test.YtcabolfookofoaaGreatDoorQ23
import Derived.Test.YtcabolfookofoaaGreatDoorQ24
set_option linter.unusedVariables false
set_option linter.unusedSimpArgs false
namespace Go.Proofs.YtcabolfookofoaaGreatDoor
open Go.RowKit
theorem line_len {p : Nat} (hp : p ≤ 100000) {x : Ins} (ha : I64 x.a) (hn : I64 x.num) (ht : x.text.length ≤ 20000) : (lineL p x).length ≤ 81000 := by
 have l0 := Lib.itoa_length_le (p : Int) (by omega) (by omega);have l1 := Lib.itoa_length_le x.a ha.1 ha.2;have l2 := Lib.itoa_length_le x.num hn.1 hn.2;have l3 := quotesL_len x.text;have lw := word_len x.op;have b1 : (blankL (behindA x)).length ≤ 22 := by unfold blankL behindA; split <;> simp; omega
 have b2 : (blankL (behindN x)).length ≤ 22 := by unfold blankL behindN; split <;> simp; omega
 have b3 : (blankL (behindT x)).length ≤ 80003 := by
   unfold blankL behindT;split
   · simp [quoteL]; omega
   · split <;> simp; omega
 have e : blankL (behindA x ++ behindN x ++ behindT x) = blankL (behindA x) ++ blankL (behindN x) ++ blankL (behindT x) := by simp [blankL]
 unfold lineL;rw [e];simp only [List.length_append, List.length_cons];omega
theorem lines_len : ∀ (l : List Ins) (p : Nat), p + l.length ≤ 100000 → (∀ x ∈ l, I64 x.a ∧ I64 x.num ∧ x.text.length ≤ 20000) → (linesL p l).length ≤ 81001 * l.length := by
 intro l
 induction l with
 | nil => intro p _ _; simp [linesL]
 | cons x l ih =>
   intro p hp h;rw [List.length_cons] at hp;have h1 := ih (p + 1) (by omega) (fun y hy => h y (by simp [hy]));obtain ⟨h2, h3, h4⟩ := h x (by simp);have h5 := line_len (p := p) (by omega) h2 h3 h4;simp only [linesL, List.length_append, List.length_cons, List.length_nil];omega
theorem lines_take {code : List Ins} {i : Nat} (h : i < code.length) : linesL 0 (code.take (i + 1)) = linesL 0 (code.take i) ++ (lineL i (inAt code i) ++ [10]) := by
 rw [List.take_succ_eq_append_getElem h, linesL_snoc, ← inAt_get h, Nat.zero_add, List.length_take, Nat.min_eq_left (Nat.le_of_lt h)]
theorem WriteByte_lf {w : World} {B b : Nat} {l : List UInt8} (h : BldAt w B b l) (hlen : l.length ≤ 1000000000) (hBw : B ≤ w.heap.size) :
   Calls Tryz.prog 35 #[.pointer (some ⟨b, 0, none⟩), .int .u8 10] w fun e w' => e = .returned .nilIface ∧ BldAt w' B b (l ++ [10]) ∧ Below B w w' := WriteByte_any h 10 hlen hBw
set_option maxRecDepth 20000 in
set_option maxHeartbeats 4000000 in
theorem List_ok {code : List Ins} {v : Value} {w : World} (h : InsIn w v code) (hx : ∀ x ∈ code, FitIns x) (hW : WordsOK w) (hT : TabOK w) (h0 : mayE code = 0) (ht : ∀ x ∈ code, x.text.length ≤ 20000) :
   Calls Tryz.prog 16 #[v] w fun e w' => e = .returned (.tuple #[.string ⟨(linesL 0 code).toArray⟩, .int .i64 0]) ∧ Below w.heap.size w w' := by
 have M := writable_any h hx hW;rw [h0] at M;obtain ⟨hn, _⟩ := mayE_ok h0;obtain ⟨ad, cap, hv, hlc, hcm, hbig⟩ := id h;clear hbig;subst hv;obtain ⟨n, hN⟩ := exHid code.length;have hI : Hid (InsIn w (.slice ad n cap) code) := Lib.hid (by rw [← hN.out]; exact h);have hF := Lib.hid (fun x (hm : x ∈ code) => (⟨(hx x hm).2.1, (hx x hm).2.2.1, (hx x hm).2.2.2, ht x hm⟩ : I64 x.a ∧ I64 x.num ∧ x.op < 256 ∧ x.text.length ≤ 20000));have hL := Lib.hid (fun i => lines_len (code.take i) 0 (by rw [List.length_take]; omega) (fun x hm => ⟨(hF.out x (List.mem_of_mem_take hm)).1, (hF.out x (List.mem_of_mem_take hm)).2.1, (hF.out x (List.mem_of_mem_take hm)).2.2.2⟩));have LN := Lib.hid (fun (p : Nat) (hp : p ≤ 100000) (x : Ins) (hm : x ∈ code) (W : World) (hb : Below w.heap.size w W) => line_any p hp x (hF.out x hm).1 (hF.out x hm).2.1 (hF.out x hm).2.2.1 (by have := (hF.out x hm).2.2.2; omega) W (hT.below hb) (hW.below hb));rw [hN.out] at hn M ⊢;obtain ⟨R, hR⟩ := exHid (linesL 0 code);have hall : Hid (linesL 0 (code.take n) = R) := Lib.hid (by rw [List.take_of_length_le (by rw [hN.out]; exact Nat.le_refl _)]; exact hR.out);rw [hR.out];clear h hx hW hT h0 ht hlc hcm;have hn64 : (n : Int) ≤ 8192 := by omega
 clear hR;go_enter Tryz.func16, Tryz.ntmps16
 go_wp2_with (go_at_call 27; refine M.mono ?_; rintro e w1 ⟨rfl, hb1⟩)
 have hB1 := Lib.hid (bld_new w1);have hz1 := hb1.size;have hb2 := Lib.hid (below_next hb1 (below_newL w1 (.cells #[.pointer none, .slice none 0 0] 59)));clear hb1 M;have hle : Hid (w1.heap.size ≤ (w1.alloc (.cells #[.pointer none, .slice none 0 0] 59)).heap.size) := Lib.hid (by simp);go_loopw [6, 7, 15] (fun _ _ t15 wr => ∃ i : Nat, i ≤ n ∧ t15 = .int .i64 i ∧ Hid (BldAt wr w1.heap.size w1.heap.size (linesL 0 (code.take i))) ∧ Hid (Below w.heap.size w wr) ∧ Hid (w1.heap.size ≤ wr.heap.size)) (fun _ _ t15 _ => n - (intOf t15).toNat)
 case atStart => exact ⟨0, by omega, rfl, Lib.hid (by rw [List.take_zero]; exact hB1.out), hb2, hle⟩
 case round =>
   obtain ⟨i, hi, rfl, hB, hb, hz⟩ := hrel;clear hB1 hb2 hle;rcases Nat.lt_or_ge i n with hlt | hge
   · have hlti : (i : Int) < (n : Int) := by omega
     have hil : i < code.length := by rw [hN.out]; exact hlt
     have hmem : inAt code i ∈ code := by rw [inAt_get hil]; exact List.getElem_mem hil
     have hlt2 := lines_take hil;have hlen := hL.out i;rw [List.length_take, hN.out, Nat.min_eq_left hi] at hlen;have LI := LN.out i (by omega) _ hmem;have hll := line_len (p := i) (by omega) (hF.out _ hmem).1 (hF.out _ hmem).2.1 (hF.out _ hmem).2.2.2;generalize linesL 0 (code.take i) = X at hB hlen hlt2;generalize lineL i (inAt code i) = Y at LI hlt2 hll;rcases hxi : inAt code i with ⟨op, a, num, tx⟩
     rw [hxi] at LI;obtain ⟨g, off, cap0, ecv, hg, z0, z1, z2, z3⟩ := hI.out.cells hb.out (i := i) hil hxi;injection ecv with ec1 ec2 ec3;subst ec1 ec3;clear ec2 hmem hxi;unfold insV at LI;dsimp only at LI;replace LI := Lib.hid LI;replace hlt2 := Lib.hid hlt2;have hbx := below_newL wr (.cells #[.int .u8 op, .int .i64 a, .int .i64 num, .string ⟨tx.toArray⟩] 28);have hB0 := Lib.hid (hB.out.below hbx);have hb0 := Lib.hid (below_next hb.out hbx);have hz0 := Lib.hid (Nat.le_trans hz.out hbx.size);clear hbx;go_wp2_with first
       | (go_at_call 34; refine (LI.out _ hb0.out).mono ?_; rintro e w3 ⟨rfl, hbx⟩; have hB3 := Lib.hid (hB0.out.below hbx); have hb3 := Lib.hid (below_next hb0.out hbx); have hz3 := Lib.hid (Nat.le_trans hz0.out hbx.size); clear hbx)
       | (go_at_call 33; refine (WriteString_any hB3.out ⟨Y.toArray⟩ (by show X.length + Y.toArray.size ≤ _; simp; omega) hz3.out).mono ?_; rintro e w4 ⟨rfl, hB4, hbx⟩; have hB5 := Lib.hid hB4; have hb4 := Lib.hid (hb3.out.trans (hbx.mono hz1)); have hz4 := Lib.hid (Nat.le_trans hz3.out hbx.size); clear hbx hB4)
       | (go_at_call 35; refine (WriteByte_lf hB5.out (by simp; omega) hz4.out).mono ?_; rintro e w5 ⟨rfl, hB6, hbx⟩; have hB7 := Lib.hid hB6; have hb5 := Lib.hid (hb4.out.trans (hbx.mono hz1)); have hz5 := Lib.hid (Nat.le_trans hz4.out hbx.size); clear hbx hB6)
     go_roundw
     case rel => exact ⟨i + 1, by omega, by go_num, Lib.hid (by rw [hlt2.out, ← List.append_assoc]; exact hB7.out), hb5, hz5⟩
     case measure => simp [intOf]; omega
   · obtain rfl : i = n := by omega
     have hlti : ¬ ((i : Int) < (i : Int)) := by omega
     rw [hall.out] at hB;have SB := Lib.hid (BldString_any hB.out hz.out);clear hL;go_wp2_with (go_at_call 36; refine SB.out.mono ?_; rintro e w3 ⟨rfl, hbx⟩; have hb3 := Lib.hid (hb.out.trans (hbx.mono hz1)))
     refine bodyPost_ret (results_tmp2 rfl _ _ _) rfl ?_;exact ⟨rfl, hb3.out⟩
set_option maxRecDepth 20000 in
set_option maxHeartbeats 4000000 in
theorem refList_ok {code : List Ins} {v : Value} {w : World} (h : InsIn w v code) (hx : ∀ x ∈ code, FitIns x) (h0 : mayE code = 0) (ht : ∀ x ∈ code, x.text.length ≤ 20000) :
   Calls Tryz.prog 17 #[v] w fun e w' => e = .returned (.tuple #[.string ⟨(linesL 0 code).toArray⟩, .int .i64 0]) ∧ Below w.heap.size w w' := by
 have M := refMay_any h hx;rw [h0] at M;obtain ⟨hn, _⟩ := mayE_ok h0;obtain ⟨ad, cap, hv, hlc, hcm, hbig⟩ := id h;clear hbig;subst hv;obtain ⟨n, hN⟩ := exHid code.length;have hI : Hid (InsIn w (.slice ad n cap) code) := Lib.hid (by rw [← hN.out]; exact h);have hF := Lib.hid (fun x (hm : x ∈ code) => (⟨(hx x hm).2.1, (hx x hm).2.2.1, (hx x hm).2.2.2, ht x hm⟩ : I64 x.a ∧ I64 x.num ∧ x.op < 256 ∧ x.text.length ≤ 20000));have hL := Lib.hid (fun i => lines_len (code.take i) 0 (by rw [List.length_take]; omega) (fun x hm => ⟨(hF.out x (List.mem_of_mem_take hm)).1, (hF.out x (List.mem_of_mem_take hm)).2.1, (hF.out x (List.mem_of_mem_take hm)).2.2.2⟩));have LN := Lib.hid (fun (p : Nat) (hp : p ≤ 100000) (x : Ins) (hm : x ∈ code) (W : World) => refLine_any p hp x (hF.out x hm).1 (hF.out x hm).2.1 (by have := (hF.out x hm).2.2.2; omega) W);rw [hN.out] at hn M ⊢;obtain ⟨R, hR⟩ := exHid (linesL 0 code);have hall : Hid (linesL 0 (code.take n) = R) := Lib.hid (by rw [List.take_of_length_le (by rw [hN.out]; exact Nat.le_refl _)]; exact hR.out);rw [hR.out];clear h hx h0 ht hlc hcm;have hn64 : (n : Int) ≤ 8192 := by omega
 clear hR;go_enter Tryz.func17, Tryz.ntmps17
 go_wp2_with (go_at_call 29; refine M.mono ?_; rintro e w1 ⟨rfl, hb1⟩; replace hb1 := Lib.hid hb1)
 clear M;go_loopw [5, 6] (fun t5 t6 wr => ∃ (i : Nat) (X : List UInt8), i ≤ n ∧ t6 = .int .i64 i ∧ t5 = .string ⟨X.toArray⟩ ∧ Hid (X = linesL 0 (code.take i)) ∧ Hid (Below w.heap.size w wr)) (fun _ t6 _ => n - (intOf t6).toNat)
 case atStart => exact ⟨0, [], by omega, rfl, rfl, Lib.hid rfl, hb1⟩
 case round =>
   obtain ⟨i, X, hi, rfl, rfl, hXe, hb⟩ := hrel;clear hb1;rcases Nat.lt_or_ge i n with hlt | hge
   · have hlti : (i : Int) < (n : Int) := by omega
     have hil : i < code.length := by rw [hN.out]; exact hlt
     have hmem : inAt code i ∈ code := by rw [inAt_get hil]; exact List.getElem_mem hil
     have hlt2 := lines_take hil;have hlen := hL.out i;rw [List.length_take, hN.out, Nat.min_eq_left hi, ← hXe.out] at hlen;rw [← hXe.out] at hlt2;have LI := LN.out i (by omega) _ hmem;have hll := line_len (p := i) (by omega) (hF.out _ hmem).1 (hF.out _ hmem).2.1 (hF.out _ hmem).2.2.2;have hll2 : (lineL i (inAt code i) ++ [10]).length ≤ 81001 := by rw [List.length_append]; simp; omega
     generalize lineL i (inAt code i) ++ [10] = Y at LI hlt2 hll2;clear hll;rcases hxi : inAt code i with ⟨op, a, num, tx⟩
     rw [hxi] at LI;obtain ⟨g, off, cap0, ecv, hg, z0, z1, z2, z3⟩ := hI.out.cells hb.out (i := i) hil hxi;injection ecv with ec1 ec2 ec3;subst ec1 ec3;clear ec2 hmem hxi;unfold insV at LI;dsimp only at LI;replace LI := Lib.hid LI;replace hlt2 := Lib.hid hlt2;have hg1 : ¬ 9223372036854775807 < X.length + Y.length := by omega
     have hcat := Lib.hid (mk_snoc X Y);go_wp2_with (go_at_call 37; refine (LI.out _).mono ?_; rintro e w3 ⟨rfl, hbx⟩; have hb3 := Lib.hid (below_next hb.out hbx); clear hbx)
     go_roundw
     case rel => exact ⟨i + 1, X ++ Y, by omega, by go_num, by rw [← hcat.out], Lib.hid hlt2.out.symm, hb3⟩
     case measure => simp [intOf]; omega
   · obtain rfl : i = n := by omega
     have hlti : ¬ ((i : Int) < (i : Int)) := by omega
     have hXR : Hid (X = R) := Lib.hid (hXe.out.trans hall.out);clear hL hXe;go_wp2
     refine bodyPost_ret (results_tmp2 rfl _ _ _) rfl ?_;exact ⟨by rw [← hXR.out]; rfl, hb.out⟩
end Go.Proofs.YtcabolfookofoaaGreatDoor
