/- A part of the proof: URL. No condition. -/
import Derived.Deep.RegionHeld3
import Derived.Lib.Builder
import Derived.Test.YtcabolfookofoaaGreatDoorQ05
import Derived.Test.YtcabolfookofoaaGreatDoorQ11
import Derived.Test.YtcabolfookofoaaGreatDoorQ20
import Derived.Test.YtcabolfookofoaaGreatDoorQ21
set_option linter.unusedVariables false
set_option linter.unusedSimpArgs false
namespace Go.Proofs.YtcabolfookofoaaGreatDoor
open Go.RowKit
theorem keepH {w W : World} {q : Nat} {o : Obj} (hb : Below w.heap.size w W) (hq : w.heap[q]? = some o) : W.heap[q]? = some o := (hb.block q (Array.getElem?_eq_some_iff.1 hq).1).trans hq
theorem word_len (op : Nat) : (wordI op).length ≤ 10 := by
 unfold wordI;rcases Nat.lt_or_ge op 58 with h | h
 · have : ∀ k, k < 58 → (wordL.getD k []).length ≤ 10 := by decide
   exact this op h
 · rw [List.getD_eq_getElem?_getD, List.getElem?_eq_none (by show 58 ≤ op; exact h)]
   simp
theorem name_not_text {op : Nat} (h : (op == 24) = true) : nameI op = false := by
 have : op = 24 := by simpa using h
 subst this;rfl
theorem lineL_by (p op : Nat) (a num : Int) (tx : List UInt8) : lineL p ⟨op, a, num, tx⟩ = Lib.itoa (p : Int) ++ (32 :: wordI op) ++ blankL ((if (akI op : Int) != 0 then [Lib.itoa a] else []) ++ (if (op == 23) = true then [Lib.itoa num] else []) ++ (if (op == 24) = true then [quoteL tx] else if nameI op = true then [tx] else [])) := by
 unfold lineL behindA behindN behindT;dsimp only
 congr 2
 congr 1
 congr 1
 · by_cases h : akI op = 0 <;> simp [h]
 · by_cases h : op = 23 <;> simp [h]
 · by_cases h : op = 24 <;> simp [h]
set_option maxRecDepth 20000 in
set_option maxHeartbeats 8000000 in
theorem refLine_any (p : Nat) (hp : p ≤ 100000) (x : Ins) (ha : I64 x.a) (hn : I64 x.num) (ht : x.text.length ≤ 100000) (w : World) :
   Calls Tryz.prog 37 #[.int .i64 (p : Int), insV x] w fun e w' => e = .returned (.string ⟨(lineL p x ++ [10]).toArray⟩) ∧ Below w.heap.size w w' := by
 obtain ⟨op, a, num, tx⟩ := x;dsimp only at ha hn ht;unfold insV;dsimp only;have OF := Lib.hid (fun W => Of_any op W);obtain ⟨T0, hT0⟩ := exHid (Lib.itoa (p : Int));obtain ⟨T1, hT1⟩ := exHid (Lib.itoa a);obtain ⟨T2, hT2⟩ := exHid (Lib.itoa num);obtain ⟨T3, hT3⟩ := exHid (quoteL tx);have l0 := Lib.itoa_length_le (p : Int) (by omega) (by omega);have l1 := Lib.itoa_length_le a ha.1 ha.2;have l2 := Lib.itoa_length_le num hn.1 hn.2;have l3 : (quoteL tx).length ≤ 400002 := by
   have := quotesL_len tx;unfold quoteL;rw [List.length_cons, List.length_append];simp; omega
 have lw := word_len op;have C0 := fun W => refText_any (p : Int) W ⟨by omega, by omega⟩
 have C1 := fun W => refText_any a W ha
 have C2 := fun W => refText_any num W hn
 have C3 := fun W => refQuoted14_any ⟨tx.toArray⟩ W (by show tx.toArray.size ≤ _; simpa using ht)
 have hLn := lineL_by p op a num tx;have hx34 := Lib.hid (@name_not_text op);rw [hT0.out] at l0 C0 hLn;rw [hT1.out] at l1 C1 hLn;rw [hT2.out] at l2 C2 hLn;rw [show (⟨tx.toArray⟩ : ByteArray).data.toList = tx from rfl, hT3.out] at C3;rw [hT3.out] at l3 hLn;unfold rowV at OF;obtain ⟨L, hL⟩ := exHid (lineL p ⟨op, a, num, tx⟩);rw [hL.out] at hLn ⊢;generalize wordI op = wd at OF hLn lw;generalize (akI op : Int) = k1 at OF hLn;obtain ⟨b2, hb2⟩ := exHid (op == 23);obtain ⟨b3, hb3⟩ := exHid (op == 24);obtain ⟨b4, hb4⟩ := exHid (nameI op);have hx : Hid (b3 = true → b4 = false) := Lib.hid (fun h => by rw [← hb4.out]; exact hx34.out (by rw [hb3.out]; exact h));rw [hb2.out, hb3.out, hb4.out] at OF hLn;generalize (takesR op : Int) = k5 at OF;generalize (leaveR op : Int) = k6 at OF;clear hT0 hT1 hT2 hT3 hL hb2 hb3 hb4 hx34
 skip
 replace C0 := Lib.hid C0;replace C1 := Lib.hid C1;replace C2 := Lib.hid C2;replace C3 := Lib.hid C3;have hb1 := Lib.hid (show Below w.heap.size w (w.alloc (.cells #[.int .u8 op, .int .i64 a, .int .i64 num, .string ⟨tx.toArray⟩] 28)) by go_grown);have hq1 := Lib.hid (heap_alloc_new w (.cells #[.int .u8 op, .int .i64 a, .int .i64 num, .string ⟨tx.toArray⟩] 28));go_enter Tryz.func37, Tryz.ntmps37
 go_wp2_with (go_at_call 8; refine (OF.out _).mono ?_; rintro e w2 ⟨rfl, hbx⟩; have hq2 := Lib.hid (keepH hbx hq1.out); have hb2 := Lib.hid (below_next hb1.out hbx); clear hbx; have hbx := (show Below w2.heap.size w2 (w2.alloc (.cells #[.string ⟨wd.toArray⟩, .int .i64 k1, .bool b2, .bool b3, .bool b4, .int .i64 k5, .int .i64 k6] 24)) by go_grown); have hq3 := Lib.hid (keepH hbx hq2.out); have hb3 := Lib.hid (below_next hb2.out hbx); have hr3 := Lib.hid (show (w2.alloc (.cells #[.string ⟨wd.toArray⟩, .int .i64 k1, .bool b2, .bool b3, .bool b4, .int .i64 k5, .int .i64 k6] 24)).heap[w2.heap.size]? = some (.cells #[.string ⟨wd.toArray⟩, .int .i64 k1, .bool b2, .bool b3, .bool b4, .int .i64 k5, .int .i64 k6] 24 (0, 0)) from heap_alloc_new w2 (.cells #[.string ⟨wd.toArray⟩, .int .i64 k1, .bool b2, .bool b3, .bool b4, .int .i64 k5, .int .i64 k6] 24)); clear hbx)
 obtain ⟨W2, hW2⟩ : ∃ y, (w2.alloc (.cells #[.string ⟨wd.toArray⟩, .int .i64 k1, .bool b2, .bool b3, .bool b4, .int .i64 k5, .int .i64 k6] 24)) = y := ⟨_, rfl⟩;rw [hW2] at hq3 hb3 hr3 ⊢;clear hW2 hq2 hb2 hq1 hb1;have hA : Below W2.heap.size W2 W2.drew := (Below.refl _ W2).drew;have g1 : ¬ 9223372036854775807 < T0.length + 1 := by omega
 have g2 : ¬ 9223372036854775807 < T0.length + 1 + wd.length := by omega
 have v0 : W2.drew.cell? ⟨w2.heap.size, 0, none⟩ = some (.string ⟨wd.toArray⟩) := (Lib.cell_of_heap hr3.out 0).trans rfl;go_region_held3 (fun w' => Below W2.heap.size W2 w' ∧ w'.cell? ⟨w2.heap.size, 0, none⟩ = some (.string ⟨wd.toArray⟩))
   (first
   | exact hold
   | exact ⟨hold.1.drew, hold.2⟩
   | exact ⟨hA, v0⟩)
   ((go_at_call 57; refine (C0.out _).mono ?_; rintro e w' ⟨rfl, hb9⟩; have hold : Below W2.heap.size W2 w' ∧ w'.cell? ⟨w2.heap.size, 0, none⟩ = some (.string ⟨wd.toArray⟩) := (by first | exact ⟨below_next hold.1 hb9, Below.keeps hb9 hold.2⟩ | exact ⟨below_next hold.1.drew hb9, Below.keeps hb9 hold.2⟩ | exact ⟨below_next hA hb9, Below.keeps hb9 v0⟩)))
 have hb := Lib.hid (hb3.out.trans (hold.1.mono hb3.out.size));have hq := Lib.hid (keepH hold.1 hq3.out);have hr := Lib.hid (keepH hold.1 hr3.out);clear hb3 hq3 hr3 hA v0 hb9 g1 g2;have y1 : w'.cell? ⟨w.heap.size, 1, none⟩ = some (.int .i64 a) := (by rw [Lib.cell_of_heap hq.out]; rfl); have y2 : w'.cell? ⟨w.heap.size, 2, none⟩ = some (.int .i64 num) := (by rw [Lib.cell_of_heap hq.out]; rfl); have y3 : w'.cell? ⟨w.heap.size, 3, none⟩ = some (.string ⟨tx.toArray⟩) := (by rw [Lib.cell_of_heap hq.out]; rfl); have r1 : w'.cell? ⟨w2.heap.size, 1, none⟩ = some (.int .i64 k1) := (by rw [Lib.cell_of_heap hr.out]; rfl); have r2 : w'.cell? ⟨w2.heap.size, 2, none⟩ = some (.bool b2) := (by rw [Lib.cell_of_heap hr.out]; rfl); have r3 : w'.cell? ⟨w2.heap.size, 3, none⟩ = some (.bool b3) := (by rw [Lib.cell_of_heap hr.out]; rfl); have r4 : w'.cell? ⟨w2.heap.size, 4, none⟩ = some (.bool b4) := (by rw [Lib.cell_of_heap hr.out]; rfl);obtain ⟨wo, rfl⟩ : ∃ wo, wo = w' := ⟨_, rfl⟩;clear hold;rcases t1 : (k1 != 0) with _ | _ <;> rcases b2 with _ | _ <;> rcases b3 with _ | _ <;> rcases b4 with _ | _
 all_goals rw [t1] at hLn
 · simp only [Bool.false_eq_true, if_false, List.append_nil, blankL, List.flatMap_nil] at hLn
   replace hLn := Lib.hid hLn;go_wp2
   go_ret
   refine ⟨?_, hb.out⟩;rw [hLn.out];refine congrArg (fun b => Ending.returned (.string b)) ?_
   apply ByteArray.ext
   simp
 · simp only [Bool.false_eq_true, if_false, if_true, List.nil_append, List.append_nil, blankL, List.flatMap_cons, List.flatMap_nil] at hLn
   replace hLn := Lib.hid hLn;go_wp2
   go_ret
   refine ⟨?_, hb.out⟩;rw [hLn.out];refine congrArg (fun b => Ending.returned (.string b)) ?_
   apply ByteArray.ext
   simp
 · simp only [Bool.false_eq_true, if_false, if_true, List.nil_append, List.append_nil, blankL, List.flatMap_cons, List.flatMap_nil] at hLn
   replace hLn := Lib.hid hLn;go_wp2_with first
     | (go_at_call 58; (with_reducible refine (C3.out _).mono ?_); rintro e wn ⟨rfl, hbx⟩; have hq := Lib.hid (keepH hbx hq.out); have hr := Lib.hid (keepH hbx hr.out); have hb := Lib.hid (below_next hb.out hbx); clear hbx; have y1 : wn.cell? ⟨w.heap.size, 1, none⟩ = some (.int .i64 a) := (by rw [Lib.cell_of_heap hq.out]; rfl); have y2 : wn.cell? ⟨w.heap.size, 2, none⟩ = some (.int .i64 num) := (by rw [Lib.cell_of_heap hq.out]; rfl); have y3 : wn.cell? ⟨w.heap.size, 3, none⟩ = some (.string ⟨tx.toArray⟩) := (by rw [Lib.cell_of_heap hq.out]; rfl); have r1 : wn.cell? ⟨w2.heap.size, 1, none⟩ = some (.int .i64 k1) := (by rw [Lib.cell_of_heap hr.out]; rfl); have r2 : wn.cell? ⟨w2.heap.size, 2, none⟩ = some (.bool false) := (by rw [Lib.cell_of_heap hr.out]; rfl); have r3 : wn.cell? ⟨w2.heap.size, 3, none⟩ = some (.bool true) := (by rw [Lib.cell_of_heap hr.out]; rfl); have r4 : wn.cell? ⟨w2.heap.size, 4, none⟩ = some (.bool false) := (by rw [Lib.cell_of_heap hr.out]; rfl))
   go_ret
   refine ⟨?_, hb.out⟩;rw [hLn.out];refine congrArg (fun b => Ending.returned (.string b)) ?_
   apply ByteArray.ext
   simp
 · exact absurd (hx.out rfl) (by decide)
 · simp only [Bool.false_eq_true, if_false, if_true, List.nil_append, List.append_nil, blankL, List.flatMap_cons, List.flatMap_nil] at hLn
   replace hLn := Lib.hid hLn;go_wp2_with first
     | ((with_reducible refine (C2.out _).mono ?_); rintro e wn ⟨rfl, hbx⟩; have hq := Lib.hid (keepH hbx hq.out); have hr := Lib.hid (keepH hbx hr.out); have hb := Lib.hid (below_next hb.out hbx); clear hbx; have y1 : wn.cell? ⟨w.heap.size, 1, none⟩ = some (.int .i64 a) := (by rw [Lib.cell_of_heap hq.out]; rfl); have y2 : wn.cell? ⟨w.heap.size, 2, none⟩ = some (.int .i64 num) := (by rw [Lib.cell_of_heap hq.out]; rfl); have y3 : wn.cell? ⟨w.heap.size, 3, none⟩ = some (.string ⟨tx.toArray⟩) := (by rw [Lib.cell_of_heap hq.out]; rfl); have r1 : wn.cell? ⟨w2.heap.size, 1, none⟩ = some (.int .i64 k1) := (by rw [Lib.cell_of_heap hr.out]; rfl); have r2 : wn.cell? ⟨w2.heap.size, 2, none⟩ = some (.bool true) := (by rw [Lib.cell_of_heap hr.out]; rfl); have r3 : wn.cell? ⟨w2.heap.size, 3, none⟩ = some (.bool false) := (by rw [Lib.cell_of_heap hr.out]; rfl); have r4 : wn.cell? ⟨w2.heap.size, 4, none⟩ = some (.bool false) := (by rw [Lib.cell_of_heap hr.out]; rfl))
   go_ret
   refine ⟨?_, hb.out⟩;rw [hLn.out];refine congrArg (fun b => Ending.returned (.string b)) ?_
   apply ByteArray.ext
   simp
 · simp only [Bool.false_eq_true, if_false, if_true, List.nil_append, List.append_nil, List.cons_append, blankL, List.flatMap_cons, List.flatMap_nil] at hLn
   replace hLn := Lib.hid hLn;go_wp2_with first
     | ((with_reducible refine (C2.out _).mono ?_); rintro e wn ⟨rfl, hbx⟩; have hq := Lib.hid (keepH hbx hq.out); have hr := Lib.hid (keepH hbx hr.out); have hb := Lib.hid (below_next hb.out hbx); clear hbx; have y1 : wn.cell? ⟨w.heap.size, 1, none⟩ = some (.int .i64 a) := (by rw [Lib.cell_of_heap hq.out]; rfl); have y2 : wn.cell? ⟨w.heap.size, 2, none⟩ = some (.int .i64 num) := (by rw [Lib.cell_of_heap hq.out]; rfl); have y3 : wn.cell? ⟨w.heap.size, 3, none⟩ = some (.string ⟨tx.toArray⟩) := (by rw [Lib.cell_of_heap hq.out]; rfl); have r1 : wn.cell? ⟨w2.heap.size, 1, none⟩ = some (.int .i64 k1) := (by rw [Lib.cell_of_heap hr.out]; rfl); have r2 : wn.cell? ⟨w2.heap.size, 2, none⟩ = some (.bool true) := (by rw [Lib.cell_of_heap hr.out]; rfl); have r3 : wn.cell? ⟨w2.heap.size, 3, none⟩ = some (.bool false) := (by rw [Lib.cell_of_heap hr.out]; rfl); have r4 : wn.cell? ⟨w2.heap.size, 4, none⟩ = some (.bool true) := (by rw [Lib.cell_of_heap hr.out]; rfl))
   go_ret
   refine ⟨?_, hb.out⟩;rw [hLn.out];refine congrArg (fun b => Ending.returned (.string b)) ?_
   apply ByteArray.ext
   simp
 · simp only [Bool.false_eq_true, if_false, if_true, List.nil_append, List.append_nil, List.cons_append, blankL, List.flatMap_cons, List.flatMap_nil] at hLn
   replace hLn := Lib.hid hLn;go_wp2_with first
     | ((with_reducible refine (C2.out _).mono ?_); rintro e wn ⟨rfl, hbx⟩; have hq := Lib.hid (keepH hbx hq.out); have hr := Lib.hid (keepH hbx hr.out); have hb := Lib.hid (below_next hb.out hbx); clear hbx; have y1 : wn.cell? ⟨w.heap.size, 1, none⟩ = some (.int .i64 a) := (by rw [Lib.cell_of_heap hq.out]; rfl); have y2 : wn.cell? ⟨w.heap.size, 2, none⟩ = some (.int .i64 num) := (by rw [Lib.cell_of_heap hq.out]; rfl); have y3 : wn.cell? ⟨w.heap.size, 3, none⟩ = some (.string ⟨tx.toArray⟩) := (by rw [Lib.cell_of_heap hq.out]; rfl); have r1 : wn.cell? ⟨w2.heap.size, 1, none⟩ = some (.int .i64 k1) := (by rw [Lib.cell_of_heap hr.out]; rfl); have r2 : wn.cell? ⟨w2.heap.size, 2, none⟩ = some (.bool true) := (by rw [Lib.cell_of_heap hr.out]; rfl); have r3 : wn.cell? ⟨w2.heap.size, 3, none⟩ = some (.bool true) := (by rw [Lib.cell_of_heap hr.out]; rfl); have r4 : wn.cell? ⟨w2.heap.size, 4, none⟩ = some (.bool false) := (by rw [Lib.cell_of_heap hr.out]; rfl))
     | (go_at_call 58; (with_reducible refine (C3.out _).mono ?_); rintro e wn ⟨rfl, hbx⟩; have hq := Lib.hid (keepH hbx hq.out); have hr := Lib.hid (keepH hbx hr.out); have hb := Lib.hid (below_next hb.out hbx); clear hbx; have y1 : wn.cell? ⟨w.heap.size, 1, none⟩ = some (.int .i64 a) := (by rw [Lib.cell_of_heap hq.out]; rfl); have y2 : wn.cell? ⟨w.heap.size, 2, none⟩ = some (.int .i64 num) := (by rw [Lib.cell_of_heap hq.out]; rfl); have y3 : wn.cell? ⟨w.heap.size, 3, none⟩ = some (.string ⟨tx.toArray⟩) := (by rw [Lib.cell_of_heap hq.out]; rfl); have r1 : wn.cell? ⟨w2.heap.size, 1, none⟩ = some (.int .i64 k1) := (by rw [Lib.cell_of_heap hr.out]; rfl); have r2 : wn.cell? ⟨w2.heap.size, 2, none⟩ = some (.bool true) := (by rw [Lib.cell_of_heap hr.out]; rfl); have r3 : wn.cell? ⟨w2.heap.size, 3, none⟩ = some (.bool true) := (by rw [Lib.cell_of_heap hr.out]; rfl); have r4 : wn.cell? ⟨w2.heap.size, 4, none⟩ = some (.bool false) := (by rw [Lib.cell_of_heap hr.out]; rfl))
   go_ret
   refine ⟨?_, hb.out⟩;rw [hLn.out];refine congrArg (fun b => Ending.returned (.string b)) ?_
   apply ByteArray.ext
   simp
 · exact absurd (hx.out rfl) (by decide)
 · simp only [Bool.false_eq_true, if_false, if_true, List.append_nil, blankL, List.flatMap_cons, List.flatMap_nil] at hLn
   replace hLn := Lib.hid hLn;go_wp2_with first
     | ((with_reducible refine (C1.out _).mono ?_); rintro e wn ⟨rfl, hbx⟩; have hq := Lib.hid (keepH hbx hq.out); have hr := Lib.hid (keepH hbx hr.out); have hb := Lib.hid (below_next hb.out hbx); clear hbx; have y1 : wn.cell? ⟨w.heap.size, 1, none⟩ = some (.int .i64 a) := (by rw [Lib.cell_of_heap hq.out]; rfl); have y2 : wn.cell? ⟨w.heap.size, 2, none⟩ = some (.int .i64 num) := (by rw [Lib.cell_of_heap hq.out]; rfl); have y3 : wn.cell? ⟨w.heap.size, 3, none⟩ = some (.string ⟨tx.toArray⟩) := (by rw [Lib.cell_of_heap hq.out]; rfl); have r1 : wn.cell? ⟨w2.heap.size, 1, none⟩ = some (.int .i64 k1) := (by rw [Lib.cell_of_heap hr.out]; rfl); have r2 : wn.cell? ⟨w2.heap.size, 2, none⟩ = some (.bool false) := (by rw [Lib.cell_of_heap hr.out]; rfl); have r3 : wn.cell? ⟨w2.heap.size, 3, none⟩ = some (.bool false) := (by rw [Lib.cell_of_heap hr.out]; rfl); have r4 : wn.cell? ⟨w2.heap.size, 4, none⟩ = some (.bool false) := (by rw [Lib.cell_of_heap hr.out]; rfl))
   go_ret
   refine ⟨?_, hb.out⟩;rw [hLn.out];refine congrArg (fun b => Ending.returned (.string b)) ?_
   apply ByteArray.ext
   simp
 · simp only [Bool.false_eq_true, if_false, if_true, List.nil_append, List.append_nil, List.cons_append, blankL, List.flatMap_cons, List.flatMap_nil] at hLn
   replace hLn := Lib.hid hLn;go_wp2_with first
     | ((with_reducible refine (C1.out _).mono ?_); rintro e wn ⟨rfl, hbx⟩; have hq := Lib.hid (keepH hbx hq.out); have hr := Lib.hid (keepH hbx hr.out); have hb := Lib.hid (below_next hb.out hbx); clear hbx; have y1 : wn.cell? ⟨w.heap.size, 1, none⟩ = some (.int .i64 a) := (by rw [Lib.cell_of_heap hq.out]; rfl); have y2 : wn.cell? ⟨w.heap.size, 2, none⟩ = some (.int .i64 num) := (by rw [Lib.cell_of_heap hq.out]; rfl); have y3 : wn.cell? ⟨w.heap.size, 3, none⟩ = some (.string ⟨tx.toArray⟩) := (by rw [Lib.cell_of_heap hq.out]; rfl); have r1 : wn.cell? ⟨w2.heap.size, 1, none⟩ = some (.int .i64 k1) := (by rw [Lib.cell_of_heap hr.out]; rfl); have r2 : wn.cell? ⟨w2.heap.size, 2, none⟩ = some (.bool false) := (by rw [Lib.cell_of_heap hr.out]; rfl); have r3 : wn.cell? ⟨w2.heap.size, 3, none⟩ = some (.bool false) := (by rw [Lib.cell_of_heap hr.out]; rfl); have r4 : wn.cell? ⟨w2.heap.size, 4, none⟩ = some (.bool true) := (by rw [Lib.cell_of_heap hr.out]; rfl))
   go_ret
   refine ⟨?_, hb.out⟩;rw [hLn.out];refine congrArg (fun b => Ending.returned (.string b)) ?_
   apply ByteArray.ext
   simp
 · simp only [Bool.false_eq_true, if_false, if_true, List.nil_append, List.append_nil, List.cons_append, blankL, List.flatMap_cons, List.flatMap_nil] at hLn
   replace hLn := Lib.hid hLn;go_wp2_with first
     | ((with_reducible refine (C1.out _).mono ?_); rintro e wn ⟨rfl, hbx⟩; have hq := Lib.hid (keepH hbx hq.out); have hr := Lib.hid (keepH hbx hr.out); have hb := Lib.hid (below_next hb.out hbx); clear hbx; have y1 : wn.cell? ⟨w.heap.size, 1, none⟩ = some (.int .i64 a) := (by rw [Lib.cell_of_heap hq.out]; rfl); have y2 : wn.cell? ⟨w.heap.size, 2, none⟩ = some (.int .i64 num) := (by rw [Lib.cell_of_heap hq.out]; rfl); have y3 : wn.cell? ⟨w.heap.size, 3, none⟩ = some (.string ⟨tx.toArray⟩) := (by rw [Lib.cell_of_heap hq.out]; rfl); have r1 : wn.cell? ⟨w2.heap.size, 1, none⟩ = some (.int .i64 k1) := (by rw [Lib.cell_of_heap hr.out]; rfl); have r2 : wn.cell? ⟨w2.heap.size, 2, none⟩ = some (.bool false) := (by rw [Lib.cell_of_heap hr.out]; rfl); have r3 : wn.cell? ⟨w2.heap.size, 3, none⟩ = some (.bool true) := (by rw [Lib.cell_of_heap hr.out]; rfl); have r4 : wn.cell? ⟨w2.heap.size, 4, none⟩ = some (.bool false) := (by rw [Lib.cell_of_heap hr.out]; rfl))
     | (go_at_call 58; (with_reducible refine (C3.out _).mono ?_); rintro e wn ⟨rfl, hbx⟩; have hq := Lib.hid (keepH hbx hq.out); have hr := Lib.hid (keepH hbx hr.out); have hb := Lib.hid (below_next hb.out hbx); clear hbx; have y1 : wn.cell? ⟨w.heap.size, 1, none⟩ = some (.int .i64 a) := (by rw [Lib.cell_of_heap hq.out]; rfl); have y2 : wn.cell? ⟨w.heap.size, 2, none⟩ = some (.int .i64 num) := (by rw [Lib.cell_of_heap hq.out]; rfl); have y3 : wn.cell? ⟨w.heap.size, 3, none⟩ = some (.string ⟨tx.toArray⟩) := (by rw [Lib.cell_of_heap hq.out]; rfl); have r1 : wn.cell? ⟨w2.heap.size, 1, none⟩ = some (.int .i64 k1) := (by rw [Lib.cell_of_heap hr.out]; rfl); have r2 : wn.cell? ⟨w2.heap.size, 2, none⟩ = some (.bool false) := (by rw [Lib.cell_of_heap hr.out]; rfl); have r3 : wn.cell? ⟨w2.heap.size, 3, none⟩ = some (.bool true) := (by rw [Lib.cell_of_heap hr.out]; rfl); have r4 : wn.cell? ⟨w2.heap.size, 4, none⟩ = some (.bool false) := (by rw [Lib.cell_of_heap hr.out]; rfl))
   go_ret
   refine ⟨?_, hb.out⟩;rw [hLn.out];refine congrArg (fun b => Ending.returned (.string b)) ?_
   apply ByteArray.ext
   simp
 · exact absurd (hx.out rfl) (by decide)
 · simp only [Bool.false_eq_true, if_false, if_true, List.nil_append, List.append_nil, List.cons_append, blankL, List.flatMap_cons, List.flatMap_nil] at hLn
   replace hLn := Lib.hid hLn;go_wp2_with first
     | ((with_reducible refine (C1.out _).mono ?_); rintro e wn ⟨rfl, hbx⟩; have hq := Lib.hid (keepH hbx hq.out); have hr := Lib.hid (keepH hbx hr.out); have hb := Lib.hid (below_next hb.out hbx); clear hbx; have y1 : wn.cell? ⟨w.heap.size, 1, none⟩ = some (.int .i64 a) := (by rw [Lib.cell_of_heap hq.out]; rfl); have y2 : wn.cell? ⟨w.heap.size, 2, none⟩ = some (.int .i64 num) := (by rw [Lib.cell_of_heap hq.out]; rfl); have y3 : wn.cell? ⟨w.heap.size, 3, none⟩ = some (.string ⟨tx.toArray⟩) := (by rw [Lib.cell_of_heap hq.out]; rfl); have r1 : wn.cell? ⟨w2.heap.size, 1, none⟩ = some (.int .i64 k1) := (by rw [Lib.cell_of_heap hr.out]; rfl); have r2 : wn.cell? ⟨w2.heap.size, 2, none⟩ = some (.bool true) := (by rw [Lib.cell_of_heap hr.out]; rfl); have r3 : wn.cell? ⟨w2.heap.size, 3, none⟩ = some (.bool false) := (by rw [Lib.cell_of_heap hr.out]; rfl); have r4 : wn.cell? ⟨w2.heap.size, 4, none⟩ = some (.bool false) := (by rw [Lib.cell_of_heap hr.out]; rfl))
     | ((with_reducible refine (C2.out _).mono ?_); rintro e wn ⟨rfl, hbx⟩; have hq := Lib.hid (keepH hbx hq.out); have hr := Lib.hid (keepH hbx hr.out); have hb := Lib.hid (below_next hb.out hbx); clear hbx; have y1 : wn.cell? ⟨w.heap.size, 1, none⟩ = some (.int .i64 a) := (by rw [Lib.cell_of_heap hq.out]; rfl); have y2 : wn.cell? ⟨w.heap.size, 2, none⟩ = some (.int .i64 num) := (by rw [Lib.cell_of_heap hq.out]; rfl); have y3 : wn.cell? ⟨w.heap.size, 3, none⟩ = some (.string ⟨tx.toArray⟩) := (by rw [Lib.cell_of_heap hq.out]; rfl); have r1 : wn.cell? ⟨w2.heap.size, 1, none⟩ = some (.int .i64 k1) := (by rw [Lib.cell_of_heap hr.out]; rfl); have r2 : wn.cell? ⟨w2.heap.size, 2, none⟩ = some (.bool true) := (by rw [Lib.cell_of_heap hr.out]; rfl); have r3 : wn.cell? ⟨w2.heap.size, 3, none⟩ = some (.bool false) := (by rw [Lib.cell_of_heap hr.out]; rfl); have r4 : wn.cell? ⟨w2.heap.size, 4, none⟩ = some (.bool false) := (by rw [Lib.cell_of_heap hr.out]; rfl))
   go_ret
   refine ⟨?_, hb.out⟩;rw [hLn.out];refine congrArg (fun b => Ending.returned (.string b)) ?_
   apply ByteArray.ext
   simp
 · simp only [Bool.false_eq_true, if_false, if_true, List.nil_append, List.append_nil, List.cons_append, blankL, List.flatMap_cons, List.flatMap_nil] at hLn
   replace hLn := Lib.hid hLn;go_wp2_with first
     | ((with_reducible refine (C1.out _).mono ?_); rintro e wn ⟨rfl, hbx⟩; have hq := Lib.hid (keepH hbx hq.out); have hr := Lib.hid (keepH hbx hr.out); have hb := Lib.hid (below_next hb.out hbx); clear hbx; have y1 : wn.cell? ⟨w.heap.size, 1, none⟩ = some (.int .i64 a) := (by rw [Lib.cell_of_heap hq.out]; rfl); have y2 : wn.cell? ⟨w.heap.size, 2, none⟩ = some (.int .i64 num) := (by rw [Lib.cell_of_heap hq.out]; rfl); have y3 : wn.cell? ⟨w.heap.size, 3, none⟩ = some (.string ⟨tx.toArray⟩) := (by rw [Lib.cell_of_heap hq.out]; rfl); have r1 : wn.cell? ⟨w2.heap.size, 1, none⟩ = some (.int .i64 k1) := (by rw [Lib.cell_of_heap hr.out]; rfl); have r2 : wn.cell? ⟨w2.heap.size, 2, none⟩ = some (.bool true) := (by rw [Lib.cell_of_heap hr.out]; rfl); have r3 : wn.cell? ⟨w2.heap.size, 3, none⟩ = some (.bool false) := (by rw [Lib.cell_of_heap hr.out]; rfl); have r4 : wn.cell? ⟨w2.heap.size, 4, none⟩ = some (.bool true) := (by rw [Lib.cell_of_heap hr.out]; rfl))
     | ((with_reducible refine (C2.out _).mono ?_); rintro e wn ⟨rfl, hbx⟩; have hq := Lib.hid (keepH hbx hq.out); have hr := Lib.hid (keepH hbx hr.out); have hb := Lib.hid (below_next hb.out hbx); clear hbx; have y1 : wn.cell? ⟨w.heap.size, 1, none⟩ = some (.int .i64 a) := (by rw [Lib.cell_of_heap hq.out]; rfl); have y2 : wn.cell? ⟨w.heap.size, 2, none⟩ = some (.int .i64 num) := (by rw [Lib.cell_of_heap hq.out]; rfl); have y3 : wn.cell? ⟨w.heap.size, 3, none⟩ = some (.string ⟨tx.toArray⟩) := (by rw [Lib.cell_of_heap hq.out]; rfl); have r1 : wn.cell? ⟨w2.heap.size, 1, none⟩ = some (.int .i64 k1) := (by rw [Lib.cell_of_heap hr.out]; rfl); have r2 : wn.cell? ⟨w2.heap.size, 2, none⟩ = some (.bool true) := (by rw [Lib.cell_of_heap hr.out]; rfl); have r3 : wn.cell? ⟨w2.heap.size, 3, none⟩ = some (.bool false) := (by rw [Lib.cell_of_heap hr.out]; rfl); have r4 : wn.cell? ⟨w2.heap.size, 4, none⟩ = some (.bool true) := (by rw [Lib.cell_of_heap hr.out]; rfl))
   go_ret
   refine ⟨?_, hb.out⟩;rw [hLn.out];refine congrArg (fun b => Ending.returned (.string b)) ?_
   apply ByteArray.ext
   simp
 · simp only [Bool.false_eq_true, if_false, if_true, List.nil_append, List.append_nil, List.cons_append, blankL, List.flatMap_cons, List.flatMap_nil] at hLn
   replace hLn := Lib.hid hLn;go_wp2_with first
     | ((with_reducible refine (C1.out _).mono ?_); rintro e wn ⟨rfl, hbx⟩; have hq := Lib.hid (keepH hbx hq.out); have hr := Lib.hid (keepH hbx hr.out); have hb := Lib.hid (below_next hb.out hbx); clear hbx; have y1 : wn.cell? ⟨w.heap.size, 1, none⟩ = some (.int .i64 a) := (by rw [Lib.cell_of_heap hq.out]; rfl); have y2 : wn.cell? ⟨w.heap.size, 2, none⟩ = some (.int .i64 num) := (by rw [Lib.cell_of_heap hq.out]; rfl); have y3 : wn.cell? ⟨w.heap.size, 3, none⟩ = some (.string ⟨tx.toArray⟩) := (by rw [Lib.cell_of_heap hq.out]; rfl); have r1 : wn.cell? ⟨w2.heap.size, 1, none⟩ = some (.int .i64 k1) := (by rw [Lib.cell_of_heap hr.out]; rfl); have r2 : wn.cell? ⟨w2.heap.size, 2, none⟩ = some (.bool true) := (by rw [Lib.cell_of_heap hr.out]; rfl); have r3 : wn.cell? ⟨w2.heap.size, 3, none⟩ = some (.bool true) := (by rw [Lib.cell_of_heap hr.out]; rfl); have r4 : wn.cell? ⟨w2.heap.size, 4, none⟩ = some (.bool false) := (by rw [Lib.cell_of_heap hr.out]; rfl))
     | ((with_reducible refine (C2.out _).mono ?_); rintro e wn ⟨rfl, hbx⟩; have hq := Lib.hid (keepH hbx hq.out); have hr := Lib.hid (keepH hbx hr.out); have hb := Lib.hid (below_next hb.out hbx); clear hbx; have y1 : wn.cell? ⟨w.heap.size, 1, none⟩ = some (.int .i64 a) := (by rw [Lib.cell_of_heap hq.out]; rfl); have y2 : wn.cell? ⟨w.heap.size, 2, none⟩ = some (.int .i64 num) := (by rw [Lib.cell_of_heap hq.out]; rfl); have y3 : wn.cell? ⟨w.heap.size, 3, none⟩ = some (.string ⟨tx.toArray⟩) := (by rw [Lib.cell_of_heap hq.out]; rfl); have r1 : wn.cell? ⟨w2.heap.size, 1, none⟩ = some (.int .i64 k1) := (by rw [Lib.cell_of_heap hr.out]; rfl); have r2 : wn.cell? ⟨w2.heap.size, 2, none⟩ = some (.bool true) := (by rw [Lib.cell_of_heap hr.out]; rfl); have r3 : wn.cell? ⟨w2.heap.size, 3, none⟩ = some (.bool true) := (by rw [Lib.cell_of_heap hr.out]; rfl); have r4 : wn.cell? ⟨w2.heap.size, 4, none⟩ = some (.bool false) := (by rw [Lib.cell_of_heap hr.out]; rfl))
     | (go_at_call 58; (with_reducible refine (C3.out _).mono ?_); rintro e wn ⟨rfl, hbx⟩; have hq := Lib.hid (keepH hbx hq.out); have hr := Lib.hid (keepH hbx hr.out); have hb := Lib.hid (below_next hb.out hbx); clear hbx; have y1 : wn.cell? ⟨w.heap.size, 1, none⟩ = some (.int .i64 a) := (by rw [Lib.cell_of_heap hq.out]; rfl); have y2 : wn.cell? ⟨w.heap.size, 2, none⟩ = some (.int .i64 num) := (by rw [Lib.cell_of_heap hq.out]; rfl); have y3 : wn.cell? ⟨w.heap.size, 3, none⟩ = some (.string ⟨tx.toArray⟩) := (by rw [Lib.cell_of_heap hq.out]; rfl); have r1 : wn.cell? ⟨w2.heap.size, 1, none⟩ = some (.int .i64 k1) := (by rw [Lib.cell_of_heap hr.out]; rfl); have r2 : wn.cell? ⟨w2.heap.size, 2, none⟩ = some (.bool true) := (by rw [Lib.cell_of_heap hr.out]; rfl); have r3 : wn.cell? ⟨w2.heap.size, 3, none⟩ = some (.bool true) := (by rw [Lib.cell_of_heap hr.out]; rfl); have r4 : wn.cell? ⟨w2.heap.size, 4, none⟩ = some (.bool false) := (by rw [Lib.cell_of_heap hr.out]; rfl))
   go_ret
   refine ⟨?_, hb.out⟩;rw [hLn.out];refine congrArg (fun b => Ending.returned (.string b)) ?_
   apply ByteArray.ext
   simp
 · exact absurd (hx.out rfl) (by decide)
end Go.Proofs.YtcabolfookofoaaGreatDoor
