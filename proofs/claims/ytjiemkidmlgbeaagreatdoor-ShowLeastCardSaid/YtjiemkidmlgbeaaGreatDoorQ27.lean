/- A part of the proof: ShNP7, ShNA, ShNQ. No condition. -/
import Derived.Test.YtjiemkidmlgbeaaGreatDoorQ25
set_option linter.unusedVariables false
set_option linter.unusedSimpArgs false
namespace Go.Proofs.YtjiemkidmlgbeaaGreatDoor
open Go.RowKit Go.Shelf
set_option maxRecDepth 20000 in
set_option maxHeartbeats 2000000 in
theorem nar_P70 {w0 : World} (hM : MarksOK w0) {op : Nat} {kids num : Int} {text : List UInt8} (hw : widthN op = 7) {a : Tw} {ka : Fs} (hA : NarP w0 a ka) (hT : bareS ⟨op, kids, num, text⟩ (.cons a ka .nil) = markTg op ++ atS 7 a ka) {asked : Int} (hq : ¬ (7 : Int) < asked) (h1 : 1 ≤ asked) :
   Emit w0 41 [.int .i64 asked] ⟨op, kids, num, text⟩ (.cons a ka .nil) (atS asked.toNat ⟨op, kids, num, text⟩ (.cons a ka .nil)) := by
 intro w b R L h hL;rw [atS_wide (show asked.toNat ≤ widthN op by omega)];have eK : ((Fs.cons a ka .nil).flat ++ R) = a :: (ka.flat ++ R) := by simp [Fs.flat]
 rw [eK] at h hL;have e1 : ((⟨op, kids, num, text⟩ : Tw) :: a :: (ka.flat ++ R)).length = ka.flat.length + R.length + 2 := by simp only [List.length_cons, List.length_append] <;> omega
 have e2 : (a :: (ka.flat ++ R)).length = ka.flat.length + R.length + 1 := by simp only [List.length_cons, List.length_append] <;> omega
 rw [e1] at hL;rw [hT];have kN := next_any h;have kW := Lib.hid (fun W => width_any op W);rw [hw] at kW;unfold twV at kN;dsimp only at kN;replace kN := Lib.hid kN;clear h;show Calls Tryz.prog _ #[.pointer (some ⟨b, 0, none⟩), .int .i64 asked] w _
 go_enter_defers Tryz.func41, Tryz.ntmps41
 go_wp2_with fail
 with_reducible refine kN.out.mono ?_
 rintro ee w1 ⟨rfl, hW1, hO1⟩;have hal := (Below.refl w1.heap.size w1).alloc (Nat.le_refl _) (.cells #[.int .u8 (op : Int), .int .i64 kids, .int .i64 num, .string ⟨text.toArray⟩] 31);have hX := heap_alloc_new w1 (.cells #[.int .u8 (op : Int), .int .i64 kids, .int .i64 num, .string ⟨text.toArray⟩] 31 (0, 0));have hqb : w1.heap.size ≠ b := by have := hW1.lt; omega
 have hO2 := Lib.hid (Fw.then (Only.mono hO1 (fun k _ e => .inl e)) (Only.of_below hal) : Only (Fw w0.heap.size b w) w _);have hW2 := Lib.hid (hW1.keep hal);clear hW1 hO1 hal kN;go_wp2_with fail
 with_reducible refine (kW.out _).mono ?_
 rintro ee w2 ⟨rfl, rfl⟩;clear kW;generalize w1.alloc (.cells #[.int .u8 (op : Int), .int .i64 kids, .int .i64 num, .string ⟨text.toArray⟩] 31) = w2 at *;generalize w1.heap.size = q at *;have hW := hW2;have hO := hO2;clear hW2 hO2;have hbW := hW.out.lt;obtain ⟨LL, hLe⟩ : ∃ l, l = L := ⟨_, rfl⟩;have hLL : LL.length ≤ L.length + 1 := by rw [hLe]; omega
 rw [← hLe] at hW;replace hLe := Lib.hid hLe;have hla := at_len 7 a ka;have hlm := mark_len op;have x0 := cellW hX 0;simp only [List.getElem?_toArray, List.getElem?_cons_zero] at x0;have kc0 := Lib.hid (markS_any hW.out hM op (by omega));clear hW;go_wp2_with fail
 with_reducible refine kc0.out.mono ?_
 rintro ee wa ⟨rfl, hWn, hOn⟩;clear x0 hX;replace hO := Lib.hid (Fw.then hO.out hOn);have kc1 := Lib.hid (hA 7 (by decide) (by decide) _ b R _ hWn (by rw [List.length_append, e2]; omega));clear hWn hOn kc0;go_wp2_with fail
 with_reducible refine kc1.out.mono ?_
 rintro ee wb ⟨rfl, hWn, hOn⟩;replace hO := Lib.hid (Fw.then hO.out hOn);replace hWn : Wr w0 wb b R ((LL ++ markTg op) ++ atS 7 a ka) := hWn;rw [hLe.out] at hWn;have hW := Lib.hid hWn;clear hWn hOn kc1;have hlen : (LL ++ markTg op ++ atS 7 a ka).length ≤ 1000000 := by simp only [List.length_append]; omega
 rw [hLe.out] at hlen;go_wp2_with fail
 refine ⟨.tuple #[], results_none rfl _ _ _, rfl, ?_, hO.out⟩;have e9 : ∀ (W : World) (A Z : List Tg), A = Z → Wr w0 W b R A → Wr w0 W b R Z := fun _ _ _ e h => e ▸ h;refine e9 _ _ _ ?_ hW.out;simp
set_option maxRecDepth 20000 in
set_option maxHeartbeats 2000000 in
theorem nar_P71 {w0 : World} (hM : MarksOK w0) {op : Nat} {kids num : Int} {text : List UInt8} (hw : widthN op = 7) {a : Tw} {ka : Fs} (hA : NarP w0 a ka) (hT : bareS ⟨op, kids, num, text⟩ (.cons a ka .nil) = markTg op ++ atS 7 a ka) {asked : Int} (hq : (7 : Int) < asked) (h1 : 1 ≤ asked) :
   Emit w0 41 [.int .i64 asked] ⟨op, kids, num, text⟩ (.cons a ka .nil) (atS asked.toNat ⟨op, kids, num, text⟩ (.cons a ka .nil)) := by
 intro w b R L h hL;rw [atS_narrow (show widthN op < asked.toNat by omega)];have eK : ((Fs.cons a ka .nil).flat ++ R) = a :: (ka.flat ++ R) := by simp [Fs.flat]
 rw [eK] at h hL;have e1 : ((⟨op, kids, num, text⟩ : Tw) :: a :: (ka.flat ++ R)).length = ka.flat.length + R.length + 2 := by simp only [List.length_cons, List.length_append] <;> omega
 have e2 : (a :: (ka.flat ++ R)).length = ka.flat.length + R.length + 1 := by simp only [List.length_cons, List.length_append] <;> omega
 rw [e1] at hL;rw [hT];have kN := next_any h;have kW := Lib.hid (fun W => width_any op W);rw [hw] at kW;unfold twV at kN;dsimp only at kN;replace kN := Lib.hid kN;clear h;show Calls Tryz.prog _ #[.pointer (some ⟨b, 0, none⟩), .int .i64 asked] w _
 go_enter_defers Tryz.func41, Tryz.ntmps41
 go_wp2_with fail
 with_reducible refine kN.out.mono ?_
 rintro ee w1 ⟨rfl, hW1, hO1⟩;have hal := (Below.refl w1.heap.size w1).alloc (Nat.le_refl _) (.cells #[.int .u8 (op : Int), .int .i64 kids, .int .i64 num, .string ⟨text.toArray⟩] 31);have hX := heap_alloc_new w1 (.cells #[.int .u8 (op : Int), .int .i64 kids, .int .i64 num, .string ⟨text.toArray⟩] 31 (0, 0));have hqb : w1.heap.size ≠ b := by have := hW1.lt; omega
 have hO2 := Lib.hid (Fw.then (Only.mono hO1 (fun k _ e => .inl e)) (Only.of_below hal) : Only (Fw w0.heap.size b w) w _);have hW2 := Lib.hid (hW1.keep hal);clear hW1 hO1 hal kN;go_wp2_with fail
 with_reducible refine (kW.out _).mono ?_
 rintro ee w2 ⟨rfl, rfl⟩;clear kW;generalize w1.alloc (.cells #[.int .u8 (op : Int), .int .i64 kids, .int .i64 num, .string ⟨text.toArray⟩] 31) = w2 at *;generalize w1.heap.size = q at *;have hal3 := (Below.refl w2.heap.size w2).alloc (Nat.le_refl _) (.cells #[.string ⟨#[40]⟩] 9);have kS := Lib.hid (signs_any (hW2.out.keep hal3) (strsS_new (base := w0.heap.size) w2 B.opn hW2.out.lt rfl) (by simp only [List.length_singleton]; omega));have hX3 := Lib.hid ((hal3.block q (Array.getElem?_eq_some_iff.1 hX).1).trans hX);have hO3 := Lib.hid (Fw.then hO2.out (Only.of_below hal3));clear hX hal3 hO2 hW2;go_wp2_with fail
 with_reducible refine kS.out.mono ?_
 rintro ee w3 ⟨rfl, hW3, hO3'⟩;have hX4 := Fw.held hO3' hX3.out (by decide) hqb;have hO4 := Lib.hid (Fw.then hO3.out hO3');have hal5 := (Below.refl w3.heap.size w3).alloc (Nat.le_refl _) (.cells #[.string ⟨#[41]⟩] 9);have hS := Lib.hid (strsS_new (base := w0.heap.size) w3 B.cls hW3.lt rfl);have hX := (hal5.block q (Array.getElem?_eq_some_iff.1 hX4).1).trans hX4;have hW := Lib.hid (hW3.keep hal5);have hO := Lib.hid (Fw.then hO4.out (Only.of_below hal5));clear kS hX3 hX4 hO3 hO3' hO4 hal5;have hbW := hW3.lt;clear hW3;replace hW : Hid (Wr w0 (w3.alloc (.cells #[.string ⟨#[41]⟩] 9)) b _ (L ++ [signTg B.opn])) := hW;obtain ⟨LL, hLe⟩ : ∃ l, l = L ++ [signTg B.opn] := ⟨_, rfl⟩;have hLL : LL.length ≤ L.length + 1 := by rw [hLe]; simp
 rw [← hLe] at hW;replace hLe := Lib.hid hLe;have hla := at_len 7 a ka;have hlm := mark_len op;have x0 := cellW hX 0;simp only [List.getElem?_toArray, List.getElem?_cons_zero] at x0;have kc0 := Lib.hid (markS_any hW.out hM op (by omega));clear hW;go_wp2_with fail
 with_reducible refine kc0.out.mono ?_
 rintro ee wa ⟨rfl, hWn, hOn⟩;replace hS := Lib.hid (hS.out.held hOn);clear x0 hX;replace hO := Lib.hid (Fw.then hO.out hOn);have kc1 := Lib.hid (hA 7 (by decide) (by decide) _ b R _ hWn (by rw [List.length_append, e2]; omega));clear hWn hOn kc0;go_wp2_with fail
 with_reducible refine kc1.out.mono ?_
 rintro ee wb ⟨rfl, hWn, hOn⟩;replace hS := Lib.hid (hS.out.held hOn);replace hO := Lib.hid (Fw.then hO.out hOn);replace hWn : Wr w0 wb b R ((LL ++ markTg op) ++ atS 7 a ka) := hWn;rw [hLe.out] at hWn;have hW := Lib.hid hWn;clear hWn hOn kc1;have hlen : (LL ++ markTg op ++ atS 7 a ka).length ≤ 1000000 := by simp only [List.length_append]; omega
 rw [hLe.out] at hlen;have kD := Lib.hid (signs_d hW.out hS.out (by simp only [List.length_singleton]; omega));go_wp2_with fail
 refine leaves_cons (f := 62) (by simp) (by simp [go_sem]; rfl) ?_;refine (kD.out .returning).mono ?_;rintro ee u3 w9 ⟨rfl, rfl, hW9, hO9⟩;refine ⟨.tuple #[], results_none rfl _ _ _, rfl, ?_, Fw.then hO.out hO9⟩;have e9 : ∀ (A Z : List Tg), A = Z → Wr w0 w9 b R A → Wr w0 w9 b R Z := fun _ _ e h => e ▸ h;refine e9 _ _ ?_ hW9;simp
end Go.Proofs.YtjiemkidmlgbeaaGreatDoor
namespace Go.Proofs.YtjiemkidmlgbeaaGreatDoor
open Go.RowKit Go.Shelf
set_option maxRecDepth 20000 in
set_option maxHeartbeats 2000000 in
theorem nar_A0 {w0 : World} (hM : MarksOK w0) {op : Nat} {kids num : Int} {text : List UInt8} (hw : widthN op = 8) {a c : Tw} {ka kc : Fs} (hA : NarP w0 a ka) (hC : Emit w0 20 [] c kc (bareS c kc)) (hT : bareS ⟨op, kids, num, text⟩ (.cons a ka (.cons c kc .nil)) = atS 8 a ka ++ (signTg B.lsq :: (bareS c kc ++ [signTg B.rsq]))) {asked : Int} (hq : ¬ (8 : Int) < asked) (h1 : 1 ≤ asked) :
   Emit w0 41 [.int .i64 asked] ⟨op, kids, num, text⟩ (.cons a ka (.cons c kc .nil)) (atS asked.toNat ⟨op, kids, num, text⟩ (.cons a ka (.cons c kc .nil))) := by
 intro w b R L h hL;rw [atS_wide (show asked.toNat ≤ widthN op by omega)];have eK : ((Fs.cons a ka (.cons c kc .nil)).flat ++ R) = a :: (ka.flat ++ (c :: (kc.flat ++ R))) := by simp [Fs.flat]
 rw [eK] at h hL;have e1 : ((⟨op, kids, num, text⟩ : Tw) :: a :: (ka.flat ++ (c :: (kc.flat ++ R)))).length = ka.flat.length + kc.flat.length + R.length + 3 := by simp only [List.length_cons, List.length_append] <;> omega
 have e2 : (a :: (ka.flat ++ (c :: (kc.flat ++ R)))).length = ka.flat.length + kc.flat.length + R.length + 2 := by simp only [List.length_cons, List.length_append] <;> omega
 have e3 : (c :: (kc.flat ++ R)).length = kc.flat.length + R.length + 1 := by simp only [List.length_cons, List.length_append] <;> omega
 rw [e1] at hL;rw [hT];have kN := next_any h;have kW := Lib.hid (fun W => width_any op W);rw [hw] at kW;unfold twV at kN;dsimp only at kN;replace kN := Lib.hid kN;clear h;show Calls Tryz.prog _ #[.pointer (some ⟨b, 0, none⟩), .int .i64 asked] w _
 go_enter_defers Tryz.func41, Tryz.ntmps41
 go_wp2_with fail
 with_reducible refine kN.out.mono ?_
 rintro ee w1 ⟨rfl, hW1, hO1⟩;have hal := (Below.refl w1.heap.size w1).alloc (Nat.le_refl _) (.cells #[.int .u8 (op : Int), .int .i64 kids, .int .i64 num, .string ⟨text.toArray⟩] 31);have hX := heap_alloc_new w1 (.cells #[.int .u8 (op : Int), .int .i64 kids, .int .i64 num, .string ⟨text.toArray⟩] 31 (0, 0));have hqb : w1.heap.size ≠ b := by have := hW1.lt; omega
 have hO2 := Lib.hid (Fw.then (Only.mono hO1 (fun k _ e => .inl e)) (Only.of_below hal) : Only (Fw w0.heap.size b w) w _);have hW2 := Lib.hid (hW1.keep hal);clear hW1 hO1 hal kN;go_wp2_with fail
 with_reducible refine (kW.out _).mono ?_
 rintro ee w2 ⟨rfl, rfl⟩;clear kW;generalize w1.alloc (.cells #[.int .u8 (op : Int), .int .i64 kids, .int .i64 num, .string ⟨text.toArray⟩] 31) = w2 at *;generalize w1.heap.size = q at *;have hW := hW2;have hO := hO2;clear hW2 hO2;have hbW := hW.out.lt;obtain ⟨LL, hLe⟩ : ∃ l, l = L := ⟨_, rfl⟩;have hLL : LL.length ≤ L.length + 1 := by rw [hLe]; omega
 rw [← hLe] at hW;replace hLe := Lib.hid hLe;have hla := at_len 8 a ka;have hlc := bare_len c kc;have hmf : ∀ (fn : Fn) (first cap : Array Value) (w : World), (Instr.makeFunc fn first cap).run Tryz.prog w = .ok (.func fn first cap) w := fun _ _ _ _ => rfl;have kc0 := Lib.hid (hA 8 (by decide) (by decide) _ b (c :: (kc.flat ++ R)) LL hW.out (by rw [e2]; omega));clear hW hX;go_wp2_with fail
 with_reducible refine kc0.out.mono ?_
 rintro ee wa ⟨rfl, hWn, hOn⟩;replace hO := Lib.hid (Fw.then hO.out hOn);have hWm : Wr w0 wa b ((Fs.cons c kc .nil).flat ++ R) (LL ++ atS 8 a ka) := by
   have e : (Fs.cons c kc .nil).flat ++ R = c :: (kc.flat ++ R) := by simp [Fs.flat]
   rw [e];exact hWn
 have hLm : (LL ++ atS 8 a ka).length + 100 * ((Fs.cons c kc .nil).flat ++ R).length ≤ 999950 := by
   have e : (Fs.cons c kc .nil).flat ++ R = c :: (kc.flat ++ R) := by simp [Fs.flat]
   rw [e, List.length_append, e3];omega
 have kc1 : Hid (Calls Tryz.prog 38 #[.pointer (some ⟨b, 0, none⟩), .string ⟨#[91]⟩, .int .i64 1, .func (.func 20) #[.pointer (some ⟨b, 0, none⟩)] #[], .string ⟨#[93]⟩] wa fun e W9 => e = .returned (.tuple #[]) ∧ Wr w0 W9 b R (LL ++ atS 8 a ka ++ (signTg B.lsq :: (commaS 0 (.cons c kc .nil) ++ [signTg B.rsq]))) ∧ Only (Fw w0.heap.size b wa) wa W9) := Lib.hid (listS_any (F := .cons c kc .nil) (n := 1) en_expr10 ⟨hC, trivial⟩ hWm hLm rfl B.lsq B.rsq);clear hWn hOn kc0 hWm hLm;go_wp2_with fail
 with_reducible refine kc1.out.mono ?_
 rintro ee wb ⟨rfl, hWn, hOn⟩;replace hO := Lib.hid (Fw.then hO.out hOn);rw [show commaS 0 (.cons c kc .nil) = bareS c kc by show [] ++ bareS c kc ++ [] = _; simp, hLe.out] at hWn;have hW := Lib.hid hWn;clear hWn hOn kc1;have hlen : (LL ++ atS 8 a ka ++ (signTg B.lsq :: (bareS c kc ++ [signTg B.rsq]))).length ≤ 1000000 := by simp only [List.length_append, List.length_cons, List.length_nil]; omega
 rw [hLe.out] at hlen;go_wp2_with fail
 refine ⟨.tuple #[], results_none rfl _ _ _, rfl, ?_, hO.out⟩;have e9 : ∀ (W : World) (A Z : List Tg), A = Z → Wr w0 W b R A → Wr w0 W b R Z := fun _ _ _ e h => e ▸ h;refine e9 _ _ _ ?_ hW.out;simp
set_option maxRecDepth 20000 in
set_option maxHeartbeats 2000000 in
theorem nar_A1 {w0 : World} (hM : MarksOK w0) {op : Nat} {kids num : Int} {text : List UInt8} (hw : widthN op = 8) {a c : Tw} {ka kc : Fs} (hA : NarP w0 a ka) (hC : Emit w0 20 [] c kc (bareS c kc)) (hT : bareS ⟨op, kids, num, text⟩ (.cons a ka (.cons c kc .nil)) = atS 8 a ka ++ (signTg B.lsq :: (bareS c kc ++ [signTg B.rsq]))) {asked : Int} (hq : (8 : Int) < asked) (h1 : 1 ≤ asked) :
   Emit w0 41 [.int .i64 asked] ⟨op, kids, num, text⟩ (.cons a ka (.cons c kc .nil)) (atS asked.toNat ⟨op, kids, num, text⟩ (.cons a ka (.cons c kc .nil))) := by
 intro w b R L h hL;rw [atS_narrow (show widthN op < asked.toNat by omega)];have eK : ((Fs.cons a ka (.cons c kc .nil)).flat ++ R) = a :: (ka.flat ++ (c :: (kc.flat ++ R))) := by simp [Fs.flat]
 rw [eK] at h hL;have e1 : ((⟨op, kids, num, text⟩ : Tw) :: a :: (ka.flat ++ (c :: (kc.flat ++ R)))).length = ka.flat.length + kc.flat.length + R.length + 3 := by simp only [List.length_cons, List.length_append] <;> omega
 have e2 : (a :: (ka.flat ++ (c :: (kc.flat ++ R)))).length = ka.flat.length + kc.flat.length + R.length + 2 := by simp only [List.length_cons, List.length_append] <;> omega
 have e3 : (c :: (kc.flat ++ R)).length = kc.flat.length + R.length + 1 := by simp only [List.length_cons, List.length_append] <;> omega
 rw [e1] at hL;rw [hT];have kN := next_any h;have kW := Lib.hid (fun W => width_any op W);rw [hw] at kW;unfold twV at kN;dsimp only at kN;replace kN := Lib.hid kN;clear h;show Calls Tryz.prog _ #[.pointer (some ⟨b, 0, none⟩), .int .i64 asked] w _
 go_enter_defers Tryz.func41, Tryz.ntmps41
 go_wp2_with fail
 with_reducible refine kN.out.mono ?_
 rintro ee w1 ⟨rfl, hW1, hO1⟩;have hal := (Below.refl w1.heap.size w1).alloc (Nat.le_refl _) (.cells #[.int .u8 (op : Int), .int .i64 kids, .int .i64 num, .string ⟨text.toArray⟩] 31);have hX := heap_alloc_new w1 (.cells #[.int .u8 (op : Int), .int .i64 kids, .int .i64 num, .string ⟨text.toArray⟩] 31 (0, 0));have hqb : w1.heap.size ≠ b := by have := hW1.lt; omega
 have hO2 := Lib.hid (Fw.then (Only.mono hO1 (fun k _ e => .inl e)) (Only.of_below hal) : Only (Fw w0.heap.size b w) w _);have hW2 := Lib.hid (hW1.keep hal);clear hW1 hO1 hal kN;go_wp2_with fail
 with_reducible refine (kW.out _).mono ?_
 rintro ee w2 ⟨rfl, rfl⟩;clear kW;generalize w1.alloc (.cells #[.int .u8 (op : Int), .int .i64 kids, .int .i64 num, .string ⟨text.toArray⟩] 31) = w2 at *;generalize w1.heap.size = q at *;have hal3 := (Below.refl w2.heap.size w2).alloc (Nat.le_refl _) (.cells #[.string ⟨#[40]⟩] 9);have kS := Lib.hid (signs_any (hW2.out.keep hal3) (strsS_new (base := w0.heap.size) w2 B.opn hW2.out.lt rfl) (by simp only [List.length_singleton]; omega));have hX3 := Lib.hid ((hal3.block q (Array.getElem?_eq_some_iff.1 hX).1).trans hX);have hO3 := Lib.hid (Fw.then hO2.out (Only.of_below hal3));clear hX hal3 hO2 hW2;go_wp2_with fail
 with_reducible refine kS.out.mono ?_
 rintro ee w3 ⟨rfl, hW3, hO3'⟩;have hX4 := Fw.held hO3' hX3.out (by decide) hqb;have hO4 := Lib.hid (Fw.then hO3.out hO3');have hal5 := (Below.refl w3.heap.size w3).alloc (Nat.le_refl _) (.cells #[.string ⟨#[41]⟩] 9);have hS := Lib.hid (strsS_new (base := w0.heap.size) w3 B.cls hW3.lt rfl);have hX := (hal5.block q (Array.getElem?_eq_some_iff.1 hX4).1).trans hX4;have hW := Lib.hid (hW3.keep hal5);have hO := Lib.hid (Fw.then hO4.out (Only.of_below hal5));clear kS hX3 hX4 hO3 hO3' hO4 hal5;have hbW := hW3.lt;clear hW3;replace hW : Hid (Wr w0 (w3.alloc (.cells #[.string ⟨#[41]⟩] 9)) b _ (L ++ [signTg B.opn])) := hW;obtain ⟨LL, hLe⟩ : ∃ l, l = L ++ [signTg B.opn] := ⟨_, rfl⟩;have hLL : LL.length ≤ L.length + 1 := by rw [hLe]; simp
 rw [← hLe] at hW;replace hLe := Lib.hid hLe;have hla := at_len 8 a ka;have hlc := bare_len c kc;have hmf : ∀ (fn : Fn) (first cap : Array Value) (w : World), (Instr.makeFunc fn first cap).run Tryz.prog w = .ok (.func fn first cap) w := fun _ _ _ _ => rfl;have kc0 := Lib.hid (hA 8 (by decide) (by decide) _ b (c :: (kc.flat ++ R)) LL hW.out (by rw [e2]; omega));clear hW hX;go_wp2_with fail
 with_reducible refine kc0.out.mono ?_
 rintro ee wa ⟨rfl, hWn, hOn⟩;replace hS := Lib.hid (hS.out.held hOn);replace hO := Lib.hid (Fw.then hO.out hOn);have hWm : Wr w0 wa b ((Fs.cons c kc .nil).flat ++ R) (LL ++ atS 8 a ka) := by
   have e : (Fs.cons c kc .nil).flat ++ R = c :: (kc.flat ++ R) := by simp [Fs.flat]
   rw [e];exact hWn
 have hLm : (LL ++ atS 8 a ka).length + 100 * ((Fs.cons c kc .nil).flat ++ R).length ≤ 999950 := by
   have e : (Fs.cons c kc .nil).flat ++ R = c :: (kc.flat ++ R) := by simp [Fs.flat]
   rw [e, List.length_append, e3];omega
 have kc1 : Hid (Calls Tryz.prog 38 #[.pointer (some ⟨b, 0, none⟩), .string ⟨#[91]⟩, .int .i64 1, .func (.func 20) #[.pointer (some ⟨b, 0, none⟩)] #[], .string ⟨#[93]⟩] wa fun e W9 => e = .returned (.tuple #[]) ∧ Wr w0 W9 b R (LL ++ atS 8 a ka ++ (signTg B.lsq :: (commaS 0 (.cons c kc .nil) ++ [signTg B.rsq]))) ∧ Only (Fw w0.heap.size b wa) wa W9) := Lib.hid (listS_any (F := .cons c kc .nil) (n := 1) en_expr10 ⟨hC, trivial⟩ hWm hLm rfl B.lsq B.rsq);clear hWn hOn kc0 hWm hLm;go_wp2_with fail
 with_reducible refine kc1.out.mono ?_
 rintro ee wb ⟨rfl, hWn, hOn⟩;replace hS := Lib.hid (hS.out.held hOn);replace hO := Lib.hid (Fw.then hO.out hOn);rw [show commaS 0 (.cons c kc .nil) = bareS c kc by show [] ++ bareS c kc ++ [] = _; simp, hLe.out] at hWn;have hW := Lib.hid hWn;clear hWn hOn kc1;have hlen : (LL ++ atS 8 a ka ++ (signTg B.lsq :: (bareS c kc ++ [signTg B.rsq]))).length ≤ 1000000 := by simp only [List.length_append, List.length_cons, List.length_nil]; omega
 rw [hLe.out] at hlen;have kD := Lib.hid (signs_d hW.out hS.out (by simp only [List.length_singleton]; omega));go_wp2_with fail
 refine leaves_cons (f := 62) (by simp) (by simp [go_sem]; rfl) ?_;refine (kD.out .returning).mono ?_;rintro ee u3 w9 ⟨rfl, rfl, hW9, hO9⟩;refine ⟨.tuple #[], results_none rfl _ _ _, rfl, ?_, Fw.then hO.out hO9⟩;have e9 : ∀ (A Z : List Tg), A = Z → Wr w0 w9 b R A → Wr w0 w9 b R Z := fun _ _ e h => e ▸ h;refine e9 _ _ ?_ hW9;simp
end Go.Proofs.YtjiemkidmlgbeaaGreatDoor
namespace Go.Proofs.YtjiemkidmlgbeaaGreatDoor
open Go.RowKit Go.Shelf
set_option maxRecDepth 20000 in
set_option maxHeartbeats 2000000 in
theorem nar_Q0 {w0 : World} (hM : MarksOK w0) {op : Nat} {kids num : Int} {text : List UInt8} (hw : widthN op = 9) {k : Fs} (hP : PrimP w0 ⟨op, kids, num, text⟩ k) {asked : Int} (hq : ¬ (9 : Int) < asked) (h1 : 1 ≤ asked) :
   Emit w0 41 [.int .i64 asked] ⟨op, kids, num, text⟩ k (atS asked.toNat ⟨op, kids, num, text⟩ k) := by
 intro w b R L h hL;rw [atS_wide (show asked.toNat ≤ widthN op by omega)];have e1 : ((⟨op, kids, num, text⟩ : Tw) :: (k.flat ++ R)).length = (k.flat ++ R).length + 1 := List.length_cons;rw [e1] at hL;have kN := next_any h;have kW := Lib.hid (fun W => width_any op W);rw [hw] at kW;unfold twV at kN;dsimp only at kN;replace kN := Lib.hid kN;clear h;show Calls Tryz.prog _ #[.pointer (some ⟨b, 0, none⟩), .int .i64 asked] w _
 go_enter_defers Tryz.func41, Tryz.ntmps41
 go_wp2_with fail
 with_reducible refine kN.out.mono ?_
 rintro ee w1 ⟨rfl, hW1, hO1⟩;have hal := (Below.refl w1.heap.size w1).alloc (Nat.le_refl _) (.cells #[.int .u8 (op : Int), .int .i64 kids, .int .i64 num, .string ⟨text.toArray⟩] 31);have hX := heap_alloc_new w1 (.cells #[.int .u8 (op : Int), .int .i64 kids, .int .i64 num, .string ⟨text.toArray⟩] 31 (0, 0));have hqb : w1.heap.size ≠ b := by have := hW1.lt; omega
 have hO2 := Lib.hid (Fw.then (Only.mono hO1 (fun k _ e => .inl e)) (Only.of_below hal) : Only (Fw w0.heap.size b w) w _);have hW2 := Lib.hid (hW1.keep hal);clear hW1 hO1 hal kN;go_wp2_with fail
 with_reducible refine (kW.out _).mono ?_
 rintro ee w2 ⟨rfl, rfl⟩;clear kW;generalize w1.alloc (.cells #[.int .u8 (op : Int), .int .i64 kids, .int .i64 num, .string ⟨text.toArray⟩] 31) = w2 at *;generalize w1.heap.size = q at *;have hW := hW2;have hO := hO2;clear hW2 hO2;have hbW := hW.out.lt;obtain ⟨LL, hLe⟩ : ∃ l, l = L := ⟨_, rfl⟩;have hLL : LL.length ≤ L.length + 1 := by rw [hLe]; omega
 rw [← hLe] at hW;replace hLe := Lib.hid hLe;have hlb := bare_len ⟨op, kids, num, text⟩ k;have x0 := cellW hX 0; have x1 := cellW hX 1; have x2 := cellW hX 2; have x3 := cellW hX 3;simp only [List.getElem?_toArray, List.getElem?_cons_zero, List.getElem?_cons_succ] at x0 x1 x2 x3;have kc0 := hP _ b R LL hW.out (by omega);unfold twV at kc0;dsimp only at kc0;replace kc0 := Lib.hid kc0;clear hW hX;go_wp2_with fail
 with_reducible refine kc0.out.mono ?_
 rintro ee wa ⟨rfl, hWn, hOn⟩;replace hO := Lib.hid (Fw.then hO.out hOn);have hlen : (LL ++ bareS ⟨op, kids, num, text⟩ k).length ≤ 1000000 := by rw [List.length_append]; rw [List.length_append] at hL; omega
 rw [hLe.out] at hWn;have hW := Lib.hid hWn;clear hWn hOn kc0;rw [hLe.out] at hlen;go_wp2_with fail
 refine ⟨.tuple #[], results_none rfl _ _ _, rfl, ?_, hO.out⟩;have e9 : ∀ (W : World) (A Z : List Tg), A = Z → Wr w0 W b R A → Wr w0 W b R Z := fun _ _ _ e h => e ▸ h;refine e9 _ _ _ ?_ hW.out;simp
set_option maxRecDepth 20000 in
set_option maxHeartbeats 2000000 in
theorem nar_Q1 {w0 : World} (hM : MarksOK w0) {op : Nat} {kids num : Int} {text : List UInt8} (hw : widthN op = 9) {k : Fs} (hP : PrimP w0 ⟨op, kids, num, text⟩ k) {asked : Int} (hq : (9 : Int) < asked) (h1 : 1 ≤ asked) :
   Emit w0 41 [.int .i64 asked] ⟨op, kids, num, text⟩ k (atS asked.toNat ⟨op, kids, num, text⟩ k) := by
 intro w b R L h hL;rw [atS_narrow (show widthN op < asked.toNat by omega)];have e1 : ((⟨op, kids, num, text⟩ : Tw) :: (k.flat ++ R)).length = (k.flat ++ R).length + 1 := List.length_cons;rw [e1] at hL;have kN := next_any h;have kW := Lib.hid (fun W => width_any op W);rw [hw] at kW;unfold twV at kN;dsimp only at kN;replace kN := Lib.hid kN;clear h;show Calls Tryz.prog _ #[.pointer (some ⟨b, 0, none⟩), .int .i64 asked] w _
 go_enter_defers Tryz.func41, Tryz.ntmps41
 go_wp2_with fail
 with_reducible refine kN.out.mono ?_
 rintro ee w1 ⟨rfl, hW1, hO1⟩;have hal := (Below.refl w1.heap.size w1).alloc (Nat.le_refl _) (.cells #[.int .u8 (op : Int), .int .i64 kids, .int .i64 num, .string ⟨text.toArray⟩] 31);have hX := heap_alloc_new w1 (.cells #[.int .u8 (op : Int), .int .i64 kids, .int .i64 num, .string ⟨text.toArray⟩] 31 (0, 0));have hqb : w1.heap.size ≠ b := by have := hW1.lt; omega
 have hO2 := Lib.hid (Fw.then (Only.mono hO1 (fun k _ e => .inl e)) (Only.of_below hal) : Only (Fw w0.heap.size b w) w _);have hW2 := Lib.hid (hW1.keep hal);clear hW1 hO1 hal kN;go_wp2_with fail
 with_reducible refine (kW.out _).mono ?_
 rintro ee w2 ⟨rfl, rfl⟩;clear kW;generalize w1.alloc (.cells #[.int .u8 (op : Int), .int .i64 kids, .int .i64 num, .string ⟨text.toArray⟩] 31) = w2 at *;generalize w1.heap.size = q at *;have hal3 := (Below.refl w2.heap.size w2).alloc (Nat.le_refl _) (.cells #[.string ⟨#[40]⟩] 9);have kS := Lib.hid (signs_any (hW2.out.keep hal3) (strsS_new (base := w0.heap.size) w2 B.opn hW2.out.lt rfl) (by simp only [List.length_singleton]; omega));have hX3 := Lib.hid ((hal3.block q (Array.getElem?_eq_some_iff.1 hX).1).trans hX);have hO3 := Lib.hid (Fw.then hO2.out (Only.of_below hal3));clear hX hal3 hO2 hW2;go_wp2_with fail
 with_reducible refine kS.out.mono ?_
 rintro ee w3 ⟨rfl, hW3, hO3'⟩;have hX4 := Fw.held hO3' hX3.out (by decide) hqb;have hO4 := Lib.hid (Fw.then hO3.out hO3');have hal5 := (Below.refl w3.heap.size w3).alloc (Nat.le_refl _) (.cells #[.string ⟨#[41]⟩] 9);have hS := Lib.hid (strsS_new (base := w0.heap.size) w3 B.cls hW3.lt rfl);have hX := (hal5.block q (Array.getElem?_eq_some_iff.1 hX4).1).trans hX4;have hW := Lib.hid (hW3.keep hal5);have hO := Lib.hid (Fw.then hO4.out (Only.of_below hal5));clear kS hX3 hX4 hO3 hO3' hO4 hal5;have hbW := hW3.lt;clear hW3;replace hW : Hid (Wr w0 (w3.alloc (.cells #[.string ⟨#[41]⟩] 9)) b _ (L ++ [signTg B.opn])) := hW;obtain ⟨LL, hLe⟩ : ∃ l, l = L ++ [signTg B.opn] := ⟨_, rfl⟩;have hLL : LL.length ≤ L.length + 1 := by rw [hLe]; simp
 rw [← hLe] at hW;replace hLe := Lib.hid hLe;have hlb := bare_len ⟨op, kids, num, text⟩ k;have x0 := cellW hX 0; have x1 := cellW hX 1; have x2 := cellW hX 2; have x3 := cellW hX 3;simp only [List.getElem?_toArray, List.getElem?_cons_zero, List.getElem?_cons_succ] at x0 x1 x2 x3;have kc0 := hP _ b R LL hW.out (by omega);unfold twV at kc0;dsimp only at kc0;replace kc0 := Lib.hid kc0;clear hW hX;go_wp2_with fail
 with_reducible refine kc0.out.mono ?_
 rintro ee wa ⟨rfl, hWn, hOn⟩;replace hS := Lib.hid (hS.out.held hOn);replace hO := Lib.hid (Fw.then hO.out hOn);have hlen : (LL ++ bareS ⟨op, kids, num, text⟩ k).length ≤ 1000000 := by rw [List.length_append]; rw [List.length_append] at hL; omega
 rw [hLe.out] at hWn;have hW := Lib.hid hWn;clear hWn hOn kc0;rw [hLe.out] at hlen;have kD := Lib.hid (signs_d hW.out hS.out (by simp only [List.length_singleton]; omega));go_wp2_with fail
 refine leaves_cons (f := 62) (by simp) (by simp [go_sem]; rfl) ?_;refine (kD.out .returning).mono ?_;rintro ee u3 w9 ⟨rfl, rfl, hW9, hO9⟩;refine ⟨.tuple #[], results_none rfl _ _ _, rfl, ?_, Fw.then hO.out hO9⟩;have e9 : ∀ (A Z : List Tg), A = Z → Wr w0 w9 b R A → Wr w0 w9 b R Z := fun _ _ e h => e ▸ h;refine e9 _ _ ?_ hW9;simp
end Go.Proofs.YtjiemkidmlgbeaaGreatDoor
