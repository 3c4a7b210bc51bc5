/- A part of the proof: ShS, ShK. No condition. -/
import Derived.Test.YtjiemkidmlgbeaaGreatDoorQ28
set_option linter.unusedVariables false
set_option linter.unusedSimpArgs false
namespace Go.Proofs.YtjiemkidmlgbeaaGreatDoor
open Go.RowKit Go.Shelf
set_option maxHeartbeats 400000 in
theorem expr_emit {w0 : World} {x : Tw} {k : Fs} (h : NarP w0 x k) : Emit w0 20 [] x k (bareS x k) := by
 intro w b R L hW hL;have kc := h 1 (by decide) (by decide) w b R L hW hL;rw [show atS (1 : Int).toNat x k = bareS x k from atS_one x k] at kc;replace kc := Lib.hid kc;clear hW hL;show Calls Tryz.prog _ #[.pointer (some ⟨b, 0, none⟩)] w _
 go_enter Tryz.func20, Tryz.ntmps20
 go_wp2_with fail
 with_reducible refine kc.out.mono ?_
 rintro ee w1 ⟨rfl, hW1, hO1⟩;go_wp2_with fail
 exact bodyPost_end (results_none rfl _ _ _) rfl ⟨rfl, hW1, hO1⟩
theorem setS_any {w0 : World} {a : Tw} {ka : Fs} (hA : Emit w0 20 [] a ka (bareS a ka)) {w : World} {b : Nat} {R : List Tw} {L : List Tg} (h : Wr w0 w b (a :: (ka.flat ++ R)) L) (hL : L.length + 100 * (a :: (ka.flat ++ R)).length ≤ 999950) (s : List UInt8) :
   Calls Tryz.prog 85 #[.pointer (some ⟨b, 0, none⟩), .string ⟨s.toArray⟩] w fun e w' => e = .returned (.tuple #[]) ∧ Wr w0 w' b R (L ++ (wordTg s :: signTg B.eq :: bareS a ka)) ∧ Only (Fw w0.heap.size b w) w w' := by
 have hW := Lib.hid h;have hO : Hid (Only (Fw w0.heap.size b w) w w) := Lib.hid (Only.refl _ _);have e1 : (a :: (ka.flat ++ R)).length = ka.flat.length + R.length + 1 := by simp only [List.length_cons, List.length_append]
 rw [e1] at hL;clear h;go_enter Tryz.func85, Tryz.ntmps85
 have hal := (Below.refl w.heap.size w).alloc (Nat.le_refl _) (.cells #[.string ⟨s.toArray⟩] 9);have kc := Lib.hid (wordsS_any (hW.out.keep hal) (strsS_new (base := w0.heap.size) w s hW.out.lt (q := w.heap.size) rfl) (by (try simp only [List.length_cons, List.length_nil, List.length_append, List.length_map]); omega));replace hO := Lib.hid (Fw.then hO.out (Only.of_below hal));clear hal hW;go_wp2_with fail
 with_reducible refine kc.out.mono ?_
 rintro ee wz1 ⟨rfl, hWn, hOn⟩;replace hO := Lib.hid (Fw.then hO.out hOn);have hW := Lib.hid hWn;clear hWn hOn kc;have hal := (Below.refl wz1.heap.size wz1).alloc (Nat.le_refl _) (.cells #[.string ⟨#[61]⟩] 9);have kc := Lib.hid (signs_any (hW.out.keep hal) (strsS_new (base := w0.heap.size) wz1 B.eq hW.out.lt (q := wz1.heap.size) rfl) (by (try simp only [List.length_cons, List.length_nil, List.length_append, List.length_map]); omega));replace hO := Lib.hid (Fw.then hO.out (Only.of_below hal));clear hal hW;go_wp2_with fail
 with_reducible refine kc.out.mono ?_
 rintro ee wz2 ⟨rfl, hWn, hOn⟩;replace hO := Lib.hid (Fw.then hO.out hOn);have hW := Lib.hid hWn;clear hWn hOn kc;have kc := Lib.hid (hA _ b R _ hW.out (by rw [e1]; simp only [List.length_cons, List.length_nil, List.length_append, List.length_map]; omega));clear hW;go_wp2_with fail
 with_reducible refine kc.out.mono ?_
 rintro ee wz3 ⟨rfl, hWn, hOn⟩;replace hO := Lib.hid (Fw.then hO.out hOn);have hW := Lib.hid hWn;clear hWn hOn kc;go_wp2_with fail
 refine bodyPost_end (results_none rfl _ _ _) rfl ⟨rfl, ?_, hO.out⟩;have e9 : ∀ (W : World) (A Z : List Tg), A = Z → Wr w0 W b R A → Wr w0 W b R Z := fun _ _ _ e h => e ▸ h;refine e9 _ _ _ ?_ hW.out;simp
set_option maxRecDepth 20000 in
set_option maxHeartbeats 2000000 in
theorem param_emit {w0 : World} {op : Nat} {kids num : Int} {text : List UInt8} (hT : bareS ⟨op, kids, num, text⟩ .nil = [wordTg text]) : Emit w0 39 [] ⟨op, kids, num, text⟩ .nil (bareS ⟨op, kids, num, text⟩ .nil) := by
 intro w b R L h hL;rw [hT];have _hL' : L.length ≤ 1000000 := by omega
 have kN := next_any h;unfold twV at kN;dsimp only at kN;replace kN := Lib.hid kN;have hfd : ∀ (a b c d : Value) (w : World), (Instr.field 31 (.agg #[a, b, c, d]) 3).run Tryz.prog w = .ok d w := fun a b c d w => by kernel_rfl
 clear h hT;show Calls Tryz.prog _ #[.pointer (some ⟨b, 0, none⟩)] w _
 go_enter Tryz.func39, Tryz.ntmps39
 go_wp2_with fail
 with_reducible refine kN.out.mono ?_
 rintro ee w1 ⟨rfl, hW1, hO1⟩;have hO : Hid (Only (Fw w0.heap.size b w) w w1) := Lib.hid (Only.mono hO1 (fun k _ e => .inl e));have hW : Hid (Wr w0 w1 b R L) := Lib.hid hW1;clear hW1 hO1 kN;have hal := (Below.refl w1.heap.size w1).alloc (Nat.le_refl _) (.cells #[.string ⟨text.toArray⟩] 9);have kc := Lib.hid (wordsS_any (hW.out.keep hal) (strsS_new (base := w0.heap.size) w1 text hW.out.lt (q := w1.heap.size) rfl) (by (try simp only [List.length_cons, List.length_nil, List.length_append, List.length_map]); omega));replace hO := Lib.hid (Fw.then hO.out (Only.of_below hal));clear hal hW;go_wp2_with fail
 with_reducible refine kc.out.mono ?_
 rintro ee wz1 ⟨rfl, hWn, hOn⟩;replace hO := Lib.hid (Fw.then hO.out hOn);have hW := Lib.hid hWn;clear hWn hOn kc;go_wp2_with fail
 refine bodyPost_end (results_none rfl _ _ _) rfl ⟨rfl, ?_, hO.out⟩;have e9 : ∀ (W : World) (A Z : List Tg), A = Z → Wr w0 W b R A → Wr w0 W b R Z := fun _ _ _ e h => e ▸ h;refine e9 _ _ _ ?_ hW.out;rfl
set_option maxRecDepth 20000 in
set_option maxHeartbeats 2000000 in
theorem stmt_let {w0 : World} (hM : MarksOK w0) {kids num : Int} {text : List UInt8} {a : Tw} {ka : Fs} (hA : Emit w0 20 [] a ka (bareS a ka)) (hT : bareS ⟨4, kids, num, text⟩ (.cons a ka .nil) = [wordTg B.letW, wordTg text, signTg B.eq] ++ bareS a ka) : Emit w0 63 [] ⟨4, kids, num, text⟩ (.cons a ka .nil) (bareS ⟨4, kids, num, text⟩ (.cons a ka .nil)) := by
 intro w b R L h hL;rw [hT];have eK : ((Fs.cons a ka .nil).flat ++ R) = a :: (ka.flat ++ R) := by simp [Fs.flat]
 rw [eK] at h hL;have e1 : ((⟨4, kids, num, text⟩ : Tw) :: a :: (ka.flat ++ R)).length = ka.flat.length + R.length + 2 := by simp only [List.length_cons, List.length_append]
 have e2 : (a :: (ka.flat ++ R)).length = ka.flat.length + R.length + 1 := by simp only [List.length_cons, List.length_append]
 rw [e1] at hL;have kN := next_any h;replace kN := Calls.mono kN (fun e w' (hh : e = .returned (.agg #[.int .u8 4, .int .i64 kids, .int .i64 num, .string ⟨text.toArray⟩]) ∧ _) => hh);replace kN := Lib.hid kN;replace hT := Lib.hid hT;clear h;show Calls Tryz.prog _ #[.pointer (some ⟨b, 0, none⟩)] w _
 go_enter Tryz.func63, Tryz.ntmps63
 go_wp2_with fail
 with_reducible refine kN.out.mono ?_
 rintro ee w1 ⟨rfl, hW1, hO1⟩;have hal := (Below.refl w1.heap.size w1).alloc (Nat.le_refl _) (.cells #[.int .u8 4, .int .i64 kids, .int .i64 num, .string ⟨text.toArray⟩] 31);have hX := heap_alloc_new w1 (.cells #[.int .u8 4, .int .i64 kids, .int .i64 num, .string ⟨text.toArray⟩] 31 (0, 0));have hqb : w1.heap.size ≠ b := by have := hW1.lt; omega
 have hO : Hid (Only (Fw w0.heap.size b w) w (w1.alloc (.cells #[.int .u8 4, .int .i64 kids, .int .i64 num, .string ⟨text.toArray⟩] 31))) := Lib.hid (Fw.then (Only.mono hO1 (fun k _ e => .inl e)) (Only.of_below hal));have hW := Lib.hid (hW1.keep hal);clear hW1 hO1 hal kN;have hal := (Below.refl (w1.alloc (.cells #[.int .u8 4, .int .i64 kids, .int .i64 num, .string ⟨text.toArray⟩] 31)).heap.size (w1.alloc (.cells #[.int .u8 4, .int .i64 kids, .int .i64 num, .string ⟨text.toArray⟩] 31))).alloc (Nat.le_refl _) (.cells #[.string ⟨#[108, 101, 116]⟩] 9);have kc := Lib.hid (wordsS_any (hW.out.keep hal) (strsS_new (base := w0.heap.size) (w1.alloc (.cells #[.int .u8 4, .int .i64 kids, .int .i64 num, .string ⟨text.toArray⟩] 31)) B.letW hW.out.lt (q := w1.heap.size + 1) (by simp)) (by (try simp only [List.length_cons, List.length_nil, List.length_append, List.length_map]); omega));replace hX := (hal.block _ (Array.getElem?_eq_some_iff.1 hX).1).trans hX;replace hO := Lib.hid (Fw.then hO.out (Only.of_below hal));clear hal hW;go_wp2_with fail
 with_reducible refine kc.out.mono ?_
 rintro ee wz1 ⟨rfl, hWn, hOn⟩;replace hX := Fw.held hOn hX (by decide) hqb;replace hO := Lib.hid (Fw.then hO.out hOn);have hW := Lib.hid hWn;clear hWn hOn kc;have x3 := cellW hX 3;simp only [List.getElem?_toArray, List.getElem?_cons_zero, List.getElem?_cons_succ] at x3;have kc := Lib.hid (setS_any hA (show Wr w0 wz1 b (a :: (ka.flat ++ R)) (L ++ [B.letW].map wordTg) from hW.out) (by rw [e2]; simp only [List.length_cons, List.length_nil, List.length_append, List.length_map]; omega) text);clear hW;go_wp2_with fail
 with_reducible refine kc.out.mono ?_
 rintro ee wz2 ⟨rfl, hWn, hOn⟩;clear x3;replace hX := Fw.held hOn hX (by decide) hqb;replace hO := Lib.hid (Fw.then hO.out hOn);have hW := Lib.hid hWn;clear hWn hOn kc;go_wp2_with fail
 refine bodyPost_end (results_none rfl _ _ _) rfl ⟨rfl, ?_, hO.out⟩;have e9 : ∀ (W : World) (A Z : List Tg), A = Z → Wr w0 W b R A → Wr w0 W b R Z := fun _ _ _ e h => e ▸ h;refine e9 _ _ _ ?_ hW.out;simp
set_option maxRecDepth 20000 in
set_option maxHeartbeats 2000000 in
theorem stmt_set {w0 : World} (hM : MarksOK w0) {kids num : Int} {text : List UInt8} {a : Tw} {ka : Fs} (hA : Emit w0 20 [] a ka (bareS a ka)) (hT : bareS ⟨5, kids, num, text⟩ (.cons a ka .nil) = [wordTg text, signTg B.eq] ++ bareS a ka) : Emit w0 63 [] ⟨5, kids, num, text⟩ (.cons a ka .nil) (bareS ⟨5, kids, num, text⟩ (.cons a ka .nil)) := by
 intro w b R L h hL;rw [hT];have eK : ((Fs.cons a ka .nil).flat ++ R) = a :: (ka.flat ++ R) := by simp [Fs.flat]
 rw [eK] at h hL;have e1 : ((⟨5, kids, num, text⟩ : Tw) :: a :: (ka.flat ++ R)).length = ka.flat.length + R.length + 2 := by simp only [List.length_cons, List.length_append]
 have e2 : (a :: (ka.flat ++ R)).length = ka.flat.length + R.length + 1 := by simp only [List.length_cons, List.length_append]
 rw [e1] at hL;have kN := next_any h;replace kN := Calls.mono kN (fun e w' (hh : e = .returned (.agg #[.int .u8 5, .int .i64 kids, .int .i64 num, .string ⟨text.toArray⟩]) ∧ _) => hh);replace kN := Lib.hid kN;replace hT := Lib.hid hT;clear h;show Calls Tryz.prog _ #[.pointer (some ⟨b, 0, none⟩)] w _
 go_enter Tryz.func63, Tryz.ntmps63
 go_wp2_with fail
 with_reducible refine kN.out.mono ?_
 rintro ee w1 ⟨rfl, hW1, hO1⟩;have hal := (Below.refl w1.heap.size w1).alloc (Nat.le_refl _) (.cells #[.int .u8 5, .int .i64 kids, .int .i64 num, .string ⟨text.toArray⟩] 31);have hX := heap_alloc_new w1 (.cells #[.int .u8 5, .int .i64 kids, .int .i64 num, .string ⟨text.toArray⟩] 31 (0, 0));have hqb : w1.heap.size ≠ b := by have := hW1.lt; omega
 have hO : Hid (Only (Fw w0.heap.size b w) w (w1.alloc (.cells #[.int .u8 5, .int .i64 kids, .int .i64 num, .string ⟨text.toArray⟩] 31))) := Lib.hid (Fw.then (Only.mono hO1 (fun k _ e => .inl e)) (Only.of_below hal));have hW := Lib.hid (hW1.keep hal);clear hW1 hO1 hal kN;have kc := Lib.hid (setS_any hA (show Wr w0 (w1.alloc (.cells #[.int .u8 5, .int .i64 kids, .int .i64 num, .string ⟨text.toArray⟩] 31)) b (a :: (ka.flat ++ R)) L from hW.out) (by rw [e2]; omega) text);clear hW;go_wp2_with fail
 with_reducible refine kc.out.mono ?_
 rintro ee wz1 ⟨rfl, hWn, hOn⟩;replace hX := Fw.held hOn hX (by decide) hqb;replace hO := Lib.hid (Fw.then hO.out hOn);have hW := Lib.hid hWn;clear hWn hOn kc;go_wp2_with fail
 refine bodyPost_end (results_none rfl _ _ _) rfl ⟨rfl, ?_, hO.out⟩;have e9 : ∀ (W : World) (A Z : List Tg), A = Z → Wr w0 W b R A → Wr w0 W b R Z := fun _ _ _ e h => e ▸ h;refine e9 _ _ _ ?_ hW.out;rfl
set_option maxRecDepth 20000 in
set_option maxHeartbeats 2000000 in
theorem stmt_one {w0 : World} (hM : MarksOK w0) {op : Nat} {kids num : Int} {text : List UInt8} (hop : 8 ≤ op ∧ op ≤ 11) {a : Tw} {ka : Fs} (hA : Emit w0 20 [] a ka (bareS a ka)) (hT : bareS ⟨op, kids, num, text⟩ (.cons a ka .nil) = markTg op ++ bareS a ka) : Emit w0 63 [] ⟨op, kids, num, text⟩ (.cons a ka .nil) (bareS ⟨op, kids, num, text⟩ (.cons a ka .nil)) := by
 intro w b R L h hL;rw [hT];have t4 : ((op : Int) == 4) = false := beq_eq_false_iff_ne.2 (by omega);have t5 : ((op : Int) == 5) = false := beq_eq_false_iff_ne.2 (by omega);have t6 : ((op : Int) == 6) = false := beq_eq_false_iff_ne.2 (by omega);have t7 : ((op : Int) == 7) = false := beq_eq_false_iff_ne.2 (by omega);have eK : ((Fs.cons a ka .nil).flat ++ R) = a :: (ka.flat ++ R) := by simp [Fs.flat]
 rw [eK] at h hL;have e1 : ((⟨op, kids, num, text⟩ : Tw) :: a :: (ka.flat ++ R)).length = ka.flat.length + R.length + 2 := by simp only [List.length_cons, List.length_append]
 have e2 : (a :: (ka.flat ++ R)).length = ka.flat.length + R.length + 1 := by simp only [List.length_cons, List.length_append]
 rw [e1] at hL;have kN := next_any h;replace kN := Calls.mono kN (fun e w' (hh : e = .returned (.agg #[.int .u8 (op : Int), .int .i64 kids, .int .i64 num, .string ⟨text.toArray⟩]) ∧ _) => hh);replace kN := Lib.hid kN;replace hT := Lib.hid hT;clear h;show Calls Tryz.prog _ #[.pointer (some ⟨b, 0, none⟩)] w _
 go_enter Tryz.func63, Tryz.ntmps63
 go_wp2_with fail
 with_reducible refine kN.out.mono ?_
 rintro ee w1 ⟨rfl, hW1, hO1⟩;have hal := (Below.refl w1.heap.size w1).alloc (Nat.le_refl _) (.cells #[.int .u8 (op : Int), .int .i64 kids, .int .i64 num, .string ⟨text.toArray⟩] 31);have hX := heap_alloc_new w1 (.cells #[.int .u8 (op : Int), .int .i64 kids, .int .i64 num, .string ⟨text.toArray⟩] 31 (0, 0));have hqb : w1.heap.size ≠ b := by have := hW1.lt; omega
 have hO : Hid (Only (Fw w0.heap.size b w) w (w1.alloc (.cells #[.int .u8 (op : Int), .int .i64 kids, .int .i64 num, .string ⟨text.toArray⟩] 31))) := Lib.hid (Fw.then (Only.mono hO1 (fun k _ e => .inl e)) (Only.of_below hal));have hW := Lib.hid (hW1.keep hal);clear hW1 hO1 hal kN;have hml := mark_len op;have kc := Lib.hid (mark_z hW.out hM (op := op) (z := op) rfl (by (try simp only [List.length_cons, List.length_nil, List.length_append, List.length_map]); omega));clear hW;go_wp2_with fail
 with_reducible refine kc.out.mono ?_
 rintro ee wz1 ⟨rfl, hWn, hOn⟩;replace hX := Fw.held hOn hX (by decide) hqb;replace hO := Lib.hid (Fw.then hO.out hOn);have hW := Lib.hid hWn;clear hWn hOn kc;have kc := Lib.hid (hA _ b R _ (show Wr w0 wz1 b (a :: (ka.flat ++ R)) (L ++ markTg op) from hW.out) (by rw [e2]; simp only [List.length_append]; omega));clear hW;go_wp2_with fail
 with_reducible refine kc.out.mono ?_
 rintro ee wz2 ⟨rfl, hWn, hOn⟩;replace hX := Fw.held hOn hX (by decide) hqb;replace hO := Lib.hid (Fw.then hO.out hOn);have hW := Lib.hid hWn;clear hWn hOn kc;go_wp2_with fail
 refine bodyPost_end (results_none rfl _ _ _) rfl ⟨rfl, ?_, hO.out⟩;have e9 : ∀ (W : World) (A Z : List Tg), A = Z → Wr w0 W b R A → Wr w0 W b R Z := fun _ _ _ e h => e ▸ h;refine e9 _ _ _ ?_ hW.out;simp
set_option maxRecDepth 20000 in
set_option maxHeartbeats 2000000 in
theorem stmt_while {w0 : World} (hM : MarksOK w0) {kids num : Int} {text : List UInt8} {a : Tw} {ka : Fs} (hA : Emit w0 20 [] a ka (bareS a ka)) {c : Tw} {kc : Fs} (hC : Emit w0 40 [] c kc (bareS c kc)) (hT : bareS ⟨7, kids, num, text⟩ (.cons a ka (.cons c kc .nil)) = wordTg B.whileW :: (bareS a ka ++ bareS c kc)) : Emit w0 63 [] ⟨7, kids, num, text⟩ (.cons a ka (.cons c kc .nil)) (bareS ⟨7, kids, num, text⟩ (.cons a ka (.cons c kc .nil))) := by
 intro w b R L h hL;rw [hT];have eK : ((Fs.cons a ka (.cons c kc .nil)).flat ++ R) = a :: (ka.flat ++ (c :: (kc.flat ++ R))) := by simp [Fs.flat]
 rw [eK] at h hL;have e1 : ((⟨7, kids, num, text⟩ : Tw) :: a :: (ka.flat ++ (c :: (kc.flat ++ R)))).length = ka.flat.length + kc.flat.length + R.length + 3 := by simp only [List.length_cons, List.length_append]; omega
 have e2 : (a :: (ka.flat ++ (c :: (kc.flat ++ R)))).length = ka.flat.length + kc.flat.length + R.length + 2 := by simp only [List.length_cons, List.length_append]; omega
 have e3 : (c :: (kc.flat ++ R)).length = kc.flat.length + R.length + 1 := by simp only [List.length_cons, List.length_append]
 rw [e1] at hL;have hla := bare_len a ka;have hlc := bare_len c kc;have kN := next_any h;replace kN := Calls.mono kN (fun e w' (hh : e = .returned (.agg #[.int .u8 7, .int .i64 kids, .int .i64 num, .string ⟨text.toArray⟩]) ∧ _) => hh);replace kN := Lib.hid kN;replace hT := Lib.hid hT;clear h;show Calls Tryz.prog _ #[.pointer (some ⟨b, 0, none⟩)] w _
 go_enter Tryz.func63, Tryz.ntmps63
 go_wp2_with fail
 with_reducible refine kN.out.mono ?_
 rintro ee w1 ⟨rfl, hW1, hO1⟩;have hal := (Below.refl w1.heap.size w1).alloc (Nat.le_refl _) (.cells #[.int .u8 7, .int .i64 kids, .int .i64 num, .string ⟨text.toArray⟩] 31);have hX := heap_alloc_new w1 (.cells #[.int .u8 7, .int .i64 kids, .int .i64 num, .string ⟨text.toArray⟩] 31 (0, 0));have hqb : w1.heap.size ≠ b := by have := hW1.lt; omega
 have hO : Hid (Only (Fw w0.heap.size b w) w (w1.alloc (.cells #[.int .u8 7, .int .i64 kids, .int .i64 num, .string ⟨text.toArray⟩] 31))) := Lib.hid (Fw.then (Only.mono hO1 (fun k _ e => .inl e)) (Only.of_below hal));have hW := Lib.hid (hW1.keep hal);clear hW1 hO1 hal kN;have hal := (Below.refl (w1.alloc (.cells #[.int .u8 7, .int .i64 kids, .int .i64 num, .string ⟨text.toArray⟩] 31)).heap.size (w1.alloc (.cells #[.int .u8 7, .int .i64 kids, .int .i64 num, .string ⟨text.toArray⟩] 31))).alloc (Nat.le_refl _) (.cells #[.string ⟨#[119, 104, 105, 108, 101]⟩] 9);have kc := Lib.hid (wordsS_any (hW.out.keep hal) (strsS_new (base := w0.heap.size) (w1.alloc (.cells #[.int .u8 7, .int .i64 kids, .int .i64 num, .string ⟨text.toArray⟩] 31)) B.whileW hW.out.lt (q := w1.heap.size + 1) (by simp)) (by (try simp only [List.length_cons, List.length_nil, List.length_append, List.length_map]); omega));replace hX := (hal.block _ (Array.getElem?_eq_some_iff.1 hX).1).trans hX;replace hO := Lib.hid (Fw.then hO.out (Only.of_below hal));clear hal hW;go_wp2_with fail
 with_reducible refine kc.out.mono ?_
 rintro ee wz1 ⟨rfl, hWn, hOn⟩;replace hX := Fw.held hOn hX (by decide) hqb;replace hO := Lib.hid (Fw.then hO.out hOn);have hW := Lib.hid hWn;clear hWn hOn kc;have kc := Lib.hid (hA _ b (c :: (kc.flat ++ R)) _ hW.out (by rw [e2]; simp only [List.length_cons, List.length_nil, List.length_append, List.length_map]; omega));clear hW;go_wp2_with fail
 with_reducible refine kc.out.mono ?_
 rintro ee wz2 ⟨rfl, hWn, hOn⟩;replace hX := Fw.held hOn hX (by decide) hqb;replace hO := Lib.hid (Fw.then hO.out hOn);have hW := Lib.hid hWn;clear hWn hOn kc;have kc := Lib.hid (hC _ b R _ hW.out (by rw [e3]; simp only [List.length_cons, List.length_nil, List.length_append, List.length_map]; omega));clear hW;go_wp2_with fail
 with_reducible refine kc.out.mono ?_
 rintro ee wz3 ⟨rfl, hWn, hOn⟩;replace hX := Fw.held hOn hX (by decide) hqb;replace hO := Lib.hid (Fw.then hO.out hOn);have hW := Lib.hid hWn;clear hWn hOn kc;go_wp2_with fail
 refine bodyPost_end (results_none rfl _ _ _) rfl ⟨rfl, ?_, hO.out⟩;have e9 : ∀ (W : World) (A Z : List Tg), A = Z → Wr w0 W b R A → Wr w0 W b R Z := fun _ _ _ e h => e ▸ h;refine e9 _ _ _ ?_ hW.out;simp
set_option maxRecDepth 20000 in
set_option maxHeartbeats 2000000 in
theorem stmt_if2 {w0 : World} (hM : MarksOK w0) {num : Int} {text : List UInt8} {a : Tw} {ka : Fs} (hA : Emit w0 20 [] a ka (bareS a ka)) {c : Tw} {kc : Fs} (hC : Emit w0 40 [] c kc (bareS c kc)) (hT : bareS ⟨6, 2, num, text⟩ (.cons a ka (.cons c kc .nil)) = wordTg B.ifW :: (bareS a ka ++ bareS c kc)) : Emit w0 63 [] ⟨6, 2, num, text⟩ (.cons a ka (.cons c kc .nil)) (bareS ⟨6, 2, num, text⟩ (.cons a ka (.cons c kc .nil))) := by
 intro w b R L h hL;rw [hT];have eK : ((Fs.cons a ka (.cons c kc .nil)).flat ++ R) = a :: (ka.flat ++ (c :: (kc.flat ++ R))) := by simp [Fs.flat]
 rw [eK] at h hL;have e1 : ((⟨6, 2, num, text⟩ : Tw) :: a :: (ka.flat ++ (c :: (kc.flat ++ R)))).length = ka.flat.length + kc.flat.length + R.length + 3 := by simp only [List.length_cons, List.length_append]; omega
 have e2 : (a :: (ka.flat ++ (c :: (kc.flat ++ R)))).length = ka.flat.length + kc.flat.length + R.length + 2 := by simp only [List.length_cons, List.length_append]; omega
 have e3 : (c :: (kc.flat ++ R)).length = kc.flat.length + R.length + 1 := by simp only [List.length_cons, List.length_append]
 rw [e1] at hL;have hla := bare_len a ka;have hlc := bare_len c kc;have kN := next_any h;replace kN := Calls.mono kN (fun e w' (hh : e = .returned (.agg #[.int .u8 6, .int .i64 2, .int .i64 num, .string ⟨text.toArray⟩]) ∧ _) => hh);replace kN := Lib.hid kN;replace hT := Lib.hid hT;clear h;show Calls Tryz.prog _ #[.pointer (some ⟨b, 0, none⟩)] w _
 go_enter Tryz.func63, Tryz.ntmps63
 go_wp2_with fail
 with_reducible refine kN.out.mono ?_
 rintro ee w1 ⟨rfl, hW1, hO1⟩;have hal := (Below.refl w1.heap.size w1).alloc (Nat.le_refl _) (.cells #[.int .u8 6, .int .i64 2, .int .i64 num, .string ⟨text.toArray⟩] 31);have hX := heap_alloc_new w1 (.cells #[.int .u8 6, .int .i64 2, .int .i64 num, .string ⟨text.toArray⟩] 31 (0, 0));have hqb : w1.heap.size ≠ b := by have := hW1.lt; omega
 have hO : Hid (Only (Fw w0.heap.size b w) w (w1.alloc (.cells #[.int .u8 6, .int .i64 2, .int .i64 num, .string ⟨text.toArray⟩] 31))) := Lib.hid (Fw.then (Only.mono hO1 (fun k _ e => .inl e)) (Only.of_below hal));have hW := Lib.hid (hW1.keep hal);clear hW1 hO1 hal kN;have hal := (Below.refl (w1.alloc (.cells #[.int .u8 6, .int .i64 2, .int .i64 num, .string ⟨text.toArray⟩] 31)).heap.size (w1.alloc (.cells #[.int .u8 6, .int .i64 2, .int .i64 num, .string ⟨text.toArray⟩] 31))).alloc (Nat.le_refl _) (.cells #[.string ⟨#[105, 102]⟩] 9);have kc := Lib.hid (wordsS_any (hW.out.keep hal) (strsS_new (base := w0.heap.size) (w1.alloc (.cells #[.int .u8 6, .int .i64 2, .int .i64 num, .string ⟨text.toArray⟩] 31)) B.ifW hW.out.lt (q := w1.heap.size + 1) (by simp)) (by (try simp only [List.length_cons, List.length_nil, List.length_append, List.length_map]); omega));replace hX := (hal.block _ (Array.getElem?_eq_some_iff.1 hX).1).trans hX;replace hO := Lib.hid (Fw.then hO.out (Only.of_below hal));clear hal hW;go_wp2_with fail
 with_reducible refine kc.out.mono ?_
 rintro ee wz1 ⟨rfl, hWn, hOn⟩;replace hX := Fw.held hOn hX (by decide) hqb;replace hO := Lib.hid (Fw.then hO.out hOn);have hW := Lib.hid hWn;clear hWn hOn kc;have kc := Lib.hid (hA _ b (c :: (kc.flat ++ R)) _ hW.out (by rw [e2]; simp only [List.length_cons, List.length_nil, List.length_append, List.length_map]; omega));clear hW;go_wp2_with fail
 with_reducible refine kc.out.mono ?_
 rintro ee wz2 ⟨rfl, hWn, hOn⟩;replace hX := Fw.held hOn hX (by decide) hqb;replace hO := Lib.hid (Fw.then hO.out hOn);have hW := Lib.hid hWn;clear hWn hOn kc;have kc := Lib.hid (hC _ b R _ hW.out (by rw [e3]; simp only [List.length_cons, List.length_nil, List.length_append, List.length_map]; omega));clear hW;go_wp2_with fail
 with_reducible refine kc.out.mono ?_
 rintro ee wz3 ⟨rfl, hWn, hOn⟩;replace hX := Fw.held hOn hX (by decide) hqb;replace hO := Lib.hid (Fw.then hO.out hOn);have hW := Lib.hid hWn;clear hWn hOn kc;have x1 := cellW hX 1;simp only [List.getElem?_toArray, List.getElem?_cons_zero, List.getElem?_cons_succ] at x1;go_wp2_with fail
 refine bodyPost_end (results_none rfl _ _ _) rfl ⟨rfl, ?_, hO.out⟩;have e9 : ∀ (W : World) (A Z : List Tg), A = Z → Wr w0 W b R A → Wr w0 W b R Z := fun _ _ _ e h => e ▸ h;refine e9 _ _ _ ?_ hW.out;simp
set_option maxRecDepth 20000 in
set_option maxHeartbeats 2000000 in
theorem stmt_if3 {w0 : World} (hM : MarksOK w0) {num : Int} {text : List UInt8} {a : Tw} {ka : Fs} (hA : Emit w0 20 [] a ka (bareS a ka)) {c : Tw} {kc : Fs} (hC : Emit w0 40 [] c kc (bareS c kc)) {d : Tw} {kd : Fs} (hD : Emit w0 40 [] d kd (bareS d kd)) (hT : bareS ⟨6, 3, num, text⟩ (.cons a ka (.cons c kc (.cons d kd .nil))) = wordTg B.ifW :: (bareS a ka ++ (bareS c kc ++ (wordTg B.elseW :: bareS d kd)))) : Emit w0 63 [] ⟨6, 3, num, text⟩ (.cons a ka (.cons c kc (.cons d kd .nil))) (bareS ⟨6, 3, num, text⟩ (.cons a ka (.cons c kc (.cons d kd .nil)))) := by
 intro w b R L h hL;rw [hT];have eK : ((Fs.cons a ka (.cons c kc (.cons d kd .nil))).flat ++ R) = a :: (ka.flat ++ (c :: (kc.flat ++ (d :: (kd.flat ++ R))))) := by simp [Fs.flat]
 rw [eK] at h hL;have e1 : ((⟨6, 3, num, text⟩ : Tw) :: a :: (ka.flat ++ (c :: (kc.flat ++ (d :: (kd.flat ++ R)))))).length = ka.flat.length + kc.flat.length + kd.flat.length + R.length + 4 := by simp only [List.length_cons, List.length_append]; omega
 have e2 : (a :: (ka.flat ++ (c :: (kc.flat ++ (d :: (kd.flat ++ R)))))).length = ka.flat.length + kc.flat.length + kd.flat.length + R.length + 3 := by simp only [List.length_cons, List.length_append]; omega
 have e3 : (c :: (kc.flat ++ (d :: (kd.flat ++ R)))).length = kc.flat.length + kd.flat.length + R.length + 2 := by simp only [List.length_cons, List.length_append]; omega
 have e4 : (d :: (kd.flat ++ R)).length = kd.flat.length + R.length + 1 := by simp only [List.length_cons, List.length_append]
 rw [e1] at hL;have hla := bare_len a ka;have hlc := bare_len c kc;have kN := next_any h;replace kN := Calls.mono kN (fun e w' (hh : e = .returned (.agg #[.int .u8 6, .int .i64 3, .int .i64 num, .string ⟨text.toArray⟩]) ∧ _) => hh);replace kN := Lib.hid kN;replace hT := Lib.hid hT;clear h;show Calls Tryz.prog _ #[.pointer (some ⟨b, 0, none⟩)] w _
 go_enter Tryz.func63, Tryz.ntmps63
 go_wp2_with fail
 with_reducible refine kN.out.mono ?_
 rintro ee w1 ⟨rfl, hW1, hO1⟩;have hal := (Below.refl w1.heap.size w1).alloc (Nat.le_refl _) (.cells #[.int .u8 6, .int .i64 3, .int .i64 num, .string ⟨text.toArray⟩] 31);have hX := heap_alloc_new w1 (.cells #[.int .u8 6, .int .i64 3, .int .i64 num, .string ⟨text.toArray⟩] 31 (0, 0));have hqb : w1.heap.size ≠ b := by have := hW1.lt; omega
 have hO : Hid (Only (Fw w0.heap.size b w) w (w1.alloc (.cells #[.int .u8 6, .int .i64 3, .int .i64 num, .string ⟨text.toArray⟩] 31))) := Lib.hid (Fw.then (Only.mono hO1 (fun k _ e => .inl e)) (Only.of_below hal));have hW := Lib.hid (hW1.keep hal);clear hW1 hO1 hal kN;have hal := (Below.refl (w1.alloc (.cells #[.int .u8 6, .int .i64 3, .int .i64 num, .string ⟨text.toArray⟩] 31)).heap.size (w1.alloc (.cells #[.int .u8 6, .int .i64 3, .int .i64 num, .string ⟨text.toArray⟩] 31))).alloc (Nat.le_refl _) (.cells #[.string ⟨#[105, 102]⟩] 9);have kc := Lib.hid (wordsS_any (hW.out.keep hal) (strsS_new (base := w0.heap.size) (w1.alloc (.cells #[.int .u8 6, .int .i64 3, .int .i64 num, .string ⟨text.toArray⟩] 31)) B.ifW hW.out.lt (q := w1.heap.size + 1) (by simp)) (by (try simp only [List.length_cons, List.length_nil, List.length_append, List.length_map]); omega));replace hX := (hal.block _ (Array.getElem?_eq_some_iff.1 hX).1).trans hX;replace hO := Lib.hid (Fw.then hO.out (Only.of_below hal));clear hal hW;go_wp2_with fail
 with_reducible refine kc.out.mono ?_
 rintro ee wz1 ⟨rfl, hWn, hOn⟩;replace hX := Fw.held hOn hX (by decide) hqb;replace hO := Lib.hid (Fw.then hO.out hOn);have hW := Lib.hid hWn;clear hWn hOn kc;have kc := Lib.hid (hA _ b (c :: (kc.flat ++ (d :: (kd.flat ++ R)))) _ hW.out (by rw [e2]; simp only [List.length_cons, List.length_nil, List.length_append, List.length_map]; omega));clear hW;go_wp2_with fail
 with_reducible refine kc.out.mono ?_
 rintro ee wz2 ⟨rfl, hWn, hOn⟩;replace hX := Fw.held hOn hX (by decide) hqb;replace hO := Lib.hid (Fw.then hO.out hOn);have hW := Lib.hid hWn;clear hWn hOn kc;have kc := Lib.hid (hC _ b (d :: (kd.flat ++ R)) _ hW.out (by rw [e3]; simp only [List.length_cons, List.length_nil, List.length_append, List.length_map]; omega));clear hW;go_wp2_with fail
 with_reducible refine kc.out.mono ?_
 rintro ee wz3 ⟨rfl, hWn, hOn⟩;replace hX := Fw.held hOn hX (by decide) hqb;replace hO := Lib.hid (Fw.then hO.out hOn);have hW := Lib.hid hWn;clear hWn hOn kc;have x1 := cellW hX 1;simp only [List.getElem?_toArray, List.getElem?_cons_zero, List.getElem?_cons_succ] at x1;have hal := (Below.refl wz3.heap.size wz3).alloc (Nat.le_refl _) (.cells #[.string ⟨#[101, 108, 115, 101]⟩] 9);have kc := Lib.hid (wordsS_any (hW.out.keep hal) (strsS_new (base := w0.heap.size) wz3 B.elseW hW.out.lt (q := wz3.heap.size) rfl) (by (try simp only [List.length_cons, List.length_nil, List.length_append, List.length_map]); omega));replace hX := (hal.block _ (Array.getElem?_eq_some_iff.1 hX).1).trans hX;replace hO := Lib.hid (Fw.then hO.out (Only.of_below hal));clear hal hW;go_wp2_with fail
 with_reducible refine kc.out.mono ?_
 rintro ee wz4 ⟨rfl, hWn, hOn⟩;clear x1;replace hX := Fw.held hOn hX (by decide) hqb;replace hO := Lib.hid (Fw.then hO.out hOn);have hW := Lib.hid hWn;clear hWn hOn kc;have kc := Lib.hid (hD _ b R _ hW.out (by rw [e4]; simp only [List.length_cons, List.length_nil, List.length_append, List.length_map]; omega));clear hW;go_wp2_with fail
 with_reducible refine kc.out.mono ?_
 rintro ee wz5 ⟨rfl, hWn, hOn⟩;replace hX := Fw.held hOn hX (by decide) hqb;replace hO := Lib.hid (Fw.then hO.out hOn);have hW := Lib.hid hWn;clear hWn hOn kc;go_wp2_with fail
 refine bodyPost_end (results_none rfl _ _ _) rfl ⟨rfl, ?_, hO.out⟩;have e9 : ∀ (W : World) (A Z : List Tg), A = Z → Wr w0 W b R A → Wr w0 W b R Z := fun _ _ _ e h => e ▸ h;refine e9 _ _ _ ?_ hW.out;simp
end Go.Proofs.YtjiemkidmlgbeaaGreatDoor
namespace Go.Proofs.YtjiemkidmlgbeaaGreatDoor
open Go.RowKit Go.Shelf
set_option maxRecDepth 20000 in
set_option maxHeartbeats 2000000 in
theorem block_emit {w0 : World} {kids num : Int} {text : List UInt8} {F : Fs} (hF : EmitF w0 63 F) (hk : kids = (F.count : Int)) (hT : bareS ⟨3, kids, num, text⟩ F = signTg B.lbr :: (rowS F ++ [signTg B.rbr])) : Emit w0 40 [] ⟨3, kids, num, text⟩ F (bareS ⟨3, kids, num, text⟩ F) := by
 intro w b R L h hL;rw [hT];have e1 : ((⟨3, kids, num, text⟩ : Tw) :: (F.flat ++ R)).length = (F.flat ++ R).length + 1 := List.length_cons;rw [e1] at hL;obtain ⟨n, hn⟩ : ∃ n, n = F.count := ⟨_, rfl⟩;rw [← hn] at hk;have hn9 : n ≤ 10000 := by
   have := count_flat F;rw [List.length_append] at hL;omega
 subst hk;have hfd : ∀ (a b c d : Value) (w : World), (Instr.field 31 (.agg #[a, b, c, d]) 1).run Tryz.prog w = .ok b w := fun a b c d w => by kernel_rfl
 have hal := (Below.refl w.heap.size w).alloc (Nat.le_refl _) (.cells #[.string ⟨#[123]⟩] 9);have kO := Lib.hid (signs_any (h.keep hal) (strsS_new (base := w0.heap.size) w B.lbr h.lt rfl) (by simp only [List.length_singleton]; omega));have hOA : Hid (Only (Fw w0.heap.size b w) w (w.alloc (.cells #[.string ⟨#[123]⟩] 9))) := Lib.hid (Only.of_below hal);replace hF := Lib.hid hF;clear h hal hT;show Calls Tryz.prog _ #[.pointer (some ⟨b, 0, none⟩)] w _
 go_enter_defers Tryz.func40, Tryz.ntmps40
 go_wp2_with fail
 with_reducible refine kO.out.mono ?_
 rintro e1 w1 ⟨rfl, hW1, hO1⟩;have hO1' := Lib.hid (Fw.then hOA.out hO1);have hal2 := (Below.refl w1.heap.size w1).alloc (Nat.le_refl _) (.cells #[.string ⟨#[125]⟩] 9);have hS2 := Lib.hid (strsS_new (base := w0.heap.size) w1 B.rbr hW1.lt rfl);have kN := Lib.hid (next_any (hW1.keep hal2));have hO2 := Lib.hid (Fw.then hO1'.out (Only.of_below hal2));unfold twV at kN;dsimp only at kN;clear hW1 hO1 hO1' hal2 kO hOA;go_wp2_with fail
 with_reducible refine kN.out.mono ?_
 rintro e2 w3 ⟨rfl, hW3, hO3⟩;have hOm := Only.mono hO3 (G := Fw w0.heap.size b (w1.alloc (.cells #[.string ⟨#[125]⟩] 9))) (fun k _ e => .inl e);have hS3 := Lib.hid (hS2.out.held hOm);have hO4 := Lib.hid (Fw.then hO2.out hOm);replace hW3 := Lib.hid hW3;clear hO3 hOm hS2 hO2 kN;generalize w1.heap.size = q at *;go_wp2_with fail
 go_loopw [10] (fun t10 wr => ∃ (i : Nat) (G : Fs) (A : List Tg), Hid (i + G.count = n) ∧ t10 = .int .i64 i ∧ Hid (EmitF w0 63 G) ∧ Hid (A ++ rowS G = rowS F) ∧ Hid (Wr w0 wr b (G.flat ++ R) (L ++ (signTg B.lbr :: A))) ∧ Hid ((L ++ (signTg B.lbr :: A)).length + 100 * (G.flat ++ R).length ≤ 999960) ∧ Hid (Only (Fw w0.heap.size b w) w wr) ∧ Hid (Strs w0.heap.size b wr (.slice (some ⟨q, 0, none⟩) 1 1) [B.rbr])) (fun t10 _ => n - (intOf t10).toNat)
 case atStart => exact ⟨0, F, [], Lib.hid (by omega), rfl, hF, Lib.hid rfl, hW3, Lib.hid (by rw [List.length_append]; simp only [List.length_singleton]; omega), hO4, hS3⟩
 case round =>
   obtain ⟨i, G, A, hi, rfl, hG, hA, hW, hB, hO, hS⟩ := hrel;cases G with
   | nil =>
     have hin : i = n := hi.out;subst hin;have hlti : ¬ ((i : Int) < (i : Int)) := by omega
     have hAA : A = rowS F := by rw [← hA.out]; exact (List.append_nil A).symm
     subst hAA;have kD := Lib.hid (signs_d hW.out hS.out (by have := hB.out; simp only [List.length_singleton]; omega));clear hi hA hG hS hB;go_wp2_with fail
     refine leaves_cons (f := 62) (args := #[.pointer (some ⟨b, 0, none⟩), .slice (some ⟨q, 0, none⟩) 1 1]) (by simp) (by simp [go_sem]) ?_;refine (kD.out .returning).mono ?_;rintro e3 u3 w9 ⟨rfl, rfl, hW9, hO9⟩;refine ⟨.tuple #[], results_none rfl _ _ _, rfl, ?_, Fw.then hO.out hO9⟩;have e4 : L ++ (signTg B.lbr :: (rowS F ++ [signTg B.rbr])) = (L ++ signTg B.lbr :: rowS F) ++ [B.rbr].map signTg := by simp
     rw [e4];exact hW9
   | cons x k r =>
     have hcc : (Fs.cons x k r).count = r.count + 1 := rfl;have hii : i + 1 + r.count = n := by have := hi.out; omega
     have hlti : (i : Int) < (n : Int) := by omega
     obtain ⟨kx, hGr⟩ := hG.out;have eF : (Fs.cons x k r).flat ++ R = x :: (k.flat ++ (r.flat ++ R)) := by
       show (x :: (k.flat ++ r.flat)) ++ R = _
       simp
     have hW0 := hW.out;have hB0 := hB.out;rw [eF] at hW0 hB0;have hbl := bare_len x k;have hll : (x :: (k.flat ++ (r.flat ++ R))).length = k.flat.length + (r.flat ++ R).length + 1 := by rw [List.length_cons, List.length_append]
     rw [hll] at hB0;have hA0 := hA.out;rw [show rowS (.cons x k r) = bareS x k ++ rowS r from rfl, ← List.append_assoc] at hA0;have kE := Lib.hid (kx wr b (r.flat ++ R) _ hW0 (by rw [hll]; omega));have hGr' := Lib.hid hGr;have hB1 : Hid ((L ++ (signTg B.lbr :: (A ++ bareS x k))).length + 100 * (r.flat ++ R).length ≤ 999960) := Lib.hid (by
       rw [List.length_append, List.length_cons] at hB0 ⊢;rw [List.length_append];omega)
     replace hA0 := Lib.hid hA0;clear hi hcc hW hB hA hG eF hW0 hB0 hGr kx hbl hll;go_wp2_with fail
     with_reducible refine kE.out.mono ?_
     rintro e3 w9 ⟨rfl, hW9, hO9⟩;have hS9 := Lib.hid (hS.out.held hO9);have hW10 : Hid (Wr w0 w9 b (r.flat ++ R) (L ++ (signTg B.lbr :: (A ++ bareS x k)))) := Lib.hid (by
       have e5 : L ++ (signTg B.lbr :: (A ++ bareS x k)) = (L ++ signTg B.lbr :: A) ++ bareS x k := by simp
       rw [e5];exact hW9)
     have hO10 := Lib.hid (Fw.then hO.out hO9);clear kE hW9 hO9;go_wp2_with fail
     go_roundw
     case rel => exact ⟨i + 1, r, A ++ bareS x k, Lib.hid hii, by go_num, hGr', hA0, hW10, hB1, hO10, hS9⟩
     case measure => simp [intOf]; omega
set_option maxRecDepth 20000 in
set_option maxHeartbeats 2000000 in
theorem flow_emit {w0 : World} {kids num : Int} {text : List UInt8} {K P : Fs} {c : Tw} {kc : Fs} (hP : EmitF w0 39 P) (hC : Emit w0 40 [] c kc (bareS c kc)) (hk : kids = (P.count : Int) + 1) (hk9 : kids ≤ 2048) (hfl : K.flat = P.flat ++ (c :: kc.flat))
   (hT : bareS ⟨1, kids, num, text⟩ K = wordTg B.flow :: wordTg text :: signTg B.opn :: (commaS 0 P ++ (signTg B.cls :: bareS c kc))) (hPl : (commaS 0 P).length ≤ 100 * P.flat.length) : Emit w0 19 [] ⟨1, kids, num, text⟩ K (bareS ⟨1, kids, num, text⟩ K) := by
 intro w b R L h hL;rw [hT];have eK : K.flat ++ R = P.flat ++ (c :: (kc.flat ++ R)) := by rw [hfl]; simp
 rw [eK] at h hL;have e1 : ((⟨1, kids, num, text⟩ : Tw) :: (P.flat ++ (c :: (kc.flat ++ R)))).length = P.flat.length + kc.flat.length + R.length + 2 := by simp only [List.length_cons, List.length_append]; omega
 have e2 : (P.flat ++ (c :: (kc.flat ++ R))).length = P.flat.length + kc.flat.length + R.length + 1 := by simp only [List.length_cons, List.length_append]; omega
 have e3 : (c :: (kc.flat ++ R)).length = kc.flat.length + R.length + 1 := by simp only [List.length_cons, List.length_append]
 rw [e1] at hL;have hk1 : kids - 1 = (P.count : Int) := by omega
 have hk2 : 1 ≤ kids := by omega
 replace hk := Lib.hid hk;replace hk1 := Lib.hid hk1;have hmf : ∀ (fn : Fn) (first cap : Array Value) (w : World), (Instr.makeFunc fn first cap).run Tryz.prog w = .ok (.func fn first cap) w := fun _ _ _ _ => rfl;have kN := next_any h;replace kN := Calls.mono kN (fun e w' (hh : e = .returned (.agg #[.int .u8 1, .int .i64 kids, .int .i64 num, .string ⟨text.toArray⟩]) ∧ _) => hh);replace kN := Lib.hid kN;clear h hT;show Calls Tryz.prog _ #[.pointer (some ⟨b, 0, none⟩)] w _
 go_enter Tryz.func19, Tryz.ntmps19
 go_wp2_with fail
 with_reducible refine kN.out.mono ?_
 rintro ee w1 ⟨rfl, hW1, hO1⟩;have hal := (Below.refl w1.heap.size w1).alloc (Nat.le_refl _) (.cells #[.int .u8 1, .int .i64 kids, .int .i64 num, .string ⟨text.toArray⟩] 31);have hX := heap_alloc_new w1 (.cells #[.int .u8 1, .int .i64 kids, .int .i64 num, .string ⟨text.toArray⟩] 31 (0, 0));have hqb : w1.heap.size ≠ b := by have := hW1.lt; omega
 have hO : Hid (Only (Fw w0.heap.size b w) w (w1.alloc (.cells #[.int .u8 1, .int .i64 kids, .int .i64 num, .string ⟨text.toArray⟩] 31))) := Lib.hid (Fw.then (Only.mono hO1 (fun k _ e => .inl e)) (Only.of_below hal));have hW := Lib.hid (hW1.keep hal);have hal2 := (Below.refl (w1.alloc (.cells #[.int .u8 1, .int .i64 kids, .int .i64 num, .string ⟨text.toArray⟩] 31)).heap.size (w1.alloc (.cells #[.int .u8 1, .int .i64 kids, .int .i64 num, .string ⟨text.toArray⟩] 31))).alloc (Nat.le_refl _) (.cells #[.string ⟨#[102, 108, 111, 119]⟩, .string ⟨text.toArray⟩] 9);have kc := Lib.hid (wordsS_any (hW.out.keep hal2) (strs_two (base := w0.heap.size) (w1.alloc (.cells #[.int .u8 1, .int .i64 kids, .int .i64 num, .string ⟨text.toArray⟩] 31)) B.flow text hW.out.lt (q := w1.heap.size + 1) (by simp)) (by simp only [List.length_cons, List.length_nil]; omega));replace hX := (hal2.block _ (Array.getElem?_eq_some_iff.1 hX).1).trans hX;replace hO := Lib.hid (Fw.then hO.out (Only.of_below hal2));clear hW1 hO1 hal kN hal2 hW;go_wp2_with fail
 with_reducible refine kc.out.mono ?_
 rintro ee w2 ⟨rfl, hWn, hOn⟩;replace hX := Fw.held hOn hX (by decide) hqb;replace hO := Lib.hid (Fw.then hO.out hOn);have hW := Lib.hid hWn;clear hWn hOn kc;have x1 := cellW hX 1;simp only [List.getElem?_toArray, List.getElem?_cons_zero, List.getElem?_cons_succ] at x1;have hLl : (L ++ [B.flow, text].map wordTg).length + 100 * (P.flat ++ (c :: (kc.flat ++ R))).length ≤ 999950 := by rw [e2, List.length_append]; simp only [List.length_cons, List.length_nil, List.length_map]; omega
 have kl : Hid (Calls Tryz.prog 38 #[.pointer (some ⟨b, 0, none⟩), .string ⟨#[40]⟩, .int .i64 (kids - 1), .func (.func 39) #[.pointer (some ⟨b, 0, none⟩)] #[], .string ⟨#[41]⟩] w2 fun e W9 => e = .returned (.tuple #[]) ∧ Wr w0 W9 b (c :: (kc.flat ++ R)) ((L ++ [B.flow, text].map wordTg) ++ (signTg B.opn :: (commaS 0 P ++ [signTg B.cls]))) ∧ Only (Fw w0.heap.size b w2) w2 W9) := Lib.hid (list_z en_param10 hP hW.out hLl hk1.out B.opn B.cls);clear hW;go_wp2_with fail
 with_reducible refine kl.out.mono ?_
 rintro ee w3 ⟨rfl, hWn, hOn⟩;clear x1 hX;replace hO := Lib.hid (Fw.then hO.out hOn);have kb := Lib.hid (hC w3 b R _ hWn (by rw [e3]; simp only [List.length_append, List.length_cons, List.length_nil, List.length_map]; omega));clear hWn hOn kl;go_wp2_with fail
 with_reducible refine kb.out.mono ?_
 rintro ee w4 ⟨rfl, hWn, hOn⟩;replace hO := Lib.hid (Fw.then hO.out hOn);have hW := Lib.hid hWn;clear hWn hOn kb;go_wp2_with fail
 refine bodyPost_end (results_none rfl _ _ _) rfl ⟨rfl, ?_, hO.out⟩;have e9 : ∀ (W : World) (A Z : List Tg), A = Z → Wr w0 W b R A → Wr w0 W b R Z := fun _ _ _ e h => e ▸ h;refine e9 _ _ _ ?_ hW.out;simp
end Go.Proofs.YtjiemkidmlgbeaaGreatDoor
