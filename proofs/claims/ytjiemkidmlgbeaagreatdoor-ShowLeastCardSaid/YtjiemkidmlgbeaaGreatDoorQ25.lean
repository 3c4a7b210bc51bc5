/- A part of the proof: ShY, ShN, ShNL1, ShNL2. No condition. -/
import Derived.Shelf.Abstract
import Derived.Test.YtjiemkidmlgbeaaGreatDoorQ24
set_option linter.unusedVariables false
set_option linter.unusedSimpArgs false
namespace Go.Proofs.YtjiemkidmlgbeaaGreatDoor
open Go.RowKit Go.Shelf
def LayOK (y : Lay) : Prop := y.head.length ≤ 34 ∧ y.tail.length ≤ 1 ∧ ∀ p, (y.part p).1.length ≤ 32
theorem ite_lay {c : Prop} [Decidable c] {a b : Lay} (ha : LayOK a) (hb : LayOK b) : LayOK (if c then a else b) := by
 by_cases h : c
 · rw [if_pos h]; exact ha
 · rw [if_neg h]; exact hb
theorem lay_len (x : Tw) : LayOK (layT x) := by
 have hm := mark_len x.op;have h1 : ∀ p, (noneL p).1.length ≤ 32 := fun _ => by show 0 ≤ 32; omega
 have h2 : ∀ p, (comma p).1.length ≤ 32 := fun p => by unfold comma; dsimp only; split <;> simp
 have h3 : ∀ p, (elseL p).1.length ≤ 32 := fun p => by unfold elseL; dsimp only; split <;> simp
 have h4 : ∀ n p, (flowL n p).1.length ≤ 32 := fun n p => by unfold flowL; repeat' split
                                                             all_goals simp
 have h5 : ∀ p, (atL p).1.length ≤ 32 := fun p => by unfold atL; split <;> simp
 have hml : ∀ l : List Tg, l.length ≤ 2 → (markTg x.op ++ l).length ≤ 34 := fun l hl => by rw [List.length_append]; omega
 have hmm : (markTg x.op).length ≤ 34 := by omega
 have h6 : ∀ (a : Nat) p, ((if p = 0 then [] else markTg x.op, a) : List Tg × Nat).1.length ≤ 32 := fun a p => by
   dsimp only;by_cases hp : p = 0
   · rw [if_pos hp]; exact Nat.zero_le _
   · rw [if_neg hp]; exact hm
 have h7 : ∀ p, ((if p = 0 then ([], widthN x.op) else (markTg x.op, widthN x.op + 1)) : List Tg × Nat).1.length ≤ 32 := fun p => by
   by_cases hp : p = 0
   · rw [if_pos hp]; exact Nat.zero_le _
   · rw [if_neg hp]; exact hm
 unfold layT;refine ite_lay ⟨by simp, by simp, h4 _⟩ (ite_lay ⟨by simp, by simp, h1⟩ (ite_lay ⟨by simp, by simp, h1⟩ (ite_lay ⟨by simp, by simp, h1⟩ (ite_lay ⟨by simp, by simp, h1⟩ (ite_lay ⟨by simp, by simp, h3⟩ (ite_lay ⟨by simp, by simp, h3⟩ (ite_lay ⟨by simp, by simp, h1⟩ (ite_lay ⟨by simp, by simp, h1⟩ (ite_lay ⟨by simp, by simp, h1⟩ (ite_lay ⟨by simp, by simp, h1⟩ (ite_lay ⟨by simp, by simp, h2⟩ (ite_lay ⟨hml _ (by simp), by simp, h2⟩ (ite_lay ⟨by simp, by simp, h1⟩ (ite_lay ⟨by simp, by simp, h5⟩ (ite_lay ⟨hmm, by simp, h1⟩ (ite_lay ⟨hml _ (by simp), by simp, h2⟩ (ite_lay ⟨hmm, by simp, fun p => Nat.zero_le _⟩ (ite_lay ⟨by simp, by simp, h6 _⟩ ⟨by simp, by simp, h7⟩))))))))))))))))))
theorem toks_len : ∀ (F : Fs) (ask : Nat → List Tg × Nat) (p : Nat), (∀ p, (ask p).1.length ≤ 32) → (toksF ask p F).length ≤ 100 * F.flat.length
 | .nil, _, _, _ => by show 0 ≤ _; omega
 | .cons x k r, ask, p, h => by
   obtain ⟨l1, l2, l3⟩ := lay_len x;have hk := toks_len k (layT x).part 0 l3;have hr := toks_len r ask (p + 1) h;have hp := h p;have e : (Fs.cons x k r).flat.length = k.flat.length + r.flat.length + 1 := by
     show (x :: (k.flat ++ r.flat)).length = _
     rw [List.length_cons, List.length_append]
   rw [e];show ((ask p).1 ++ wrapT (decide (widthN x.op < (ask p).2)) ((layT x).head ++ toksF (layT x).part 0 k ++ (layT x).tail) ++ toksF ask (p + 1) r).length ≤ _
   have hw : ∀ (b : Bool) (l : List Tg), (wrapT b l).length ≤ l.length + 2 := fun b l => by
     unfold wrapT;split
     · rw [List.length_cons, List.length_append]; simp
     · omega
   have hww := hw (decide (widthN x.op < (ask p).2)) ((layT x).head ++ toksF (layT x).part 0 k ++ (layT x).tail);rw [List.length_append, List.length_append] at hww;rw [List.length_append, List.length_append];omega
theorem bare_len (x : Tw) (k : Fs) : (bareS x k).length ≤ 100 * k.flat.length + 35 := by
 obtain ⟨l1, l2, l3⟩ := lay_len x;have hk := toks_len k (layT x).part 0 l3;unfold bareS;rw [List.length_append, List.length_append];omega
theorem at_len (a : Nat) (x : Tw) (k : Fs) : (atS a x k).length ≤ 100 * k.flat.length + 37 := by
 have := bare_len x k;unfold atS wrapT;split
 · rw [List.length_cons, List.length_append]
   simp only [List.length_singleton];omega
 · omega
theorem count_flat : ∀ (F : Fs), F.count ≤ F.flat.length
 | .nil => Nat.le_refl _
 | .cons x k r => by
   have := count_flat r;show r.count + 1 ≤ (x :: (k.flat ++ r.flat)).length
   rw [List.length_cons, List.length_append];omega
def Emit (w0 : World) (f : Nat) (args : List Value) (x : Tw) (k : Fs) (T : List Tg) : Prop :=
 ∀ (w : World) (b : Nat) (R : List Tw) (L : List Tg), Wr w0 w b (x :: (k.flat ++ R)) L → L.length + 100 * (x :: (k.flat ++ R)).length ≤ 1000000 →
   Calls Tryz.prog f (.pointer (some ⟨b, 0, none⟩) :: args).toArray w fun e w' => e = .returned (.tuple #[]) ∧ Wr w0 w' b R (L ++ T) ∧ Only (Fw w0.heap.size b w) w w'
def EmitF (w0 : World) (f : Nat) : Fs → Prop
 | .nil => True
 | .cons x k r => Emit w0 f [] x k (bareS x k) ∧ EmitF w0 f r
set_option maxRecDepth 20000 in
set_option maxHeartbeats 2000000 in
theorem listS_any {w0 w : World} {b N : Nat} {F : Fs} {R : List Tw} {L : List Tg} (hE : ∀ (args : Array Value) (w : World), (callFunc N args).run Tryz.prog w = .ok (.enter N args) w) (hF : EmitF w0 N F) (h : Wr w0 w b (F.flat ++ R) L) (hL : L.length + 100 * (F.flat ++ R).length ≤ 999950) {n : Nat} (hn : F.count = n) (o e : List UInt8) :
   Calls Tryz.prog 38 #[.pointer (some ⟨b, 0, none⟩), .string ⟨o.toArray⟩, .int .i64 (n : Int), .func (.func N) #[.pointer (some ⟨b, 0, none⟩)] #[], .string ⟨e.toArray⟩] w fun e' w' => e' = .returned (.tuple #[]) ∧ Wr w0 w' b R (L ++ (signTg o :: (commaS 0 F ++ [signTg e]))) ∧ Only (Fw w0.heap.size b w) w w' := by
 have hal := (Below.refl w.heap.size w).alloc (Nat.le_refl _) (.cells #[.string ⟨o.toArray⟩] 9);have kO := Lib.hid (signs_any (h.keep hal) (strsS_new (base := w0.heap.size) w o h.lt rfl) (by simp only [List.length_singleton]; omega));have hOA : Hid (Only (Fw w0.heap.size b w) w (w.alloc (.cells #[.string ⟨o.toArray⟩] 9))) := Lib.hid (Only.of_below hal);have hn9 : n ≤ 10000 := by
   have := count_flat F;rw [List.length_append] at hL;omega
 replace hF := Lib.hid hF;clear h hal;go_enter_defers Tryz.func38, Tryz.ntmps38
 go_wp2_with fail
 with_reducible refine kO.out.mono ?_
 rintro e1 w1 ⟨rfl, hW1, hO1⟩;have hO1' := Lib.hid (Fw.then hOA.out hO1);have hal2 := (Below.refl w1.heap.size w1).alloc (Nat.le_refl _) (.cells #[.string ⟨e.toArray⟩] 9);have hS2 := Lib.hid (strsS_new (base := w0.heap.size) w1 e hW1.lt rfl);have hW2 := Lib.hid (hW1.keep hal2);have hO2 := Lib.hid (Fw.then hO1'.out (Only.of_below hal2));clear hW1 hO1 hO1' hal2 kO hOA;go_wp2_with fail
 generalize w1.alloc (.cells #[.string ⟨e.toArray⟩] 9) = w2 at *;generalize w1.heap.size = q at *;go_loopw [10, 19] (fun _ t19 wr => ∃ (i : Nat) (G : Fs) (A : List Tg), Hid (i + G.count = n) ∧ t19 = .int .i64 i ∧ Hid (EmitF w0 N G) ∧ Hid (A ++ commaS i G = commaS 0 F) ∧ Hid (Wr w0 wr b (G.flat ++ R) (L ++ (signTg o :: A))) ∧ Hid ((L ++ (signTg o :: A)).length + 100 * (G.flat ++ R).length ≤ 999960) ∧ Hid (Only (Fw w0.heap.size b w) w wr) ∧ Hid (Strs w0.heap.size b wr (.slice (some ⟨q, 0, none⟩) 1 1) [e])) (fun _ t19 _ => n - (intOf t19).toNat)
 case atStart => exact ⟨0, F, [], Lib.hid (by omega), rfl, hF, Lib.hid rfl, hW2, Lib.hid (by rw [List.length_append]; simp only [List.length_singleton]; omega), hO2, hS2⟩
 case round =>
   obtain ⟨i, G, A, hi, rfl, hG, hA, hW, hB, hO, hS⟩ := hrel;cases G with
   | nil =>
     have hin : i = n := hi.out;subst hin;have hlti : ¬ ((i : Int) < (i : Int)) := by omega
     have hAA : A = commaS 0 F := by rw [← hA.out]; exact (List.append_nil A).symm
     subst hAA;have kD := Lib.hid (signs_d hW.out hS.out (by have := hB.out; simp only [List.length_singleton]; omega));clear hi hA hG hS hB;go_wp2_with fail
     refine leaves_cons (f := 62) (args := #[.pointer (some ⟨b, 0, none⟩), .slice (some ⟨q, 0, none⟩) 1 1]) (by simp) (by simp [go_sem]) ?_;refine (kD.out .returning).mono ?_;rintro e3 u3 w3 ⟨rfl, rfl, hW3, hO3⟩;refine ⟨.tuple #[], results_none rfl _ _ _, rfl, ?_, Fw.then hO.out hO3⟩;have e4 : L ++ (signTg o :: (commaS 0 F ++ [signTg e])) = (L ++ signTg o :: commaS 0 F) ++ [e].map signTg := by simp
     rw [e4];exact hW3
   | cons x k r =>
     have hcc : (Fs.cons x k r).count = r.count + 1 := rfl;have hii : i + 1 + r.count = n := by have := hi.out; omega
     have hlti : (i : Int) < (n : Int) := by omega
     obtain ⟨kx, hGr⟩ := hG.out;have eF : (Fs.cons x k r).flat ++ R = x :: (k.flat ++ (r.flat ++ R)) := by
       show (x :: (k.flat ++ r.flat)) ++ R = _
       simp
     have hW0 := hW.out;have hB0 := hB.out;rw [eF] at hW0 hB0;have hbl := bare_len x k;have hll : (x :: (k.flat ++ (r.flat ++ R))).length = k.flat.length + (r.flat ++ R).length + 1 := by rw [List.length_cons, List.length_append]
     rw [hll] at hB0;have hA0 := hA.out;rw [show commaS i (.cons x k r) = (comma i).1 ++ bareS x k ++ commaS (i + 1) r from rfl] at hA0;have hbw := hW0.lt;clear hi hcc hW hB hA hG eF;by_cases h0 : i = 0
     · have hgt : ¬ (0 : Int) < (i : Int) := by omega
       have ec : (comma i).1 = [] := by unfold comma; rw [if_pos h0]
       rw [ec, List.nil_append, ← List.append_assoc] at hA0;have kE := Lib.hid (kx wr b (r.flat ++ R) _ hW0 (by rw [hll]; omega));have hS' := hS;have hGr' := Lib.hid hGr;have hB1 : Hid ((L ++ (signTg o :: (A ++ bareS x k))).length + 100 * (r.flat ++ R).length ≤ 999960) := Lib.hid (by
         rw [List.length_append, List.length_cons] at hB0 ⊢;rw [List.length_append];omega)
       replace hA0 := Lib.hid hA0;clear hW0 hB0 hGr kx h0 ec hbl hll;go_wp2_with fail
       with_reducible refine kE.out.mono ?_
       rintro e3 w3 ⟨rfl, hW3, hO3⟩;have hS3 := Lib.hid (hS.out.held hO3);have hW4 : Hid (Wr w0 w3 b (r.flat ++ R) (L ++ (signTg o :: (A ++ bareS x k)))) := Lib.hid (by
         have e5 : L ++ (signTg o :: (A ++ bareS x k)) = (L ++ signTg o :: A) ++ bareS x k := by simp
         rw [e5];exact hW3)
       have hO4 := Lib.hid (Fw.then hO.out hO3);clear kE hW3 hO3;go_wp2_with fail
       go_roundw
       case rel => exact ⟨i + 1, r, A ++ bareS x k, Lib.hid hii, by go_num, hGr', hA0, hW4, hB1, hO4, hS3⟩
       case measure => simp [intOf]; omega
     · have hgt : (0 : Int) < (i : Int) := by omega
       have ec : (comma i).1 = [signTg B.com] := by unfold comma; rw [if_neg h0]
       rw [ec] at hA0;have hA1 : (A ++ signTg B.com :: bareS x k) ++ commaS (i + 1) r = commaS 0 F := by
         rw [← hA0];simp
       have hal := (Below.refl wr.heap.size wr).alloc (Nat.le_refl _) (.cells #[.string ⟨#[44]⟩] 9);have kC := Lib.hid (signs_any (hW0.keep hal) (strsS_new (base := w0.heap.size) wr B.com hbw rfl) (by simp only [List.length_singleton]; omega));have hOA := Lib.hid (Fw.then hO.out (Only.of_below hal));have hSA := Lib.hid (hS.out.below hal);have hGr' := Lib.hid hGr;have hB1 : Hid ((L ++ (signTg o :: (A ++ signTg B.com :: bareS x k))).length + 100 * (r.flat ++ R).length ≤ 999960) := Lib.hid (by
         rw [List.length_append, List.length_cons] at hB0 ⊢;rw [List.length_append, List.length_cons];omega)
       replace hA1 := Lib.hid hA1;have hB2 : Hid ((L ++ signTg o :: A).length + 1 + 100 * (x :: (k.flat ++ (r.flat ++ R))).length ≤ 1000000) := Lib.hid (by rw [hll]; omega);replace kx := Lib.hid kx;clear hW0 hB0 hGr h0 ec hbl hll hA0 hal hO hS;go_wp2_with fail
       with_reducible refine kC.out.mono ?_
       rintro e3 w3 ⟨rfl, hW3, hO3⟩;have kE := Lib.hid (kx.out w3 b (r.flat ++ R) _ hW3 (by have := hB2.out; rw [List.length_append, List.length_map]; simp only [List.length_singleton]; omega));have hS3 := Lib.hid (hSA.out.held hO3);have hO4 := Lib.hid (Fw.then hOA.out hO3);clear kC hW3 hO3;go_wp2_with fail
       with_reducible refine kE.out.mono ?_
       rintro e4 w4 ⟨rfl, hW4, hO5⟩;have hS4 := Lib.hid (hS3.out.held hO5);have hW5 : Hid (Wr w0 w4 b (r.flat ++ R) (L ++ (signTg o :: (A ++ signTg B.com :: bareS x k)))) := Lib.hid (by
         have e5 : L ++ (signTg o :: (A ++ signTg B.com :: bareS x k)) = ((L ++ signTg o :: A) ++ [B.com].map signTg) ++ bareS x k := by simp
         rw [e5];exact hW4)
       have hO6 := Lib.hid (Fw.then hO4.out hO5);clear kE hW4 hO5;go_wp2_with fail
       go_roundw
       case rel => exact ⟨i + 1, r, A ++ signTg B.com :: bareS x k, Lib.hid hii, by go_num, hGr', hA1, hW5, hB1, hO6, hS4⟩
       case measure => simp [intOf]; omega
end Go.Proofs.YtjiemkidmlgbeaaGreatDoor
namespace Go.Proofs.YtjiemkidmlgbeaaGreatDoor
open Go.RowKit Go.Shelf
def NarP (w0 : World) (x : Tw) (k : Fs) : Prop := ∀ asked : Int, 1 ≤ asked → asked ≤ 9 → Emit w0 41 [.int .i64 asked] x k (atS asked.toNat x k)
def PrimP (w0 : World) (x : Tw) (k : Fs) : Prop := ∀ (w : World) (b : Nat) (R : List Tw) (L : List Tg), Wr w0 w b (k.flat ++ R) L → L.length + 100 * (k.flat ++ R).length ≤ 999910 →
 Calls Tryz.prog 66 #[.pointer (some ⟨b, 0, none⟩), twV x] w fun e w' => e = .returned (.tuple #[]) ∧ Wr w0 w' b R (L ++ bareS x k) ∧ Only (Fw w0.heap.size b w) w w'
theorem en_expr10 : ∀ (args : Array Value) (w : World), (callFunc 20 args).run Tryz.prog w = .ok (.enter 20 args) w := Go.Proofs.enters_of (fn := Tryz.f20) (by kernel_rfl) (by kernel_rfl) rfl
theorem en_param10 : ∀ (args : Array Value) (w : World), (callFunc 39 args).run Tryz.prog w = .ok (.enter 39 args) w := Go.Proofs.enters_of (fn := Tryz.f39) (by kernel_rfl) (by kernel_rfl) rfl
set_option maxRecDepth 20000 in
set_option maxHeartbeats 2000000 in
theorem width_any (op : Nat) (w : World) : Calls Tryz.prog 64 #[.int .u8 (op : Int)] w fun e w' => e = .returned (.int .i64 (widthN op : Int)) ∧ w' = w := by
 go_enter Tryz.func64, Tryz.ntmps64
 go_wp2
 all_goals
   go_ret
   refine ⟨?_, rfl⟩;simp only [beq_iff_eq, beq_eq_false_iff_ne, ne_eq] at *;unfold widthN
   repeat' split
   all_goals first
     | rfl
     | (exfalso; omega)
end Go.Proofs.YtjiemkidmlgbeaaGreatDoor
namespace Go.Proofs.YtjiemkidmlgbeaaGreatDoor
open Go.RowKit Go.Shelf
set_option maxRecDepth 20000 in
set_option maxHeartbeats 2000000 in
theorem nar_L10 {w0 : World} (hM : MarksOK w0) {op : Nat} {kids num : Int} {text : List UInt8} (hw : widthN op = 1) {a c : Tw} {ka kc : Fs} (hA : NarP w0 a ka) (hC : NarP w0 c kc) (hT : bareS ⟨op, kids, num, text⟩ (.cons a ka (.cons c kc .nil)) = atS 1 a ka ++ (markTg op ++ atS 2 c kc)) {asked : Int} (hq : ¬ (1 : Int) < asked) (h1 : 1 ≤ asked) :
   Emit w0 41 [.int .i64 asked] ⟨op, kids, num, text⟩ (.cons a ka (.cons c kc .nil)) (atS asked.toNat ⟨op, kids, num, text⟩ (.cons a ka (.cons c kc .nil))) := by
 intro w b R L h hL;rw [atS_wide (show asked.toNat ≤ widthN op by omega)];have eK : ((Fs.cons a ka (.cons c kc .nil)).flat ++ R) = a :: (ka.flat ++ (c :: (kc.flat ++ R))) := by simp [Fs.flat]
 rw [eK] at h hL;have e1 : ((⟨op, kids, num, text⟩ : Tw) :: a :: (ka.flat ++ (c :: (kc.flat ++ R)))).length = ka.flat.length + kc.flat.length + R.length + 3 := by simp only [List.length_cons, List.length_append] <;> omega
 have e2 : (a :: (ka.flat ++ (c :: (kc.flat ++ R)))).length = ka.flat.length + kc.flat.length + R.length + 2 := by simp only [List.length_cons, List.length_append] <;> omega
 have e3 : (c :: (kc.flat ++ R)).length = kc.flat.length + R.length + 1 := by simp only [List.length_cons, List.length_append] <;> omega
 rw [e1] at hL;rw [hT];have kN := next_any h;have kW := Lib.hid (fun W => width_any op W);rw [hw] at kW;unfold twV at kN;dsimp only at kN;replace kN := Lib.hid kN;clear h;show Calls Tryz.prog _ #[.pointer (some ⟨b, 0, none⟩), .int .i64 asked] w _
 go_enter_defers Tryz.func41, Tryz.ntmps41
 go_wp2_with fail
 with_reducible refine kN.out.mono ?_
 rintro ee w1 ⟨rfl, hW1, hO1⟩;have hal := (Below.refl w1.heap.size w1).alloc (Nat.le_refl _) (.cells #[.int .u8 (op : Int), .int .i64 kids, .int .i64 num, .string ⟨text.toArray⟩] 31);have hX := heap_alloc_new w1 (.cells #[.int .u8 (op : Int), .int .i64 kids, .int .i64 num, .string ⟨text.toArray⟩] 31 (0, 0));have hqb : w1.heap.size ≠ b := by have := hW1.lt; omega
 have hO2 := Lib.hid (Fw.then (Only.mono hO1 (fun k _ e => .inl e)) (Only.of_below hal) : Only (Fw w0.heap.size b w) w _);have hW2 := Lib.hid (hW1.keep hal);clear hW1 hO1 hal kN;go_wp2_with fail
 with_reducible refine (kW.out _).mono ?_
 rintro ee w2 ⟨rfl, rfl⟩;clear kW;generalize w1.alloc (.cells #[.int .u8 (op : Int), .int .i64 kids, .int .i64 num, .string ⟨text.toArray⟩] 31) = w2 at *;generalize w1.heap.size = q at *;have hW := hW2;have hO := hO2;clear hW2 hO2;have hbW := hW.out.lt;obtain ⟨LL, hLe⟩ : ∃ l, l = L := ⟨_, rfl⟩;have hLL : LL.length ≤ L.length + 1 := by rw [hLe]; omega
 rw [← hLe] at hW;replace hLe := Lib.hid hLe;have hla := at_len 1 a ka;have hlm := mark_len op;have hlc := at_len 2 c kc;have x0 := cellW hX 0;simp only [List.getElem?_toArray, List.getElem?_cons_zero] at x0;have kc0 := Lib.hid (hA 1 (by decide) (by decide) _ b (c :: (kc.flat ++ R)) LL hW.out (by rw [e2]; omega));replace hX := hX;clear hW;go_wp2_with fail
 with_reducible refine kc0.out.mono ?_
 rintro ee wa ⟨rfl, hWn, hOn⟩;clear x0;replace hX := Fw.held hOn hX (by decide) hqb;replace hO := Lib.hid (Fw.then hO.out hOn);have hW := Lib.hid hWn;clear hWn hOn kc0;have x0 := cellW hX 0;simp only [List.getElem?_toArray, List.getElem?_cons_zero] at x0;have kc1 := Lib.hid (markS_any hW.out hM op (by rw [List.length_append]; have e : (atS (1 : Int).toNat a ka).length = (atS 1 a ka).length := rfl; omega));clear hW;go_wp2_with fail
 with_reducible refine kc1.out.mono ?_
 rintro ee wb ⟨rfl, hWn, hOn⟩;clear x0 hX;replace hO := Lib.hid (Fw.then hO.out hOn);have kc2 := Lib.hid (hC 2 (by decide) (by decide) _ b R _ hWn (by rw [List.length_append, List.length_append, e3]; have e : (atS (1 : Int).toNat a ka).length = (atS 1 a ka).length := rfl; omega));clear hWn hOn kc1;go_wp2_with fail
 with_reducible refine kc2.out.mono ?_
 rintro ee wc ⟨rfl, hWn, hOn⟩;replace hO := Lib.hid (Fw.then hO.out hOn);replace hWn : Wr w0 wc b R (((LL ++ atS 1 a ka) ++ markTg op) ++ atS 2 c kc) := hWn;rw [hLe.out] at hWn;have hW := Lib.hid hWn;clear hWn hOn kc2;have hlen : (LL ++ atS 1 a ka ++ markTg op ++ atS 2 c kc).length ≤ 1000000 := by simp only [List.length_append]; omega
 rw [hLe.out] at hlen;go_wp2_with fail
 refine ⟨.tuple #[], results_none rfl _ _ _, rfl, ?_, hO.out⟩;have e9 : ∀ (W : World) (A Z : List Tg), A = Z → Wr w0 W b R A → Wr w0 W b R Z := fun _ _ _ e h => e ▸ h;refine e9 _ _ _ ?_ hW.out;simp
set_option maxRecDepth 20000 in
set_option maxHeartbeats 2000000 in
theorem nar_L11 {w0 : World} (hM : MarksOK w0) {op : Nat} {kids num : Int} {text : List UInt8} (hw : widthN op = 1) {a c : Tw} {ka kc : Fs} (hA : NarP w0 a ka) (hC : NarP w0 c kc) (hT : bareS ⟨op, kids, num, text⟩ (.cons a ka (.cons c kc .nil)) = atS 1 a ka ++ (markTg op ++ atS 2 c kc)) {asked : Int} (hq : (1 : Int) < asked) (h1 : 1 ≤ asked) :
   Emit w0 41 [.int .i64 asked] ⟨op, kids, num, text⟩ (.cons a ka (.cons c kc .nil)) (atS asked.toNat ⟨op, kids, num, text⟩ (.cons a ka (.cons c kc .nil))) := by
 intro w b R L h hL;rw [atS_narrow (show widthN op < asked.toNat by omega)];have eK : ((Fs.cons a ka (.cons c kc .nil)).flat ++ R) = a :: (ka.flat ++ (c :: (kc.flat ++ R))) := by simp [Fs.flat]
 rw [eK] at h hL;have e1 : ((⟨op, kids, num, text⟩ : Tw) :: a :: (ka.flat ++ (c :: (kc.flat ++ R)))).length = ka.flat.length + kc.flat.length + R.length + 3 := by simp only [List.length_cons, List.length_append] <;> omega
 have e2 : (a :: (ka.flat ++ (c :: (kc.flat ++ R)))).length = ka.flat.length + kc.flat.length + R.length + 2 := by simp only [List.length_cons, List.length_append] <;> omega
 have e3 : (c :: (kc.flat ++ R)).length = kc.flat.length + R.length + 1 := by simp only [List.length_cons, List.length_append] <;> omega
 rw [e1] at hL;rw [hT];have kN := next_any h;have kW := Lib.hid (fun W => width_any op W);rw [hw] at kW;unfold twV at kN;dsimp only at kN;replace kN := Lib.hid kN;clear h;show Calls Tryz.prog _ #[.pointer (some ⟨b, 0, none⟩), .int .i64 asked] w _
 go_enter_defers Tryz.func41, Tryz.ntmps41
 go_wp2_with fail
 with_reducible refine kN.out.mono ?_
 rintro ee w1 ⟨rfl, hW1, hO1⟩;have hal := (Below.refl w1.heap.size w1).alloc (Nat.le_refl _) (.cells #[.int .u8 (op : Int), .int .i64 kids, .int .i64 num, .string ⟨text.toArray⟩] 31);have hX := heap_alloc_new w1 (.cells #[.int .u8 (op : Int), .int .i64 kids, .int .i64 num, .string ⟨text.toArray⟩] 31 (0, 0));have hqb : w1.heap.size ≠ b := by have := hW1.lt; omega
 have hO2 := Lib.hid (Fw.then (Only.mono hO1 (fun k _ e => .inl e)) (Only.of_below hal) : Only (Fw w0.heap.size b w) w _);have hW2 := Lib.hid (hW1.keep hal);clear hW1 hO1 hal kN;go_wp2_with fail
 with_reducible refine (kW.out _).mono ?_
 rintro ee w2 ⟨rfl, rfl⟩;clear kW;generalize w1.alloc (.cells #[.int .u8 (op : Int), .int .i64 kids, .int .i64 num, .string ⟨text.toArray⟩] 31) = w2 at *;generalize w1.heap.size = q at *;have hal3 := (Below.refl w2.heap.size w2).alloc (Nat.le_refl _) (.cells #[.string ⟨#[40]⟩] 9);have kS := Lib.hid (signs_any (hW2.out.keep hal3) (strsS_new (base := w0.heap.size) w2 B.opn hW2.out.lt rfl) (by simp only [List.length_singleton]; omega));have hX3 := Lib.hid ((hal3.block q (Array.getElem?_eq_some_iff.1 hX).1).trans hX);have hO3 := Lib.hid (Fw.then hO2.out (Only.of_below hal3));clear hX hal3 hO2 hW2;go_wp2_with fail
 with_reducible refine kS.out.mono ?_
 rintro ee w3 ⟨rfl, hW3, hO3'⟩;have hX4 := Fw.held hO3' hX3.out (by decide) hqb;have hO4 := Lib.hid (Fw.then hO3.out hO3');have hal5 := (Below.refl w3.heap.size w3).alloc (Nat.le_refl _) (.cells #[.string ⟨#[41]⟩] 9);have hS := Lib.hid (strsS_new (base := w0.heap.size) w3 B.cls hW3.lt rfl);have hX := (hal5.block q (Array.getElem?_eq_some_iff.1 hX4).1).trans hX4;have hW := Lib.hid (hW3.keep hal5);have hO := Lib.hid (Fw.then hO4.out (Only.of_below hal5));clear kS hX3 hX4 hO3 hO3' hO4 hal5;have hbW := hW3.lt;clear hW3;replace hW : Hid (Wr w0 (w3.alloc (.cells #[.string ⟨#[41]⟩] 9)) b _ (L ++ [signTg B.opn])) := hW;obtain ⟨LL, hLe⟩ : ∃ l, l = L ++ [signTg B.opn] := ⟨_, rfl⟩;have hLL : LL.length ≤ L.length + 1 := by rw [hLe]; simp
 rw [← hLe] at hW;replace hLe := Lib.hid hLe;have hla := at_len 1 a ka;have hlm := mark_len op;have hlc := at_len 2 c kc;have x0 := cellW hX 0;simp only [List.getElem?_toArray, List.getElem?_cons_zero] at x0;have kc0 := Lib.hid (hA 1 (by decide) (by decide) _ b (c :: (kc.flat ++ R)) LL hW.out (by rw [e2]; omega));replace hX := hX;clear hW;go_wp2_with fail
 with_reducible refine kc0.out.mono ?_
 rintro ee wa ⟨rfl, hWn, hOn⟩;replace hS := Lib.hid (hS.out.held hOn);clear x0;replace hX := Fw.held hOn hX (by decide) hqb;replace hO := Lib.hid (Fw.then hO.out hOn);have hW := Lib.hid hWn;clear hWn hOn kc0;have x0 := cellW hX 0;simp only [List.getElem?_toArray, List.getElem?_cons_zero] at x0;have kc1 := Lib.hid (markS_any hW.out hM op (by rw [List.length_append]; have e : (atS (1 : Int).toNat a ka).length = (atS 1 a ka).length := rfl; omega));clear hW;go_wp2_with fail
 with_reducible refine kc1.out.mono ?_
 rintro ee wb ⟨rfl, hWn, hOn⟩;replace hS := Lib.hid (hS.out.held hOn);clear x0 hX;replace hO := Lib.hid (Fw.then hO.out hOn);have kc2 := Lib.hid (hC 2 (by decide) (by decide) _ b R _ hWn (by rw [List.length_append, List.length_append, e3]; have e : (atS (1 : Int).toNat a ka).length = (atS 1 a ka).length := rfl; omega));clear hWn hOn kc1;go_wp2_with fail
 with_reducible refine kc2.out.mono ?_
 rintro ee wc ⟨rfl, hWn, hOn⟩;replace hS := Lib.hid (hS.out.held hOn);replace hO := Lib.hid (Fw.then hO.out hOn);replace hWn : Wr w0 wc b R (((LL ++ atS 1 a ka) ++ markTg op) ++ atS 2 c kc) := hWn;rw [hLe.out] at hWn;have hW := Lib.hid hWn;clear hWn hOn kc2;have hlen : (LL ++ atS 1 a ka ++ markTg op ++ atS 2 c kc).length ≤ 1000000 := by simp only [List.length_append]; omega
 rw [hLe.out] at hlen;have kD := Lib.hid (signs_d hW.out hS.out (by simp only [List.length_singleton]; omega));go_wp2_with fail
 refine leaves_cons (f := 62) (by simp) (by simp [go_sem]; rfl) ?_;refine (kD.out .returning).mono ?_;rintro ee u3 w9 ⟨rfl, rfl, hW9, hO9⟩;refine ⟨.tuple #[], results_none rfl _ _ _, rfl, ?_, Fw.then hO.out hO9⟩;have e9 : ∀ (A Z : List Tg), A = Z → Wr w0 w9 b R A → Wr w0 w9 b R Z := fun _ _ e h => e ▸ h;refine e9 _ _ ?_ hW9;simp
end Go.Proofs.YtjiemkidmlgbeaaGreatDoor
namespace Go.Proofs.YtjiemkidmlgbeaaGreatDoor
open Go.RowKit Go.Shelf
set_option maxRecDepth 20000 in
set_option maxHeartbeats 2000000 in
theorem nar_L20 {w0 : World} (hM : MarksOK w0) {op : Nat} {kids num : Int} {text : List UInt8} (hw : widthN op = 2) {a c : Tw} {ka kc : Fs} (hA : NarP w0 a ka) (hC : NarP w0 c kc) (hT : bareS ⟨op, kids, num, text⟩ (.cons a ka (.cons c kc .nil)) = atS 2 a ka ++ (markTg op ++ atS 3 c kc)) {asked : Int} (hq : ¬ (2 : Int) < asked) (h1 : 1 ≤ asked) :
   Emit w0 41 [.int .i64 asked] ⟨op, kids, num, text⟩ (.cons a ka (.cons c kc .nil)) (atS asked.toNat ⟨op, kids, num, text⟩ (.cons a ka (.cons c kc .nil))) := by
 intro w b R L h hL;rw [atS_wide (show asked.toNat ≤ widthN op by omega)];have eK : ((Fs.cons a ka (.cons c kc .nil)).flat ++ R) = a :: (ka.flat ++ (c :: (kc.flat ++ R))) := by simp [Fs.flat]
 rw [eK] at h hL;have e1 : ((⟨op, kids, num, text⟩ : Tw) :: a :: (ka.flat ++ (c :: (kc.flat ++ R)))).length = ka.flat.length + kc.flat.length + R.length + 3 := by simp only [List.length_cons, List.length_append] <;> omega
 have e2 : (a :: (ka.flat ++ (c :: (kc.flat ++ R)))).length = ka.flat.length + kc.flat.length + R.length + 2 := by simp only [List.length_cons, List.length_append] <;> omega
 have e3 : (c :: (kc.flat ++ R)).length = kc.flat.length + R.length + 1 := by simp only [List.length_cons, List.length_append] <;> omega
 rw [e1] at hL;rw [hT];have kN := next_any h;have kW := Lib.hid (fun W => width_any op W);rw [hw] at kW;unfold twV at kN;dsimp only at kN;replace kN := Lib.hid kN;clear h;show Calls Tryz.prog _ #[.pointer (some ⟨b, 0, none⟩), .int .i64 asked] w _
 go_enter_defers Tryz.func41, Tryz.ntmps41
 go_wp2_with fail
 with_reducible refine kN.out.mono ?_
 rintro ee w1 ⟨rfl, hW1, hO1⟩;have hal := (Below.refl w1.heap.size w1).alloc (Nat.le_refl _) (.cells #[.int .u8 (op : Int), .int .i64 kids, .int .i64 num, .string ⟨text.toArray⟩] 31);have hX := heap_alloc_new w1 (.cells #[.int .u8 (op : Int), .int .i64 kids, .int .i64 num, .string ⟨text.toArray⟩] 31 (0, 0));have hqb : w1.heap.size ≠ b := by have := hW1.lt; omega
 have hO2 := Lib.hid (Fw.then (Only.mono hO1 (fun k _ e => .inl e)) (Only.of_below hal) : Only (Fw w0.heap.size b w) w _);have hW2 := Lib.hid (hW1.keep hal);clear hW1 hO1 hal kN;go_wp2_with fail
 with_reducible refine (kW.out _).mono ?_
 rintro ee w2 ⟨rfl, rfl⟩;clear kW;generalize w1.alloc (.cells #[.int .u8 (op : Int), .int .i64 kids, .int .i64 num, .string ⟨text.toArray⟩] 31) = w2 at *;generalize w1.heap.size = q at *;have hW := hW2;have hO := hO2;clear hW2 hO2;have hbW := hW.out.lt;obtain ⟨LL, hLe⟩ : ∃ l, l = L := ⟨_, rfl⟩;have hLL : LL.length ≤ L.length + 1 := by rw [hLe]; omega
 rw [← hLe] at hW;replace hLe := Lib.hid hLe;have hla := at_len 2 a ka;have hlm := mark_len op;have hlc := at_len 3 c kc;have x0 := cellW hX 0;simp only [List.getElem?_toArray, List.getElem?_cons_zero] at x0;have kc0 := Lib.hid (hA 2 (by decide) (by decide) _ b (c :: (kc.flat ++ R)) LL hW.out (by rw [e2]; omega));replace hX := hX;clear hW;go_wp2_with fail
 with_reducible refine kc0.out.mono ?_
 rintro ee wa ⟨rfl, hWn, hOn⟩;clear x0;replace hX := Fw.held hOn hX (by decide) hqb;replace hO := Lib.hid (Fw.then hO.out hOn);have hW := Lib.hid hWn;clear hWn hOn kc0;have x0 := cellW hX 0;simp only [List.getElem?_toArray, List.getElem?_cons_zero] at x0;have kc1 := Lib.hid (markS_any hW.out hM op (by rw [List.length_append]; have e : (atS (2 : Int).toNat a ka).length = (atS 2 a ka).length := rfl; omega));clear hW;go_wp2_with fail
 with_reducible refine kc1.out.mono ?_
 rintro ee wb ⟨rfl, hWn, hOn⟩;clear x0 hX;replace hO := Lib.hid (Fw.then hO.out hOn);have kc2 := Lib.hid (hC 3 (by decide) (by decide) _ b R _ hWn (by rw [List.length_append, List.length_append, e3]; have e : (atS (2 : Int).toNat a ka).length = (atS 2 a ka).length := rfl; omega));clear hWn hOn kc1;go_wp2_with fail
 with_reducible refine kc2.out.mono ?_
 rintro ee wc ⟨rfl, hWn, hOn⟩;replace hO := Lib.hid (Fw.then hO.out hOn);replace hWn : Wr w0 wc b R (((LL ++ atS 2 a ka) ++ markTg op) ++ atS 3 c kc) := hWn;rw [hLe.out] at hWn;have hW := Lib.hid hWn;clear hWn hOn kc2;have hlen : (LL ++ atS 2 a ka ++ markTg op ++ atS 3 c kc).length ≤ 1000000 := by simp only [List.length_append]; omega
 rw [hLe.out] at hlen;go_wp2_with fail
 refine ⟨.tuple #[], results_none rfl _ _ _, rfl, ?_, hO.out⟩;have e9 : ∀ (W : World) (A Z : List Tg), A = Z → Wr w0 W b R A → Wr w0 W b R Z := fun _ _ _ e h => e ▸ h;refine e9 _ _ _ ?_ hW.out;simp
set_option maxRecDepth 20000 in
set_option maxHeartbeats 2000000 in
theorem nar_L21 {w0 : World} (hM : MarksOK w0) {op : Nat} {kids num : Int} {text : List UInt8} (hw : widthN op = 2) {a c : Tw} {ka kc : Fs} (hA : NarP w0 a ka) (hC : NarP w0 c kc) (hT : bareS ⟨op, kids, num, text⟩ (.cons a ka (.cons c kc .nil)) = atS 2 a ka ++ (markTg op ++ atS 3 c kc)) {asked : Int} (hq : (2 : Int) < asked) (h1 : 1 ≤ asked) :
   Emit w0 41 [.int .i64 asked] ⟨op, kids, num, text⟩ (.cons a ka (.cons c kc .nil)) (atS asked.toNat ⟨op, kids, num, text⟩ (.cons a ka (.cons c kc .nil))) := by
 intro w b R L h hL;rw [atS_narrow (show widthN op < asked.toNat by omega)];have eK : ((Fs.cons a ka (.cons c kc .nil)).flat ++ R) = a :: (ka.flat ++ (c :: (kc.flat ++ R))) := by simp [Fs.flat]
 rw [eK] at h hL;have e1 : ((⟨op, kids, num, text⟩ : Tw) :: a :: (ka.flat ++ (c :: (kc.flat ++ R)))).length = ka.flat.length + kc.flat.length + R.length + 3 := by simp only [List.length_cons, List.length_append] <;> omega
 have e2 : (a :: (ka.flat ++ (c :: (kc.flat ++ R)))).length = ka.flat.length + kc.flat.length + R.length + 2 := by simp only [List.length_cons, List.length_append] <;> omega
 have e3 : (c :: (kc.flat ++ R)).length = kc.flat.length + R.length + 1 := by simp only [List.length_cons, List.length_append] <;> omega
 rw [e1] at hL;rw [hT];have kN := next_any h;have kW := Lib.hid (fun W => width_any op W);rw [hw] at kW;unfold twV at kN;dsimp only at kN;replace kN := Lib.hid kN;clear h;show Calls Tryz.prog _ #[.pointer (some ⟨b, 0, none⟩), .int .i64 asked] w _
 go_enter_defers Tryz.func41, Tryz.ntmps41
 go_wp2_with fail
 with_reducible refine kN.out.mono ?_
 rintro ee w1 ⟨rfl, hW1, hO1⟩;have hal := (Below.refl w1.heap.size w1).alloc (Nat.le_refl _) (.cells #[.int .u8 (op : Int), .int .i64 kids, .int .i64 num, .string ⟨text.toArray⟩] 31);have hX := heap_alloc_new w1 (.cells #[.int .u8 (op : Int), .int .i64 kids, .int .i64 num, .string ⟨text.toArray⟩] 31 (0, 0));have hqb : w1.heap.size ≠ b := by have := hW1.lt; omega
 have hO2 := Lib.hid (Fw.then (Only.mono hO1 (fun k _ e => .inl e)) (Only.of_below hal) : Only (Fw w0.heap.size b w) w _);have hW2 := Lib.hid (hW1.keep hal);clear hW1 hO1 hal kN;go_wp2_with fail
 with_reducible refine (kW.out _).mono ?_
 rintro ee w2 ⟨rfl, rfl⟩;clear kW;generalize w1.alloc (.cells #[.int .u8 (op : Int), .int .i64 kids, .int .i64 num, .string ⟨text.toArray⟩] 31) = w2 at *;generalize w1.heap.size = q at *;have hal3 := (Below.refl w2.heap.size w2).alloc (Nat.le_refl _) (.cells #[.string ⟨#[40]⟩] 9);have kS := Lib.hid (signs_any (hW2.out.keep hal3) (strsS_new (base := w0.heap.size) w2 B.opn hW2.out.lt rfl) (by simp only [List.length_singleton]; omega));have hX3 := Lib.hid ((hal3.block q (Array.getElem?_eq_some_iff.1 hX).1).trans hX);have hO3 := Lib.hid (Fw.then hO2.out (Only.of_below hal3));clear hX hal3 hO2 hW2;go_wp2_with fail
 with_reducible refine kS.out.mono ?_
 rintro ee w3 ⟨rfl, hW3, hO3'⟩;have hX4 := Fw.held hO3' hX3.out (by decide) hqb;have hO4 := Lib.hid (Fw.then hO3.out hO3');have hal5 := (Below.refl w3.heap.size w3).alloc (Nat.le_refl _) (.cells #[.string ⟨#[41]⟩] 9);have hS := Lib.hid (strsS_new (base := w0.heap.size) w3 B.cls hW3.lt rfl);have hX := (hal5.block q (Array.getElem?_eq_some_iff.1 hX4).1).trans hX4;have hW := Lib.hid (hW3.keep hal5);have hO := Lib.hid (Fw.then hO4.out (Only.of_below hal5));clear kS hX3 hX4 hO3 hO3' hO4 hal5;have hbW := hW3.lt;clear hW3;replace hW : Hid (Wr w0 (w3.alloc (.cells #[.string ⟨#[41]⟩] 9)) b _ (L ++ [signTg B.opn])) := hW;obtain ⟨LL, hLe⟩ : ∃ l, l = L ++ [signTg B.opn] := ⟨_, rfl⟩;have hLL : LL.length ≤ L.length + 1 := by rw [hLe]; simp
 rw [← hLe] at hW;replace hLe := Lib.hid hLe;have hla := at_len 2 a ka;have hlm := mark_len op;have hlc := at_len 3 c kc;have x0 := cellW hX 0;simp only [List.getElem?_toArray, List.getElem?_cons_zero] at x0;have kc0 := Lib.hid (hA 2 (by decide) (by decide) _ b (c :: (kc.flat ++ R)) LL hW.out (by rw [e2]; omega));replace hX := hX;clear hW;go_wp2_with fail
 with_reducible refine kc0.out.mono ?_
 rintro ee wa ⟨rfl, hWn, hOn⟩;replace hS := Lib.hid (hS.out.held hOn);clear x0;replace hX := Fw.held hOn hX (by decide) hqb;replace hO := Lib.hid (Fw.then hO.out hOn);have hW := Lib.hid hWn;clear hWn hOn kc0;have x0 := cellW hX 0;simp only [List.getElem?_toArray, List.getElem?_cons_zero] at x0;have kc1 := Lib.hid (markS_any hW.out hM op (by rw [List.length_append]; have e : (atS (2 : Int).toNat a ka).length = (atS 2 a ka).length := rfl; omega));clear hW;go_wp2_with fail
 with_reducible refine kc1.out.mono ?_
 rintro ee wb ⟨rfl, hWn, hOn⟩;replace hS := Lib.hid (hS.out.held hOn);clear x0 hX;replace hO := Lib.hid (Fw.then hO.out hOn);have kc2 := Lib.hid (hC 3 (by decide) (by decide) _ b R _ hWn (by rw [List.length_append, List.length_append, e3]; have e : (atS (2 : Int).toNat a ka).length = (atS 2 a ka).length := rfl; omega));clear hWn hOn kc1;go_wp2_with fail
 with_reducible refine kc2.out.mono ?_
 rintro ee wc ⟨rfl, hWn, hOn⟩;replace hS := Lib.hid (hS.out.held hOn);replace hO := Lib.hid (Fw.then hO.out hOn);replace hWn : Wr w0 wc b R (((LL ++ atS 2 a ka) ++ markTg op) ++ atS 3 c kc) := hWn;rw [hLe.out] at hWn;have hW := Lib.hid hWn;clear hWn hOn kc2;have hlen : (LL ++ atS 2 a ka ++ markTg op ++ atS 3 c kc).length ≤ 1000000 := by simp only [List.length_append]; omega
 rw [hLe.out] at hlen;have kD := Lib.hid (signs_d hW.out hS.out (by simp only [List.length_singleton]; omega));go_wp2_with fail
 refine leaves_cons (f := 62) (by simp) (by simp [go_sem]; rfl) ?_;refine (kD.out .returning).mono ?_;rintro ee u3 w9 ⟨rfl, rfl, hW9, hO9⟩;refine ⟨.tuple #[], results_none rfl _ _ _, rfl, ?_, Fw.then hO.out hO9⟩;have e9 : ∀ (A Z : List Tg), A = Z → Wr w0 w9 b R A → Wr w0 w9 b R Z := fun _ _ e h => e ▸ h;refine e9 _ _ ?_ hW9;simp
end Go.Proofs.YtjiemkidmlgbeaaGreatDoor
