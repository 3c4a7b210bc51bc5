/- A part of the proof: ShI, RChk, ShT, ShU, SdO, SdA, SdB. No condition. -/
import Derived.Test.YtjiemkidmlgbeaaDoorQ05
import Derived.Test.YtjiemkidmlgbeaaDoorQ06
import Derived.Test.YtjiemkidmlgbeaaDoorQ07
import Derived.Test.YtjiemkidmlgbeaaDoorQ08
import Derived.Test.YtjiemkidmlgbeaaDoorQ09
import Derived.Test.YtjiemkidmlgbeaaDoorQ11
set_option linter.unusedVariables false
set_option linter.unusedSimpArgs false
namespace Go.Proofs.YtjiemkidmlgbeaaDoor
open Go.RowKit Go.Shelf
def EveryT (P : Tw → Fs → Prop) : Fs → Prop
 | .nil => True
 | .cons x k r => P x k ∧ EveryT P k ∧ EveryT P r
theorem everyT_of {P : Tw → Fs → Prop} (h : ∀ x k, (Fs.cons x k .nil).ok → EveryT P k → P x k) : ∀ F : Fs, F.ok → EveryT P F
 | .nil, _ => trivial
 | .cons _ k r, ⟨a, b, c, d⟩ => ⟨h _ k ⟨a, b, c, trivial⟩ (everyT_of h k c), everyT_of h k c, everyT_of h r d⟩
structure AllE (w0 : World) (x : Tw) (k : Fs) : Prop where
 nar : exprB x.op = true → NarP w0 x k
 st : stmtB x.op = true → Emit w0 61 [] x k (bareS x k)
 bl : x.op = 3 → Emit w0 32 [] x k (bareS x k)
 pa : x.op = 2 → Emit w0 31 [] x k (bareS x k)
section
variable {w0 : World}
theorem AllE.ex {x : Tw} {k : Fs} (h : AllE w0 x k) (he : exprB x.op = true) : Emit w0 17 [] x k (bareS x k) := expr_emit (h.nar he)
theorem exprs_emit : ∀ {F : Fs}, F.exprs → EveryT (AllE w0) F → EmitF w0 17 F
 | .nil, _, _ => trivial
 | .cons _ _ _, ⟨a, b⟩, ⟨c, _, d⟩ => ⟨c.ex a, exprs_emit b d⟩
theorem stmts_emit : ∀ {F : Fs}, F.stmts → EveryT (AllE w0) F → EmitF w0 61 F
 | .nil, _, _ => trivial
 | .cons _ _ _, ⟨a, b⟩, ⟨c, _, d⟩ => ⟨c.st a, stmts_emit b d⟩
theorem nar_both {w : Nat} {x : Tw} {k : Fs} (h0 : ∀ asked : Int, ¬ (w : Int) < asked → 1 ≤ asked → Emit w0 33 [.int .i64 asked] x k (atS asked.toNat x k)) (h1 : ∀ asked : Int, (w : Int) < asked → 1 ≤ asked → Emit w0 33 [.int .i64 asked] x k (atS asked.toNat x k)) : NarP w0 x k := by
 intro asked ha _;by_cases hq : (w : Int) < asked
 · exact h1 asked hq ha
 · exact h0 asked hq ha
theorem nar_left (hM : MarksOK w0) {op : Nat} (ho : leftW op) {a c : Tw} {ka kc : Fs} (hA : NarP w0 a ka) (hC : NarP w0 c kc) : NarP w0 ⟨op, 2, 0, []⟩ (.cons a ka (.cons c kc .nil)) := by
 have hT := bare_left (a := a) (ka := ka) (b := c) (kb := kc) ho;unfold leftW at ho;rcases (show widthN op = 1 ∨ widthN op = 2 ∨ widthN op = 5 ∨ widthN op = 6 by
   rcases (show op = 30 ∨ op = 31 ∨ op = 36 ∨ op = 37 ∨ op = 38 ∨ op = 39 ∨ op = 40 by omega) with rfl | rfl | rfl | rfl | rfl | rfl | rfl <;> decide) with hw | hw | hw | hw
 · rw [hw] at hT
   exact nar_both (w := 1) (fun q hq h1 => nar_L10 hM hw hA hC hT hq h1) (fun q hq h1 => nar_L11 hM hw hA hC hT hq h1)
 · rw [hw] at hT
   exact nar_both (w := 2) (fun q hq h1 => nar_L20 hM hw hA hC hT hq h1) (fun q hq h1 => nar_L21 hM hw hA hC hT hq h1)
 · rw [hw] at hT
   exact nar_both (w := 5) (fun q hq h1 => nar_L50 hM hw hA hC hT hq h1) (fun q hq h1 => nar_L51 hM hw hA hC hT hq h1)
 · rw [hw] at hT
   exact nar_both (w := 6) (fun q hq h1 => nar_L60 hM hw hA hC hT hq h1) (fun q hq h1 => nar_L61 hM hw hA hC hT hq h1)
theorem nar_cmp (hM : MarksOK w0) {op : Nat} (h1 : 32 ≤ op) (h2 : op ≤ 35) {a c : Tw} {ka kc : Fs} (hA : NarP w0 a ka) (hC : NarP w0 c kc) : NarP w0 ⟨op, 2, 0, []⟩ (.cons a ka (.cons c kc .nil)) := by
 have hT := bare_cmp (a := a) (ka := ka) (b := c) (kb := kc) h1 h2;have hw : widthN op = 4 := by rcases (show op = 32 ∨ op = 33 ∨ op = 34 ∨ op = 35 by omega) with rfl | rfl | rfl | rfl <;> decide
 exact nar_both (w := 4) (fun q hq h1 => nar_C0 hM hw hA hC hT hq h1) (fun q hq h1 => nar_C1 hM hw hA hC hT hq h1)
theorem nar_pre (hM : MarksOK w0) {op : Nat} (ho : op = 43 ∨ op = 44 ∨ op = 54 ∨ op = 55) {a : Tw} {ka : Fs} (hA : NarP w0 a ka) : NarP w0 ⟨op, 1, 0, []⟩ (.cons a ka .nil) := by
 have hT := bare_pre (a := a) (ka := ka) ho;rcases (show widthN op = 3 ∨ widthN op = 7 by rcases ho with rfl | rfl | rfl | rfl <;> decide) with hw | hw
 · rw [hw] at hT
   exact nar_both (w := 3) (fun q hq h1 => nar_P30 hM hw hA hT hq h1) (fun q hq h1 => nar_P31 hM hw hA hT hq h1)
 · rw [hw] at hT
   exact nar_both (w := 7) (fun q hq h1 => nar_P70 hM hw hA hT hq h1) (fun q hq h1 => nar_P71 hM hw hA hT hq h1)
theorem nar_at (hM : MarksOK w0) {a c : Tw} {ka kc : Fs} (hA : NarP w0 a ka) (hC : Emit w0 17 [] c kc (bareS c kc)) : NarP w0 ⟨42, 2, 0, []⟩ (.cons a ka (.cons c kc .nil)) :=
 nar_both (w := 8) (fun q hq h1 => nar_A0 hM (by decide) hA hC bare_at hq h1) (fun q hq h1 => nar_A1 hM (by decide) hA hC bare_at hq h1)
theorem nar_prim (hM : MarksOK w0) {op : Nat} {kids num : Int} {text : List UInt8} {k : Fs} (hw : widthN op = 9) (hP : PrimP w0 ⟨op, kids, num, text⟩ k) : NarP w0 ⟨op, kids, num, text⟩ k :=
 nar_both (w := 9) (fun q hq h1 => nar_Q0 hM hw hP hq h1) (fun q hq h1 => nar_Q1 hM hw hP hq h1)
theorem all_e (hM : MarksOK w0) : ∀ x k, (Fs.cons x k .nil).ok → EveryT (AllE w0) k → AllE w0 x k := by
 intro x k hok hk;cases view hok with
 | bare op ho =>
   have hw : widthN op = 9 := by rcases ho with rfl | rfl | rfl | rfl <;> decide
   refine ⟨fun _ => nar_prim hM hw ?_, fun e => absurd e (show ¬ stmtB op = true by rcases ho with rfl | rfl | rfl | rfl <;> decide), fun e => absurd (show op = 3 from e) (by omega), fun e => absurd (show op = 2 from e) (by omega)⟩;have hT := bare_bare ho;rcases ho with rfl | rfl | rfl | rfl
   · exact prim_bare20 hM hT
   · exact prim_bare21 hM hT
   · exact prim_bare22 hM hT
   · exact prim_bare57 hM hT
 | int n => exact ⟨fun _ => nar_prim hM (by decide) (prim_int hM (bare_int n)), fun e => absurd e (show ¬ stmtB 23 = true by decide), fun e => absurd (show 23 = 3 from e) (by decide), fun e => absurd (show 23 = 2 from e) (by decide)⟩
 | text s h => exact ⟨fun _ => nar_prim hM (by decide) (prim_text hM bare_text), fun e => absurd e (show ¬ stmtB 24 = true by decide), fun e => absurd (show 24 = 3 from e) (by decide), fun e => absurd (show 24 = 2 from e) (by decide)⟩
 | own op s ho h =>
   rcases ho with rfl | rfl | rfl
   · exact ⟨fun _ => nar_prim hM (by decide) (prim_name hM bare_name), fun e => absurd e (show ¬ stmtB 26 = true by decide), fun e => absurd (show 26 = 3 from e) (by decide), fun e => absurd (show 26 = 2 from e) (by decide)⟩
   · exact ⟨fun _ => nar_prim hM (by decide) (prim_take hM bare_take), fun e => absurd e (show ¬ stmtB 56 = true by decide), fun e => absurd (show 56 = 3 from e) (by decide), fun e => absurd (show 56 = 2 from e) (by decide)⟩
   · exact ⟨fun e => absurd e (show ¬ exprB 2 = true by decide), fun e => absurd e (show ¬ stmtB 2 = true by decide), fun e => absurd (show 2 = 3 from e) (by decide), fun _ => param_emit bare_param⟩
 | one op a ka ho ha =>
   have hA : AllE w0 a ka := hk.1;have h3 : op ≠ 3 ∧ op ≠ 2 := by omega
   by_cases c1 : asksW op
   · have hw : widthN op = 9 := by
       unfold asksW at c1;rcases (show op = 45 ∨ op = 46 ∨ op = 47 ∨ op = 48 ∨ op = 52 by omega) with rfl | rfl | rfl | rfl | rfl <;> decide
     refine ⟨fun _ => nar_prim hM hw (prim_asks hM (.inr c1) (F := .cons a ka .nil) ⟨hA.ex ha, trivial⟩ rfl ?_), fun e => ?_, fun e => absurd e h3.1, fun e => absurd e h3.2⟩
     · rw [bare_asks c1]
       show _ = markTg op ++ (signTg B.opn :: (([] ++ bareS a ka ++ []) ++ [signTg B.cls]))
       simp
     · have : 4 ≤ op ∧ op ≤ 11 := of_decide_eq_true (show stmtB op = true from e)
       unfold asksW at c1;omega
   · by_cases c2 : op = 43 ∨ op = 44 ∨ op = 54 ∨ op = 55
     · refine ⟨fun _ => nar_pre hM c2 (hA.nar ha), fun e => ?_, fun e => absurd e h3.1, fun e => absurd e h3.2⟩
       have : 4 ≤ op ∧ op ≤ 11 := of_decide_eq_true (show stmtB op = true from e);omega
     · have ho' : 8 ≤ op ∧ op ≤ 11 := by
         unfold asksW at c1;omega
       refine ⟨fun e => ?_, fun _ => stmt_one hM ho' (hA.ex ha) (bare_stmt ho'), fun e => absurd e h3.1, fun e => absurd e h3.2⟩;exact absurd e (show ¬ exprB op = true by rcases (show op = 8 ∨ op = 9 ∨ op = 10 ∨ op = 11 by omega) with rfl | rfl | rfl | rfl <;> decide)
 | set op s a ka ho h ha =>
   have hA : AllE w0 a ka := hk.1;rcases ho with rfl | rfl
   · exact ⟨fun e => absurd e (show ¬ exprB 4 = true by decide), fun _ => stmt_let hM (hA.ex ha) bare_let, fun e => absurd (show 4 = 3 from e) (by decide), fun e => absurd (show 4 = 2 from e) (by decide)⟩
   · exact ⟨fun e => absurd e (show ¬ exprB 5 = true by decide), fun _ => stmt_set hM (hA.ex ha) bare_set, fun e => absurd (show 5 = 3 from e) (by decide), fun e => absurd (show 5 = 2 from e) (by decide)⟩
 | two op a ka b kb h1 h2 ha hb =>
   have hA : AllE w0 a ka := hk.1;have hB : AllE w0 b kb := hk.2.2.1;refine ⟨fun _ => ?_, fun e => ?_, fun e => absurd (show op = 3 from e) (by omega), fun e => absurd (show op = 2 from e) (by omega)⟩
   · by_cases c1 : op = 41
     · subst c1
       refine nar_prim hM (by decide) (prim_asks hM (.inl rfl) (F := .cons a ka (.cons b kb .nil)) ⟨hA.ex ha, hB.ex hb, trivial⟩ rfl ?_);rw [bare_num];show _ = markTg 41 ++ (signTg B.opn :: (([] ++ bareS a ka ++ ([signTg B.com] ++ bareS b kb ++ [])) ++ [signTg B.cls]))
       rw [show markTg 41 = [wordTg B.num] from rfl];simp
     · by_cases c2 : op = 42
       · subst c2
         exact nar_at hM (hA.nar ha) (hB.ex hb)
       · by_cases c3 : 32 ≤ op ∧ op ≤ 35
         · exact nar_cmp hM c3.1 c3.2 (hA.nar ha) (hB.nar hb)
         · exact nar_left hM (by unfold leftW; omega) (hA.nar ha) (hB.nar hb)
   · have : 4 ≤ op ∧ op ≤ 11 := of_decide_eq_true (show stmtB op = true from e)
     omega
 | list k he hn => exact ⟨fun _ => nar_prim hM (by decide) (prim_list hM (exprs_emit he hk) rfl bare_list), fun e => absurd e (show ¬ stmtB 25 = true by decide), fun e => absurd (show 25 = 3 from e) (by decide), fun e => absurd (show 25 = 2 from e) (by decide)⟩
 | call op s k ho h he hn =>
   have hT := bare_call (s := s) (k := k) (n := (k.count : Int)) ho;rcases ho with rfl | rfl
   · exact ⟨fun _ => nar_prim hM (by decide) (prim_call50 hM (exprs_emit he hk) rfl hT), fun e => absurd e (show ¬ stmtB 50 = true by decide), fun e => absurd (show 50 = 3 from e) (by decide), fun e => absurd (show 50 = 2 from e) (by decide)⟩
   · exact ⟨fun _ => nar_prim hM (by decide) (prim_call51 hM (exprs_emit he hk) rfl hT), fun e => absurd e (show ¬ stmtB 51 = true by decide), fun e => absurd (show 51 = 3 from e) (by decide), fun e => absurd (show 51 = 2 from e) (by decide)⟩
 | fork b kb hb => exact ⟨fun _ => nar_prim hM (by decide) (prim_fork hM (hk.1.bl hb) bare_fork), fun e => absurd e (show ¬ stmtB 53 = true by decide), fun e => absurd (show 53 = 3 from e) (by decide), fun e => absurd (show 53 = 2 from e) (by decide)⟩
 | block k hs hn => exact ⟨fun e => absurd e (show ¬ exprB 3 = true by decide), fun e => absurd e (show ¬ stmtB 3 = true by decide), fun _ => block_emit (stmts_emit hs hk) rfl bare_block, fun e => absurd (show 3 = 2 from e) (by decide)⟩
 | cond2 op a ka b kb ho ha hb =>
   have hA : AllE w0 a ka := hk.1;have hB : AllE w0 b kb := hk.2.2.1;have hT := bare_cond2 (a := a) (ka := ka) (b := b) (kb := kb) ho;rcases ho with rfl | rfl
   · exact ⟨fun e => absurd e (show ¬ exprB 6 = true by decide), fun _ => stmt_if2 hM (hA.ex ha) (hB.bl hb) hT, fun e => absurd (show 6 = 3 from e) (by decide), fun e => absurd (show 6 = 2 from e) (by decide)⟩
   · exact ⟨fun e => absurd e (show ¬ exprB 7 = true by decide), fun _ => stmt_while hM (hA.ex ha) (hB.bl hb) hT, fun e => absurd (show 7 = 3 from e) (by decide), fun e => absurd (show 7 = 2 from e) (by decide)⟩
 | cond3 a ka b kb c kc ha hb hc => exact ⟨fun e => absurd e (show ¬ exprB 6 = true by decide), fun _ => stmt_if3 hM (hk.1.ex ha) (hk.2.2.1.bl hb) (hk.2.2.2.2.1.bl hc) bare_cond3, fun e => absurd (show 6 = 3 from e) (by decide), fun e => absurd (show 6 = 2 from e) (by decide)⟩
 | flow s k h hp hn => exact ⟨fun e => absurd e (show ¬ exprB 1 = true by decide), fun e => absurd e (show ¬ stmtB 1 = true by decide), fun e => absurd (show 1 = 3 from e) (by decide), fun e => absurd (show 1 = 2 from e) (by decide)⟩
def Fs.heads : Fs → Fs
 | .nil => .nil
 | .cons _ _ .nil => .nil
 | .cons x k (.cons y k' r) => .cons x k (Fs.heads (.cons y k' r))
theorem heads_last {P : Tw → Fs → Prop} : ∀ (F : Fs), F.params → EveryT P F → ∃ b kb, b.op = 3 ∧ P b kb ∧ F.flat = F.heads.flat ++ (b :: kb.flat) ∧ F.count = F.heads.count + 1 ∧ (∀ p, paramS p F = commaS p F.heads ++ (signTg B.cls :: bareS b kb))
 | .nil, h, _ => h.elim
 | .cons b kb .nil, h, hA => ⟨b, kb, h, hA.1, by simp [Fs.flat, Fs.heads], rfl, fun _ => rfl⟩
 | .cons x k (.cons y k' r), ⟨h1, h2⟩, hA => by
   obtain ⟨b, kb, e1, e2, e3, e4, e5⟩ := heads_last (.cons y k' r) h2 hA.2.2;refine ⟨b, kb, e1, e2, ?_, ?_, fun p => ?_⟩
   · show x :: (k.flat ++ (Fs.cons y k' r).flat) = (x :: (k.flat ++ (Fs.heads (.cons y k' r)).flat)) ++ _
     rw [e3];simp
   · show (Fs.cons y k' r).count + 1 = (Fs.heads (.cons y k' r)).count + 1 + 1
     rw [e4]
   · show (comma p).1 ++ bareS x k ++ paramS (p + 1) (.cons y k' r) = ((comma p).1 ++ bareS x k ++ commaS (p + 1) (Fs.heads (.cons y k' r))) ++ _
     rw [e5 (p + 1)];simp
theorem heads_emit : ∀ (F : Fs), F.params → EveryT (AllE w0) F → EmitF w0 31 F.heads
 | .nil, h, _ => h.elim
 | .cons _ _ .nil, _, _ => trivial
 | .cons _ _ (.cons y k' r), ⟨h1, h2⟩, hA => ⟨hA.1.pa h1, heads_emit (.cons y k' r) h2 hA.2.2⟩
theorem comma_len (F : Fs) (p : Nat) : (commaS p F).length ≤ 100 * F.flat.length := by
 rw [← comma_toks];refine toks_len F comma p (fun p => ?_);unfold comma;dsimp only;split <;> simp
theorem flow_all (hM : MarksOK w0) {x : Tw} {k : Fs} (hok : (Fs.cons x k .nil).ok) (h1 : x.op = 1) : Emit w0 15 [] x k (bareS x k) := by
 have hk := everyT_of (all_e hM) k hok.2.2.1;cases hv : view hok with
 | flow s k h hp hn =>
   obtain ⟨b, kb, e1, e2, e3, e4, e5⟩ := heads_last k hp hk;refine flow_emit (heads_emit k hp hk) (e2.bl e1) (by rw [e4]; rfl) (by omega) e3 ?_ (comma_len _ _);rw [bare_flow (by omega), e5]
 | own op s ho hs => exact absurd (show op = 1 from h1) (by omega)
 | bare op ho => exact absurd (show op = 1 from h1) (by omega)
 | int n => exact absurd (show 23 = 1 from h1) (by decide)
 | text s h => exact absurd (show 24 = 1 from h1) (by decide)
 | one op a ka ho ha => exact absurd (show op = 1 from h1) (by omega)
 | set op s a ka ho h ha => exact absurd (show op = 1 from h1) (by omega)
 | two op a ka b kb h1' h3 ha hb => exact absurd (show op = 1 from h1) (by omega)
 | list k hk hn => exact absurd (show 25 = 1 from h1) (by decide)
 | call op s k ho h hk hn => exact absurd (show op = 1 from h1) (by omega)
 | fork b kb hb => exact absurd (show 53 = 1 from h1) (by decide)
 | block k hk hn => exact absurd (show 3 = 1 from h1) (by decide)
 | cond2 op a ka b kb ho ha hb => exact absurd (show op = 1 from h1) (by omega)
 | cond3 a ka b kb c kc ha hb hc => exact absurd (show 6 = 1 from h1) (by decide)
theorem expr_all (hM : MarksOK w0) {x : Tw} {k : Fs} (hok : (Fs.cons x k .nil).ok) (he : exprB x.op = true) : Emit w0 17 [] x k (bareS x k) := (all_e hM x k hok (everyT_of (all_e hM) k hok.2.2.1)).ex he
end
end Go.Proofs.YtjiemkidmlgbeaaDoor
namespace Go.Proofs.YtjiemkidmlgbeaaDoor
open Go.RowKit Go.Shelf
set_option maxRecDepth 20000 in
theorem Check_any {v : Value} {ts : List Tw} (w : World) (hT : TwIn w v ts) (hf : ∀ x ∈ ts, FitT x) :
   Calls Tryd.prog 14 #[v] w fun e w' => e = .returned (.tuple #[.int .i64 (lookF ts).1, .int .i64 (lookF ts).2.2]) ∧ Below w.heap.size w w' := by
 obtain ⟨Z, hZ⟩ := exHid (lookF ts);have hl : ∀ W b, TwIn W v ts → KMap W b tabL → Calls Tryd.prog 27 #[.map (some b), v] W fun e w' => e = .returned (.tuple #[.int .i64 Z.1, .int .i64 Z.2.1, .int .i64 Z.2.2]) ∧ Below W.heap.size W w' := fun W b h1 h2 => by rw [← hZ.out]; exact look_any W h1 hf h2
 rw [hZ.out];replace hl := Lib.hid hl;replace hf := Lib.hid hf;have hTT := Lib.hid hT;obtain ⟨a, cap, rfl, _, _, _⟩ := hT;go_enter Tryd.func14, Tryd.ntmps14
 go_wp2_with fail
 refine (table_any w).mono ?_;rintro e w1 ⟨b, rfl, hK, hb⟩;go_wp2_with fail
 refine (hl.out w1 b (hTT.out.below hb) hK).mono ?_;rintro e w2 ⟨rfl, hb2⟩;have hb3 : Below w.heap.size w w2 := hb.trans (hb2.mono hb.size);go_wp2_with fail
 go_ret2
 exact ⟨rfl, hb3⟩
end Go.Proofs.YtjiemkidmlgbeaaDoor
namespace Go.Proofs.YtjiemkidmlgbeaaDoor
open Go.RowKit Go.Shelf
theorem TgsAt.low {w : World} {base b : Nat} {v : Value} {L : List Tg} (h : TgsAt w base v L) (hb : b ≤ base) : TgsAt w b v L := by
 refine ⟨h.1, ?_⟩;rcases h.2 with h | ⟨g', cap, cur, hv, hbb, hr⟩
 · exact .inl h
 · exact .inr ⟨g', cap, cur, hv, Nat.le_trans hb hbb, hr⟩
theorem wr_new {w : World} {v : Value} {R : List Tw} (h : TwIn w v R) : Wr w (w.alloc (.cells #[v, .slice none 0 0] 43)) w.heap.size R [] :=
 ⟨Nat.le_refl _, (Below.refl _ _).alloc (Nat.le_refl _) _, v, .slice none 0 0, heap_alloc_new w _, h, World.ownsRow_nil _ _ _ _⟩
set_option maxRecDepth 20000 in
set_option maxHeartbeats 1000000 in
theorem Tokens_bad {v : Value} {ts : List Tw} {w : World} (hT : TwIn w v ts) (hf : ∀ x ∈ ts, FitT x) (hc : (lookF ts).2.2 ≠ 0) :
   Calls Tryd.prog 9 #[v] w fun e w' => e = .returned (.tuple #[.slice none 0 0, .int .i64 (lookF ts).2.2]) ∧ Below w.heap.size w w' := by
 have kC := Lib.hid (Check_any w hT hf);generalize (lookF ts).2.2 = c at *;generalize (lookF ts).1 = d at *;have hc' : ((c : Int) != 0) = true := by simpa using hc
 clear hT hf hc;go_enter Tryd.func9, Tryd.ntmps9
 go_wp2_with fail
 with_reducible refine kC.out.mono ?_
 rintro e w1 ⟨rfl, hb⟩;go_wp2_with fail
 go_ret2
 exact ⟨rfl, hb⟩
set_option maxRecDepth 20000 in
set_option maxHeartbeats 1000000 in
theorem Tokens_none {v : Value} {ts : List Tw} {w : World} (hT : TwIn w v ts) (hf : ∀ x ∈ ts, FitT x) (hc : (lookF ts).2.2 = 0) {x : Tw} {r : List Tw} (hx : ts = x :: r) (h1 : x.op ≠ 1) (h2 : exprB x.op = false) :
   Calls Tryd.prog 9 #[v] w fun e w' => e = .returned (.tuple #[.slice none 0 0, .int .i64 3]) ∧ Below w.heap.size w w' := by
 have kC := Lib.hid (Check_any w hT hf);rw [hc] at kC;generalize (lookF ts).1 = d at *;have kX := Lib.hid (expr_at h2);obtain ⟨op, kids, num, text⟩ := x;have t1 : ((op : Int) == 1) = false := beq_eq_false_iff_ne.2 (by have : op ≠ 1 := h1; omega);subst hx;obtain ⟨a, cap, rfl, hlc, hcm, h3⟩ := hT;obtain ⟨g, off, rfl, hg, hcell⟩ := h3 (by simp);have y0 := hcell 0 (by simp) 0 (by decide);simp only [List.getElem_cons_zero, twC, List.getElem?_cons_zero, Nat.zero_mul, Nat.add_zero] at y0;have hln : ((⟨op, kids, num, text⟩ : Tw) :: r).length = r.length + 1 := List.length_cons;rw [hln] at kC ⊢;generalize r.length = n at *;clear h3 hcell hf hc h1 h2 hln;go_enter Tryd.func9, Tryd.ntmps9
 go_wp2_with fail
 with_reducible refine kC.out.mono ?_
 rintro e w1 ⟨rfl, hb⟩;have z0 := (hb.cell (p := ⟨g, off, none⟩) hg).trans y0;have hg1 : g < w1.heap.size := Nat.lt_of_lt_of_le hg hb.size;have hal := hb.alloc hb.size (.cells #[.slice (some ⟨g, off, none⟩) (n + 1) cap, .slice none 0 0] 43);clear y0;go_wp2_with fail
 with_reducible refine (kX.out _).mono ?_
 rintro e w2 ⟨rfl, rfl⟩;go_wp2_with fail
 go_ret2
 exact ⟨rfl, hal⟩
set_option maxRecDepth 20000 in
set_option maxHeartbeats 1000000 in
theorem Tokens_ok {v : Value} {w : World} {x : Tw} {k : Fs} (hT : TwIn w v (x :: k.flat)) (hf : ∀ y ∈ x :: k.flat, FitT y) (hM : MarksOK w) (hc : (lookF (x :: k.flat)).2.2 = 0) (hok : (Fs.cons x k .nil).ok) (hl : (x :: k.flat).length ≤ 2048) (h : x.op = 1 ∨ exprB x.op = true) :
   Calls Tryd.prog 9 #[v] w fun e w' => ∃ v', e = .returned (.tuple #[v', .int .i64 0]) ∧ TgsAt w' w.heap.size v' (showL x k) ∧ Below w.heap.size w w' := by
 have kC := Lib.hid (Check_any w hT hf);rw [hc] at kC;generalize (lookF (x :: k.flat)).1 = d at *;have hTT := Lib.hid hT;have kF := Lib.hid (fun (w1 : World) (hb : Below w.heap.size w w1) (h1 : x.op = 1) => flow_all (w0 := w1) (hM.below hM.lt hb) hok h1 (w1.alloc (.cells #[v, .slice none 0 0] 43)) w1.heap.size [] [] (by rw [List.append_nil]; exact wr_new (hT.below hb)) (by rw [List.append_nil]; simp only [List.length_nil]; omega));have kE := Lib.hid (fun (w1 : World) (hb : Below w.heap.size w w1) (h1 : exprB x.op = true) => expr_all (w0 := w1) (hM.below hM.lt hb) hok h1 (w1.alloc (.cells #[v, .slice none 0 0] 43)) w1.heap.size [] [] (by rw [List.append_nil]; exact wr_new (hT.below hb)) (by rw [List.append_nil]; simp only [List.length_nil]; omega));have eS : showL x k = bareS x k := atS_one x k;rw [eS];generalize bareS x k = T at *;obtain ⟨op, kids, num, text⟩ := x;obtain ⟨a, cap, rfl, hlc, hcm, h3⟩ := hT;obtain ⟨g, off, rfl, hg, hcell⟩ := h3 (by simp);have y0 := hcell 0 (by simp) 0 (by decide);simp only [List.getElem_cons_zero, twC, List.getElem?_cons_zero, Nat.zero_mul, Nat.add_zero] at y0;have hln : ((⟨op, kids, num, text⟩ : Tw) :: k.flat).length = k.flat.length + 1 := List.length_cons;rw [hln] at kC kF kE hTT ⊢;generalize k.flat.length = n at *;have hend : Hid (∀ (w1 w2 : World) (b : Nat), Below w.heap.size w w1 → Wr w1 w2 b [] ([] ++ T) → ∃ rv tv, w2.heap[b]? = some (.cells #[rv, tv] 43 (0, 0)) ∧ TgsAt w2 w.heap.size tv T ∧ Below w.heap.size w w2) := Lib.hid (by
   intro w1 w2 b hb hW;obtain ⟨rv, tv, m1, m2, m3⟩ := hW.mem;exact ⟨rv, tv, m1, m3.low hb.size, below_next hb hW.below⟩)
 clear h3 hcell hf hc hln hlc hok hM hTT;by_cases h1 : op = 1
 · subst h1
   go_enter Tryd.func9, Tryd.ntmps9
   go_wp2_with fail
   with_reducible refine kC.out.mono ?_
   rintro e w1 ⟨rfl, hb⟩;have z0 : w1.cell? ⟨g, off, none⟩ = some (.int .u8 1) := (hb.cell (p := ⟨g, off, none⟩) hg).trans y0;have hg1 : g < w1.heap.size := Nat.lt_of_lt_of_le hg hb.size;have k1 := Lib.hid (kF.out w1 hb (by first | trivial | rfl));clear y0 kF kE;go_wp2_with fail
   with_reducible refine k1.out.mono ?_
   rintro e w2 ⟨rfl, hW, hO⟩;obtain ⟨rv, tv, m1, m2, m3⟩ := hend.out _ _ _ hb hW;have c1 := cellW m1 1;simp only [List.getElem?_toArray, List.getElem?_cons_zero, List.getElem?_cons_succ] at c1;replace m2 := Lib.hid m2;replace m3 := Lib.hid m3;clear hW hO k1 m1 hend;go_wp2_with fail
   go_ret2
   exact ⟨_, rfl, m2.out, m3.out⟩
 · have he : exprB op = true := h.resolve_left h1
   have t1 : ((op : Int) == 1) = false := beq_eq_false_iff_ne.2 (by omega);have kX := Lib.hid (expr_at he);replace h := Lib.hid h;go_enter Tryd.func9, Tryd.ntmps9
   go_wp2_with fail
   with_reducible refine kC.out.mono ?_
   rintro e w1 ⟨rfl, hb⟩;have z0 := (hb.cell (p := ⟨g, off, none⟩) hg).trans y0;have hg1 : g < w1.heap.size := Nat.lt_of_lt_of_le hg hb.size;have k1 := Lib.hid (kE.out w1 hb he);clear y0 kF kE he;go_wp2_with fail
   with_reducible refine (kX.out _).mono ?_
   rintro e w2 ⟨rfl, rfl⟩;go_wp2_with fail
   with_reducible refine k1.out.mono ?_
   rintro e w2 ⟨rfl, hW, hO⟩;obtain ⟨rv, tv, m1, m2, m3⟩ := hend.out _ _ _ hb hW;have c1 := cellW m1 1;simp only [List.getElem?_toArray, List.getElem?_cons_zero, List.getElem?_cons_succ] at c1;replace m2 := Lib.hid m2;replace m3 := Lib.hid m3;clear hW hO k1 m1 hend;go_wp2_with fail
   go_ret2
   exact ⟨_, rfl, m2.out, m3.out⟩
end Go.Proofs.YtjiemkidmlgbeaaDoor
namespace Go.Proofs.YtjiemkidmlgbeaaDoor
open Go.RowKit Go.Shelf
def ShowIs (ts : List Tw) (L : List Tg) (E : Int) : Prop :=
 ((lookF ts).2.2 ≠ 0 ∧ L = [] ∧ E = (lookF ts).2.2) ∨
 ((lookF ts).2.2 = 0 ∧ ∃ x r, ts = x :: r ∧ x.op ≠ 1 ∧ exprB x.op = false ∧ L = [] ∧ E = 3) ∨
 ((lookF ts).2.2 = 0 ∧ ∃ x k, ts = x :: k.flat ∧ (Fs.cons x k .nil).ok ∧ ts.length ≤ 2048 ∧ (x.op = 1 ∨ exprB x.op = true) ∧ L = showL x k ∧ E = 0)
theorem show_is (ts : List Tw) : ∃ L E, ShowIs ts L E := by
 by_cases hc : (lookF ts).2.2 = 0
 · obtain ⟨x, k, hok, hx, hl⟩ := right_forest hc
   by_cases h : x.op = 1 ∨ exprB x.op = true
   · exact ⟨_, _, .inr (.inr ⟨hc, x, k, hx, hok, hl, h, rfl, rfl⟩)⟩
   · refine ⟨_, _, .inr (.inl ⟨hc, x, k.flat, hx, fun e => h (.inl e), ?_, rfl, rfl⟩)⟩
     cases he : exprB x.op with
     | false => rfl
     | true => exact absurd (.inr he) h
 · exact ⟨_, _, .inl ⟨hc, rfl, rfl⟩⟩
theorem TgsAt.nil10 (w : World) (b : Nat) : TgsAt w b (.slice none 0 0) [] := ⟨rfl, .inl ⟨rfl, rfl⟩⟩
theorem Tokens_is {v : Value} {ts : List Tw} {w : World} {L : List Tg} {E : Int} (hT : TwIn w v ts) (hf : ∀ x ∈ ts, FitT x) (hM : MarksOK w) (h : ShowIs ts L E) :
   Calls Tryd.prog 9 #[v] w fun e w' => ∃ v', e = .returned (.tuple #[v', .int .i64 E]) ∧ TgsAt w' w.heap.size v' L ∧ Below w.heap.size w w' := by
 rcases h with ⟨hc, rfl, rfl⟩ | ⟨hc, x, r, hx, h1, h2, rfl, rfl⟩ | ⟨hc, x, k, rfl, hok, hl, h, rfl, rfl⟩
 · refine (Tokens_bad hT hf hc).mono ?_
   rintro e w' ⟨rfl, hb⟩;exact ⟨_, rfl, TgsAt.nil10 _ _, hb⟩
 · refine (Tokens_none hT hf hc hx h1 h2).mono ?_
   rintro e w' ⟨rfl, hb⟩;exact ⟨_, rfl, TgsAt.nil10 _ _, hb⟩
 · exact Tokens_ok hT hf hM hc hok hl h
end Go.Proofs.YtjiemkidmlgbeaaDoor
namespace Go.Proofs.YtjiemkidmlgbeaaDoor
open Go.RowKit Go.Shelf Tok
set_option maxRecDepth 20000 in
set_option maxHeartbeats 1000000 in
theorem alike10_any {w : World} {v1 v2 : Value} {ts : List Tg} (h1 : TgIn w v1 ts) (h2 : TgIn w v2 ts) :
   Calls Tryd.prog 11 #[v1, v2] w fun e w' => e = .returned (.bool true) ∧ Below w.heap.size w w' := by
 obtain ⟨a1, cap1, rfl, _, _, k1⟩ := h1;obtain ⟨a2, cap2, rfl, hlc, hcm, k2⟩ := h2;have hne : ((ts.length : Int) != (ts.length : Int)) = false := by simp
 replace k1 := Lib.hid k1;replace k2 := Lib.hid k2;go_enter Tryd.func11, Tryd.ntmps11
 go_wp2
 go_loopw [5] (fun t5 wr => ∃ i : Nat, i ≤ ts.length ∧ t5 = .int .i64 i ∧ Below w.heap.size w wr) (fun t5 _ => ts.length - (intOf t5).toNat)
 case atStart => exact ⟨0, by omega, rfl, Below.refl _ _⟩
 case round =>
   obtain ⟨i, hi, rfl, hbw⟩ := hrel;rcases Nat.lt_or_ge i ts.length with hlt | hge
   · obtain ⟨b1, o1, rfl, hl1, hc1⟩ := k1.out (by omega)
     obtain ⟨b2, o2, rfl, hl2, hc2⟩ := k2.out (by omega);have hlti : (i : Int) < (ts.length : Int) := by omega
     have x1 := fun n c (h : c < 4) => ((below_drewN hbw n).cell (p := ⟨b1, o1 + i * 4 + c, none⟩) hl1).trans (hc1 i hlt c h)
     have x2 := fun n c (h : c < 4) => ((below_drewN hbw n).cell (p := ⟨b2, o2 + i * 4 + c, none⟩) hl2).trans (hc2 i hlt c h)
     generalize ts[i] = t at *;obtain ⟨kd, tx, x, at_⟩ := t;have p0 := fun n => x1 n 0 (by omega); have p1 := fun n => x1 n 1 (by omega); have p2 := fun n => x1 n 2 (by omega); have p3 := fun n => x1 n 3 (by omega)
     have q0 := fun n => x2 n 0 (by omega); have q1 := fun n => x2 n 1 (by omega); have q2 := fun n => x2 n 2 (by omega); have q3 := fun n => x2 n 3 (by omega)
     simp only [tgC, List.getElem?_cons_succ, List.getElem?_cons_zero, Nat.add_zero] at p0 p1 p2 p3 q0 q1 q2 q3;clear x1 x2 hc1 hc2;replace hbw := Lib.hid hbw;go_wp2
     go_quiet (fail)
     go_wp2
     go_roundw
     case rel => exact ⟨i + 1, by omega, by go_num, below_drewN hbw.out _⟩
     case measure => simp [intOf]; omega
   · obtain rfl : i = ts.length := by omega
     have hlti : ¬ ((ts.length : Int) < (ts.length : Int)) := by omega
     go_wp2
     go_ret
     exact ⟨rfl, hbw⟩
end Go.Proofs.YtjiemkidmlgbeaaDoor
namespace Go.Proofs.YtjiemkidmlgbeaaDoor
open Go.RowKit Go.Shelf
theorem cellD {W : World} {b : Nat} {cs : Array Value} {t : TypeId} (h : W.heap[b]? = some (.cells cs t (0, 0))) (j : Nat) : W.cell? ⟨b, j, none⟩ = cs[j]? := by simp [World.cell?, h]
theorem tgs_new (w : World) (ts : List Tg) {cs : Array Value} (hcs : cs = (rowOf tgC ts).toArray) {n : Nat} (hn : n = ts.length) {q : Nat} (hq : q = w.heap.size) (hl : ts.length ≤ 1000) : TgsAt (w.alloc (.cells cs 35)) w.heap.size (.slice (some ⟨q, 0, none⟩) n n) ts := by
 subst hcs hn hq;refine ⟨rowOf_length tgC_len ts, .inr ⟨w.heap.size, ts.length, (rowOf tgC ts).toArray, rfl, Nat.le_refl _, heap_alloc_new w _, Nat.le_refl _, by unfold maxLen; omega, ?_, ?_⟩⟩
 · rw [List.size_toArray, rowOf_length tgC_len ts]
 · exact List.take_of_length_le (by rw [rowOf_length tgC_len]; exact Nat.le_refl _)
theorem wpList_append_tgr {w : World} {base : Nat} {v : Value} {ts us : List Tg} {ops : Array Oper} {rest : List Oper} {o : Oper} {a : Act} {Q : Exit → Act → World → Prop} (hgd : o.guard = none) (s x : Operand)
   (ho : o.op = .call { callee := .builtin .append, args := #[s, x], argTypes := #[30, 30] })
   (hs : a.eval s = v) (hown : TgsAt w base v ts) {u : Value} {b2 : Nat} (hx : a.eval x = u) (hu : TgsAt w b2 u us) (hne : us ≠ [])
   (hk : ts.length ≤ 1000000000) (hk2 : us.length ≤ 1000000000) (hbase : base ≤ w.heap.size)
   (h : ∀ v' w', TgsAt w' base v' (ts ++ us) → Below base w w' → wpList Tryd.prog ops Q rest (a.put o.dst v') w') : wpList Tryd.prog ops Q (o :: rest) a w := by
 obtain ⟨i0, hi, hz0, hz1, hz2⟩ := tk_parts;obtain ⟨G, c, hv⟩ : ∃ G c, u = .slice (some ⟨G, 0, none⟩) us.length c := by
   rcases hu.2 with ⟨_, h0⟩ | ⟨g, cap, cur, hv, _⟩
   · exact absurd (List.eq_nil_of_length_eq_zero h0) hne
   · exact ⟨g, cap, hv⟩
 subst hv;refine wpList_append_own_at _ hgd s x 30 ho base 35 i0 (.agg #[.int .u8 0, .string ⟨#[]⟩, .int .i64 0, .int .i64 0]) 4 40 Tryd.underlying30 hi hz0 hz1 hz2 rfl (by decide) v ts.length (rowOf tgC ts) hs hown ⟨G, 0, none⟩ us.length c (rowOf tgC us) hx (rowOf_length tgC_len us) ?_ ?_ (by unfold maxLen; omega) (by omega) hbase ?_
 · intro j y hj
   have hl : j < (rowOf tgC us).length := (List.getElem?_eq_some_iff.1 hj).1;rw [rowOf_length tgC_len] at hl;have := World.ownsRow.cellAt (g := G) (cap := c) hu j (by omega);rw [hj] at this;rw [show (⟨G, 0, none⟩ : Addr).add j = ⟨G, j, none⟩ by simp [Addr.add]; omega];exact this
 · intro y hy
   have : ∀ (l : List Tg), ∀ y ∈ rowOf tgC l, y.oneCell' = true := by
     intro l
     induction l with
     | nil => intro y hy; cases hy
     | cons t r ih =>
       intro y hy;rcases List.mem_append.1 (show y ∈ tgC t ++ rowOf tgC r from hy) with h | h
       · exact tgC_one t y h
       · exact ih y h
   exact this us y hy
 · intro v' w' h2 h3 _ _
   obtain ⟨a', cap, rfl, _⟩ := ownsRow_shape h2;refine h _ w' ?_ ((Below.refl base _).grown h3 hbase (fun k hk => (World.ownsRow.lt hown k hk).1));unfold TgsAt;rw [rowOf_append, List.length_append];exact h2
section
variable {W : World} {b : Nat} {t : Tg} {tmps : Array Value}
theorem results_word (h : tmps.getD 2 undef = .pointer (some ⟨b, 0, none⟩)) (hc : W.heap[b]? = some (.cells (tgC t).toArray 35 (0, 0))) :
   (results Tryd.f37 tmps).run Tryd.prog W = .ok (tgV t) W := by
 have c0 := cellD hc 0; have c1 := cellD hc 1; have c2 := cellD hc 2; have c3 := cellD hc 3;simp only [tgC, List.getElem?_toArray, List.getElem?_cons_succ, List.getElem?_cons_zero] at c0 c1 c2 c3;have h' : tmps[2]?.getD undef = .pointer (some ⟨b, 0, none⟩) := by simpa using h
 unfold tgV;simp [results, Tryd.results37, go_sem, h', c0, c1, c2, c3]
theorem results_sign (h : tmps.getD 2 undef = .pointer (some ⟨b, 0, none⟩)) (hc : W.heap[b]? = some (.cells (tgC t).toArray 35 (0, 0))) :
   (results Tryd.f38 tmps).run Tryd.prog W = .ok (tgV t) W := by
 have c0 := cellD hc 0; have c1 := cellD hc 1; have c2 := cellD hc 2; have c3 := cellD hc 3;simp only [tgC, List.getElem?_toArray, List.getElem?_cons_succ, List.getElem?_cons_zero] at c0 c1 c2 c3;have h' : tmps[2]?.getD undef = .pointer (some ⟨b, 0, none⟩) := by simpa using h
 unfold tgV;simp [results, Tryd.results38, go_sem, h', c0, c1, c2, c3]
theorem results_mark (h : tmps.getD 2 undef = .pointer (some ⟨b, 0, none⟩)) (hc : W.heap[b]? = some (.cells (tgC t).toArray 35 (0, 0))) :
   (results Tryd.f86 tmps).run Tryd.prog W = .ok (tgV t) W := by
 have c0 := cellD hc 0; have c1 := cellD hc 1; have c2 := cellD hc 2; have c3 := cellD hc 3;simp only [tgC, List.getElem?_toArray, List.getElem?_cons_succ, List.getElem?_cons_zero] at c0 c1 c2 c3;have h' : tmps[2]?.getD undef = .pointer (some ⟨b, 0, none⟩) := by simpa using h
 unfold tgV;simp [results, Tryd.results86, go_sem, h', c0, c1, c2, c3]
end
set_option maxHeartbeats 400000 in
theorem wordD_any (s : List UInt8) (w : World) : Calls Tryd.prog 37 #[.string ⟨s.toArray⟩] w fun e w' => e = .returned (tgV (wordTg s)) ∧ Below w.heap.size w w' := by
 have hal := (Below.refl w.heap.size w).alloc (Nat.le_refl _) (.cells (tgC (wordTg s)).toArray 35);have hN := heap_alloc_new w (.cells (tgC (wordTg s)).toArray 35 (0, 0));go_enter Tryd.func37, Tryd.ntmps37
 go_wp2_with fail
 exact bodyPost_ret (results_word rfl hN) rfl ⟨rfl, hal⟩
set_option maxHeartbeats 400000 in
theorem signD_any (s : List UInt8) (w : World) : Calls Tryd.prog 38 #[.string ⟨s.toArray⟩] w fun e w' => e = .returned (tgV (signTg s)) ∧ Below w.heap.size w w' := by
 have hal := (Below.refl w.heap.size w).alloc (Nat.le_refl _) (.cells (tgC (signTg s)).toArray 35);have hN := heap_alloc_new w (.cells (tgC (signTg s)).toArray 35 (0, 0));go_enter Tryd.func38, Tryd.ntmps38
 go_wp2_with fail
 exact bodyPost_ret (results_sign rfl hN) rfl ⟨rfl, hal⟩
set_option maxRecDepth 20000 in
set_option maxHeartbeats 4000000 in
theorem WidthD_any (op : Nat) (w : World) : Calls Tryd.prog 71 #[.int .u8 (op : Int)] w fun e w' => e = .returned (.int .i64 (widthN op : Int)) ∧ w' = w := by
 go_enter Tryd.func71, Tryd.ntmps71
 go_wp2
 all_goals
   go_ret
   refine ⟨?_, rfl⟩;simp only [beq_iff_eq, beq_eq_false_iff_ne, ne_eq, Int.not_le] at *;unfold widthN
   repeat' split
   all_goals first
     | rfl
     | (exfalso; omega)
end Go.Proofs.YtjiemkidmlgbeaaDoor
namespace Go.Proofs.YtjiemkidmlgbeaaDoor
open Go.RowKit Go.Shelf
def docM : List (Nat × List UInt8) := marksL.filterMap fun m => if m.1 = 56 then none else some (m.1, m.2.2)
set_option maxRecDepth 20000 in
set_option maxHeartbeats 4000000 in
theorem nameD_any : ∀ p ∈ docM, ∀ w : World, Calls Tryd.prog 90 #[.int .u8 (p.1 : Int)] w fun e w' => e = .returned (.string ⟨p.2.toArray⟩) ∧ w' = w := by
 intro p hp w;have e : docM = [(8, B.ret), (9, B.fail), (10, B.sleep), (11, B.doW), (20, B.none), (21, B.tru), (22, B.fls), (57, B.version), (30, B.or), (31, B.and), (43, B.not), (32, B.eqq), (33, B.neq), (34, B.les), (35, B.leq), (36, B.add), (37, B.sub), (38, B.mul), (39, B.div), (40, B.rem), (44, B.sub), (54, B.await), (55, B.settle), (41, B.num), (45, B.len), (46, B.re), (47, B.im), (48, B.conj), (52, B.timer), (50, B.call), (51, B.child)] := rfl;rw [e] at hp;simp only [List.mem_cons, List.not_mem_nil, or_false] at hp;rcases hp with rfl | rfl | rfl | rfl | rfl | rfl | rfl | rfl | rfl | rfl | rfl | rfl | rfl | rfl | rfl | rfl | rfl | rfl | rfl | rfl | rfl | rfl | rfl | rfl | rfl | rfl | rfl | rfl | rfl | rfl | rfl
 all_goals
   go_enter Tryd.func90, Tryd.ntmps90
   go_wp2
   go_ret
   exact ⟨rfl, rfl⟩
end Go.Proofs.YtjiemkidmlgbeaaDoor
