/- A part of the proof: SdL, RDoc1, RExp, NmR, KwR. No condition. -/
import Derived.WalkKit
import Derived.WalkSpells
import Derived.WalkLawsBesides
import Derived.Handy
import Derived.Lib.Hide
import Derived.LoopTactic
import Derived.Lib.IndexBytes
import Derived.Test.YtjiemkidmlgbeaaDoorQ01
import Derived.Test.YtjiemkidmlgbeaaDoorQ02
import Derived.Test.YtjiemkidmlgbeaaDoorQ03
import Derived.Test.YtjiemkidmlgbeaaDoorQ12
import Derived.Test.YtjiemkidmlgbeaaDoorQ14
import Derived.Test.YtjiemkidmlgbeaaDoorQ15
import Derived.Test.YtjiemkidmlgbeaaDoorQ16
import Derived.Test.YtjiemkidmlgbeaaDoorQ17
import Derived.Test.YtjiemkidmlgbeaaDoorQ18
import Derived.Test.YtjiemkidmlgbeaaDoorQ19
set_option linter.unusedVariables false
set_option linter.unusedSimpArgs false
namespace Go.Proofs.YtjiemkidmlgbeaaDoor
open Go.RowKit Go.Shelf
theorem mark_ex {op : Nat} (h : (8 ≤ op ∧ op ≤ 11) ∨ op = 20 ∨ op = 21 ∨ op = 22 ∨ op = 57 ∨ (30 ≤ op ∧ op ≤ 41) ∨ (43 ≤ op ∧ op ≤ 48) ∨ op = 52 ∨ op = 54 ∨ op = 55) : ∃ t, markTg op = [t] := by
 have H : ∀ o : Fin 60, ((8 ≤ o.1 ∧ o.1 ≤ 11) ∨ o.1 = 20 ∨ o.1 = 21 ∨ o.1 = 22 ∨ o.1 = 57 ∨ (30 ≤ o.1 ∧ o.1 ≤ 41) ∨ (43 ≤ o.1 ∧ o.1 ≤ 48) ∨ o.1 = 52 ∨ o.1 = 54 ∨ o.1 = 55) → (markTg o.1).length = 1 := by decide
 exact List.length_eq_one_iff.1 (H ⟨op, by omega⟩ h)
theorem flat_len10 (x : Tw) (k r : Fs) : (Fs.cons x k r).flat.length = 1 + k.flat.length + r.flat.length := by
 show (x :: (k.flat ++ r.flat)).length = _
 rw [List.length_cons, List.length_append];omega
theorem nil_len10 : Fs.nil.flat.length = 0 := rfl
theorem row_len10 (F : Fs) : (rowS F).length ≤ 100 * F.flat.length := by
 rw [← row_toks F 0];exact toks_len F noneL 0 (fun p => by show ([] : List Tg).length ≤ 32; simp)
theorem atS_ne {a : Nat} {x : Tw} {k : Fs} (h : bareS x k ≠ []) : atS a x k ≠ [] := by
 unfold atS wrapT;split
 · simp
 · exact h
structure AllD0 (w0 : World) (tv : Value) (ts : List Tw) (x : Tw) (k : Fs) : Prop where
 ne : bareS x k ≠ []
 ex : exprB x.op = true → SayD w0 tv ts 70 [] x k (bareS x k)
 st : stmtB x.op = true → SayD w0 tv ts 73 [] x k (bareS x k)
 bl : x.op = 3 → SayD w0 tv ts 40 [] x k (bareS x k)
 pa : x.op = 2 → bareS x k = [wordTg x.text]
def AllD (w0 : World) (tv : Value) (ts : List Tw) (x : Tw) (k : Fs) : Prop := k.flat.length ≤ 2047 → AllD0 w0 tv ts x k
section
variable {w0 : World} {tv : Value} {ts : List Tw}
theorem AllD0.len {x : Tw} {k : Fs} (_ : AllD0 w0 tv ts x k) (hl : k.flat.length ≤ 2047) : (bareS x k).length ≤ 1000000 := by
 have := bare_len x k;omega
theorem AllD0.alen {x : Tw} {k : Fs} (_ : AllD0 w0 tv ts x k) (hl : k.flat.length ≤ 2047) (a : Nat) : (atS a x k).length ≤ 1000000 := by
 have := at_len a x k;omega
theorem AllD0.at (hT : TwIn w0 tv ts) (hts : ts.length ≤ 2048) {x : Tw} {k : Fs} (h : AllD0 w0 tv ts x k) (he : exprB x.op = true) {asks : Int} (h1 : 1 ≤ asks) (h9 : asks ≤ 9) : SayD w0 tv ts 36 [.int .i64 asks] x k (atS asks.toNat x k) :=
 atD_any hT (by omega) (h.ex he) h.ne h1 h9
theorem AllD0.at1 (hT : TwIn w0 tv ts) (hts : ts.length ≤ 2048) {x : Tw} {k : Fs} (h : AllD0 w0 tv ts x k) (he : exprB x.op = true) : SayD w0 tv ts 36 [.int .i64 1] x k (bareS x k) := by
 have := h.at hT hts he (asks := 1) (by decide) (by decide)
 rwa [show ((1 : Int).toNat) = 1 from rfl, atS_one] at this
theorem exprsD (hT : TwIn w0 tv ts) (hts : ts.length ≤ 2048) : ∀ {F : Fs}, F.exprs → EveryT (AllD w0 tv ts) F → F.flat.length ≤ 2047 → SayF w0 tv ts 36 [.int .i64 1] F
 | .nil, _, _, _ => trivial
 | .cons x k r, ⟨a, b⟩, ⟨c, _, d⟩, hl => by
   rw [flat_len10] at hl;have c' := c (by omega);exact ⟨⟨c'.at1 hT hts a, c'.ne, c'.len (by omega)⟩, exprsD hT hts b d (by omega)⟩
theorem stmtsD : ∀ {F : Fs}, F.stmts → EveryT (AllD w0 tv ts) F → F.flat.length ≤ 2047 → SayF w0 tv ts 73 [] F
 | .nil, _, _, _ => trivial
 | .cons x k r, ⟨a, b⟩, ⟨c, _, d⟩, hl => by
   rw [flat_len10] at hl;have c' := c (by omega);exact ⟨⟨c'.st a, c'.ne, c'.len (by omega)⟩, stmtsD b d (by omega)⟩
theorem paramsD : ∀ {F : Fs}, F.params → EveryT (AllD w0 tv ts) F → F.flat.length ≤ 2047 → ParD w0 tv ts F
 | .nil, h, _, _ => h.elim
 | .cons x k .nil, h, ⟨c, _, _⟩, hl => by
   rw [flat_len10, nil_len10] at hl;have c' := c (by omega);exact ⟨c'.bl h, c'.ne, c'.len (by omega)⟩
 | .cons x k (.cons y k' r), ⟨h1, h2⟩, ⟨c, _, d⟩, hl => by
   rw [flat_len10] at hl;exact ⟨(c (by omega)).pa h1, paramsD h2 d (by omega)⟩
theorem exNot {op : Nat} (h : exprB op = false) {P : Prop} : exprB op = true → P := fun e => by rw [h] at e; cases e
theorem stNot {op : Nat} (h : stmtB op = false) {P : Prop} : stmtB op = true → P := fun e => by rw [h] at e; cases e
theorem expr_stNot {op : Nat} (h : 12 ≤ op) {P : Prop} : stmtB op = true → P := fun e => by
 have : 4 ≤ op ∧ op ≤ 11 := of_decide_eq_true e;omega
set_option maxHeartbeats 1000000 in
theorem all_d (hT : TwIn w0 tv ts) (hts : ts.length ≤ 2048) (hks : ∀ x ∈ ts, 0 ≤ x.kids ∧ x.kids ≤ 2048) : ∀ x k, (Fs.cons x k .nil).ok → EveryT (AllD w0 tv ts) k → AllD w0 tv ts x k := by
 intro x k hok hk hl;have hko := hok.2.2.1;cases view hok with
 | bare op ho =>
   obtain ⟨t, hm⟩ := mark_ex (op := op) (by omega);have hT0 := bare_bare ho;have hw : widthN op = 9 := by rcases ho with rfl | rfl | rfl | rfl <;> decide
   exact ⟨by rw [hT0, hm]; simp, fun _ => bareD_bare hT hts hks hw ho hm (by rw [hT0, hm]) hko rfl, expr_stNot (show 12 ≤ op by omega), fun e => absurd (show op = 3 from e) (by omega), fun e => absurd (show op = 2 from e) (by omega)⟩
 | int n => exact ⟨by rw [bare_int]; simp, fun _ => bareD_int hT hts hks (bare_int n) hko rfl, expr_stNot (show 12 ≤ 23 by decide), fun e => absurd (show 23 = 3 from e) (by decide), fun e => absurd (show 23 = 2 from e) (by decide)⟩
 | text s h => exact ⟨by rw [bare_text]; simp, fun _ => bareD_text hT hts hks bare_text hko rfl, expr_stNot (show 12 ≤ 24 by decide), fun e => absurd (show 24 = 3 from e) (by decide), fun e => absurd (show 24 = 2 from e) (by decide)⟩
 | own op s ho h =>
   rcases ho with rfl | rfl | rfl
   · exact ⟨by rw [bare_name]; simp, fun _ => bareD_name hT hts hks bare_name hko rfl, expr_stNot (show 12 ≤ 26 by decide), fun e => absurd (show 26 = 3 from e) (by decide), fun e => absurd (show 26 = 2 from e) (by decide)⟩
   · exact ⟨by rw [bare_take]; simp, fun _ => bareD_take hT hts hks bare_take hko rfl, expr_stNot (show 12 ≤ 56 by decide), fun e => absurd (show 56 = 3 from e) (by decide), fun e => absurd (show 56 = 2 from e) (by decide)⟩
   · exact ⟨by rw [bare_param]; simp, exNot (show exprB 2 = false by decide), stNot (show stmtB 2 = false by decide), fun e => absurd (show 2 = 3 from e) (by decide), fun _ => bare_param⟩
 | one op a ka ho ha =>
   have hl0 := hl;rw [flat_len10, nil_len10] at hl;have hA := hk.1 (by omega);obtain ⟨t, hm⟩ := mark_ex (op := op) (by omega);have h3 : op ≠ 3 ∧ op ≠ 2 := by omega
   by_cases c1 : asksW op
   · have hw : widthN op = 9 := by
       unfold asksW at c1;rcases (show op = 45 ∨ op = 46 ∨ op = 47 ∨ op = 48 ∨ op = 52 by omega) with rfl | rfl | rfl | rfl | rfl <;> decide
     have hT0 := bare_asks (a := a) (ka := ka) c1;rw [hm] at hT0;have hc := comma_len (.cons a ka .nil) 0;unfold asksW at c1;refine ⟨by rw [hT0]; simp, fun _ => bareD_asks hT hts hks (Lib.hid (exprsD hT hts (F := .cons a ka .nil) ⟨ha, trivial⟩ hk hl0)) (show 0 < 0 + 1 by decide) (show 0 + 1 ≤ 5000 by decide) (by omega) hw (by omega) hm ?_ hko rfl, expr_stNot (show 12 ≤ op by omega), fun e => absurd e h3.1, fun e => absurd e h3.2⟩;rw [hT0];show _ = [t] ++ (signTg [40] :: (([] ++ bareS a ka ++ []) ++ [signTg [41]]))
     rw [List.nil_append, List.append_nil];rfl
   · by_cases c2 : op = 43 ∨ op = 44 ∨ op = 54 ∨ op = 55
     · have hT0 := bare_pre (a := a) (ka := ka) c2
       rw [hm] at hT0;refine ⟨by rw [hT0]; simp, fun _ => ?_, expr_stNot (show 12 ≤ op by omega), fun e => absurd e h3.1, fun e => absurd e h3.2⟩;rcases (show widthN op = 3 ∨ widthN op = 7 by rcases c2 with rfl | rfl | rfl | rfl <;> decide) with hw | hw
       · exact bareD_pre3 hT hts hks (Lib.hid (hA.at hT hts ha (asks := 3) (by decide) (by decide))) (atS_ne hA.ne) (hA.alen (by omega) 3) hw (by omega) hm (by rw [hT0, hw]) hko rfl
       · exact bareD_pre7 hT hts hks (Lib.hid (hA.at hT hts ha (asks := 7) (by decide) (by decide))) (atS_ne hA.ne) (hA.alen (by omega) 7) hw (by omega) hm (by rw [hT0, hw]) hko rfl
     · have ho' : 8 ≤ op ∧ op ≤ 11 := by
         unfold asksW at c1;omega
       have hT0 := bare_stmt (a := a) (ka := ka) ho';rw [hm] at hT0;refine ⟨by rw [hT0]; simp, exNot (show exprB op = false by rcases (show op = 8 ∨ op = 9 ∨ op = 10 ∨ op = 11 by omega) with rfl | rfl | rfl | rfl <;> decide), fun _ => ?_, fun e => absurd e h3.1, fun e => absurd e h3.2⟩;exact stmtD_one hT hts hks (Lib.hid (hA.at1 hT hts ha)) hA.ne (hA.len (by omega)) (by omega) hm (by rw [hT0]; rfl) hko rfl
 | set op s a ka ho h ha =>
   rw [flat_len10, nil_len10] at hl;have hA := hk.1 (by omega);rcases ho with rfl | rfl
   · exact ⟨by rw [bare_let]; simp, exNot (show exprB 4 = false by decide), fun _ => stmtD_let hT hts hks (Lib.hid (hA.at1 hT hts ha)) hA.ne (hA.len (by omega)) bare_let hko rfl, fun e => absurd (show 4 = 3 from e) (by decide), fun e => absurd (show 4 = 2 from e) (by decide)⟩
   · exact ⟨by rw [bare_set]; simp, exNot (show exprB 5 = false by decide), fun _ => stmtD_set hT hts hks (Lib.hid (hA.at1 hT hts ha)) hA.ne (hA.len (by omega)) bare_set hko rfl, fun e => absurd (show 5 = 3 from e) (by decide), fun e => absurd (show 5 = 2 from e) (by decide)⟩
 | two op a ka b kb h1 h2 ha hb =>
   have hl0 := hl;rw [flat_len10, flat_len10, nil_len10] at hl;have hA := hk.1 (by omega);have hB := hk.2.2.1 (by omega);by_cases c1 : op = 41
   · subst c1
     have hc := comma_len (.cons a ka (.cons b kb .nil)) 0;refine ⟨by rw [bare_num]; simp, fun _ => bareD_asks hT hts hks (Lib.hid (exprsD hT hts (F := .cons a ka (.cons b kb .nil)) ⟨ha, hb, trivial⟩ hk hl0)) (show 0 < 0 + 1 + 1 by decide) (show 0 + 1 + 1 ≤ 5000 by decide) (by omega) (by decide) (by omega) (t := wordTg B.num) rfl ?_ hko rfl, expr_stNot (show 12 ≤ 41 by decide), fun e => absurd (show 41 = 3 from e) (by decide), fun e => absurd (show 41 = 2 from e) (by decide)⟩;rw [bare_num];show _ = [wordTg B.num] ++ (signTg B.opn :: (([] ++ bareS a ka ++ ([signTg B.com] ++ bareS b kb ++ [])) ++ [signTg B.cls]))
     simp
   · by_cases c2 : op = 42
     · subst c2
       refine ⟨by rw [bare_at]; simp, fun _ => bareD_at hT hts hks (Lib.hid (hA.at hT hts ha (asks := 8) (by decide) (by decide))) (hA.alen (by omega) 8) (Lib.hid (exprsD hT hts (F := .cons b kb .nil) ⟨hb, trivial⟩ ⟨hk.2.2.1, hk.2.2.2.1, trivial⟩ (by rw [flat_len10, nil_len10]; omega))) (hB.len (by omega)) ?_ hko rfl, expr_stNot (show 12 ≤ 42 by decide), fun e => absurd (show 42 = 3 from e) (by decide), fun e => absurd (show 42 = 2 from e) (by decide)⟩;rw [bare_at];show _ = atS 8 a ka ++ (signTg B.lsq :: (([] ++ bareS b kb ++ []) ++ [signTg B.rsq]))
       rw [List.nil_append, List.append_nil]
     · obtain ⟨t, hm⟩ := mark_ex (op := op) (by omega)
       by_cases c3 : 32 ≤ op ∧ op ≤ 35
       · have hw : widthN op = 4 := by rcases (show op = 32 ∨ op = 33 ∨ op = 34 ∨ op = 35 by omega) with rfl | rfl | rfl | rfl <;> decide
         have hT0 := bare_cmp (a := a) (ka := ka) (b := b) (kb := kb) c3.1 c3.2;rw [hm] at hT0;exact ⟨by rw [hT0]; simp, fun _ => bareD_cmp hT hts hks (Lib.hid (hA.at hT hts ha (asks := 5) (by decide) (by decide))) (Lib.hid (hB.at hT hts hb (asks := 5) (by decide) (by decide))) (atS_ne hB.ne) (hA.alen (by omega) 5) (hB.alen (by omega) 5) hw (by omega) hm (by rw [hT0]; simp) hko rfl, expr_stNot (show 12 ≤ op by omega), fun e => absurd (show op = 3 from e) (by omega), fun e => absurd (show op = 2 from e) (by omega)⟩
       · have hlw : leftW op := by unfold leftW; omega
         have hT0 := bare_left (a := a) (ka := ka) (b := b) (kb := kb) hlw;rw [hm] at hT0;refine ⟨by rw [hT0]; simp, fun _ => ?_, expr_stNot (show 12 ≤ op by omega), fun e => absurd (show op = 3 from e) (by omega), fun e => absurd (show op = 2 from e) (by omega)⟩;unfold leftW at hlw;rcases (show widthN op = 1 ∨ widthN op = 2 ∨ widthN op = 5 ∨ widthN op = 6 by
           rcases (show op = 30 ∨ op = 31 ∨ op = 36 ∨ op = 37 ∨ op = 38 ∨ op = 39 ∨ op = 40 by omega) with rfl | rfl | rfl | rfl | rfl | rfl | rfl <;> decide) with hw | hw | hw | hw
         · rw [hw] at hT0
           exact bareD_left1 hT hts hks (Lib.hid (hA.at hT hts ha (asks := 1) (by decide) (by decide))) (Lib.hid (hB.at hT hts hb (asks := 2) (by decide) (by decide))) (atS_ne hB.ne) (hA.alen (by omega) 1) (hB.alen (by omega) 2) hw (by omega) hm (by rw [hT0]; simp) hko rfl
         · rw [hw] at hT0
           exact bareD_left2 hT hts hks (Lib.hid (hA.at hT hts ha (asks := 2) (by decide) (by decide))) (Lib.hid (hB.at hT hts hb (asks := 3) (by decide) (by decide))) (atS_ne hB.ne) (hA.alen (by omega) 2) (hB.alen (by omega) 3) hw (by omega) hm (by rw [hT0]; simp) hko rfl
         · rw [hw] at hT0
           exact bareD_left5 hT hts hks (Lib.hid (hA.at hT hts ha (asks := 5) (by decide) (by decide))) (Lib.hid (hB.at hT hts hb (asks := 6) (by decide) (by decide))) (atS_ne hB.ne) (hA.alen (by omega) 5) (hB.alen (by omega) 6) hw (by omega) hm (by rw [hT0]; simp) hko rfl
         · rw [hw] at hT0
           exact bareD_left6 hT hts hks (Lib.hid (hA.at hT hts ha (asks := 6) (by decide) (by decide))) (Lib.hid (hB.at hT hts hb (asks := 7) (by decide) (by decide))) (atS_ne hB.ne) (hA.alen (by omega) 6) (hB.alen (by omega) 7) hw (by omega) hm (by rw [hT0]; simp) hko rfl
 | list k he hn =>
   have hc := comma_len k 0;exact ⟨by rw [bare_list]; simp, fun _ => bareD_list hT hts hks (Lib.hid (exprsD hT hts he hk hl)) (by omega) (by omega) bare_list hko rfl, expr_stNot (show 12 ≤ 25 by decide), fun e => absurd (show 25 = 3 from e) (by decide), fun e => absurd (show 25 = 2 from e) (by decide)⟩
 | call op s k ho h he hn =>
   have hc := comma_len k 0;have hT0 := bare_call (s := s) (k := k) (n := (k.count : Int)) ho;rcases ho with rfl | rfl
   · refine ⟨by rw [hT0]; simp, fun _ => bareD_call hT hts hks (Lib.hid (exprsD hT hts he hk hl)) (by omega) (by omega) hT0 hko rfl, expr_stNot (show 12 ≤ 50 by decide), fun e => absurd (show 50 = 3 from e) (by decide), fun e => absurd (show 50 = 2 from e) (by decide)⟩
   · refine ⟨by rw [hT0]; simp, fun _ => bareD_child hT hts hks (Lib.hid (exprsD hT hts he hk hl)) (by omega) (by omega) hT0 hko rfl, expr_stNot (show 12 ≤ 51 by decide), fun e => absurd (show 51 = 3 from e) (by decide), fun e => absurd (show 51 = 2 from e) (by decide)⟩
 | fork b kb hb =>
   rw [flat_len10, nil_len10] at hl;have hB := hk.1 (by omega);exact ⟨by rw [bare_fork]; simp, fun _ => bareD_fork hT hts hks (Lib.hid (hB.bl hb)) hB.ne (hB.len (by omega)) bare_fork hko rfl, expr_stNot (show 12 ≤ 53 by decide), fun e => absurd (show 53 = 3 from e) (by decide), fun e => absurd (show 53 = 2 from e) (by decide)⟩
 | block k hs hn =>
   have hc := row_len10 k;exact ⟨by rw [bare_block]; simp, exNot (show exprB 3 = false by decide), stNot (show stmtB 3 = false by decide), fun _ => blockD_any hT hts hks (Lib.hid (stmtsD hs hk hl)) (by omega) bare_block hko rfl (by omega), fun e => absurd (show 3 = 2 from e) (by decide)⟩
 | cond2 op a ka b kb ho ha hb =>
   rw [flat_len10, flat_len10, nil_len10] at hl;have hA := hk.1 (by omega);have hB := hk.2.2.1 (by omega);have hT0 := bare_cond2 (a := a) (ka := ka) (b := b) (kb := kb) ho;rcases ho with rfl | rfl
   · exact ⟨by rw [hT0]; simp, exNot (show exprB 6 = false by decide), fun _ => stmtD_if2 hT hts hks (Lib.hid (hA.at1 hT hts ha)) hA.ne (hA.len (by omega)) (Lib.hid (hB.bl hb)) hB.ne (hB.len (by omega)) hT0 hko rfl, fun e => absurd (show 6 = 3 from e) (by decide), fun e => absurd (show 6 = 2 from e) (by decide)⟩
   · exact ⟨by rw [hT0]; simp, exNot (show exprB 7 = false by decide), fun _ => stmtD_while hT hts hks (Lib.hid (hA.at1 hT hts ha)) hA.ne (hA.len (by omega)) (Lib.hid (hB.bl hb)) hB.ne (hB.len (by omega)) hT0 hko rfl, fun e => absurd (show 7 = 3 from e) (by decide), fun e => absurd (show 7 = 2 from e) (by decide)⟩
 | cond3 a ka b kb c kc ha hb hc =>
   rw [flat_len10, flat_len10, flat_len10, nil_len10] at hl;have hA := hk.1 (by omega);have hB := hk.2.2.1 (by omega);have hC := hk.2.2.2.2.1 (by omega);exact ⟨by rw [bare_cond3]; simp, exNot (show exprB 6 = false by decide), fun _ => stmtD_if3 hT hts hks (Lib.hid (hA.at1 hT hts ha)) hA.ne (hA.len (by omega)) (Lib.hid (hB.bl hb)) hB.ne (hB.len (by omega)) (Lib.hid (hC.bl hc)) hC.ne (hC.len (by omega)) (by rw [bare_cond3]; show _ = wordTg B.ifW :: ((bareS a ka ++ bareS b kb ++ [wordTg B.elseW]) ++ bareS c kc); simp) hko rfl, fun e => absurd (show 6 = 3 from e) (by decide), fun e => absurd (show 6 = 2 from e) (by decide)⟩
 | flow s k h hp hn => exact ⟨by rw [bare_flow (by cases k with | nil => exact hp.elim | cons y ky r => exact Nat.succ_pos _)]; simp, exNot (show exprB 1 = false by decide), stNot (show stmtB 1 = false by decide), fun e => absurd (show 1 = 3 from e) (by decide), fun e => absurd (show 1 = 2 from e) (by decide)⟩
end
end Go.Proofs.YtjiemkidmlgbeaaDoor
namespace Go.Proofs.YtjiemkidmlgbeaaDoor
open Go.RowKit
def namedB (op : Nat) : Bool := op == 1 || op == 2 || op == 4 || op == 5 || op == 26 || op == 56 || op == 50 || op == 51
def leastN (op : Nat) : Int := if op == 2 || op == 3 || (decide (20 ≤ op) && decide (op ≤ 26)) || op == 50 || op == 51 || op == 56 || op == 57 then 0 else if op == 6 || op == 7 || (decide (30 ≤ op) && decide (op ≤ 42)) then 2 else 1
def mostN (op : Nat) : Int := if op == 1 || op == 3 || op == 25 || op == 50 || op == 51 then -1 else if op == 6 then 3 else leastN op
set_option maxRecDepth 20000 in
set_option maxHeartbeats 1000000 in
theorem refNamed_any (op : Nat) (w : World) : Calls Tryd.prog 66 #[.int .u8 (op : Int)] w fun e w' => e = .returned (.bool (namedB op)) ∧ w' = w := by
 by_cases h1 : op = 1
 · subst h1
   go_enter Tryd.func66, Tryd.ntmps66
   go_wp2
   go_ret
   exact ⟨rfl, rfl⟩
 by_cases h2 : op = 2
 · subst h2
   go_enter Tryd.func66, Tryd.ntmps66
   go_wp2
   go_ret
   exact ⟨rfl, rfl⟩
 by_cases h4 : op = 4
 · subst h4
   go_enter Tryd.func66, Tryd.ntmps66
   go_wp2
   go_ret
   exact ⟨rfl, rfl⟩
 by_cases h5 : op = 5
 · subst h5
   go_enter Tryd.func66, Tryd.ntmps66
   go_wp2
   go_ret
   exact ⟨rfl, rfl⟩
 by_cases h26 : op = 26
 · subst h26
   go_enter Tryd.func66, Tryd.ntmps66
   go_wp2
   go_ret
   exact ⟨rfl, rfl⟩
 by_cases h56 : op = 56
 · subst h56
   go_enter Tryd.func66, Tryd.ntmps66
   go_wp2
   go_ret
   exact ⟨rfl, rfl⟩
 by_cases h50 : op = 50
 · subst h50
   go_enter Tryd.func66, Tryd.ntmps66
   go_wp2
   go_ret
   exact ⟨rfl, rfl⟩
 by_cases h51 : op = 51
 · subst h51
   go_enter Tryd.func66, Tryd.ntmps66
   go_wp2
   go_ret
   exact ⟨rfl, rfl⟩
 have e1 : ((op : Int) == 1) = false := beq_eq_false_iff_ne.2 (by omega);have n1 : (op == 1) = false := beq_eq_false_iff_ne.2 h1;have e2 : ((op : Int) == 2) = false := beq_eq_false_iff_ne.2 (by omega);have n2 : (op == 2) = false := beq_eq_false_iff_ne.2 h2;have e4 : ((op : Int) == 4) = false := beq_eq_false_iff_ne.2 (by omega);have n4 : (op == 4) = false := beq_eq_false_iff_ne.2 h4;have e5 : ((op : Int) == 5) = false := beq_eq_false_iff_ne.2 (by omega);have n5 : (op == 5) = false := beq_eq_false_iff_ne.2 h5;have e26 : ((op : Int) == 26) = false := beq_eq_false_iff_ne.2 (by omega);have n26 : (op == 26) = false := beq_eq_false_iff_ne.2 h26;have e56 : ((op : Int) == 56) = false := beq_eq_false_iff_ne.2 (by omega);have n56 : (op == 56) = false := beq_eq_false_iff_ne.2 h56;have e50 : ((op : Int) == 50) = false := beq_eq_false_iff_ne.2 (by omega);have n50 : (op == 50) = false := beq_eq_false_iff_ne.2 h50;have e51 : ((op : Int) == 51) = false := beq_eq_false_iff_ne.2 (by omega);have n51 : (op == 51) = false := beq_eq_false_iff_ne.2 h51;have hd := Lib.hid (show namedB op = false by unfold namedB; simp [n1, n2, n4, n5, n26, n56, n50, n51]);clear n1 h1 n2 h2 n4 h4 n5 h5 n26 h26 n56 h56 n50 h50 n51 h51;go_enter Tryd.func66, Tryd.ntmps66
 go_wp2
 go_ret
 exact ⟨by rw [hd.out]; rfl, rfl⟩
set_option maxRecDepth 20000 in
set_option maxHeartbeats 1000000 in
theorem refLeast_any (op : Nat) (w : World) : Calls Tryd.prog 68 #[.int .u8 (op : Int)] w fun e w' => e = .returned (.int .i64 (leastN op)) ∧ w' = w := by
 by_cases h2 : op = 2
 · subst h2
   go_enter Tryd.func68, Tryd.ntmps68
   go_wp2
   go_ret
   exact ⟨rfl, rfl⟩
 by_cases h3 : op = 3
 · subst h3
   go_enter Tryd.func68, Tryd.ntmps68
   go_wp2
   go_ret
   exact ⟨rfl, rfl⟩
 by_cases h50 : op = 50
 · subst h50
   go_enter Tryd.func68, Tryd.ntmps68
   go_wp2
   go_ret
   exact ⟨rfl, rfl⟩
 by_cases h51 : op = 51
 · subst h51
   go_enter Tryd.func68, Tryd.ntmps68
   go_wp2
   go_ret
   exact ⟨rfl, rfl⟩
 by_cases h56 : op = 56
 · subst h56
   go_enter Tryd.func68, Tryd.ntmps68
   go_wp2
   go_ret
   exact ⟨rfl, rfl⟩
 by_cases h57 : op = 57
 · subst h57
   go_enter Tryd.func68, Tryd.ntmps68
   go_wp2
   go_ret
   exact ⟨rfl, rfl⟩
 by_cases h6 : op = 6
 · subst h6
   go_enter Tryd.func68, Tryd.ntmps68
   go_wp2
   go_ret
   exact ⟨rfl, rfl⟩
 by_cases h7 : op = 7
 · subst h7
   go_enter Tryd.func68, Tryd.ntmps68
   go_wp2
   go_ret
   exact ⟨rfl, rfl⟩
 have e2 : ((op : Int) == 2) = false := beq_eq_false_iff_ne.2 (by omega);have n2 : (op == 2) = false := beq_eq_false_iff_ne.2 h2;have e3 : ((op : Int) == 3) = false := beq_eq_false_iff_ne.2 (by omega);have n3 : (op == 3) = false := beq_eq_false_iff_ne.2 h3;have e50 : ((op : Int) == 50) = false := beq_eq_false_iff_ne.2 (by omega);have n50 : (op == 50) = false := beq_eq_false_iff_ne.2 h50;have e51 : ((op : Int) == 51) = false := beq_eq_false_iff_ne.2 (by omega);have n51 : (op == 51) = false := beq_eq_false_iff_ne.2 h51;have e56 : ((op : Int) == 56) = false := beq_eq_false_iff_ne.2 (by omega);have n56 : (op == 56) = false := beq_eq_false_iff_ne.2 h56;have e57 : ((op : Int) == 57) = false := beq_eq_false_iff_ne.2 (by omega);have n57 : (op == 57) = false := beq_eq_false_iff_ne.2 h57;have e6 : ((op : Int) == 6) = false := beq_eq_false_iff_ne.2 (by omega);have n6 : (op == 6) = false := beq_eq_false_iff_ne.2 h6;have e7 : ((op : Int) == 7) = false := beq_eq_false_iff_ne.2 (by omega);have n7 : (op == 7) = false := beq_eq_false_iff_ne.2 h7;by_cases c1 : op < 20
 · have cc := c1
   have f0 : ¬ (20 : Int) ≤ (op : Int) := by omega
   have f1 : ¬ (30 : Int) ≤ (op : Int) := by omega
   have g0 : ¬ 20 ≤ op := by omega
   have g1 : ¬ 30 ≤ op := by omega
   have hd := Lib.hid (show leastN op = 1 by unfold leastN; simp [n2, n3, n50, n51, n56, n57, n6, n7, g0, g1]);clear g0 g1 n2 h2 n3 h3 n50 h50 n51 h51 n56 h56 n57 h57 n6 h6 n7 h7;clear cc c1;go_enter Tryd.func68, Tryd.ntmps68
   go_wp2
   go_ret
   exact ⟨by rw [hd.out]; rfl, rfl⟩
 by_cases c2 : op ≤ 26
 · have cc := c2
   have f0 : (20 : Int) ≤ (op : Int) := by omega
   have f1 : (op : Int) ≤ 26 := by omega
   have g0 : 20 ≤ op := by omega
   have g1 : op ≤ 26 := by omega
   have hd := Lib.hid (show leastN op = 0 by unfold leastN; simp [n2, n3, n50, n51, n56, n57, g0, g1]);clear g0 g1 n2 h2 n3 h3 n50 h50 n51 h51 n56 h56 n57 h57 n6 h6 n7 h7;clear cc c1 c2;go_enter Tryd.func68, Tryd.ntmps68
   go_wp2
   go_ret
   exact ⟨by rw [hd.out]; rfl, rfl⟩
 by_cases c3 : op < 30
 · have cc := c3
   have f0 : (20 : Int) ≤ (op : Int) := by omega
   have f1 : ¬ (op : Int) ≤ 26 := by omega
   have f2 : ¬ (30 : Int) ≤ (op : Int) := by omega
   have g0 : 20 ≤ op := by omega
   have g1 : ¬ op ≤ 26 := by omega
   have g2 : ¬ 30 ≤ op := by omega
   have hd := Lib.hid (show leastN op = 1 by unfold leastN; simp [n2, n3, n50, n51, n56, n57, n6, n7, g0, g1, g2]);clear g0 g1 g2 n2 h2 n3 h3 n50 h50 n51 h51 n56 h56 n57 h57 n6 h6 n7 h7;clear cc c1 c2 c3;go_enter Tryd.func68, Tryd.ntmps68
   go_wp2
   go_ret
   exact ⟨by rw [hd.out]; rfl, rfl⟩
 by_cases c4 : op ≤ 42
 · have cc := c4
   have f0 : (20 : Int) ≤ (op : Int) := by omega
   have f1 : ¬ (op : Int) ≤ 26 := by omega
   have f2 : (30 : Int) ≤ (op : Int) := by omega
   have f3 : (op : Int) ≤ 42 := by omega
   have g0 : 20 ≤ op := by omega
   have g1 : ¬ op ≤ 26 := by omega
   have g2 : 30 ≤ op := by omega
   have g3 : op ≤ 42 := by omega
   have hd := Lib.hid (show leastN op = 2 by unfold leastN; simp [n2, n3, n50, n51, n56, n57, n6, n7, g0, g1, g2, g3]);clear g0 g1 g2 g3 n2 h2 n3 h3 n50 h50 n51 h51 n56 h56 n57 h57 n6 h6 n7 h7;clear cc c1 c2 c3 c4;go_enter Tryd.func68, Tryd.ntmps68
   go_wp2
   go_ret
   exact ⟨by rw [hd.out]; rfl, rfl⟩
 have f0 : (20 : Int) ≤ (op : Int) := by omega
 have f1 : ¬ (op : Int) ≤ 26 := by omega
 have f2 : (30 : Int) ≤ (op : Int) := by omega
 have f3 : ¬ (op : Int) ≤ 42 := by omega
 have g0 : 20 ≤ op := by omega
 have g1 : ¬ op ≤ 26 := by omega
 have g2 : 30 ≤ op := by omega
 have g3 : ¬ op ≤ 42 := by omega
 have hd := Lib.hid (show leastN op = 1 by unfold leastN; simp [n2, n3, n50, n51, n56, n57, n6, n7, g0, g1, g2, g3]);clear g0 g1 g2 g3 n2 h2 n3 h3 n50 h50 n51 h51 n56 h56 n57 h57 n6 h6 n7 h7;go_enter Tryd.func68, Tryd.ntmps68
 go_wp2
 go_ret
 exact ⟨by rw [hd.out]; rfl, rfl⟩
set_option maxRecDepth 20000 in
set_option maxHeartbeats 1000000 in
theorem refMost_any (op : Nat) (w : World) : Calls Tryd.prog 69 #[.int .u8 (op : Int)] w fun e w' => e = .returned (.int .i64 (mostN op)) ∧ w' = w := by
 by_cases h1 : op = 1
 · subst h1
   go_enter Tryd.func69, Tryd.ntmps69
   go_wp2
   go_ret
   exact ⟨rfl, rfl⟩
 by_cases h3 : op = 3
 · subst h3
   go_enter Tryd.func69, Tryd.ntmps69
   go_wp2
   go_ret
   exact ⟨rfl, rfl⟩
 by_cases h25 : op = 25
 · subst h25
   go_enter Tryd.func69, Tryd.ntmps69
   go_wp2
   go_ret
   exact ⟨rfl, rfl⟩
 by_cases h50 : op = 50
 · subst h50
   go_enter Tryd.func69, Tryd.ntmps69
   go_wp2
   go_ret
   exact ⟨rfl, rfl⟩
 by_cases h51 : op = 51
 · subst h51
   go_enter Tryd.func69, Tryd.ntmps69
   go_wp2
   go_ret
   exact ⟨rfl, rfl⟩
 by_cases h6 : op = 6
 · subst h6
   go_enter Tryd.func69, Tryd.ntmps69
   go_wp2
   go_ret
   exact ⟨rfl, rfl⟩
 have e1 : ((op : Int) == 1) = false := beq_eq_false_iff_ne.2 (by omega);have n1 : (op == 1) = false := beq_eq_false_iff_ne.2 h1;have e3 : ((op : Int) == 3) = false := beq_eq_false_iff_ne.2 (by omega);have n3 : (op == 3) = false := beq_eq_false_iff_ne.2 h3;have e25 : ((op : Int) == 25) = false := beq_eq_false_iff_ne.2 (by omega);have n25 : (op == 25) = false := beq_eq_false_iff_ne.2 h25;have e50 : ((op : Int) == 50) = false := beq_eq_false_iff_ne.2 (by omega);have n50 : (op == 50) = false := beq_eq_false_iff_ne.2 h50;have e51 : ((op : Int) == 51) = false := beq_eq_false_iff_ne.2 (by omega);have n51 : (op == 51) = false := beq_eq_false_iff_ne.2 h51;have e6 : ((op : Int) == 6) = false := beq_eq_false_iff_ne.2 (by omega);have n6 : (op == 6) = false := beq_eq_false_iff_ne.2 h6;have hd : mostN op = leastN op := by unfold mostN; simp [n1, n3, n25, n50, n51, n6]
 rw [hd];have kL := Lib.hid (fun W => refLeast_any op W);generalize leastN op = z at *;clear hd n1 h1 n3 h3 n25 h25 n50 h50 n51 h51 n6 h6;go_enter Tryd.func69, Tryd.ntmps69
 go_wp2_with fail
 refine (kL.out _).mono ?_;rintro e w2 ⟨rfl, rfl⟩;go_wp2
 go_ret
 exact ⟨rfl, rfl⟩
end Go.Proofs.YtjiemkidmlgbeaaDoor
namespace Go.Proofs.YtjiemkidmlgbeaaDoor
open Go.RowKit Go.Shelf
set_option maxHeartbeats 1000000 in
theorem refExpression_any (op : Nat) (w : World) : Calls Tryd.prog 19 #[.int .u8 (op : Int)] w fun e w' => e = .returned (.bool (exprB op)) ∧ w' = w := by
 obtain ⟨B, hB⟩ := exHid (exprB op);rw [hB.out];have hw := expr_w op;rw [hB.out] at hw;rcases hw with ⟨h0, h⟩ | ⟨h0, h⟩ | ⟨h0, h⟩ | ⟨h0, h⟩ | ⟨h0, h⟩ | ⟨h0, h⟩ | ⟨h0, h⟩
 all_goals
   replace h0 := Lib.hid h0;obtain ⟨h1, h2⟩ := h;go_enter Tryd.func19, Tryd.ntmps19
   go_wp2
   go_ret
   exact ⟨ret_bool (by rw [h0.out]), rfl⟩
set_option maxHeartbeats 400000 in
theorem refStatement_any (op : Nat) (w : World) : Calls Tryd.prog 65 #[.int .u8 (op : Int)] w fun e w' => e = .returned (.bool (stmtB op)) ∧ w' = w := by
 obtain ⟨B, hB⟩ := exHid (stmtB op);rw [hB.out];have hw := stmt_w op;rw [hB.out] at hw;rcases hw with ⟨h0, h⟩ | ⟨h0, h, h1⟩ | ⟨h0, h, h1⟩
 all_goals
   replace h0 := Lib.hid h0;go_enter Tryd.func65, Tryd.ntmps65
   go_wp2
   go_ret
   exact ⟨ret_bool (by rw [h0.out]), rfl⟩
end Go.Proofs.YtjiemkidmlgbeaaDoor
namespace Go.Proofs.YtjiemkidmlgbeaaDoor
open Go.RowKit
def SeenN (s : ByteArray) (k : Nat) : Prop := AllR (s.data.toList.take k) ∧ ∀ h : 0 < s.size, 0 < k → letC s[0] = true
theorem SeenN.more {s : ByteArray} {k : Nat} (h : SeenN s k) (hk : k < s.size) (hc : restC s[k] = true) (h0 : letC s[k] = true ∨ 0 < k) : SeenN s (k + 1) := by
 refine ⟨h.1.more hk hc, fun hs _ => ?_⟩;by_cases hk0 : 0 < k
 · exact h.2 hs hk0
 · obtain rfl : k = 0 := by omega
   rcases h0 with h0 | h0
   · exact h0
   · omega
set_option maxHeartbeats 2000000 in
theorem refName_any (s : ByteArray) (w : World) (hs : s.size ≤ 9223372036854775807) :
   Calls Tryd.prog 83 #[.string s] w fun e w' => e = .returned (.bool (nameL s.data.toList)) ∧ w = w' := by
 by_cases h0 : 0 < s.size
 · by_cases h24 : s.size ≤ 24
   · have hz : decide ((s.size : Int) < 1) = false := decide_eq_false (by omega)
     have h24' : decide (24 < (s.size : Int)) = false := decide_eq_false (by omega);go_enter Tryd.func83, Tryd.ntmps83
     go_wp2
     clear hz h24';go_loop [3] (fun i => ∃ k : Nat, k ≤ s.size ∧ i = .int .i64 k ∧ SeenN s k) (fun i => s.size - (intOf i).toNat)
     case atStart => exact ⟨0, Nat.zero_le _, rfl, rfl, fun _ h => absurd h (by omega)⟩
     case round =>
       obtain ⟨k, hk, rfl, hall⟩ := hrel;replace hall := Lib.hid hall;by_cases hlt : k < s.size
       · by_cases hok : restC s[k] = true ∧ (letC s[k] = true ∨ 0 < k)
         · have hnx := Lib.hid (hall.out.more hlt hok.1 hok.2)
           by_cases hl : 97 ≤ s[k].toNat ∧ s[k].toNat ≤ 122
           · obtain ⟨h97, h122⟩ := hl
             have h48 : 48 ≤ s[k].toNat := by omega
             have e57 : decide ((s[k].toNat : Int) ≤ 57) = false := decide_eq_false (by omega);have e95 : ((s[k].toNat : Int) == 95) = false := beq_eq_false_iff_ne.2 (by omega);clear hok;go_wp2
             go_round
             case rel => exact ⟨k + 1, by omega, by go_num, hnx.out⟩
             case measure => simp [intOf]; omega
           · have hl' : letC s[k] = false := by simp only [letC, decide_eq_false_iff_not]; exact hl
             have hk0 : 0 < k := by rcases hok.2 with h | h; · rw [hl'] at h; cases h
                                    · exact h
             have ek : ((k : Int) == 0) = false := beq_eq_false_iff_ne.2 (by omega);have hr := hok.1;unfold restC at hr;rw [hl'] at hr;simp only [Bool.false_or, Bool.or_eq_true, decide_eq_true_eq] at hr;have h97 : s[k].toNat < 97 := by omega
             have h48 : 48 ≤ s[k].toNat := by omega
             rcases hr with hr | hr
             · have h57 := hr.2
               clear hr hl' hl hok;go_wp2
               go_round
               case rel => exact ⟨k + 1, by omega, by go_num, hnx.out⟩
               case measure => simp [intOf]; omega
             · have e57 : decide ((s[k].toNat : Int) ≤ 57) = false := decide_eq_false (by omega)
               have e95 : ((s[k].toNat : Int) == 95) = true := by rw [hr]; rfl
               clear hr hl' hl hok;go_wp2
               go_round
               case rel => exact ⟨k + 1, by omega, by go_num, hnx.out⟩
               case measure => simp [intOf]; omega
         · have HN : Hid (nameL s.data.toList = false) := by
             show nameL s.data.toList = false
             cases hr : restC s[k] with
             | false => exact nameL_wrong hlt hr
             | true =>
               have hk0 : ¬ 0 < k := fun h => hok ⟨hr, .inr h⟩
               obtain rfl : k = 0 := by omega
               refine nameL_first hlt ?_;cases hc : letC s[0] with
               | false => rfl
               | true => exact absurd ⟨hr, .inl hc⟩ hok
           have hnl : letC s[k] = false := by
             cases hc : letC s[k] with
             | false => rfl
             | true => exact absurd ⟨letC_rest hc, .inl hc⟩ hok
           have hl : ¬ (97 ≤ s[k].toNat ∧ s[k].toNat ≤ 122) := by simpa only [letC, decide_eq_false_iff_not] using hnl
           by_cases hk0 : 0 < k
           · have ek : ((k : Int) == 0) = false := beq_eq_false_iff_ne.2 (by omega)
             have hnr : restC s[k] = false := by
               cases hc : restC s[k] with
               | false => rfl
               | true => exact absurd ⟨hc, .inr hk0⟩ hok
             have h95 : ¬ s[k].toNat = 95 := by intro h; unfold restC at hnr; simp [h] at hnr
             have hdg : ¬ (48 ≤ s[k].toNat ∧ s[k].toNat ≤ 57) := by intro h; unfold restC at hnr; simp [h] at hnr
             have e95 : ((s[k].toNat : Int) == 95) = false := beq_eq_false_iff_ne.2 (by omega);replace hnl := Lib.hid hnl;replace hnr := Lib.hid hnr;replace hok := Lib.hid hok;by_cases h48 : 48 ≤ s[k].toNat
             · have e57 : decide ((s[k].toNat : Int) ≤ 57) = false := decide_eq_false (by omega)
               by_cases h97 : 97 ≤ s[k].toNat
               · have e122 : decide ((s[k].toNat : Int) ≤ 122) = false := decide_eq_false (by omega)
                 clear hl hdg h95;go_wp2
                 go_ret
                 exact ⟨ret_bool (by rw [HN.out]), rfl⟩
               · have e97 : decide (97 ≤ (s[k].toNat : Int)) = false := decide_eq_false (by omega)
                 clear hl hdg h95;go_wp2
                 go_ret
                 exact ⟨ret_bool (by rw [HN.out]), rfl⟩
             · have e48 : decide (48 ≤ (s[k].toNat : Int)) = false := decide_eq_false (by omega)
               have e97 : decide (97 ≤ (s[k].toNat : Int)) = false := decide_eq_false (by omega);clear hl hdg h95;go_wp2
               go_ret
               exact ⟨ret_bool (by rw [HN.out]), rfl⟩
           · obtain rfl : k = 0 := by omega
             replace hnl := Lib.hid hnl;replace hok := Lib.hid hok;by_cases h97 : 97 ≤ s[0].toNat
             · have e122 : decide ((s[0].toNat : Int) ≤ 122) = false := decide_eq_false (by omega)
               clear hl hk0;go_wp2
               all_goals
                 go_ret
                 exact ⟨ret_bool (by rw [HN.out]), rfl⟩
             · have e97 : decide (97 ≤ (s[0].toNat : Int)) = false := decide_eq_false (by omega)
               clear hl hk0;go_wp2
               all_goals
                 go_ret
                 exact ⟨ret_bool (by rw [HN.out]), rfl⟩
       · have HN := Lib.hid (nameL_of h0 h24 (hall.out.2 h0 (by omega)) (hall.out.1.all (by omega)))
         go_wp2
         go_ret
         exact ⟨ret_bool (by rw [HN.out]), rfl⟩
   · have HN := Lib.hid (nameL_long (Nat.lt_of_not_le h24))
     have hz : decide ((s.size : Int) < 1) = false := decide_eq_false (by omega);have h24' : decide (24 < (s.size : Int)) = true := decide_eq_true (by omega);go_enter Tryd.func83, Tryd.ntmps83
     go_wp2
     go_ret
     exact ⟨ret_bool (by rw [HN.out]), rfl⟩
 · have HN := Lib.hid (nameL_none h0)
   have hz : decide ((s.size : Int) < 1) = true := decide_eq_true (by omega);go_enter Tryd.func83, Tryd.ntmps83
   go_wp2
   go_ret
   exact ⟨ret_bool (by rw [HN.out]), rfl⟩
end Go.Proofs.YtjiemkidmlgbeaaDoor
namespace Go.Proofs.YtjiemkidmlgbeaaDoor
open Go.RowKit
def TxtsK (w : World) (a : Option Addr) (f : Nat → ByteArray) (n : Nat) : Prop :=
 0 < n → ∃ b off, a = some ⟨b, off, none⟩ ∧ b < w.heap.size ∧ ∀ j, j < n → w.cell? ⟨b, off + j, none⟩ = some (.string (f j))
theorem any_rangeK (g : Nat → Bool) : ∀ n, (∀ j, j < n → g j = false) → (List.range n).any g = false := by
 intro n h;rw [List.any_eq_false];intro j hj;simp [h j (List.mem_range.1 hj)]
theorem any_hitK {g : Nat → Bool} {n j : Nat} (hj : j < n) (h : g j = true) : (List.range n).any g = true :=
 List.any_eq_true.2 ⟨j, List.mem_range.2 hj, h⟩
set_option maxRecDepth 20000 in
set_option maxHeartbeats 1000000 in
theorem among_anyK {w : World} {a : Option Addr} {f : Nat → ByteArray} {n cap : Nat} (h : TxtsK w a f n) (hn : n ≤ 1000) (s : ByteArray) :
   Calls Tryd.prog 45 #[.slice a n cap, .string s] w fun e w' => e = .returned (.bool ((List.range n).any fun j => (f j).toList == s.toList)) ∧ w = w' := by
 obtain ⟨V, hV⟩ := exHid ((List.range n).any fun j => (f j).toList == s.toList);rw [hV];replace h := Lib.hid h;go_enter Tryd.func45, Tryd.ntmps45
 go_wp2
 go_loop [5] (fun t5 => ∃ i : Nat, i ≤ n ∧ t5 = .int .i64 i ∧ Hid (∀ j, j < i → ((f j).toList == s.toList) = false)) (fun t5 => n - (intOf t5).toNat)
 case atStart => exact ⟨0, by omega, rfl, fun j hj => by omega⟩
 case round =>
   obtain ⟨i, hi, rfl, hall⟩ := hrel;rcases Nat.lt_or_ge i n with hlt | hge
   · obtain ⟨b, off, rfl, _, hc⟩ := h.out (by omega)
     have x := hc i hlt;have hlti : (i : Int) < (n : Int) := by omega
     cases hq : ((f i).toList == s.toList) with
     | false =>
       have hnx : Hid (∀ j, j < i + 1 → ((f j).toList == s.toList) = false) := by
         intro j hj;rcases Nat.lt_or_ge j i with h1 | h1
         · exact hall j h1
         · obtain rfl : j = i := by omega
           exact hq
       generalize f i = S at *;clear hc;go_wp2
       go_round
       case rel => exact ⟨i + 1, by omega, by go_num, hnx⟩
       case measure => simp [intOf]; omega
     | true =>
       have hv : V = true := by rw [← hV.out]; exact any_hitK hlt hq
       replace hv := Lib.hid hv;generalize f i = S at *;clear hc;go_wp2
       go_ret
       exact ⟨ret_bool (by rw [hv.out]), rfl⟩
   · obtain rfl : i = n := by omega
     have hlti : ¬ ((i : Int) < (i : Int)) := by omega
     have hv : V = false := by rw [← hV.out]; exact any_rangeK _ _ hall
     replace hv := Lib.hid hv;go_wp2
     go_ret
     exact ⟨ret_bool (by rw [hv.out]), rfl⟩
theorem txts_words (w : World) (cs : Array Value) (t : TypeId) (h : cs = ((List.range 28).map fun j => Value.string (kwAt j)).toArray) : TxtsK (w.alloc (.cells cs t)) (some ⟨w.heap.size, 0, none⟩) kwAt 28 := by
 subst h;refine fun _ => ⟨_, 0, rfl, by simp, fun j hj => ?_⟩
 rw [Nat.zero_add];simp only [World.cell?, heap_alloc_new];simp [List.getElem?_range hj]
set_option maxRecDepth 20000 in
theorem words_any (w : World) :
   Calls Tryd.prog 89 #[] w fun e w' => ∃ b, e = .returned (.slice (some ⟨b, 0, none⟩) 28 28) ∧ TxtsK w' (some ⟨b, 0, none⟩) kwAt 28 ∧ Below w.heap.size w w' := by
 go_enter Tryd.func89, Tryd.ntmps89
 go_wp2
 go_ret
 exact ⟨_, rfl, txts_words w _ _ (by rfl), (Below.refl _ w).alloc (Nat.le_refl _) _⟩
theorem kw_range (l : ByteArray) : ((List.range 28).any fun j => (kwAt j).toList == l.toList) = kwB l.toList := by
 have h : kwL = (List.range 28).map fun j => (kwAt j).toList := by decide +kernel
 unfold kwB;rw [h, List.any_map]
 congr 1
 funext j
 simp only [Function.comp];exact Bool.eq_iff_iff.2 ⟨fun h => beq_iff_eq.2 (beq_iff_eq.1 h).symm, fun h => beq_iff_eq.2 (beq_iff_eq.1 h).symm⟩
theorem refKeyword_any (s : ByteArray) (w : World) :
   Calls Tryd.prog 84 #[.string s] w fun e w' => e = .returned (.bool (kwB s.toList)) ∧ Below w.heap.size w w' := by
 go_enter Tryd.func84, Tryd.ntmps84
 go_wp2_with fail
 refine (words_any w).mono ?_;rintro e w1 ⟨b, rfl, hT, hb⟩;go_wp2_with fail
 refine (among_anyK hT (by omega) s).mono ?_;rintro e w2 ⟨rfl, rfl⟩;rw [kw_range];go_wp2
 go_ret
 exact ⟨rfl, hb⟩
end Go.Proofs.YtjiemkidmlgbeaaDoor
