/- A part of the proof: ShV, ShP. No condition. -/
import Derived.Test.YtjiemkidmlgbeaaGreatDoorQ03
import Derived.Test.YtjiemkidmlgbeaaGreatDoorQ04
import Derived.Test.YtjiemkidmlgbeaaGreatDoorQ22
set_option linter.unusedVariables false
set_option linter.unusedSimpArgs false
namespace Go.Proofs.YtjiemkidmlgbeaaGreatDoor
open Go.RowKit Go.Shelf
def Fs.exprs : Fs → Prop
 | .nil => True
 | .cons x _ r => exprB x.op = true ∧ r.exprs
def Fs.stmts : Fs → Prop
 | .nil => True
 | .cons x _ r => stmtB x.op = true ∧ r.stmts
def Fs.params : Fs → Prop
 | .nil => False
 | .cons x _ .nil => x.op = 3
 | .cons x _ (.cons y k r) => x.op = 2 ∧ Fs.params (.cons y k r)
inductive View : Tw → Fs → Prop where
 | bare (op : Nat) (ho : op = 20 ∨ op = 21 ∨ op = 22 ∨ op = 57) : View ⟨op, 0, 0, []⟩ .nil
 | int (n : Nat) : View ⟨23, 0, (n : Int), []⟩ .nil
 | text (s : List UInt8) (h : s.length ≤ 4095) : View ⟨24, 0, 0, s⟩ .nil
 | own (op : Nat) (s : List UInt8) (ho : op = 26 ∨ op = 56 ∨ op = 2) (h : ownL s = true) : View ⟨op, 0, 0, s⟩ .nil
 | one (op : Nat) (a : Tw) (ka : Fs) (ho : (43 ≤ op ∧ op ≤ 48) ∨ op = 52 ∨ op = 54 ∨ op = 55 ∨ (8 ≤ op ∧ op ≤ 11)) (ha : exprB a.op = true) : View ⟨op, 1, 0, []⟩ (.cons a ka .nil)
 | set (op : Nat) (s : List UInt8) (a : Tw) (ka : Fs) (ho : op = 4 ∨ op = 5) (h : ownL s = true) (ha : exprB a.op = true) : View ⟨op, 1, 0, s⟩ (.cons a ka .nil)
 | two (op : Nat) (a : Tw) (ka : Fs) (b : Tw) (kb : Fs) (h1 : 30 ≤ op) (h2 : op ≤ 42) (ha : exprB a.op = true) (hb : exprB b.op = true) : View ⟨op, 2, 0, []⟩ (.cons a ka (.cons b kb .nil))
 | list (k : Fs) (hk : k.exprs) (hn : k.count ≤ 2048) : View ⟨25, (k.count : Int), 0, []⟩ k
 | call (op : Nat) (s : List UInt8) (k : Fs) (ho : op = 50 ∨ op = 51) (h : ownL s = true) (hk : k.exprs) (hn : k.count ≤ 2048) : View ⟨op, (k.count : Int), 0, s⟩ k
 | fork (b : Tw) (kb : Fs) (hb : b.op = 3) : View ⟨53, 1, 0, []⟩ (.cons b kb .nil)
 | block (k : Fs) (hk : k.stmts) (hn : k.count ≤ 2048) : View ⟨3, (k.count : Int), 0, []⟩ k
 | cond2 (op : Nat) (a : Tw) (ka : Fs) (b : Tw) (kb : Fs) (ho : op = 6 ∨ op = 7) (ha : exprB a.op = true) (hb : b.op = 3) : View ⟨op, 2, 0, []⟩ (.cons a ka (.cons b kb .nil))
 | cond3 (a : Tw) (ka : Fs) (b : Tw) (kb : Fs) (c : Tw) (kc : Fs) (ha : exprB a.op = true) (hb : b.op = 3) (hc : c.op = 3) : View ⟨6, 3, 0, []⟩ (.cons a ka (.cons b kb (.cons c kc .nil)))
 | flow (s : List UInt8) (k : Fs) (h : ownL s = true) (hk : k.params) (hn : k.count ≤ 2048) : View ⟨1, (k.count : Int), 0, s⟩ k
theorem parts_exprs (n : Int) : ∀ (F : Fs) (p : Nat), F.part 1 n p → F.exprs
 | .nil, _, _ => trivial
 | .cons x k r, p, ⟨a, b⟩ => by
   refine ⟨?_, parts_exprs n r (p + 1) b⟩;unfold partOK at a;rw [if_pos rfl, Int.toNat_natCast] at a;exact a
theorem parts_stmts (n : Int) : ∀ (F : Fs) (p : Nat), F.part 3 n p → F.stmts
 | .nil, _, _ => trivial
 | .cons x k r, p, ⟨a, b⟩ => by
   refine ⟨?_, parts_stmts n r (p + 1) b⟩;unfold partOK at a;rw [if_neg (by decide), if_neg (by decide), if_pos rfl, Int.toNat_natCast] at a;exact a
theorem op_is {op k : Nat} (h : ((op : Int) == (k : Int)) = true) : op = k := by
 have : (op : Int) = k := by simpa using h
 omega
theorem parts_params (n : Nat) : ∀ (F : Fs) (p : Nat), p + F.count = n → 0 < F.count → F.part 2 (n : Int) p → F.params
 | .nil, _, _, h, _ => absurd h (by decide)
 | .cons x k .nil, p, hn, _, ⟨a, _⟩ => by
   have e : (Fs.cons x k .nil).count = 1 := rfl;unfold partOK at a;rw [if_neg (by decide), if_pos rfl, if_neg (by omega)] at a;exact op_is a
 | .cons x k (.cons y k' r'), p, hn, _, ⟨a, b⟩ => by
   have e : (Fs.cons x k (.cons y k' r')).count = (Fs.cons y k' r').count + 1 := rfl;have e2 : (Fs.cons y k' r').count = r'.count + 1 := rfl;unfold partOK at a;rw [if_neg (by decide), if_pos rfl, if_pos (by omega)] at a;exact ⟨op_is a, parts_params n (.cons y k' r') (p + 1) (by omega) (by omega) b⟩
def kindV' (p : Nat × Kind) : Bool :=
 (p.2.text == 0 && p.2.least == 0 && p.2.most == 0 && (p.1 == 20 || p.1 == 21 || p.1 == 22 || p.1 == 57 || p.1 == 23)) ||
 (p.2.text == 2 && p.2.least == 0 && p.2.most == 0 && p.1 == 24) ||
 (p.2.text == 1 && p.2.least == 0 && p.2.most == 0 && (p.1 == 26 || p.1 == 56 || p.1 == 2)) ||
 (p.2.text == 0 && p.2.least == 1 && p.2.most == 1 && p.2.part == 1 && (decide (43 ≤ p.1 ∧ p.1 ≤ 48) || p.1 == 52 || p.1 == 54 || p.1 == 55 || decide (8 ≤ p.1 ∧ p.1 ≤ 11))) ||
 (p.2.text == 1 && p.2.least == 1 && p.2.most == 1 && p.2.part == 1 && (p.1 == 4 || p.1 == 5)) ||
 (p.2.text == 0 && p.2.least == 2 && p.2.most == 2 && p.2.part == 1 && decide (30 ≤ p.1 ∧ p.1 ≤ 42)) ||
 (p.2.text == 0 && p.2.least == 0 && p.2.most == 2048 && p.2.part == 1 && p.1 == 25) ||
 (p.2.text == 1 && p.2.least == 0 && p.2.most == 2048 && p.2.part == 1 && (p.1 == 50 || p.1 == 51)) ||
 (p.2.text == 0 && p.2.least == 1 && p.2.most == 1 && p.2.part == 5 && p.1 == 53) ||
 (p.2.text == 0 && p.2.least == 0 && p.2.most == 2048 && p.2.part == 3 && p.1 == 3) ||
 (p.2.text == 0 && p.2.least == 2 && p.2.most == 3 && p.2.part == 4 && p.1 == 6) ||
 (p.2.text == 0 && p.2.least == 2 && p.2.most == 2 && p.2.part == 4 && p.1 == 7) ||
 (p.2.text == 1 && p.2.least == 1 && p.2.most == 2048 && p.2.part == 2 && p.1 == 1)
theorem kind_in : ∀ {L : List (Nat × Kind)} {op : Nat} {k : Kind}, lookK L op = some k → (op, k) ∈ L
 | [], _, _, h => by cases h
 | p :: r, op, k, h => by
   unfold lookK at h;split at h
   · rename_i e
     cases h
     subst e;exact List.mem_cons_self ..
   · exact List.mem_cons_of_mem _ (kind_in h)
theorem kinds_all : ∀ p ∈ kindsL, kindV' p = true := by decide
theorem txt0 {s : List UInt8} (h : textOK 0 s = true) : s = [] := by
 unfold textOK at h;rw [if_pos rfl] at h
 simpa using h
theorem cnt0 {F : Fs} (h : F.count = 0) : F = .nil := by
 cases F with
 | nil => rfl
 | cons x k r => exact absurd h (by show r.count + 1 ≠ 0; omega)
theorem cnt1 {F : Fs} (h : F.count = 1) : ∃ a ka, F = .cons a ka .nil := by
 cases F with
 | nil => exact absurd h (by decide)
 | cons x k r =>
   have e : (Fs.cons x k r).count = r.count + 1 := rfl;exact ⟨x, k, by rw [cnt0 (F := r) (by omega)]⟩
theorem cnt2 {F : Fs} (h : F.count = 2) : ∃ a ka b kb, F = .cons a ka (.cons b kb .nil) := by
 cases F with
 | nil => exact absurd h (by decide)
 | cons x k r =>
   have e : (Fs.cons x k r).count = r.count + 1 := rfl;obtain ⟨b, kb, hb⟩ := cnt1 (F := r) (by omega);exact ⟨x, k, b, kb, by rw [hb]⟩
theorem cnt3 {F : Fs} (h : F.count = 3) : ∃ a ka b kb c kc, F = .cons a ka (.cons b kb (.cons c kc .nil)) := by
 cases F with
 | nil => exact absurd h (by decide)
 | cons x k r =>
   have e : (Fs.cons x k r).count = r.count + 1 := rfl;obtain ⟨b, kb, c, kc, hb⟩ := cnt2 (F := r) (by omega);exact ⟨x, k, b, kb, c, kc, by rw [hb]⟩
theorem cond_parts {n : Int} {a b : Tw} {ka kb r : Fs} (h : (Fs.cons a ka (.cons b kb r)).part 4 n 0) : exprB a.op = true ∧ b.op = 3 ∧ r.part 4 n 2 := by
 obtain ⟨h1, h2, h3⟩ := h;unfold partOK at h1 h2;rw [if_neg (by decide), if_neg (by decide), if_neg (by decide), if_pos rfl, if_pos (by decide), Int.toNat_natCast] at h1;rw [if_neg (by decide), if_neg (by decide), if_neg (by decide), if_pos rfl, if_neg (by decide)] at h2;exact ⟨h1, op_is h2, h3⟩
theorem view {x : Tw} {k r : Fs} (h : (Fs.cons x k r).ok) : View x k := by
 obtain ⟨⟨kd, hk, ha, hp⟩, hn, -, -⟩ := h;obtain ⟨op, kids, num, text⟩ := x;dsimp only at hk hp hn;subst hn;have hv := kinds_all _ (kind_in hk);unfold allowsB at ha;simp only [Bool.and_eq_true, decide_eq_true_eq] at ha;obtain ⟨⟨⟨h0, h1⟩, h2⟩, h3⟩ := ha;have hnum : op ≠ 23 → num = 0 := by
   intro h;simp only [Bool.or_eq_true, Bool.and_eq_true, beq_iff_eq, decide_eq_true_eq] at h0;omega
 obtain ⟨kt, kl, km, kp⟩ := kd;dsimp only at *;unfold kindV' at hv;simp only [Bool.or_eq_true, Bool.and_eq_true, beq_iff_eq, decide_eq_true_eq] at hv;rcases hv with (((((((((((⟨⟨⟨rfl, rfl⟩, rfl⟩, ho⟩ | ⟨⟨⟨rfl, rfl⟩, rfl⟩, ho⟩) | ⟨⟨⟨rfl, rfl⟩, rfl⟩, ho⟩) | ⟨⟨⟨⟨rfl, rfl⟩, rfl⟩, rfl⟩, ho⟩) | ⟨⟨⟨⟨rfl, rfl⟩, rfl⟩, rfl⟩, ho⟩) | ⟨⟨⟨⟨rfl, rfl⟩, rfl⟩, rfl⟩, ho⟩) | ⟨⟨⟨⟨rfl, rfl⟩, rfl⟩, rfl⟩, ho⟩) | ⟨⟨⟨⟨rfl, rfl⟩, rfl⟩, rfl⟩, ho⟩) | ⟨⟨⟨⟨rfl, rfl⟩, rfl⟩, rfl⟩, ho⟩) | ⟨⟨⟨⟨rfl, rfl⟩, rfl⟩, rfl⟩, ho⟩) | ⟨⟨⟨⟨rfl, rfl⟩, rfl⟩, rfl⟩, ho⟩) | ⟨⟨⟨⟨rfl, rfl⟩, rfl⟩, rfl⟩, ho⟩) | ⟨⟨⟨⟨rfl, rfl⟩, rfl⟩, rfl⟩, ho⟩
 · obtain rfl := cnt0 (F := k) (by omega)
   obtain rfl := txt0 h3;by_cases e : op = 23
   · subst e
     simp only [Bool.or_eq_true, Bool.and_eq_true, beq_iff_eq, decide_eq_true_eq] at h0;obtain ⟨n, rfl⟩ : ∃ n : Nat, num = (n : Int) := ⟨num.toNat, by omega⟩;exact .int n
   · rw [hnum e]
     exact .bare op (by omega)
 · obtain rfl := cnt0 (F := k) (by omega)
   subst ho;rw [hnum (by decide)];exact .text text (of_decide_eq_true h3)
 · obtain rfl := cnt0 (F := k) (by omega)
   rw [hnum (by omega)];exact .own op text (by omega) h3
 · obtain ⟨a, ka, rfl⟩ := cnt1 (F := k) (by omega)
   obtain rfl := txt0 h3;rw [hnum (by omega)];exact .one op a ka (by omega) (parts_exprs _ _ _ hp).1
 · obtain ⟨a, ka, rfl⟩ := cnt1 (F := k) (by omega)
   rw [hnum (by omega)];exact .set op text a ka ho h3 (parts_exprs _ _ _ hp).1
 · obtain ⟨a, ka, b, kb, rfl⟩ := cnt2 (F := k) (by omega)
   obtain rfl := txt0 h3;rw [hnum (by omega)];exact .two op a ka b kb ho.1 ho.2 (parts_exprs _ _ _ hp).1 (parts_exprs _ _ _ hp).2.1
 · obtain rfl := txt0 h3
   subst ho;rw [hnum (by omega)];exact .list k (parts_exprs _ _ _ hp) (by omega)
 · rw [hnum (by omega)]
   exact .call op text k ho h3 (parts_exprs _ _ _ hp) (by omega)
 · obtain ⟨a, ka, rfl⟩ := cnt1 (F := k) (by omega)
   obtain rfl := txt0 h3;subst ho;rw [hnum (by omega)];exact .fork a ka (op_is hp.1)
 · obtain rfl := txt0 h3
   subst ho;rw [hnum (by omega)];exact .block k (parts_stmts _ _ _ hp) (by omega)
 · obtain rfl := txt0 h3
   subst ho;rw [hnum (by omega)];rcases (show k.count = 2 ∨ k.count = 3 by omega) with e | e
   · obtain ⟨a, ka, b, kb, rfl⟩ := cnt2 e
     obtain ⟨g1, g2, -⟩ := cond_parts hp;exact .cond2 6 a ka b kb (.inl rfl) g1 g2
   · obtain ⟨a, ka, b, kb, c, kc, rfl⟩ := cnt3 e
     obtain ⟨g1, g2, g3, -⟩ := cond_parts hp;unfold partOK at g3;rw [if_neg (by decide), if_neg (by decide), if_neg (by decide), if_pos rfl, if_neg (by decide)] at g3;exact .cond3 a ka b kb c kc g1 g2 (op_is g3)
 · obtain rfl := txt0 h3
   subst ho;rw [hnum (by omega)];obtain ⟨a, ka, b, kb, rfl⟩ := cnt2 (F := k) (by omega);obtain ⟨g1, g2, -⟩ := cond_parts hp;exact .cond2 7 a ka b kb (.inr rfl) g1 g2
 · subst ho
   rw [hnum (by omega)];exact .flow text k h3 (parts_params _ k 0 (by omega) (by omega) hp) (by omega)
theorem Fs.ok.first {x : Tw} {k r : Fs} (h : (Fs.cons x k r).ok) : (Fs.cons x k .nil).ok := ⟨h.1, h.2.1, h.2.2.1, trivial⟩
theorem Fs.ok.rest {x : Tw} {k r : Fs} (h : (Fs.cons x k r).ok) : r.ok := h.2.2.2
end Go.Proofs.YtjiemkidmlgbeaaGreatDoor
namespace Go.Proofs.YtjiemkidmlgbeaaGreatDoor
def widthN (op : Nat) : Nat :=
 if op = 30 then 1 else if op = 31 then 2 else if op = 43 then 3 else if 32 ≤ op ∧ op ≤ 35 then 4 else if op = 36 ∨ op = 37 then 5
 else if op = 38 ∨ op = 39 ∨ op = 40 then 6 else if op = 44 ∨ op = 54 ∨ op = 55 then 7 else if op = 42 then 8 else 9
def wordTg (s : List UInt8) : Tg := ⟨1, s, 0, 0⟩
def signTg (s : List UInt8) : Tg := ⟨4, s, 0, 0⟩
def marksL : List (Nat × Nat × List UInt8) := [
 (8, 1, B.ret), (9, 1, B.fail), (10, 1, B.sleep), (11, 1, B.doW),
 (20, 1, B.none), (21, 1, B.tru), (22, 1, B.fls), (57, 1, B.version),
 (30, 1, B.or), (31, 1, B.and), (43, 1, B.not),
 (32, 4, B.eqq), (33, 4, B.neq), (34, 4, B.les), (35, 4, B.leq),
 (36, 4, B.add), (37, 4, B.sub), (38, 4, B.mul), (39, 4, B.div), (40, 4, B.rem),
 (44, 4, B.sub), (54, 1, B.await), (55, 1, B.settle),
 (41, 1, B.num), (45, 1, B.len), (46, 1, B.re), (47, 1, B.im), (48, 1, B.conj),
 (52, 1, B.timer), (50, 1, B.call), (51, 1, B.child), (56, 1, B.take)]
def markGo (op : Nat) : List (Nat × Nat × List UInt8) → List Tg
 | [] => []
 | m :: r => if m.1 = op then ⟨m.2.1, m.2.2, 0, 0⟩ :: markGo op r else markGo op r
def markTg (op : Nat) : List Tg := markGo op marksL
structure Lay where
 head : List Tg
 part : Nat → List Tg × Nat
 tail : List Tg
def comma (p : Nat) : List Tg × Nat := (if p = 0 then [] else [signTg B.com], 1)
def noneL (_ : Nat) : List Tg × Nat := ([], 1)
def elseL (p : Nat) : List Tg × Nat := (if p = 2 then [wordTg B.elseW] else [], 1)
def flowL (n : Int) (p : Nat) : List Tg × Nat := if (p : Int) + 1 = n then ((if p = 0 then [signTg B.opn] else []) ++ [signTg B.cls], 1) else (if p = 0 then [signTg B.opn] else [signTg B.com], 1)
def atL (p : Nat) : List Tg × Nat := if p = 0 then ([], 8) else ([signTg B.lsq], 1)
def layT (x : Tw) : Lay :=
 if x.op = 1 then ⟨[wordTg B.flow, wordTg x.text], flowL x.kids, []⟩
 else if x.op = 2 then ⟨[wordTg x.text], noneL, []⟩
 else if x.op = 3 then ⟨[signTg B.lbr], noneL, [signTg B.rbr]⟩
 else if x.op = 4 then ⟨[wordTg B.letW, wordTg x.text, signTg B.eq], noneL, []⟩
 else if x.op = 5 then ⟨[wordTg x.text, signTg B.eq], noneL, []⟩
 else if x.op = 6 then ⟨[wordTg B.ifW], elseL, []⟩
 else if x.op = 7 then ⟨[wordTg B.whileW], elseL, []⟩
 else if x.op = 23 then ⟨[⟨2, [], x.num, 0⟩], noneL, []⟩
 else if x.op = 24 then ⟨[⟨3, x.text, 0, 0⟩], noneL, []⟩
 else if x.op = 26 then ⟨[wordTg x.text], noneL, []⟩
 else if x.op = 56 then ⟨[wordTg B.take, wordTg x.text], noneL, []⟩
 else if x.op = 25 then ⟨[signTg B.lsq], comma, [signTg B.rsq]⟩
 else if x.op = 50 ∨ x.op = 51 then ⟨markTg x.op ++ [wordTg x.text, signTg B.opn], comma, [signTg B.cls]⟩
 else if x.op = 53 then ⟨[wordTg B.fork], noneL, []⟩
 else if x.op = 42 then ⟨[], atL, [signTg B.rsq]⟩
 else if (8 ≤ x.op ∧ x.op ≤ 11) ∨ x.op = 20 ∨ x.op = 21 ∨ x.op = 22 ∨ x.op = 57 then ⟨markTg x.op, noneL, []⟩
 else if widthN x.op = 9 then ⟨markTg x.op ++ [signTg B.opn], comma, [signTg B.cls]⟩
 else if widthN x.op = 3 ∨ widthN x.op = 7 then ⟨markTg x.op, fun _ => ([], widthN x.op), []⟩
 else if widthN x.op = 4 then ⟨[], fun p => (if p = 0 then [] else markTg x.op, 5), []⟩
 else ⟨[], fun p => if p = 0 then ([], widthN x.op) else (markTg x.op, widthN x.op + 1), []⟩
def wrapT (b : Bool) (l : List Tg) : List Tg := if b then signTg B.opn :: (l ++ [signTg B.cls]) else l
def toksF (ask : Nat → List Tg × Nat) : Nat → Fs → List Tg
 | _, .nil => []
 | p, .cons x k r => (ask p).1 ++ wrapT (decide (widthN x.op < (ask p).2)) ((layT x).head ++ toksF (layT x).part 0 k ++ (layT x).tail) ++ toksF ask (p + 1) r
def bareS (x : Tw) (k : Fs) : List Tg := (layT x).head ++ toksF (layT x).part 0 k ++ (layT x).tail
def atS (a : Nat) (x : Tw) (k : Fs) : List Tg := wrapT (decide (widthN x.op < a)) (bareS x k)
def showL (x : Tw) (k : Fs) : List Tg := atS 1 x k
theorem toksF_nil (ask : Nat → List Tg × Nat) (p : Nat) : toksF ask p .nil = [] := rfl
theorem toksF_cons (ask : Nat → List Tg × Nat) (p : Nat) (x : Tw) (k r : Fs) : toksF ask p (.cons x k r) = (ask p).1 ++ atS (ask p).2 x k ++ toksF ask (p + 1) r := rfl
theorem width_pos (op : Nat) : 1 ≤ widthN op ∧ widthN op ≤ 9 := by
 unfold widthN
 repeat' split
 all_goals omega
theorem atS_wide {a : Nat} {x : Tw} {k : Fs} (h : a ≤ widthN x.op) : atS a x k = bareS x k := by
 unfold atS wrapT;rw [decide_eq_false (by omega)];rfl
theorem atS_narrow {a : Nat} {x : Tw} {k : Fs} (h : widthN x.op < a) : atS a x k = signTg B.opn :: (bareS x k ++ [signTg B.cls]) := by
 unfold atS wrapT;rw [decide_eq_true h];rfl
theorem atS_one (x : Tw) (k : Fs) : atS 1 x k = bareS x k := atS_wide (width_pos _).1
def commaS : Nat → Fs → List Tg
 | _, .nil => []
 | p, .cons x k r => (comma p).1 ++ bareS x k ++ commaS (p + 1) r
theorem comma_toks : ∀ (F : Fs) (p : Nat), toksF comma p F = commaS p F
 | .nil, _ => rfl
 | .cons x k r, p => by
   rw [toksF_cons, comma_toks r (p + 1)];show _ ++ atS 1 x k ++ _ = _
   rw [atS_one];rfl
def rowS : Fs → List Tg
 | .nil => []
 | .cons x k r => bareS x k ++ rowS r
theorem row_toks : ∀ (F : Fs) (p : Nat), toksF noneL p F = rowS F
 | .nil, _ => rfl
 | .cons x k r, p => by
   rw [toksF_cons, row_toks r (p + 1)];show [] ++ atS 1 x k ++ _ = _
   rw [atS_one, List.nil_append];rfl
section
variable {a b c : Tw} {ka kb kc k : Fs} {op : Nat} {s : List UInt8}
theorem bare_bare (ho : op = 20 ∨ op = 21 ∨ op = 22 ∨ op = 57) : bareS ⟨op, 0, 0, []⟩ .nil = markTg op := by
 rcases ho with rfl | rfl | rfl | rfl <;> rfl
theorem bare_int (n : Nat) : bareS ⟨23, 0, (n : Int), []⟩ .nil = [⟨2, [], (n : Int), 0⟩] := rfl
theorem bare_text : bareS ⟨24, 0, 0, s⟩ .nil = [⟨3, s, 0, 0⟩] := rfl
theorem bare_name : bareS ⟨26, 0, 0, s⟩ .nil = [wordTg s] := rfl
theorem bare_param : bareS ⟨2, 0, 0, s⟩ .nil = [wordTg s] := rfl
theorem bare_take : bareS ⟨56, 0, 0, s⟩ .nil = [wordTg B.take, wordTg s] := rfl
theorem bare_let : bareS ⟨4, 1, 0, s⟩ (.cons a ka .nil) = [wordTg B.letW, wordTg s, signTg B.eq] ++ bareS a ka := by
 show [wordTg B.letW, wordTg s, signTg B.eq] ++ toksF noneL 0 _ ++ [] = _
 rw [row_toks];simp [rowS]
theorem bare_set : bareS ⟨5, 1, 0, s⟩ (.cons a ka .nil) = [wordTg s, signTg B.eq] ++ bareS a ka := by
 show [wordTg s, signTg B.eq] ++ toksF noneL 0 _ ++ [] = _
 rw [row_toks];simp [rowS]
theorem bare_block {n : Int} : bareS ⟨3, n, 0, []⟩ k = signTg B.lbr :: (rowS k ++ [signTg B.rbr]) := by
 show [signTg B.lbr] ++ toksF noneL 0 _ ++ [signTg B.rbr] = _
 rw [row_toks];simp
theorem bare_stmt (h : 8 ≤ op ∧ op ≤ 11) : bareS ⟨op, 1, 0, []⟩ (.cons a ka .nil) = markTg op ++ bareS a ka := by
 have e : layT ⟨op, 1, 0, []⟩ = ⟨markTg op, noneL, []⟩ := by
   rcases (show op = 8 ∨ op = 9 ∨ op = 10 ∨ op = 11 by omega) with rfl | rfl | rfl | rfl <;> rfl
 unfold bareS;rw [e];show _ ++ toksF noneL 0 _ ++ [] = _
 rw [row_toks];simp [rowS, bareS]
theorem bare_cond2 (ho : op = 6 ∨ op = 7) : bareS ⟨op, 2, 0, []⟩ (.cons a ka (.cons b kb .nil)) = wordTg (if op = 6 then B.ifW else B.whileW) :: (bareS a ka ++ bareS b kb) := by
 rcases ho with rfl | rfl
 · show [wordTg B.ifW] ++ toksF elseL 0 _ ++ [] = _
   rw [toksF_cons, toksF_cons, toksF_nil];show [_] ++ ([] ++ atS 1 a ka ++ ([] ++ atS 1 b kb ++ [])) ++ [] = _
   simp [atS_one]
 · show [wordTg B.whileW] ++ toksF elseL 0 _ ++ [] = _
   rw [toksF_cons, toksF_cons, toksF_nil];show [_] ++ ([] ++ atS 1 a ka ++ ([] ++ atS 1 b kb ++ [])) ++ [] = _
   simp [atS_one]
theorem bare_cond3 : bareS ⟨6, 3, 0, []⟩ (.cons a ka (.cons b kb (.cons c kc .nil))) = wordTg B.ifW :: (bareS a ka ++ (bareS b kb ++ (wordTg B.elseW :: bareS c kc))) := by
 show [wordTg B.ifW] ++ toksF elseL 0 _ ++ [] = _
 rw [toksF_cons, toksF_cons, toksF_cons, toksF_nil];show [_] ++ ([] ++ atS 1 a ka ++ ([] ++ atS 1 b kb ++ ([wordTg B.elseW] ++ atS 1 c kc ++ []))) ++ [] = _
 simp [atS_one]
theorem bare_list {n : Int} : bareS ⟨25, n, 0, []⟩ k = signTg B.lsq :: (commaS 0 k ++ [signTg B.rsq]) := by
 show [signTg B.lsq] ++ toksF comma 0 _ ++ [signTg B.rsq] = _
 rw [comma_toks];simp
theorem bare_call (ho : op = 50 ∨ op = 51) {n : Int} : bareS ⟨op, n, 0, s⟩ k = markTg op ++ (wordTg s :: signTg B.opn :: (commaS 0 k ++ [signTg B.cls])) := by
 rcases ho with rfl | rfl
 · show (markTg 50 ++ [wordTg s, signTg B.opn]) ++ toksF comma 0 _ ++ [signTg B.cls] = _
   rw [comma_toks];simp
 · show (markTg 51 ++ [wordTg s, signTg B.opn]) ++ toksF comma 0 _ ++ [signTg B.cls] = _
   rw [comma_toks];simp
theorem bare_fork : bareS ⟨53, 1, 0, []⟩ (.cons b kb .nil) = wordTg B.fork :: bareS b kb := by
 show [wordTg B.fork] ++ toksF noneL 0 _ ++ [] = _
 rw [row_toks];simp [rowS]
theorem bare_at : bareS ⟨42, 2, 0, []⟩ (.cons a ka (.cons b kb .nil)) = atS 8 a ka ++ (signTg B.lsq :: (bareS b kb ++ [signTg B.rsq])) := by
 show [] ++ toksF atL 0 _ ++ [signTg B.rsq] = _
 rw [toksF_cons, toksF_cons, toksF_nil];show [] ++ ([] ++ atS 8 a ka ++ ([signTg B.lsq] ++ atS 1 b kb ++ [])) ++ [signTg B.rsq] = _
 simp [atS_one]
def asksW (op : Nat) : Prop := (45 ≤ op ∧ op ≤ 48) ∨ op = 52
theorem bare_asks (ho : asksW op) : bareS ⟨op, 1, 0, []⟩ (.cons a ka .nil) = markTg op ++ (signTg B.opn :: (bareS a ka ++ [signTg B.cls])) := by
 have e : layT ⟨op, 1, 0, []⟩ = ⟨markTg op ++ [signTg B.opn], comma, [signTg B.cls]⟩ := by
   unfold asksW at ho;rcases (show op = 45 ∨ op = 46 ∨ op = 47 ∨ op = 48 ∨ op = 52 by omega) with rfl | rfl | rfl | rfl | rfl <;> rfl
 unfold bareS;rw [e];show (markTg op ++ [signTg B.opn]) ++ toksF comma 0 _ ++ [signTg B.cls] = _
 rw [comma_toks];simp [commaS, comma, bareS]
theorem bare_num : bareS ⟨41, 2, 0, []⟩ (.cons a ka (.cons b kb .nil)) = wordTg B.num :: signTg B.opn :: (bareS a ka ++ (signTg B.com :: (bareS b kb ++ [signTg B.cls]))) := by
 show [wordTg B.num, signTg B.opn] ++ toksF comma 0 _ ++ [signTg B.cls] = _
 rw [comma_toks];simp [commaS, comma]
theorem bare_pre (ho : op = 43 ∨ op = 44 ∨ op = 54 ∨ op = 55) : bareS ⟨op, 1, 0, []⟩ (.cons a ka .nil) = markTg op ++ atS (widthN op) a ka := by
 have e : layT ⟨op, 1, 0, []⟩ = ⟨markTg op, fun _ => ([], widthN op), []⟩ := by
   rcases ho with rfl | rfl | rfl | rfl <;> rfl
 unfold bareS;rw [e];show _ ++ toksF (fun _ => ([], widthN op)) 0 _ ++ [] = _
 rw [toksF_cons, toksF_nil];simp
theorem bare_cmp (h1 : 32 ≤ op) (h2 : op ≤ 35) : bareS ⟨op, 2, 0, []⟩ (.cons a ka (.cons b kb .nil)) = atS 5 a ka ++ (markTg op ++ atS 5 b kb) := by
 have e : layT ⟨op, 2, 0, []⟩ = ⟨[], fun p => (if p = 0 then [] else markTg op, 5), []⟩ := by
   rcases (show op = 32 ∨ op = 33 ∨ op = 34 ∨ op = 35 by omega) with rfl | rfl | rfl | rfl <;> rfl
 unfold bareS;rw [e];show [] ++ toksF (fun p => (if p = 0 then [] else markTg op, 5)) 0 _ ++ [] = _
 rw [toksF_cons, toksF_cons, toksF_nil];simp
def leftW (op : Nat) : Prop := op = 30 ∨ op = 31 ∨ (36 ≤ op ∧ op ≤ 40)
theorem bare_left (ho : leftW op) : bareS ⟨op, 2, 0, []⟩ (.cons a ka (.cons b kb .nil)) = atS (widthN op) a ka ++ (markTg op ++ atS (widthN op + 1) b kb) := by
 have e : layT ⟨op, 2, 0, []⟩ = ⟨[], fun p => if p = 0 then ([], widthN op) else (markTg op, widthN op + 1), []⟩ := by
   unfold leftW at ho;rcases (show op = 30 ∨ op = 31 ∨ op = 36 ∨ op = 37 ∨ op = 38 ∨ op = 39 ∨ op = 40 by omega) with rfl | rfl | rfl | rfl | rfl | rfl | rfl <;> rfl
 unfold bareS;rw [e];show [] ++ toksF (fun p => if p = 0 then ([], widthN op) else (markTg op, widthN op + 1)) 0 _ ++ [] = _
 rw [toksF_cons, toksF_cons, toksF_nil];simp
def paramS : Nat → Fs → List Tg
 | _, .nil => []
 | _, .cons b kb .nil => signTg B.cls :: bareS b kb
 | p, .cons x k (.cons y k' r) => (comma p).1 ++ bareS x k ++ paramS (p + 1) (.cons y k' r)
theorem flow_rest (n : Nat) : ∀ (F : Fs) (p : Nat), 0 < p → p + F.count = n → toksF (flowL (n : Int)) p F = paramS p F
 | .nil, _, _, _ => rfl
 | .cons b kb .nil, p, h, hn => by
   have e : (Fs.cons b kb .nil).count = 1 := rfl;rw [toksF_cons, toksF_nil];have e2 : flowL (n : Int) p = ([signTg B.cls], 1) := by
     unfold flowL;rw [if_pos (by omega), if_neg (by omega)];rfl
   rw [e2];show [_] ++ atS 1 b kb ++ [] = _
   rw [atS_one, List.append_nil];rfl
 | .cons x k (.cons y k' r), p, h, hn => by
   have e : (Fs.cons x k (.cons y k' r)).count = r.count + 1 + 1 := rfl;have e3 : (Fs.cons y k' r).count = r.count + 1 := rfl;rw [toksF_cons, flow_rest n (.cons y k' r) (p + 1) (by omega) (by omega)];have e2 : flowL (n : Int) p = ([signTg B.com], 1) := by
     unfold flowL;rw [if_neg (by omega), if_neg (by omega)]
   rw [e2];show [_] ++ atS 1 x k ++ _ = _
   rw [atS_one];show _ = (comma p).1 ++ bareS x k ++ paramS (p + 1) (.cons y k' r)
   unfold comma;rw [if_neg (by omega)]
theorem bare_flow (h : 0 < k.count) : bareS ⟨1, (k.count : Int), 0, s⟩ k = wordTg B.flow :: wordTg s :: signTg B.opn :: paramS 0 k := by
 show [wordTg B.flow, wordTg s] ++ toksF (flowL (k.count : Int)) 0 k ++ [] = _
 match k, h with
 | .cons b kb .nil, _ =>
   rw [toksF_cons, toksF_nil];show [_, _] ++ ([_, _] ++ atS 1 b kb ++ []) ++ [] = _
   simp [atS_one, paramS]
 | .cons x k (.cons y k' r), _ =>
   have e : (Fs.cons x k (.cons y k' r)).count = r.count + 1 + 1 := rfl;have e3 : (Fs.cons y k' r).count = r.count + 1 := rfl;rw [toksF_cons, flow_rest _ (.cons y k' r) (0 + 1) (by omega) (by omega)];have e2 : flowL ((Fs.cons x k (.cons y k' r)).count : Int) 0 = ([signTg B.opn], 1) := by
     unfold flowL;rw [if_neg (by omega), if_pos rfl]
   rw [e2];show [_, _] ++ ([_] ++ atS 1 x k ++ _) ++ [] = _
   rw [atS_one];simp [paramS, comma]
end
end Go.Proofs.YtjiemkidmlgbeaaGreatDoor
