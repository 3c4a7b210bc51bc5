/- A part of the proof: RDoc2, RSpec, RMach, ROpn. No condition. -/
import Derived.Laws.OwnMore
import Derived.Deep.AppendSrc
import Derived.Lib.SliceRun
import Derived.Test.YtjiemkidmlgbeaaDoorQ05
import Derived.Test.YtjiemkidmlgbeaaDoorQ13
import Derived.Test.YtjiemkidmlgbeaaDoorQ20
set_option linter.unusedVariables false
set_option linter.unusedSimpArgs false
namespace Go.Proofs.YtjiemkidmlgbeaaDoor
open Go.RowKit Go.Shelf
theorem refName_at {tx : List UInt8} {b : Bool} (h : nameL tx = b) (hl : tx.length ≤ 9223372036854775807) (W : World) :
   Calls Tryd.prog 83 #[.string ⟨tx.toArray⟩] W fun e w' => e = .returned (.bool b) ∧ w' = W := by
 have h1 := refName_any ⟨tx.toArray⟩ W (by simp [ByteArray.size]; omega);refine h1.mono fun e w' ⟨he, hw⟩ => ⟨?_, hw.symm⟩
 rw [he];exact ret_bool (by simpa using h)
theorem refKw_at {tx : List UInt8} {b : Bool} (h : kwB tx = b) (W : World) :
   Calls Tryd.prog 84 #[.string ⟨tx.toArray⟩] W fun e w' => e = .returned (.bool b) ∧ Below W.heap.size W w' := by
 refine (refKeyword_any ⟨tx.toArray⟩ W).mono fun e w' ⟨he, hw⟩ => ⟨?_, hw⟩;rw [he];exact ret_bool (by rw [ByteArray.toList_eq]; simpa using h)
set_option maxHeartbeats 400000 in
theorem refOwn_any (s : List UInt8) (w : World) (hl : s.length ≤ 9223372036854775807) : Calls Tryd.prog 67 #[.string ⟨s.toArray⟩] w fun e w' => e = .returned (.bool (textOK 1 s)) ∧ Below w.heap.size w w' := by
 obtain ⟨B, hB⟩ := exHid (textOK 1 s);rw [hB.out];have h : (nameL s && !kwB s) = B := hB.out;rcases h1 : nameL s with _ | _
 · have k1 := Lib.hid (fun W => refName_at h1 hl W)
   rw [h1] at h;replace h := Lib.hid h;clear h1;go_enter Tryd.func67, Tryd.ntmps67
   go_wp2_with fail
   refine (k1.out _).mono ?_;rintro e w2 ⟨rfl, rfl⟩;go_wp2
   go_ret
   exact ⟨ret_bool (by rw [← h.out]; rfl), Below.refl _ _⟩
 · have k1 := Lib.hid (fun W => refName_at h1 hl W)
   have k2 := Lib.hid (fun W => refKw_at (tx := s) rfl W);rw [h1, Bool.true_and] at h;replace h := Lib.hid h;clear h1;go_enter Tryd.func67, Tryd.ntmps67
   go_wp2_with fail
   refine (k1.out _).mono ?_;rintro e w2 ⟨rfl, rfl⟩;go_wp2_with fail
   refine (k2.out _).mono ?_;rintro e w2 ⟨rfl, hb⟩;replace hb := Lib.hid hb;go_wp2
   go_ret
   exact ⟨ret_bool (by rw [← h.out]; try rfl), hb.out⟩
def partR (up : Nat) (i n : Int) (op : Nat) : Bool :=
 if up = 1 then (if i = n - 1 then (op : Int) == 3 else (op : Int) == 2)
 else if up = 3 then stmtB op
 else if (up = 6 ∨ up = 7) ∧ 0 < i then (op : Int) == 3
 else if up = 53 then (op : Int) == 3
 else exprB op
set_option maxHeartbeats 2000000 in
theorem refPart_any (up : Nat) (i n : Int) (op : Nat) (w : World) (hn : -1000000 ≤ n) (hn2 : n ≤ 1000000) :
   Calls Tryd.prog 35 #[.int .u8 (up : Int), .int .i64 i, .int .i64 n, .int .u8 (op : Int)] w fun e w' => e = .returned (.bool (partR up i n op)) ∧ w' = w := by
 obtain ⟨Z, hZ⟩ := exHid (partR up i n op);rw [hZ.out];have hz := hZ.out;unfold partR at hz;clear hZ;have kE := Lib.hid (fun W => refExpression_any op W);have kS := Lib.hid (fun W => refStatement_any op W);by_cases h1 : up = 1
 · subst h1
   rw [if_pos rfl] at hz;by_cases h : i = n - 1
   · rw [if_pos h] at hz
     have q : (i == n - 1) = true := beq_iff_eq.2 h;replace hz := Lib.hid hz;clear h;go_enter Tryd.func35, Tryd.ntmps35
     go_wp2
     go_ret
     exact ⟨ret_bool hz.out, rfl⟩
   · rw [if_neg h] at hz
     have q : (i == n - 1) = false := beq_eq_false_iff_ne.2 h;replace hz := Lib.hid hz;clear h;go_enter Tryd.func35, Tryd.ntmps35
     go_wp2
     go_ret
     exact ⟨ret_bool hz.out, rfl⟩
 · rw [if_neg h1] at hz
   have e1 : ((up : Int) == 1) = false := beq_eq_false_iff_ne.2 (by omega);by_cases h3 : up = 3
   · subst h3
     rw [if_pos rfl] at hz;replace hz := Lib.hid hz;go_enter Tryd.func35, Tryd.ntmps35
     go_wp2_with fail
     refine (kS.out _).mono ?_;rintro e w2 ⟨rfl, rfl⟩;go_wp2
     go_ret
     exact ⟨ret_bool hz.out, rfl⟩
   · rw [if_neg h3] at hz
     have e3 : ((up : Int) == 3) = false := beq_eq_false_iff_ne.2 (by omega);by_cases h67 : (up = 6 ∨ up = 7) ∧ 0 < i
     · rw [if_pos h67] at hz
       obtain ⟨h6, hi⟩ := h67;replace hz := Lib.hid hz;rcases h6 with rfl | rfl
       · go_enter Tryd.func35, Tryd.ntmps35
         go_wp2
         go_ret
         exact ⟨ret_bool hz.out, rfl⟩
       · go_enter Tryd.func35, Tryd.ntmps35
         go_wp2
         go_ret
         exact ⟨ret_bool hz.out, rfl⟩
     · rw [if_neg h67] at hz
       by_cases h53 : up = 53
       · subst h53
         rw [if_pos rfl] at hz;replace hz := Lib.hid hz;go_enter Tryd.func35, Tryd.ntmps35
         go_wp2
         go_ret
         exact ⟨ret_bool hz.out, rfl⟩
       · rw [if_neg h53] at hz
         have e53 : ((up : Int) == 53) = false := beq_eq_false_iff_ne.2 (by omega);replace hz := Lib.hid hz;by_cases h6 : up = 6 ∨ up = 7
         · have hi : ¬ (0 : Int) < i := fun h => h67 ⟨h6, h⟩
           clear h67;rcases h6 with rfl | rfl
           · go_enter Tryd.func35, Tryd.ntmps35
             go_wp2_with fail
             refine (kE.out _).mono ?_;rintro e w2 ⟨rfl, rfl⟩;go_wp2
             go_ret
             exact ⟨ret_bool hz.out, rfl⟩
           · go_enter Tryd.func35, Tryd.ntmps35
             go_wp2_with fail
             refine (kE.out _).mono ?_;rintro e w2 ⟨rfl, rfl⟩;go_wp2
             go_ret
             exact ⟨ret_bool hz.out, rfl⟩
         · have e6 : ((up : Int) == 6) = false := beq_eq_false_iff_ne.2 (by omega)
           have e7 : ((up : Int) == 7) = false := beq_eq_false_iff_ne.2 (by omega);clear h67 h6;go_enter Tryd.func35, Tryd.ntmps35
           go_wp2_with fail
           refine (kE.out _).mono ?_;rintro e w2 ⟨rfl, rfl⟩;go_wp2
           go_ret
           exact ⟨ret_bool hz.out, rfl⟩
end Go.Proofs.YtjiemkidmlgbeaaDoor
namespace Go.Proofs.YtjiemkidmlgbeaaDoor
open Go.RowKit Go.Shelf
theorem lookK_pair : ∀ {L : List (Nat × Kind)} {op : Nat} {k : Kind}, lookK L op = some k → (op, k) ∈ L
 | [], _, _, h => by cases h
 | p :: r, op, k, h => by
   unfold lookK at h;split at h
   · rename_i e
     cases h
     subst e;exact List.mem_cons_self ..
   · exact List.mem_cons_of_mem _ (lookK_pair h)
theorem kind_parts {up : Nat} {k : Kind} (h : kindOf up = some k) : k.part = 0 ∨ (k.part = 1 ∧ up ≠ 1 ∧ up ≠ 3 ∧ up ≠ 6 ∧ up ≠ 7 ∧ up ≠ 53) ∨ (k.part = 2 ∧ up = 1) ∨ (k.part = 3 ∧ up = 3) ∨ (k.part = 4 ∧ (up = 6 ∨ up = 7)) ∨ (k.part = 5 ∧ up = 53) := by
 have a : ∀ p ∈ kindsL, p.2.part = 0 ∨ (p.2.part = 1 ∧ p.1 ≠ 1 ∧ p.1 ≠ 3 ∧ p.1 ≠ 6 ∧ p.1 ≠ 7 ∧ p.1 ≠ 53) ∨ (p.2.part = 2 ∧ p.1 = 1) ∨ (p.2.part = 3 ∧ p.1 = 3) ∨ (p.2.part = 4 ∧ (p.1 = 6 ∨ p.1 = 7)) ∨ (p.2.part = 5 ∧ p.1 = 53) := by decide
 exact a _ (lookK_pair h)
theorem part_doc {up : Nat} {k : Kind} (h : kindOf up = some k) (h0 : k.part ≠ 0) (op : Nat) {i n : Int} (hi : 0 ≤ i) (hn : i < n) : partOK k.part op i n = partR up i n op := by
 rcases kind_parts h with e | ⟨e, e1, e3, e6, e7, e53⟩ | ⟨e, rfl⟩ | ⟨e, rfl⟩ | ⟨e, e2⟩ | ⟨e, rfl⟩
 · exact absurd e h0
 · rw [e]
   unfold partOK partR;rw [if_pos rfl, if_neg e1, if_neg e3, if_neg (fun c => c.1.elim e6 e7), if_neg e53];rfl
 · rw [e]
   unfold partOK partR;rw [if_neg (by decide), if_pos rfl, if_pos rfl];by_cases c : i = n - 1
   · rw [if_pos c, if_neg (by omega)]
   · rw [if_neg c, if_pos (by omega)]
 · rw [e]; rfl
 · rw [e]
   unfold partOK partR;rw [if_neg (by decide), if_neg (by decide), if_neg (by decide), if_pos rfl, if_neg (show ¬ up = 1 by rcases e2 with rfl | rfl <;> decide), if_neg (show ¬ up = 3 by rcases e2 with rfl | rfl <;> decide)];by_cases c : i = 0
   · rw [if_pos c, if_neg (by omega), if_neg (show ¬ up = 53 by rcases e2 with rfl | rfl <;> decide)]
     rfl
   · rw [if_neg c, if_pos ⟨e2, by omega⟩]
 · rw [e]
   unfold partOK partR;rw [if_neg (by decide), if_neg (by decide), if_neg (by decide), if_neg (by decide), if_neg (by decide), if_neg (by decide), if_neg (by simp), if_pos rfl]
def fineB (x : Tw) : Bool :=
 (exprB x.op || stmtB x.op || (decide (1 ≤ x.op) && decide (x.op ≤ 3))) &&
 (if namedB x.op then textOK 1 x.text else if x.op = 24 then textOK 2 x.text else textOK 0 x.text) &&
 !(decide (x.num < 0) || (decide (0 < x.num) && x.op != 23)) &&
 (decide (leastN x.op ≤ x.kids) && ((decide (mostN x.op < 0) && decide (x.kids ≤ 2048)) || decide (x.kids ≤ mostN x.op)))
def anyK (op : Nat) : Bool := exprB op || stmtB op || (decide (1 ≤ op) && decide (op ≤ 3))
def kfB (op : Nat) : Option Kind → Bool
 | none => !anyK op
 | some k => anyK op && k.text == (if namedB op then 1 else if op = 24 then 2 else 0) && decide ((k.least : Int) = leastN op) && ((decide (mostN op = -1) && k.most == 2048) || (decide (0 ≤ mostN op) && decide ((k.most : Int) = mostN op)))
theorem kfB_all : ∀ op, op < 256 → kfB op (kindOf op) = true := by decide +kernel
theorem kind_facts : ∀ op, op < 256 → match kindOf op with
   | none => anyK op = false
   | some k => anyK op = true ∧ k.text = (if namedB op then 1 else if op = 24 then 2 else 0) ∧ (k.least : Int) = leastN op ∧ ((mostN op = -1 ∧ k.most = 2048) ∨ (0 ≤ mostN op ∧ (k.most : Int) = mostN op)) := by
 intro op h;have a := kfB_all op h
 revert a
 cases kindOf op with
 | none => intro a; simpa [kfB] using a
 | some k =>
   intro a;simp only [kfB, Bool.and_eq_true, Bool.or_eq_true, decide_eq_true_eq, beq_iff_eq] at a;exact ⟨a.1.1.1, a.1.1.2, a.1.2, a.2⟩
theorem fine_doc {x : Tw} (h : x.op < 256) : fineB x = match kindOf x.op with
   | none => false
   | some k => allowsB k x := by
 have f := kind_facts x.op h;rcases hk : kindOf x.op with _ | k
 · rw [hk] at f
   have f' : (exprB x.op || stmtB x.op || (decide (1 ≤ x.op) && decide (x.op ≤ 3))) = false := f;unfold fineB;rw [f', Bool.false_and, Bool.false_and, Bool.false_and]
 · rw [hk] at f
   obtain ⟨f1, f2, f3, f4⟩ := f;have f1' : (exprB x.op || stmtB x.op || (decide (1 ≤ x.op) && decide (x.op ≤ 3))) = true := f1;have ft : (if namedB x.op then textOK 1 x.text else if x.op = 24 then textOK 2 x.text else textOK 0 x.text) = textOK k.text x.text := by
     rw [f2];by_cases a : namedB x.op = true
     · rw [if_pos a, if_pos a]
     · rw [if_neg a, if_neg a]
       by_cases b : x.op = 24
       · rw [if_pos b, if_pos b]
       · rw [if_neg b, if_neg b]
   unfold fineB;rw [f1', ft, Bool.true_and];show _ = allowsB k x
   unfold allowsB;rw [← f3];have fn : (!(decide (x.num < 0) || (decide (0 < x.num) && x.op != 23))) = (x.num == 0 || ((x.op : Int) == 23 && decide (0 < x.num))) := by
     by_cases a : x.num < 0
     · have b1 : (x.num == 0) = false := beq_eq_false_iff_ne.2 (by omega)
       have b2 : ¬ 0 < x.num := by omega
       simp [a, b1, b2]
     · by_cases b : x.num = 0
       · simp [b]
       · have b1 : (x.num == 0) = false := beq_eq_false_iff_ne.2 b
         have b2 : 0 < x.num := by omega
         by_cases c : x.op = 23
         · simp [a, b1, b2, c]
         · have c1 : ((x.op : Int) == 23) = false := beq_eq_false_iff_ne.2 (by omega)
           simp [a, b1, b2, c, c1]
   have fk : ((decide (mostN x.op < 0) && decide (x.kids ≤ 2048)) || decide (x.kids ≤ mostN x.op)) = decide (x.kids ≤ (k.most : Int)) ∨ ¬ (k.least : Int) ≤ x.kids := by
     rcases f4 with ⟨m1, m2⟩ | ⟨m1, m2⟩
     · by_cases c : (k.least : Int) ≤ x.kids
       · refine .inl ?_
         rw [m1, m2];have : (0 : Int) ≤ k.least := by omega
         have c2 : ¬ x.kids ≤ -1 := by omega
         simp [c2]
       · exact .inr c
     · refine .inl ?_
       rw [m2];have : ¬ mostN x.op < 0 := by omega
       simp [this]
   rw [fn];rcases fk with fk | fk
   · rw [fk]
     cases textOK k.text x.text <;> cases (x.num == 0 || ((x.op : Int) == 23 && decide (0 < x.num))) <;> cases decide ((k.least : Int) ≤ x.kids) <;> cases decide (x.kids ≤ (k.most : Int)) <;> rfl
   · have g : decide ((k.least : Int) ≤ x.kids) = false := decide_eq_false fk
     rw [g];simp
end Go.Proofs.YtjiemkidmlgbeaaDoor
namespace Go.Proofs.YtjiemkidmlgbeaaDoor
open Go.RowKit Go.Shelf
structure Op3 where
 op : Nat
 came : Nat
 n : Nat
 deriving DecidableEq
def popF : List Op3 → List Op3
 | [] => []
 | [u] => if u.came = u.n then [] else [u]
 | u :: v :: r => if u.came = u.n then popF (⟨v.op, v.came + 1, v.n⟩ :: r) else u :: v :: r
termination_by l => l.length
def popTop : List Op3 → List Op3
 | [] => []
 | v :: r => popF (⟨v.op, v.came + 1, v.n⟩ :: r)
theorem popF_whole (u : Op3) (l : List Op3) (h : u.came = u.n) : popF (u :: l) = popTop l := by
 cases l with
 | nil => rw [popF, if_pos h]; rfl
 | cons v r => rw [popF, if_pos h]; rfl
theorem popF_not (u : Op3) (l : List Op3) (h : u.came ≠ u.n) : popF (u :: l) = u :: l := by
 cases l with
 | nil => rw [popF, if_neg h]
 | cons v r => rw [popF, if_neg h]
def topBad (l : List Op3) (x : Tw) : Bool := match l with
 | [] => false
 | u :: _ => !partR u.op u.came u.n x.op
def machEnd (n : Nat) (l : List Op3) (deep : Nat) : Nat × Int := if n = 0 ∨ l ≠ [] then (n, 3) else if 0 < deep then (deep, 2) else (0, 0)
def mach (ts : List Tw) : Nat → Nat → List Op3 → Nat → Nat × Int
 | 0, _, l, deep => machEnd ts.length l deep
 | f + 1, i, l, deep => if (0 < i ∧ l = []) ∨ fineB (twAt ts i) = false then (i, 3) else if topBad l (twAt ts i) = true then (i, 3) else
     mach ts f (i + 1) (popF (⟨(twAt ts i).op, 0, (twAt ts i).kids.toNat⟩ :: l)) (if deep = 0 ∧ 40 ≤ l.length then i else deep)
def machAt (ts : List Tw) (i : Nat) (l : List Op3) (deep : Nat) : Nat × Int := mach ts (ts.length - i) i l deep
theorem machAt_end (ts : List Tw) (l : List Op3) (deep : Nat) : machAt ts ts.length l deep = machEnd ts.length l deep := by
 unfold machAt;rw [Nat.sub_self];rfl
theorem machAt_step {ts : List Tw} {i : Nat} (h : i < ts.length) (l : List Op3) (deep : Nat) : machAt ts i l deep = if (0 < i ∧ l = []) ∨ fineB (twAt ts i) = false then (i, 3) else if topBad l (twAt ts i) = true then (i, 3) else
     machAt ts (i + 1) (popF (⟨(twAt ts i).op, 0, (twAt ts i).kids.toNat⟩ :: l)) (if deep = 0 ∧ 40 ≤ l.length then i else deep) := by
 unfold machAt;rw [show ts.length - i = (ts.length - (i + 1)) + 1 by omega];rfl
section
variable (ts : List Tw) (hop : ∀ i, (twAt ts i).op < 256)
theorem kids_mach (k : Kind) (up : Nat) (hk : kindOf up = some k) (kids : Nat) (hkp : k.part = 0 → kids = 0) (l : List Op3) (f : PSt → Bool × PSt) (lo : Nat)
   (hf : ∀ s s' b (u : Op3), f s = (b, s') → s.gone < ts.length → lo < s.gone → topBad (u :: l) (twAt ts s.gone) = false → s.gone < s'.gone + 1 ∧ s'.gone ≤ ts.length ∧ machAt ts s.gone (u :: l) s.tooDeep = (if b then machAt ts s'.gone (popTop (u :: l)) s'.tooDeep else (s'.gone, 3))) :
   ∀ (n p : Nat) (s s' : PSt) (b : Bool), kidsF f ts k (kids : Int) n p s = (b, s') → p + n = kids → lo < s.gone → s.gone ≤ ts.length → s.gone ≤ s'.gone ∧ s'.gone ≤ ts.length ∧ machAt ts s.gone (popF (⟨up, p, kids⟩ :: l)) s.tooDeep = (if b then machAt ts s'.gone (popTop l) s'.tooDeep else (s'.gone, 3))
 | 0, p, s, s', b, h, hpn, h0, hl => by
   cases h
   refine ⟨Nat.le_refl _, hl, ?_⟩;rw [popF_whole _ _ (show p = kids by omega)];rfl
 | n + 1, p, s, s', b, h, hpn, h0, hl => by
   rw [popF_not _ _ (show p ≠ kids by omega)];unfold kidsF at h;split at h
   · rename_i he
     cases h
     refine ⟨Nat.le_refl _, hl, ?_⟩;rw [he, machAt_end];unfold machEnd;rw [if_pos (.inr (by simp))];rfl
   · rename_i he
     have hlt : s.gone < ts.length := by omega
     have hpd := part_doc hk (fun c => by have := hkp c; omega) (twAt ts s.gone).op (i := (p : Int)) (n := (kids : Int)) (by omega) (by omega);split at h
     · rename_i hp
       cases h
       refine ⟨Nat.le_refl _, hl, ?_⟩;rw [machAt_step hlt];have tb : topBad (⟨up, p, kids⟩ :: l) (twAt ts s.gone) = true := by
         show (!partR up p kids (twAt ts s.gone).op) = true
         rw [← hpd, hp];rfl
       rw [tb, if_pos rfl, ite_self];rfl
     · rename_i hp
       have tb : topBad (⟨up, p, kids⟩ :: l) (twAt ts s.gone) = false := by
         show (!partR up p kids (twAt ts s.gone).op) = false
         rw [← hpd]
         simpa using hp
       rcases hq : f s with ⟨b2, s2⟩
       obtain ⟨a1, a2, a3⟩ := hf s s2 b2 _ hq hlt h0 tb;rw [a3];rw [hq] at h;cases b2 with
       | false =>
         rw [if_pos rfl] at h;cases h
         exact ⟨by show s.gone ≤ s2.gone; omega, a2, rfl⟩
       | true =>
         rw [if_neg (by simp)] at h;obtain ⟨c1, c2, c3⟩ := kids_mach k up hk kids hkp l f lo hf n (p + 1) s2 s' b h (by omega) (by omega) a2;exact ⟨by omega, c2, c3⟩
include hop in
theorem pass_mach : ∀ (fuel : Nat) (l : List Op3) (s s' : PSt) (b : Bool), passF fuel ts (l.length + 1) s = (b, s') → ts.length - s.gone ≤ fuel → s.gone < ts.length → (l = [] → s.gone = 0) → topBad l (twAt ts s.gone) = false →
   s.gone + b.toNat ≤ s'.gone ∧ s'.gone ≤ ts.length ∧ machAt ts s.gone l s.tooDeep = (if b then machAt ts s'.gone (popTop l) s'.tooDeep else (s'.gone, 3))
 | 0, l, s, s', b, h, h1, h2, h3, h4 => by omega
 | fuel + 1, l, s, s', b, h, h1, h2, h3, h4 => by
   have fd := fine_doc (hop s.gone);have hemp : ¬ (0 < s.gone ∧ l = []) := fun c => by have := h3 c.2; omega
   rw [machAt_step h2, h4];unfold passF at h;split at h
   · rename_i hk
     cases h
     rw [hk] at fd;refine ⟨Nat.le_refl _, by show s.gone ≤ _; omega, ?_⟩;rw [if_pos (.inr fd)];rfl
   · rename_i k hk
     rw [hk] at fd;have fd' : fineB (twAt ts s.gone) = allowsB k (twAt ts s.gone) := fd;split at h
     · rename_i ha
       cases h
       refine ⟨Nat.le_refl _, by show s.gone ≤ _; omega, ?_⟩;rw [if_pos (.inr (fd'.trans ha))];rfl
     · rename_i ha
       have ha' : allowsB k (twAt ts s.gone) = true := by simpa using ha
       obtain ⟨hk0, hkm⟩ := allows_kids ha';have hkk := kind_most hk;rw [if_neg (by rintro (c | c); exact hemp c; rw [fd', ha'] at c; cases c), if_neg (by simp)];have hkid : (twAt ts s.gone).kids = (((twAt ts s.gone).kids.toNat : Nat) : Int) := by omega
       have hd : (if s.tooDeep = 0 ∧ 40 ≤ l.length then s.gone else s.tooDeep) = (nextS s (l.length + 1)).tooDeep := by
         unfold nextS;dsimp only;by_cases c : s.tooDeep = 0 ∧ 40 ≤ l.length
         · rw [if_pos c, if_pos ⟨by omega, c.1⟩]
         · rw [if_neg c, if_neg (fun e => c ⟨e.2, by omega⟩)]
       rw [hd];rw [hkid] at h;have := kids_mach ts k (twAt ts s.gone).op hk (twAt ts s.gone).kids.toNat (fun c => by have := hkk.2.2 c; omega) l (passF fuel ts (l.length + 1 + 1)) s.gone
         (fun t t' b' u ht htl ht0 htb => by
           obtain ⟨x1, x2, x3⟩ := pass_mach fuel (u :: l) t t' b' ht (by omega) htl (fun c => by cases c) htb;exact ⟨by omega, x2, x3⟩) _ 0 (nextS s (l.length + 1)) s' b h (by omega) (Nat.lt_succ_self _) h2
       obtain ⟨y1, y2, y3⟩ := this;have y1' : s.gone + 1 ≤ s'.gone := y1;exact ⟨by have := Bool.toNat_le b; omega, y2, y3⟩
def docF (ts : List Tw) : Nat × Int := if 2048 < ts.length then (0, 2) else machAt ts 0 [] 0
include hop in
theorem doc_look : docF ts = ((lookF ts).1, (lookF ts).2.2) := by
 unfold docF lookF;by_cases h1 : 2048 < ts.length
 · rw [if_pos h1, if_pos h1]
 · rw [if_neg h1, if_neg h1]
   by_cases h0 : ts.length = 0
   · rw [if_pos h0]
     have e := machAt_end ts [] 0;rw [h0] at e;rw [e];rfl
   · rw [if_neg h0]
     rcases hq : passF ts.length ts 1 ⟨0, 0, 0⟩ with ⟨b, s'⟩
     obtain ⟨a1, a2, a3⟩ := pass_mach ts hop ts.length [] ⟨0, 0, 0⟩ s' b hq (Nat.sub_le _ _) (by show 0 < _; omega) (fun _ => rfl) rfl;have a3' : machAt ts 0 [] 0 = _ := a3;rw [a3'];cases b with
     | false =>
       rw [if_neg (show ¬ (false = true) by decide), if_pos (Or.inl rfl)]
     | true =>
       rw [if_pos rfl];have a1' : 0 + 1 ≤ s'.gone := a1;by_cases hg : s'.gone < ts.length
       · rw [if_pos (Or.inr hg)]
         show machAt ts s'.gone [] s'.tooDeep = _
         rw [machAt_step hg, if_pos (.inl ⟨by omega, rfl⟩)]
       · have e : s'.gone = ts.length := by omega
         rw [if_neg (by rintro (c | c); cases c; exact hg c)];show machAt ts s'.gone [] s'.tooDeep = _
         rw [e, machAt_end];unfold machEnd;rw [if_neg (by rintro (c | c); exact h0 c; exact c rfl)];by_cases hd : 0 < s'.tooDeep
         · rw [if_pos hd, if_pos hd]
         · rw [if_neg hd, if_neg hd]
end
end Go.Proofs.YtjiemkidmlgbeaaDoor
namespace Go.Proofs.YtjiemkidmlgbeaaDoor
open Go.RowKit Go.Shelf
def opC (u : Op3) : List Value := [.int .u8 u.op, .int .i64 u.came, .int .i64 u.n]
theorem opC_len (u : Op3) : (opC u).length = 3 := rfl
theorem opC_one (u : Op3) : ∀ x ∈ opC u, x.oneCell' = true := by
 intro x hx;simp only [opC, List.mem_cons, List.not_mem_nil, or_false] at hx;rcases hx with rfl | rfl | rfl <;> rfl
theorem op_info : (Tryd.prog.info? 63).map (fun i => (i.zero, i.size, i.bytes)) = some (some (.agg #[.int .u8 0, .int .i64 0, .int .i64 0]), 3, 24) := by kernel_rfl
theorem op_parts : ∃ i0, Tryd.prog.info? 63 = some i0 ∧ i0.zero = some (.agg #[.int .u8 0, .int .i64 0, .int .i64 0]) ∧ i0.size = 3 ∧ i0.bytes = 24 := by
 have h := op_info;cases hi : Tryd.prog.info? 63 with
 | none => rw [hi] at h; simp at h
 | some i0 =>
   rw [hi] at h;simp at h
   exact ⟨i0, rfl, h.1, h.2.1, h.2.2⟩
def OpsAt (w : World) (base : Nat) (v : Value) (L : List Op3) : Prop := w.ownsRow base 63 3 v L.length (rowOf opC L.reverse)
theorem rowOf_top (u : Op3) (r : List Op3) : rowOf opC (u :: r).reverse = rowOf opC r.reverse ++ opC u := by rw [List.reverse_cons, rowOf_snoc]
theorem rowOf_rev (r : List Op3) : (rowOf opC r.reverse).length = r.length * 3 := by rw [rowOf_length opC_len, List.length_reverse]
section
variable {w W : World} {base g cap k : Nat} {v : Value} {u : Op3} {r L : List Op3}
theorem OpsAt.below (h : OpsAt w base v L) (hb : Below w.heap.size w W) : OpsAt W base v L := ownsRow_only (F := fun _ => False) h (Only.of_below hb) (fun _ _ h => h)
theorem OpsAt.shape (h : OpsAt w base v L) : ∃ a cap, v = .slice a L.length cap ∧ L.length ≤ cap ∧ cap ≤ 9223372036854775807 := ownsRow_shape h
theorem OpsAt.head (h : OpsAt w base v (u :: r)) : ∃ g cap, v = .slice (some ⟨g, 0, none⟩) (r.length + 1) cap ∧ base ≤ g ∧ g < w.heap.size ∧ r.length + 1 ≤ cap ∧ cap ≤ 9223372036854775807 := by
 obtain ⟨g, cap, e, h1, h2, h3, h4, _⟩ := ownsRow_head h (by simp);exact ⟨g, cap, e, h1, h2, h3, h4⟩
theorem OpsAt.cell (h : OpsAt w base (.slice (some ⟨g, 0, none⟩) (k + 1) cap) (u :: r)) (hk : k = r.length) (j : Nat) (hj : j < 3) : w.cell? ⟨g, k * 3 + j, none⟩ = (opC u)[j]? := by
 subst hk;have hh := h;unfold OpsAt at hh;rw [World.ownsRow.cellAt (g := g) (cap := cap) hh (r.length * 3 + j) (by omega), rowOf_top, List.getElem?_append_right (by rw [rowOf_rev]; omega), rowOf_rev]
 congr 1
 omega
theorem OpsAt.frozen (h : OpsAt w base (.slice (some ⟨g, 0, none⟩) (k + 1) cap) (u :: r)) (hk : k = r.length) (j : Nat) : w.frozen? ⟨g, j, none⟩ = false := by
 subst hk;exact World.ownsRow.frozenAt (n := (u :: r).length) h j
theorem OpsAt.pop (h : OpsAt w base (.slice (some ⟨g, 0, none⟩) (k + 1) cap) (u :: r)) (hk : k = r.length) : OpsAt w base (.slice (some ⟨g, 0, none⟩) k cap) r := by
 subst hk;have := ownsRow_cut (m := r.length) (n := (u :: r).length) h (by simp);rw [rowOf_top, ← rowOf_rev, List.take_left] at this;exact this
theorem OpsAt.came (h : OpsAt w base (.slice (some ⟨g, 0, none⟩) (k + 1) cap) (u :: r)) (hk : k = r.length) (z : Int) (hz : z = ((u.came + 1 : Nat) : Int)) :
   OpsAt (w.setCell ⟨g, k * 3 + 1, none⟩ (.int .i64 z)) base (.slice (some ⟨g, 0, none⟩) (k + 1) cap) (⟨u.op, u.came + 1, u.n⟩ :: r) := by
 subst hk hz;have := World.ownsRow.stored (n := (u :: r).length) h (r.length * 3 + 1) (.int .i64 ((u.came + 1 : Nat) : Int));unfold OpsAt;rw [rowOf_top] at this ⊢;rw [List.set_append_right _ _ (by rw [rowOf_rev]; omega), rowOf_rev, show r.length * 3 + 1 - r.length * 3 = 1 by omega] at this;exact this.1
end
theorem wpList_append_op {w : World} {base : Nat} {v : Value} {L : List Op3} {u : Op3} {ops : Array Oper} {rest : List Oper} {o : Oper} {a : Act} {Q : Exit → Act → World → Prop} (hgd : o.guard = none) (s x : Operand)
   (ho : o.op = .call { callee := .builtin .append, args := #[s, x], argTypes := #[60, 60] })
   (hs : a.eval s = v) (hown : OpsAt w base v L) {G : Nat} (hx : a.eval x = .slice (some ⟨G, 0, none⟩) 1 1) (hc : ∀ j, j < 3 → w.cell? ⟨G, j, none⟩ = (opC u)[j]?)
   (hk : L.length ≤ 1000000000) (hbase : base ≤ w.heap.size)
   (h : ∀ g cap w', OpsAt w' base (.slice (some ⟨g, 0, none⟩) (L.length + 1) cap) (u :: L) → Below base w w' → wpList Tryd.prog ops Q rest (a.put o.dst (.slice (some ⟨g, 0, none⟩) (L.length + 1) cap)) w') : wpList Tryd.prog ops Q (o :: rest) a w := by
 obtain ⟨i0, hi, hz0, hz1, hz2⟩ := op_parts;refine wpList_append_own_at _ hgd s x 60 ho base 63 i0 (.agg #[.int .u8 0, .int .i64 0, .int .i64 0]) 3 24 Tryd.underlying60 hi hz0 hz1 hz2 rfl (by decide) v L.length (rowOf opC L.reverse) hs hown ⟨G, 0, none⟩ 1 1 (opC u) hx rfl ?_ (opC_one u) (by unfold maxLen; omega) (by omega) hbase ?_
 · intro j y hj
   have hj3 : j < 3 := (List.getElem?_eq_some_iff.1 hj).1;rw [show (⟨G, 0, none⟩ : Addr).add j = ⟨G, j, none⟩ by simp [Addr.add]; omega, hc j hj3];exact hj
 · intro v' w' h2 h3 _ _
   rw [← rowOf_top] at h2;obtain ⟨g, cap, e, _⟩ := ownsRow_head h2 (by omega);subst e;exact h g cap w' h2 ((Below.refl base _).grown h3 hbase (fun k hk => (World.ownsRow.lt hown k hk).1))
def GoodI (L : List Op3) : Prop := (∀ u ∈ L, u.op < 256 ∧ u.n ≤ 2048 ∧ u.came ≤ u.n) ∧ ∀ u ∈ L.tail, u.came < u.n
def GoodO (L : List Op3) : Prop := ∀ u ∈ L, u.op < 256 ∧ u.n ≤ 2048 ∧ u.came < u.n
theorem GoodO.push {L : List Op3} (h : GoodO L) (op n : Nat) (h1 : op < 256) (h2 : n ≤ 2048) : GoodI (⟨op, 0, n⟩ :: L) := by
 refine ⟨fun u hu => ?_, fun u hu => (h u hu).2.2⟩;rcases List.mem_cons.1 hu with rfl | hu
 · exact ⟨h1, h2, Nat.zero_le _⟩
 · have := h u hu
   exact ⟨this.1, this.2.1, by omega⟩
theorem GoodI.out_nil : GoodO [] := fun _ h => by cases h
theorem GoodI.out {u : Op3} {r : List Op3} (h : GoodI (u :: r)) (hne : u.came ≠ u.n) : GoodO (u :: r) := by
 intro x hx;have h1 := h.1 x hx;rcases List.mem_cons.1 hx with rfl | hx
 · exact ⟨h1.1, h1.2.1, by omega⟩
 · exact ⟨h1.1, h1.2.1, h.2 x hx⟩
theorem GoodI.next {u v : Op3} {r : List Op3} (h : GoodI (u :: v :: r)) : GoodI (⟨v.op, v.came + 1, v.n⟩ :: r) := by
 have hv := h.2 v (by simp);have hv2 := h.1 v (by simp);refine ⟨fun x hx => ?_, fun x hx => h.2 x (by simp at hx ⊢; exact .inr hx)⟩;rcases List.mem_cons.1 hx with rfl | hx
 · exact ⟨hv2.1, hv2.2.1, hv⟩
 · exact h.1 x (by simp [hx])
set_option maxRecDepth 20000 in
theorem run_headO (g n m cap : Nat) (h : n ≤ m) (hm : m ≤ cap) (hn : 0 < cap) : ∀ W, (Instr.slice 60 (.slice (some ⟨g, 0, none⟩) m cap) none (some (.int .i64 (n : Int))) none).run Tryd.prog W = .ok (.slice (some ⟨g, 0, none⟩) n cap) W := by
 intro W;rw [run_slice_h (P := Tryd.prog) (w := W) 60 (some ⟨g, 0, none⟩) m cap Tryd.underlying60 .i64 n (by omega) (by omega)];obtain ⟨i0, hi, _, hz1, _⟩ := op_parts;have he : Tryd.prog.elem 60 = 63 := by kernel_rfl
 have hs : (sizeOf (Tryd.prog.elem 60)).run Tryd.prog W = .ok 3 W := by rw [he]; simp [sizeOf, typeInfo, hi, hz1, Sem.run_bind, Result.andThen]
 rw [hs];simp only [Result.andThen, sliced, Int.toNat_natCast];rw [if_neg (by omega)];simp [Addr.add]
end Go.Proofs.YtjiemkidmlgbeaaDoor
