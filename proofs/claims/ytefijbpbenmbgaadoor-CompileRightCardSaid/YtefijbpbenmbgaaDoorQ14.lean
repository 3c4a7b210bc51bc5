/- A part of the proof: GFree, GChkP, IDep, JNum, JHCmp. No condition. -/
import Derived.LoopTactic
import Derived.IntWalk
import Derived.Deep.RegionLaw
import Derived.Laws.CopyOwn
import Derived.Laws.OwnMore
import Derived.Laws.Rows
import Derived.Handy
import Derived.WalkSpells
import Derived.WalkLawsBesides
import Derived.Lib.Hide
import Derived.Test.YtefijbpbenmbgaaDoorRows
import Derived.WalkKit
import Derived.Deep.RegionHeld3
import Derived.Test.YtefijbpbenmbgaaDoorQ01
import Derived.Test.YtefijbpbenmbgaaDoorQ11
import Derived.Test.YtefijbpbenmbgaaDoorQ13
set_option linter.unusedVariables false
set_option linter.unusedSimpArgs false
namespace Go.Proofs.YtefijbpbenmbgaaDoor
open Go.RowKit Go.Shelf
def GFree (p : Nat) (c : List Ins) : Prop := ∀ i x, c[i]? = some x → x.op = 1 → ((p + i : Nat) : Int) < x.a ∨ ∃ j y, x.a = ((p + j : Nat) : Int) ∧ c[j]? = some y ∧ freeI y.op = false
theorem GFree.nil {p : Nat} : GFree p [] := fun i x h => by simp at h
theorem GFree.app {p : Nat} {c d : List Ins} (h : GFree p c) (g : GFree (p + c.length) d) : GFree p (c ++ d) := by
 intro i x hx ho;rcases Nat.lt_or_ge i c.length with hi | hi
 · rw [List.getElem?_append_left hi] at hx
   rcases h i x hx ho with e | ⟨j, y, e1, e2, e3⟩
   · exact .inl e
   · refine .inr ⟨j, y, e1, ?_, e3⟩
     rw [List.getElem?_append_left (List.getElem?_eq_some_iff.1 e2).1]; exact e2
 · rw [List.getElem?_append_right hi] at hx
   rcases g _ x hx ho with e | ⟨j, y, e1, e2, e3⟩
   · left
     rw [show p + c.length + (i - c.length) = p + i by omega] at e;exact e
   · refine .inr ⟨c.length + j, y, by rw [e1]; congr 1; omega, ?_, e3⟩
     rw [List.getElem?_append_right (by omega), Nat.add_sub_cancel_left]; exact e2
theorem GFree.one {p : Nat} {x : Ins} (h : x.op ≠ 1) : GFree p [x] := by
 intro i y hy ho;cases i with
 | zero =>
   simp only [List.getElem?_cons_zero, Option.some.injEq] at hy;subst hy;exact absurd ho h
 | succ i => simp at hy
theorem GFree.jump {p : Nat} {x : Ins} (h : (p : Int) < x.a) : GFree p [x] := by
 intro i y hy ho;cases i with
 | zero =>
   simp only [List.getElem?_cons_zero, Option.some.injEq] at hy;subst hy;exact .inl h
 | succ i => simp at hy
theorem app_cons (c d : List Ins) (x : Ins) : c ++ x :: d = c ++ ([x] ++ d) := rfl
theorem gens_first {F : Fs} {p : Nat} {c : List Ins} (h : Gens F p c) : F.ok → F.allE → F ≠ .nil → ∃ y, c[0]? = some y ∧ freeI y.op = false := by
 induction h with
 | nil => intro _ _ h; exact absurd rfl h
 | @seq x k r p c d h1 h2 i1 i2 =>
   intro hok ha _;obtain ⟨y, hy, hf⟩ := i1 (one_ok hok) ⟨ha.1, trivial⟩ (by simp);refine ⟨y, ?_, hf⟩;rw [List.getElem?_append_left (List.getElem?_eq_some_iff.1 hy).1]; exact hy
 | @flow x k p c hx _ _ => intro _ ha _; have := ha.1; rw [hx] at this; cases this
 | @block x k p c hx _ _ => intro _ ha _; have := ha.1; rcases hx with hx | hx <;> (rw [hx] at this; cases this)
 | @store x k p c s hx _ _ _ _ => intro _ ha _; have := ha.1; rcases hx with hx | hx <;> (rw [hx] at this; cases this)
 | @load x p s hx _ _ => intro _ _ _; exact ⟨_, rfl, rfl⟩
 | @lone x k p c hx h1 i1 =>
   intro hok ha _;obtain ⟨⟨kd, hk, _, _⟩, _⟩ := id hok;obtain ⟨_, _, _, _, o1, o5, _⟩ := lone_kind hk hx;cases k with
   | nil =>
     rw [gens_nil h1 rfl];refine ⟨loneI x, rfl, ?_⟩;show (opI x.op == 1 || opI x.op == 5) = false
     simp [o1, o5]
   | cons a ka r =>
     obtain ⟨y, hy, hf⟩ := i1 hok.2.2.1 (lone_takes hok hx).2 (by simp);refine ⟨y, ?_, hf⟩;rw [List.getElem?_append_left (List.getElem?_eq_some_iff.1 hy).1]; exact hy
 | @if2 x a ka b kb p c d hx _ _ _ _ => intro _ ha _; have := ha.1; rw [hx] at this; cases this
 | @if3 x a ka b kb f kf p c d g hx _ _ _ _ _ _ => intro _ ha _; have := ha.1; rw [hx] at this; cases this
 | @loop x a ka b kb p c d hx _ _ _ _ => intro _ ha _; have := ha.1; rw [hx] at this; cases this
 | @either x a ka b kb p c d hx h1 h2 i1 i2 =>
   intro hok _ _;obtain ⟨h3, _⟩ := (part_of hok).1 (by omega);obtain ⟨y, hy, hf⟩ := i1 (one_ok hok.2.2.1) ⟨h3, trivial⟩ (by simp);refine ⟨y, ?_, hf⟩;rw [List.getElem?_append_left (List.getElem?_eq_some_iff.1 hy).1]; exact hy
 | @fork x a ka p c hx h1 i1 => intro _ _ _; exact ⟨_, rfl, rfl⟩
theorem gens_free {F : Fs} {p : Nat} {c : List Ins} (h : Gens F p c) : F.ok → GFree p c := by
 induction h with
 | nil => intro _; exact GFree.nil
 | @seq x k r p c d h1 h2 i1 i2 => intro hok; exact (i1 (one_ok hok)).app (i2 hok.2.2.2)
 | @flow x k p c hx h1 i1 => intro hok; exact (i1 hok.2.2.1).app (GFree.one (by decide))
 | @block x k p c hx h1 i1 => intro hok; exact i1 hok.2.2.1
 | @store x k p c s hx _ _ h1 i1 => intro hok; exact (i1 hok.2.2.1).app (GFree.one (show (27 : Nat) ≠ 1 by decide))
 | @load x p s hx _ _ => intro _; exact GFree.one (show (26 : Nat) ≠ 1 by decide)
 | @lone x k p c hx h1 i1 =>
   intro hok;obtain ⟨⟨kd, hk, _, _⟩, _⟩ := id hok;obtain ⟨_, _, _, _, o1, _⟩ := lone_kind hk hx;exact (i1 hok.2.2.1).app (GFree.one o1)
 | @if2 x a ka b kb p c d hx h1 h2 i1 i2 =>
   intro hok;rw [app_cons];exact (i1 (one_ok hok.2.2.1)).app ((GFree.one (show (2 : Nat) ≠ 1 by decide)).app (i2 (one_ok hok.2.2.1.2.2.2)))
 | @if3 x a ka b kb f kf p c d g hx h1 h2 h3 i1 i2 i3 =>
   intro hok;rw [app_cons, app_cons d];refine (i1 (one_ok hok.2.2.1)).app ((GFree.one (show (2 : Nat) ≠ 1 by decide)).app ((i2 (one_ok hok.2.2.1.2.2.2)).app ((GFree.jump ?_).app (i3 (one_ok hok.2.2.1.2.2.2.2.2.2)))));show ((p + c.length + 1 + d.length : Nat) : Int) < ((p + c.length + 1 + d.length + 1 + g.length : Nat) : Int)
   omega
 | @loop x a ka b kb p c d hx h1 h2 i1 i2 =>
   intro hok;have hp := (part_of hok).2.2.2.1 (.inr hx);obtain ⟨y, hy, hf⟩ := gens_first h1 (one_ok hok.2.2.1) ⟨part4_0 hp, trivial⟩ (by simp);have hyl := (List.getElem?_eq_some_iff.1 hy).1;have key : GFree p (c ++ (mkI 2 ((p + c.length + 1 + d.length + 1 : Nat) : Int) :: d)) := by
     rw [app_cons];exact (i1 (one_ok hok.2.2.1)).app ((GFree.one (show (2 : Nat) ≠ 1 by decide)).app (i2 (one_ok hok.2.2.1.2.2.2)))
   rw [show c ++ mkI 2 ((p + c.length + 1 + d.length + 1 : Nat) : Int) :: (d ++ [mkI 1 (p : Int)]) = (c ++ (mkI 2 ((p + c.length + 1 + d.length + 1 : Nat) : Int) :: d)) ++ [mkI 1 (p : Int)] by simp];intro i z hz ho;rcases Nat.lt_or_ge i (c ++ (mkI 2 ((p + c.length + 1 + d.length + 1 : Nat) : Int) :: d)).length with hi | hi
   · rw [List.getElem?_append_left hi] at hz
     rcases key i z hz ho with e | ⟨j, w, e1, e2, e3⟩
     · exact .inl e
     · refine .inr ⟨j, w, e1, ?_, e3⟩
       rw [List.getElem?_append_left (List.getElem?_eq_some_iff.1 e2).1]; exact e2
   · rw [List.getElem?_append_right hi] at hz
     have hz' : z = mkI 1 (p : Int) := by
       generalize i - (c ++ (mkI 2 ((p + c.length + 1 + d.length + 1 : Nat) : Int) :: d)).length = q at hz;cases q with
       | zero => simpa using hz.symm
       | succ q => simp at hz
     subst hz';refine .inr ⟨0, y, rfl, ?_, hf⟩;rw [List.getElem?_append_left (by simp only [List.length_append, List.length_cons]; omega), List.getElem?_append_left hyl];exact hy
 | @either x a ka b kb p c d hx h1 h2 i1 i2 =>
   intro hok;rw [app_cons];exact (i1 (one_ok hok.2.2.1)).app ((GFree.one (show x.op - 27 ≠ 1 by omega)).app ((i2 (one_ok hok.2.2.1.2.2.2)).app (GFree.one (show (5 : Nat) ≠ 1 by decide))))
 | @fork x a ka p c hx h1 i1 =>
   intro hok;have e : mkI 53 ((p + 2 : Nat) : Int) :: mkI 1 ((p + 2 + c.length + 1 : Nat) : Int) :: (c ++ [mkI 28 0]) = [mkI 53 ((p + 2 : Nat) : Int)] ++ ([mkI 1 ((p + 2 + c.length + 1 : Nat) : Int)] ++ (c ++ [mkI 28 0])) := rfl;rw [e];refine (GFree.one (show (53 : Nat) ≠ 1 by decide)).app ((GFree.jump ?_).app ((i1 (one_ok hok.2.2.1)).app (GFree.one (show (28 : Nat) ≠ 1 by decide))));show ((p + 1 : Nat) : Int) < ((p + 2 + c.length + 1 : Nat) : Int)
   omega
theorem run_short {code : List Ins} (hF : GFree 0 code) : ∀ (k q : Nat), runI code k q = true → k ≤ code.length - q
 | 0, q, _ => Nat.zero_le _
 | k + 1, q, h => by
   unfold runI at h;rw [Bool.and_eq_true] at h;obtain ⟨h1, h2⟩ := h;have hq : q < code.length := by
     rcases Nat.lt_or_ge q code.length with e | e
     · exact e
     · unfold inAt at h1
       rw [List.getD_eq_getElem?_getD, List.getElem?_eq_none e] at h1;cases h1
   have hx : code[q]? = some (inAt code q) := by
     unfold inAt;rw [List.getD_eq_getElem?_getD, List.getElem?_eq_getElem hq]; rfl
   have fin : q < succI code q → k + 1 ≤ code.length - q := by
     intro hs;have := run_short hF k _ h2;omega
   by_cases ho : (inAt code q).op = 1
   · rcases hF q _ hx ho with e | ⟨j, y, e1, e2, e3⟩
     · refine fin ?_
       unfold succI;rw [if_pos ho];omega
     · cases k with
       | zero => omega
       | succ k =>
         exfalso
         unfold runI at h2;rw [Bool.and_eq_true] at h2;have hj : succI code q = j := by
           unfold succI;rw [if_pos ho, e1];omega
         have hi : inAt code j = y := by
           unfold inAt;rw [List.getD_eq_getElem?_getD, e2]; rfl
         rw [hj, hi, e3] at h2;exact absurd h2.1 (by decide)
   · refine fin ?_
     unfold succI;rw [if_neg ho];omega
theorem circ_none {code : List Ins} {d : List Int} (hF : GFree 0 code) (hd : d.length = code.length) : circI code d = none := by
 unfold circI;rw [List.find?_eq_none];intro q _ h;rw [Bool.and_eq_true] at h;have := run_short hF _ _ h.2;omega
def opsN (o : Nat) (c : List Ins) : Nat := c.countP (fun i => i.op == o)
def twN (o : Nat) (l : List Tw) : Nat := l.countP (fun x => x.op == o)
theorem opsN_app (o : Nat) (a b : List Ins) : opsN o (a ++ b) = opsN o a + opsN o b := List.countP_append ..
theorem opsN_cons (o : Nat) (x : Ins) (b : List Ins) : opsN o (x :: b) = opsN o b + (if x.op = o then 1 else 0) := by
 unfold opsN;rw [List.countP_cons];by_cases h : x.op = o <;> simp [h]
theorem opsN_nil (o : Nat) : opsN o [] = 0 := rfl
theorem twN_app (o : Nat) (a b : List Tw) : twN o (a ++ b) = twN o a + twN o b := List.countP_append ..
theorem twN_cons (o : Nat) (x : Tw) (b : List Tw) : twN o (x :: b) = twN o b + (if x.op = o then 1 else 0) := by
 unfold twN;rw [List.countP_cons];by_cases h : x.op = o <;> simp [h]
theorem twN_nil (o : Nat) : twN o [] = 0 := rfl
theorem mk_op (o : Nat) (a : Int) : (mkI o a).op = o := rfl
theorem gens_forks {F : Fs} {p : Nat} {c : List Ins} (h : Gens F p c) : F.ok → opsN 53 c = twN 53 F.flat ∧ opsN 28 c = twN 53 F.flat + twN 1 F.flat := by
 have S : ∀ (x : Tw) (k : Fs), (Fs.cons x k .nil).flat = x :: k.flat := flat_one
 induction h with
 | nil => intro _; exact ⟨rfl, rfl⟩
 | @seq x k r p c d h1 h2 i1 i2 =>
   intro hok;have a := i1 (one_ok hok);have b := i2 hok.2.2.2;have e : (Fs.cons x k r).flat = x :: (k.flat ++ r.flat) := rfl;rw [S] at a;simp only [e, opsN_app, twN_app, twN_cons] at *;omega
 | @flow x k p c hx h1 i1 =>
   intro hok;have a := i1 hok.2.2.1;simp only [S, opsN_app, opsN_cons, opsN_nil, twN_cons, mk_op, hx] at *;simp at *
   omega
 | @block x k p c hx h1 i1 =>
   intro hok;have a := i1 hok.2.2.1;have n1 : ¬ x.op = 53 := by omega
   have n2 : ¬ x.op = 1 := by omega
   simp only [S, twN_cons, if_neg n1, if_neg n2] at *;omega
 | @store x k p c s hx _ _ h1 i1 =>
   intro hok;have a := i1 hok.2.2.1;have n1 : ¬ x.op = 53 := by omega
   have n2 : ¬ x.op = 1 := by omega
   simp only [S, opsN_app, opsN_cons, opsN_nil, twN_cons, mk_op, if_neg n1, if_neg n2] at *;simp at *
   omega
 | @load x p s hx _ _ =>
   intro _;have n1 : ¬ x.op = 53 := by omega
   have n2 : ¬ x.op = 1 := by omega
   simp only [opsN_cons, opsN_nil, twN_cons, mk_op, if_neg n1, if_neg n2, Fs.flat];simp [twN_nil]
 | @lone x k p c hx h1 i1 =>
   intro hok;have a := i1 hok.2.2.1;obtain ⟨⟨kd, hk, _, _⟩, _⟩ := id hok;obtain ⟨_, _, _, _, _, _, o28, o53, _⟩ := lone_kind hk hx;have hl := lone_facts hx;have n1 : ¬ x.op = 53 := by omega
   have n2 : ¬ x.op = 1 := by omega
   have e : (loneI x).op = opI x.op := rfl;simp only [S, opsN_app, opsN_cons, opsN_nil, twN_cons, e, if_neg n1, if_neg n2, if_neg o28, if_neg o53] at *;omega
 | @if2 x a ka b kb p c d hx h1 h2 i1 i2 =>
   intro hok;have q1 := i1 (one_ok hok.2.2.1);have q2 := i2 (one_ok hok.2.2.1.2.2.2);have n1 : ¬ x.op = 53 := by omega
   have n2 : ¬ x.op = 1 := by omega
   simp only [Fs.flat, List.append_nil, opsN_app, opsN_cons, twN_cons, twN_app, mk_op, if_neg n1, if_neg n2] at *;simp at *
   omega
 | @if3 x a ka b kb f kf p c d g hx h1 h2 h3 i1 i2 i3 =>
   intro hok;have q1 := i1 (one_ok hok.2.2.1);have q2 := i2 (one_ok hok.2.2.1.2.2.2);have q3 := i3 (one_ok hok.2.2.1.2.2.2.2.2.2);have n1 : ¬ x.op = 53 := by omega
   have n2 : ¬ x.op = 1 := by omega
   simp only [Fs.flat, List.append_nil, opsN_app, opsN_cons, twN_cons, twN_app, mk_op, if_neg n1, if_neg n2] at *;simp at *
   omega
 | @loop x a ka b kb p c d hx h1 h2 i1 i2 =>
   intro hok;have q1 := i1 (one_ok hok.2.2.1);have q2 := i2 (one_ok hok.2.2.1.2.2.2);have n1 : ¬ x.op = 53 := by omega
   have n2 : ¬ x.op = 1 := by omega
   simp only [Fs.flat, List.append_nil, opsN_app, opsN_cons, opsN_nil, twN_cons, twN_app, mk_op, if_neg n1, if_neg n2] at *;simp at *
   omega
 | @either x a ka b kb p c d hx h1 h2 i1 i2 =>
   intro hok;have q1 := i1 (one_ok hok.2.2.1);have q2 := i2 (one_ok hok.2.2.1.2.2.2);have n1 : ¬ x.op = 53 := by omega
   have n2 : ¬ x.op = 1 := by omega
   have ho : x.op - 27 = 3 ∨ x.op - 27 = 4 := by omega
   generalize x.op - 27 = o at *;rcases ho with rfl | rfl
   · simp only [Fs.flat, List.append_nil, opsN_app, opsN_cons, opsN_nil, twN_cons, twN_app, mk_op, if_neg n1, if_neg n2] at *
     simp at *
     omega
   · simp only [Fs.flat, List.append_nil, opsN_app, opsN_cons, opsN_nil, twN_cons, twN_app, mk_op, if_neg n1, if_neg n2] at *
     simp at *
     omega
 | @fork x a ka p c hx h1 i1 =>
   intro hok;have q1 := i1 (one_ok hok.2.2.1);have n2 : ¬ x.op = 1 := by omega
   simp only [Fs.flat, List.append_nil, opsN_app, opsN_cons, opsN_nil, twN_cons, mk_op, hx] at *;simp at *
   omega
theorem no_flow : ∀ F : Fs, F.ok → (∃ pk n p, F.part pk n p) → twN 1 F.flat = 0
 | .nil, _, _ => rfl
 | .cons x k r, hok, ⟨pk, n, p, h1, h2⟩ => by
   have e : (Fs.cons x k r).flat = x :: (k.flat ++ r.flat) := rfl;obtain ⟨kd, hk, ha, hp⟩ := hok.1;have a := no_flow k hok.2.2.1 ⟨_, _, _, hp⟩;have b := no_flow r hok.2.2.2 ⟨_, _, _, h2⟩;have hx : x.op ≠ 1 := by
     intro hx;rw [hx] at h1;unfold partOK at h1;split at h1
     · cases h1
     · split at h1
       · split at h1 <;> cases h1
       · split at h1
         · cases h1
         · split at h1
           · split at h1 <;> cases h1
           · cases h1
   rw [e, twN_cons, twN_app, a, b, if_neg hx]
end Go.Proofs.YtefijbpbenmbgaaDoor
namespace Go.Proofs.YtefijbpbenmbgaaDoor
open Go.RowKit Go.Shelf
def Agrees (D : Nat → Int) (d : List Int) : Prop := ∀ q, d.getD q (-1) = -1 ∨ d.getD q (-1) = D q
theorem meet_ok {D : Nat → Int} {d : List Int} {q : Nat} {v : Int} (hd : Agrees D d) (hq : q < d.length) (hv : D q = v) : ∃ d', meetI d q v = some d' ∧ d'.length = d.length ∧ Agrees D d' := by
 unfold meetI;rw [if_neg (by omega)];by_cases h : d.getD q (-1) = -1
 · rw [if_pos h]
   refine ⟨_, rfl, List.length_set .., fun r => ?_⟩;rw [getD_set _ _ _ _ hq];by_cases e : r = q
   · rw [if_pos e, e]; exact .inr hv.symm
   · rw [if_neg e]; exact hd r
 · rw [if_neg h]
   rcases hd q with e | e
   · exact absurd e h
   · rw [if_pos (e.trans hv)]
     exact ⟨d, rfl, rfl, hd⟩
theorem fit_none {code : List Ins} {D : Nat → Int} (hL : ∀ q, q < code.length → GLoc 0 (code.length - 1) (inAt code q) q D ∧ (endsI (inAt code q).op = false → (inAt code q).op ≠ 1 → q + 1 < code.length)) :
   ∀ (f : Nat) (d : List Int) (g : Nat → Bool), d.length = code.length → Agrees D d → (fitI code f d g).2 = none
 | 0, d, g, _, _ => rfl
 | f + 1, d, g, hn, hd => by
   unfold fitI;cases hl : leastI d g with
   | none => rfl
   | some p =>
     obtain ⟨h1, h2, _, _⟩ := leastI_some.1 hl;have hp : d.getD p (-1) = D p := (hd p).resolve_left h2;obtain ⟨hG, hnx⟩ := hL p (by omega);have key : ∃ d', stepI code d p = some d' ∧ d'.length = d.length ∧ Agrees D d' := by
       unfold stepI;dsimp only;rw [hp];rw [if_neg (by have := hG.takes; omega)];cases he : endsI (inAt code p).op with
       | true =>
         rw [if_pos rfl, if_pos (hG.ends he)];exact ⟨d, rfl, rfl, hd⟩
       | false =>
         rw [if_neg (by simp)];have g1 : ∃ d1, (if akI (inAt code p).op = 1 then meetI d (inAt code p).a.toNat (thereI (inAt code p) (D p)) else some d) = some d1 ∧ d1.length = d.length ∧ Agrees D d1 := by
           by_cases ha : akI (inAt code p).op = 1
           · rw [if_pos ha]
             obtain ⟨t, e1, e2, e3, e4⟩ := hG.goal he ha;rw [e1, Int.toNat_natCast];exact meet_ok hd (by omega) e4
           · rw [if_neg ha]
             exact ⟨d, rfl, rfl, hd⟩
         obtain ⟨d1, e1, e2, e3⟩ := g1;rw [e1];dsimp only;by_cases ho : (inAt code p).op = 1
         · rw [if_pos ho]
           exact ⟨d1, rfl, e2, e3⟩
         · rw [if_neg ho]
           obtain ⟨d2, f1, f2, f3⟩ := meet_ok e3 (q := p + 1) (by have := hnx he ho; omega) (hG.next he ho);exact ⟨d2, f1, f2.trans e2, f3⟩
     obtain ⟨d', e1, e2, e3⟩ := key;dsimp only;rw [e1];dsimp only;exact fit_none hL f d' _ (e2.trans hn) e3
theorem fit_len {code : List Ins} : ∀ (f : Nat) (d : List Int) (g : Nat → Bool), (fitI code f d g).1.length = d.length
 | 0, d, g => rfl
 | f + 1, d, g => by
   unfold fitI;cases leastI d g with
   | none => rfl
   | some p =>
     dsimp only;cases hs : stepI code d p with
     | none => rfl
     | some d' =>
       dsimp only;rw [fit_len f d' _];have hm : ∀ {a b : List Int} {q : Nat} {v : Int}, meetI a q v = some b → b.length = a.length := by
         intro a b q v h;unfold meetI at h;split at h
         · cases h
         · split at h
           · cases h; exact List.length_set ..
           · split at h
             · cases h; rfl
             · cases h
       unfold stepI at hs;dsimp only at hs;split at hs
       · cases hs
       · split at hs
         · split at hs
           · cases hs; rfl
           · cases hs
         · split at hs
           · cases hs
           · rename_i d1 h1
             have hd1 : d1.length = d.length := by
               split at h1
               · exact hm h1
               · cases h1; rfl
             split at hs
             · cases hs; exact hd1
             · exact (hm hs).trans hd1
theorem in_get {code : List Ins} {q : Nat} (h : q < code.length) : code[q]? = some (inAt code q) := by
 unfold inAt;rw [List.getD_eq_getElem?_getD, List.getElem?_eq_getElem h]; rfl
theorem params_le {n : Int} : ∀ {F : Fs} {p : Nat}, F.part 2 n p → (p : Int) + F.count = n → F.count ≤ (namesL F.flat).length + 1
 | .nil, _, _, _ => Nat.zero_le _
 | .cons x k r, p, h, hn => by
   have e : (Fs.cons x k r).flat = x :: (k.flat ++ r.flat) := rfl;have e2 : (Fs.cons x k r).count = r.count + 1 := rfl;have e3 : x :: (k.flat ++ r.flat) = [x] ++ (k.flat ++ r.flat) := rfl;rw [e, e2, e3, namesL_app, namesL_app, namesL_one, List.length_append, List.length_append];cases r with
   | nil => simp only [Fs.count]; omega
   | cons y l s =>
     have hx : x.op = 2 := by
       have h1 := h.1;unfold partOK at h1;rw [if_neg (by decide), if_pos rfl, if_pos (by rw [e2] at hn; simp only [Fs.count] at hn; omega)] at h1;simp only [beq_iff_eq] at h1;omega
     have hm : makesB x = true := by simp [makesB, hx]
     have := params_le h.2 (by rw [e2] at hn; omega);rw [if_pos hm];simp only [List.length_cons, List.length_nil];omega
structure FlowCode (code : List Ins) (s : Int) : Prop where
 s0 : 0 ≤ s
 s1 : s ≤ 100
 len0 : 0 < code.length
 len1 : code.length ≤ 8192
 bad : badI code = none
 fits : (fitsI code).2 = none
 circ : circI code (fitsI code).1 = none
 last : ∃ c, code = c ++ [mkI 28 0]
 fit : ∀ x ∈ code, GOK x ∧ I64 x.a
theorem flow_code {x : Tw} {K : Fs} {ts : List Tw} {st : CSt} {code : List Ins} (hok : (Fs.cons x K .nil).ok) (hx : ts = x :: K.flat) (hop : x.op = 1) (hf : ∀ y ∈ ts, FitT y) (hn : ts.length ≤ 2048) (hB : BInv ts st) (h : Gens (.cons x K .nil) 0 code) : FlowCode code (x.kids - 1) := by
 obtain ⟨c, hc, rfl⟩ := (gens_head h x K rfl).1 hop;have hfl : ∀ y ∈ (Fs.cons x K .nil).flat, FitT y := by rw [flat_one, ← hx]; exact hf
 have hfK : ∀ y ∈ K.flat, FitT y := fun y hy => hf y (by rw [hx]; exact List.mem_cons_of_mem _ hy)
 have hg := gens_gok h hok hfl;have hfree := gens_free h hok;obtain ⟨D, d1, d2, d3, d4⟩ := gens_fit hc 0 (Int.le_refl _) hok.2.2.1 (.inr ⟨(part_of hok).2.1 (.inl hop), rfl⟩);rw [net_no K ((part_of hok).2.1 (.inl hop))] at d2;have hlen := gens_len hc;have hKl : K.flat.length + 1 ≤ 2048 := by have := congrArg List.length hx; simp only [List.length_cons] at this; omega
 have hcl : (c ++ [mkI 28 0]).length = c.length + 1 := by simp
 have hL : ∀ q, q < (c ++ [mkI 28 0]).length → GLoc 0 ((c ++ [mkI 28 0]).length - 1) (inAt (c ++ [mkI 28 0]) q) q D ∧ (endsI (inAt (c ++ [mkI 28 0]) q).op = false → (inAt (c ++ [mkI 28 0]) q).op ≠ 1 → q + 1 < (c ++ [mkI 28 0]).length) := by
   intro q hq;rw [hcl] at hq ⊢;have hi := in_get (code := c ++ [mkI 28 0]) (q := q) (by rw [hcl]; exact hq);rcases Nat.lt_or_ge q c.length with hlt | hge
   · rw [List.getElem?_append_left hlt] at hi
     have := d4 q _ hi;rw [Nat.zero_add, Nat.zero_add] at this;exact ⟨this, fun _ _ => by omega⟩
   · have hqe : q = c.length := by omega
     rw [List.getElem?_append_right hge, hqe, Nat.sub_self] at hi;simp only [List.getElem?_cons_zero, Option.some.injEq] at hi;rw [hqe, ← hi];rw [Nat.zero_add] at d2;refine ⟨⟨?_, fun _ => ?_, fun h => absurd (show endsI 28 = false from h) (by decide), fun h => absurd (show endsI 28 = false from h) (by decide)⟩, fun h => absurd (show endsI 28 = false from h) (by decide)⟩
     · rw [d2, takes_mk (by decide)]; decide
     · rw [d2, takes_mk (by decide)]; decide
 have hfit : (fitsI (c ++ [mkI 28 0])).2 = none := by
   refine fit_none hL _ _ _ (depth0_len _) (fun q => ?_);unfold depth0;rw [getD_set _ _ _ _ (by rw [List.length_replicate]; omega)];by_cases e : q = 0
   · rw [if_pos e, e, d1]; exact .inr rfl
   · rw [if_neg e, List.getD_eq_getElem?_getD, List.getElem?_replicate]
     split <;> exact .inl rfl
 have htarget : ∀ y ∈ c ++ [mkI 28 0], akI y.op = 1 → 0 ≤ y.a ∧ y.a < ((c ++ [mkI 28 0]).length : Int) := by
   intro y hy ha;obtain ⟨q, hq, rfl⟩ := List.getElem_of_mem hy;have hi := in_get hq;rw [List.getElem?_eq_getElem hq, Option.some.injEq] at hi;rw [hi] at ha ⊢;have he : endsI (inAt (c ++ [mkI 28 0]) q).op = false := by
     generalize (inAt (c ++ [mkI 28 0]) q).op = o at ha;unfold akI at ha;have : o = 1 ∨ o = 2 ∨ o = 3 ∨ o = 4 ∨ o = 53 := by
       by_cases c1 : o = 1 ∨ o = 2 ∨ o = 3 ∨ o = 4 ∨ o = 53
       · exact c1
       · rw [if_neg c1] at ha
         split at ha
         · cases ha
         · split at ha <;> cases ha
     rcases this with rfl | rfl | rfl | rfl | rfl <;> rfl
   obtain ⟨t, e1, _, e3, _⟩ := (hL q hq).1.goal he ha;rw [e1];omega
 have hright : ∀ y ∈ c ++ [mkI 28 0], rightI y ((c ++ [mkI 28 0]).length) = true := by
   intro y hy;have g := hg y hy;unfold rightI;have a1 : aOK (akI y.op) ((c ++ [mkI 28 0]).length) y.a = true := by
     rcases g.a with e | e
     · rw [e]
       have := htarget y hy e;simp only [aOK, ↓reduceIte, decide_eq_true_eq];exact this
     · by_cases e1 : akI y.op = 1
       · rw [e1]
         have := htarget y hy e1;simp only [aOK, ↓reduceIte, decide_eq_true_eq];exact this
       · unfold aOK at e ⊢
         rw [if_neg e1] at e ⊢;exact e
   have n1 : (decide (y.num = 0) || y.op == 23) = true := by
     rcases g.num with e | e <;> simp [e]
   rw [a1, n1, g.text, decide_eq_true g.word];rfl
 have hmade := hB.made;have hfew := hB.few;refine ⟨?_, ?_, by rw [hcl]; omega, by rw [hcl]; omega, ?_, hfit, ?_, ⟨c, rfl⟩, fun y hy => ⟨hg y hy, ?_⟩⟩
 · obtain ⟨⟨kd, hk, ha, _⟩, hnk, _, _⟩ := hok
   have hr := kids_range ha;rw [hop] at hk;have : kindOf 1 = some ⟨1, 1, 2048, 2⟩ := rfl;rw [this] at hk;cases hk
   dsimp only at hr;omega
 · obtain ⟨⟨kd, hk, ha, hp⟩, hnk, _, _⟩ := hok
   rw [hop] at hk;have : kindOf 1 = some ⟨1, 1, 2048, 2⟩ := rfl;rw [this] at hk;cases hk
   have h1 := params_le hp (by rw [hnk]; omega);have h2 : namesL ts = namesL [x] ++ namesL K.flat := by rw [hx, ← namesL_app]; rfl
   rw [h2, List.length_append] at hmade;omega
 · unfold badI
   rw [List.findIdx?_eq_none_iff];intro y hy;rw [hright y hy]; rfl
 · refine circ_none hfree ?_
   unfold fitsI;rw [fit_len, depth0_len]
 · have g := hg y hy
   rcases g.a with e | e
   · have := htarget y hy e
     exact ⟨by omega, by omega⟩
   · by_cases e1 : akI y.op = 1
     · have := htarget y hy e1
       exact ⟨by omega, by omega⟩
     · unfold aOK at e
       rw [if_neg e1] at e;split at e
       · simp only [decide_eq_true_eq] at e; exact ⟨by omega, by omega⟩
       · split at e <;> (simp only [decide_eq_true_eq] at e; exact ⟨by omega, by omega⟩)
end Go.Proofs.YtefijbpbenmbgaaDoor
namespace Go.Proofs.YtefijbpbenmbgaaDoor
open Go.RowKit
def intVd (n : Int) : Value := .int .i64 n
theorem int_infoD : (Tryd.prog.info? 3).map (fun i => (i.zero, i.size, i.bytes)) = some (some (.int .i64 0), 1, 8) := by kernel_rfl
theorem int_partsD : ∃ i0, Tryd.prog.info? 3 = some i0 ∧ i0.zero = some (.int .i64 0) ∧ i0.size = 1 ∧ i0.bytes = 8 := by
 have h := int_infoD;cases hi : Tryd.prog.info? 3 with
 | none => rw [hi] at h; simp at h
 | some i0 =>
   rw [hi] at h;simp at h
   exact ⟨i0, rfl, h.1, h.2.1, h.2.2⟩
def DepAt (w : World) (g : Nat) (d : List Int) : Prop := w.heap[g]? = some (.cells (d.map intVd).toArray 3 (0, 0))
section
variable {w W : World} {g : Nat} {d : List Int}
theorem DepAt.lt (h : DepAt w g d) : g < w.heap.size := (Array.getElem?_eq_some_iff.1 h).1
theorem DepAt.cell (h : DepAt w g d) {i : Nat} (hi : i < d.length) : w.cell? ⟨g, i, none⟩ = some (.int .i64 (d.getD i (-1))) := by
 have h' : w.heap[g]? = _ := h;simp only [World.cell?, h'];simp [List.getD_eq_getElem?_getD, List.getElem?_eq_getElem hi, intVd]
theorem DepAt.fr (h : DepAt w g d) (j : Nat) : w.frozen? ⟨g, j, none⟩ = false := by
 have h' : w.heap[g]? = _ := h;simp [World.frozen?, h']
theorem DepAt.set (h : DepAt w g d) (i : Nat) (v : Int) : DepAt (w.setCell ⟨g, i, none⟩ (.int .i64 v)) g (d.set i v) := by
 have := heap_setCell_same w g i _ _ (.int .i64 v) h;unfold DepAt;rw [this, List.map_set];simp [intVd]
theorem DepAt.only {F : Nat → Prop} (h : DepAt w g d) (ho : Only F w W) (hF : ¬ F g) : DepAt W g d := (ho.block g h.lt hF).trans h
theorem DepAt.below (h : DepAt w g d) (hb : Below w.heap.size w W) : DepAt W g d := (hb.block g h.lt).trans h
end
theorem make_full (n : Nat) (hn : n ≤ 100000) (W : World) : (Instr.makeSlice 41 (.int .i64 (n : Int)) (.int .i64 (n : Int))).run Tryd.prog W = .ok (.slice (some ⟨W.heap.size, 0, none⟩) n n) (W.alloc (.cells (List.replicate n (intVd 0)).toArray 3)) := by
 obtain ⟨i0, hi, hz0, hz1, hz2⟩ := int_partsD;have h := run_makeSlice (P := Tryd.prog) W 41 3 i0 (.int .i64 0) Tryd.underlying41 hi hz0 .i64 .i64 (n : Int) (n : Int) (by omega) (by omega) (by rw [hz1]; simp; omega) (by rw [hz2]; omega) (by omega);have e : madeCells (Value.int .i64 0).cells (n * 1) = (List.replicate n (intVd 0)).toArray := by
   rw [Nat.mul_one];show madeCells #[Value.int .i64 0] n = _
   rw [← toList_madeCells_one, Array.toArray_toList];rfl
 rw [hz1, Int.toNat_natCast, e] at h;exact h
theorem mul_one_any (n : Nat) (hn : n ≤ 100000) (w : World) :
   Calls Tryd.prog 64 #[.int .u64 1, .int .u64 (n : Int)] w fun e w' => e = .returned (.tuple #[.int .u64 0, .int .u64 n]) ∧ w = w' :=
 (Tryd.bits_Mul 1 n (by decide) (by omega) w).mono fun e w' ⟨he, hw⟩ => by
   rw [Nat.one_mul, Nat.div_eq_of_lt (by omega), Nat.mod_eq_of_lt (by omega)] at he;exact ⟨he, hw.symm⟩
def part (x : Int) (n k : Nat) : List Value := List.replicate k (intVd x) ++ List.replicate (n - k) (intVd 0)
theorem part_len {x : Int} {n k : Nat} (h : k ≤ n) : (part x n k).length = n := by unfold part; simp; omega
theorem part_get {x : Int} {n k j : Nat} (h : j < k) : (part x n k)[j]? = some (intVd x) := by
 unfold part;rw [List.getElem?_append_left (by simpa using h), List.getElem?_replicate, if_pos h]
theorem part_splice {x : Int} {n k m : Nat} (_h : k + m ≤ n) : splice (part x n k) k (List.replicate m (intVd x)) = part x n (k + m) := by
 unfold splice part;rw [List.take_append_of_le_length (by simp), List.take_of_length_le (by simp), List.length_replicate, List.drop_append, List.drop_eq_nil_of_le (by simp), List.nil_append, ← List.append_assoc, List.replicate_append_replicate]
 congr 1
 simp
 omega
theorem part_full {x : Int} {n : Nat} : part x n n = (List.replicate n x).map intVd := by unfold part; simp
theorem size_int (W : World) : (sizeOf (Tryd.prog.elem 41)).run Tryd.prog W = .ok 1 W := by kernel_rfl
set_option maxRecDepth 20000 in
theorem slice_tail (g n k : Nat) (hk : k < n) (W : World) : (Instr.slice 41 (.slice (some ⟨g, 0, none⟩) n n) (some (.int .i64 (k : Int))) none none).run Tryd.prog W = .ok (.slice (some ⟨g, k, none⟩) (n - k) (n - k)) W := by
 rw [run_slice_l (P := Tryd.prog) (w := W) 41 (some ⟨g, 0, none⟩) n n Tryd.underlying41 .i64 k (by omega) (by omega), size_int];simp only [Result.andThen, sliced, Int.toNat_natCast];rw [if_neg (by omega)];simp [Addr.add]
 omega
set_option maxRecDepth 20000 in
theorem slice_head (g n k : Nat) (hk : k ≤ n) (W : World) : (Instr.slice 41 (.slice (some ⟨g, 0, none⟩) n n) none (some (.int .i64 (k : Int))) none).run Tryd.prog W = .ok (.slice (some ⟨g, 0, none⟩) k n) W := by
 rw [run_slice_h (P := Tryd.prog) (w := W) 41 (some ⟨g, 0, none⟩) n n Tryd.underlying41 .i64 k (by omega) (by omega), size_int];simp only [Result.andThen, sliced, Int.toNat_natCast, Nat.zero_mul, Nat.sub_zero]
 congr 2
 split
 · rfl
 · simp [Addr.add]
set_option maxRecDepth 20000 in
set_option maxHeartbeats 400000 in
theorem repeat_any (x : Int) (n : Nat) (hn0 : 0 < n) (hn : n ≤ 8192) (w : World) {gx : Nat} (hx : w.cell? ⟨gx, 0, none⟩ = some (.int .i64 x)) :
   Calls Tryd.prog 44 #[.slice (some ⟨gx, 0, none⟩) 1 1, .int .i64 n] w fun e w' => ∃ g, e = .returned (.slice (some ⟨g, 0, none⟩) n n) ∧ w.heap.size ≤ g ∧ DepAt w' g (List.replicate n x) ∧ Below w.heap.size w w' := by
 have hgx := World.block_lt_of_cell? w _ hx;have M := fun W => mul_one_any n (by omega) W
 have K := fun W => make_full n (by omega) W
 have h0 : ¬ ((n : Int) < 0) := by omega
 have h1 : (n : Int) ≤ 8192 := by omega
 have h2 : 0 < (n : Int) := by omega
 obtain ⟨Z, hZ⟩ : ∃ Z, Z = part x n 0 := ⟨_, rfl⟩;have eZ : List.replicate n (intVd 0) = Z := by rw [hZ]; simp [part]
 rw [eZ] at K;have hsz : (Tryd.prog.info? 3).map (·.size) = some 1 := by
   obtain ⟨i0, hi, _, hz1, _⟩ := int_partsD;rw [hi]; simp [hz1]
 have hZl : Z.length = n := by rw [hZ, part_len (by omega)]
 have hnew : (w.alloc (.cells Z.toArray 3)).heap[w.heap.size]? = some (.cells Z.toArray 3 (0, 0)) := heap_alloc_new w _;have hb0 : Below w.heap.size w (w.alloc (.cells Z.toArray 3)) := by go_grown
 have hsrc : ∀ (j : Nat) (v : Value), [intVd x][j]? = some v → (w.alloc (.cells Z.toArray 3)).cell? ((⟨gx, 0, none⟩ : Addr).add j) = some v := by
   intro j v hj
   match j, hj with
   | 0, hj =>
     simp at hj
     subst hj;exact (hb0.cell (p := ⟨gx, 0, none⟩) hgx).trans hx
 have hl1 : [intVd x].length = Nat.min 1 n := by simp [Nat.min_def]; omega
 have hfit : 0 + [intVd x].length ≤ Z.length := by simp; omega
 have hone : ∀ v ∈ [intVd x], v.oneCell' = true := by intro v hv; simp at hv; subst hv; rfl
 replace hZ := Lib.hid hZ;replace hl1 := Lib.hid hl1;replace hfit := Lib.hid hfit;replace hsrc := Lib.hid hsrc;replace hnew := Lib.hid hnew;replace hb0 := Lib.hid hb0;replace hZl := Lib.hid hZl;replace hone := Lib.hid hone;clear eZ;go_enter Tryd.func44, Tryd.ntmps44
 go_wp2_with first
   | (go_at_call 64; refine (M _).mono ?_; rintro e w1 ⟨rfl, rfl⟩)
   | (refine wpList_copy_splice rfl _ _ 41 41 rfl 3 Tryd.underlying41 hsz (some ⟨w.heap.size, 0, none⟩) (some ⟨gx, 0, none⟩) n n 1 1 rfl rfl w.heap.size 0 Z 3 hnew.out [intVd x] hl1.out (fun _ => ⟨rfl, _, rfl, hsrc.out⟩) hfit.out hone.out w.heap.size w hb0.out (Nat.le_refl _) ?_; intro w2 HG2 HB2; replace HB2 := Lib.hid HB2)
 have e1 : splice Z 0 [intVd x] = part x n 1 := by
   rw [hZ.out];have := part_splice (x := x) (n := n) (k := 0) (m := 1) (by omega);rw [Nat.zero_add] at this;exact this
 rw [e1] at HG2;clear hnew hsrc hb0 hfit hone hl1 e1 K M;go_loopw [8] (fun t8 wr => ∃ k : Nat, 1 ≤ k ∧ k ≤ n ∧ t8 = .int .i64 k ∧ Hid (wr.heap[w.heap.size]? = some (.cells (part x n k).toArray 3 (0, 0))) ∧ Hid (Below w.heap.size w wr)) (fun t8 _ => n - (intOf t8).toNat)
 case atStart => exact ⟨1, by omega, by omega, rfl, HG2, HB2⟩
 case round =>
   obtain ⟨k, hk1, hkn, rfl, HG, HB⟩ := hrel;rcases Nat.lt_or_ge k n with hlt | hge
   · have hlti : (k : Int) < (n : Int) := by omega
     have hle : (k : Int) ≤ (n : Int) := by omega
     obtain ⟨m, hm⟩ := exHid (Nat.min k (n - k));have hm2 : m = min k (n - k) := hm.out.symm;have hm1 : k + m ≤ n ∧ 1 ≤ m ∧ m ≤ k := by rw [Nat.min_def] at hm2; split at hm2 <;> omega
     clear hm2;have hne : ¬ n = k := by omega
     have hkk : ((k : Int)).toNat = k := by omega
     obtain ⟨cs, hcs⟩ : ∃ cs, Hid (cs = List.replicate m (intVd x)) := ⟨_, rfl⟩;have c1 : Hid (cs.length = m) := Lib.hid (by rw [hcs.out, List.length_replicate]);have c2 : Hid (∀ (j : Nat) (v : Value), cs[j]? = some v → wr.drew.cell? ((⟨w.heap.size, 0, none⟩ : Addr).add j) = some v) := Lib.hid (by
       intro j v hj;rw [hcs.out, List.getElem?_replicate] at hj;split at hj
       · rename_i hjm
         cases hj
         have hjk : j < k := by omega
         rw [show (⟨w.heap.size, 0, none⟩ : Addr).add j = ⟨w.heap.size, j, none⟩ by simp [Addr.add]; omega];have := HG.out;show wr.cell? _ = _
         simp only [World.cell?, this]
         simpa using part_get hjk
       · cases hj)
     have c3 : Hid (k + cs.length ≤ (part x n k).length) := Lib.hid (by rw [c1.out, part_len (by omega)]; omega);have c4 : Hid (∀ v ∈ cs, v.oneCell' = true) := Lib.hid (by
       intro v hv;rw [hcs.out] at hv;rw [(List.mem_replicate.1 hv).2]; rfl)
     have c5 : Hid (splice (part x n k) k cs = part x n (k + m)) := Lib.hid (by rw [hcs.out]; exact part_splice hm1.1);have c6 : Hid (Below w.heap.size w wr.drew) := Lib.hid (HB.out.drew);clear hcs hkk;replace hm1 := Lib.hid hm1;replace hk1 := Lib.hid hk1;replace hkn := Lib.hid hkn;replace hlt := Lib.hid hlt;replace hx := Lib.hid hx;have hsz' := Lib.hid hsz;clear hsz;obtain ⟨u1, r1, hu1⟩ : ∃ u, (∀ W, (Instr.slice 41 (.slice (some ⟨w.heap.size, 0, none⟩) n n) (some (.int .i64 (k : Int))) none none).run Tryd.prog W = .ok u W) ∧ Hid (u = .slice (some ⟨w.heap.size, k, none⟩) (n - k) (n - k)) := ⟨_, fun W => slice_tail _ n k hlt.out W, Lib.hid rfl⟩;obtain ⟨u2, r2, hu2⟩ : ∃ u, (∀ W, (Instr.slice 41 (.slice (some ⟨w.heap.size, 0, none⟩) n n) none (some (.int .i64 (k : Int))) none).run Tryd.prog W = .ok u W) ∧ Hid (u = .slice (some ⟨w.heap.size, 0, none⟩) k n) := ⟨_, fun W => slice_head _ n k hkn.out W, Lib.hid rfl⟩;go_wp2
     go_region_law (refine step_copy_splice rfl (.tmp 41) (.tmp 44) 41 41 rfl 3 Tryd.underlying41 hsz'.out (some ⟨w.heap.size, k, none⟩) (some ⟨w.heap.size, 0, none⟩) (n - k) (n - k) k n (by go_simp; exact hu1.out) (by go_simp; exact hu2.out) w.heap.size k (part x n k) 3 HG.out cs (by rw [c1.out]; exact hm.out.symm) (fun _ => ⟨rfl, _, rfl, c2.out⟩) c3.out c4.out w.heap.size w c6.out (Nat.le_refl _) ?_; intro w3 HG3 HB3; replace HB3 := Lib.hid HB3)
     rw [c5.out] at HG3;have hm4 := hm1.out;have hlt' := hlt.out;have hsum2 : IntKind.i64.wrap ((k : Int) + (cs.length : Int)) = ((k + m : Nat) : Int) := by rw [IntKind.wrap_i64, c1.out]; omega
     have hsum3 : IntKind.i64.wrap ((k : Int) + (m : Int)) = ((k + m : Nat) : Int) := by rw [IntKind.wrap_i64]; omega
     go_simp
     go_roundw
     case rel => first
       | exact ⟨k + m, by omega, by omega, by go_num, HG3, HB3⟩
       | (refine ⟨_, _, _, _, _, _, _, _, _, _, _, _, _, _, ⟨k + m, by omega, by omega, rfl, HG3, HB3⟩, rfl⟩)
     case measure => simp [intOf]; omega
   · obtain rfl : k = n := by omega
     have hlti : ¬ ((k : Int) < (k : Int)) := by omega
     go_wp2
     go_ret
     exact ⟨_, rfl, Nat.le_refl _, by have := HG.out; rw [part_full] at this; exact this, HB.out⟩
end Go.Proofs.YtefijbpbenmbgaaDoor
namespace Go.Proofs.YtefijbpbenmbgaaDoor
open Go.RowKit
theorem wf_of_i64 {a : Int} (h : I64 a) : (Lit.int .i64 a).wf = true := by
 obtain ⟨h1, h2⟩ := h;simp [Lit.wf, IntKind.min, IntKind.max, IntKind.signed, IntKind.bits]
 omega
theorem cell_top {W : World} {c : Array Value} {t : TypeId} {n j : Nat} {v : Value} (h : n = W.heap.size) (hv : c[j]? = some v) : (W.alloc (.cells c t)).cell? ⟨n, j, none⟩ = some v := by
 subst h;rw [World.cell?_alloc_new];exact hv
theorem cell_top_drew {W : World} {c : Array Value} {t : TypeId} {n j : Nat} {v : Value} (h : n = W.heap.size) (hv : c[j]? = some v) : (W.alloc (.cells c t)).drew.cell? ⟨n, j, none⟩ = some v := cell_top h hv
def cmpI (a b : Int) : Int := if a < b then -1 else if b < a then 1 else 0
def orI (a b : Int) : Int := if a = 0 then b else a
def ordI (k1 n1 k2 n2 : Int) : Int := orI (cmpI k1 k2) (cmpI n1 n2)
def lexLt (k1 n1 k2 n2 : Int) : Prop := k1 < k2 ∨ (k1 = k2 ∧ n1 < n2)
theorem ordI_neg (k1 n1 k2 n2 : Int) : ordI k1 n1 k2 n2 < 0 ↔ lexLt k1 n1 k2 n2 := by
 unfold ordI orI cmpI lexLt
 (repeat' split) <;> constructor <;> intro h <;> omega
end Go.Proofs.YtefijbpbenmbgaaDoor
namespace Go.Proofs.YtefijbpbenmbgaaDoor
open Go.RowKit
set_option maxHeartbeats 400000 in
theorem nan64_any (a : Int) (w : World) :
   Calls Tryd.prog 90 #[.int .i64 a] w fun e w' => e = .returned (.bool false) ∧ w = w' := by
 go_enter Tryd.func90, Tryd.ntmps90
 go_wp2
 go_ret
 exact ⟨by simp, rfl⟩
set_option maxHeartbeats 400000 in
theorem nanI_any (a : Int) (w : World) :
   Calls Tryd.prog 91 #[.int .i64 a] w fun e w' => e = .returned (.bool false) ∧ w = w' := by
 go_enter Tryd.func91, Tryd.ntmps91
 go_wp2
 go_ret
 exact ⟨by simp, rfl⟩
set_option maxHeartbeats 400000 in
theorem cmp64_any (a b : Int) (w : World) :
   Calls Tryd.prog 88 #[.int .i64 a, .int .i64 b] w fun e w' => e = .returned (.int .i64 (cmpI a b)) ∧ w = w' := by
 go_enter Tryd.func88, Tryd.ntmps88
 go_wp2_with (first
   | ((with_reducible refine (nan64_any _ _).mono ?_); rintro e w' ⟨rfl, rfl⟩))
 all_goals
   go_ret
   refine ⟨ret_int ?_, rfl⟩;unfold cmpI
   (repeat' split) <;> first | rfl | omega
set_option maxHeartbeats 400000 in
theorem cmpInt_any (a b : Int) (w : World) :
   Calls Tryd.prog 89 #[.int .i64 a, .int .i64 b] w fun e w' => e = .returned (.int .i64 (cmpI a b)) ∧ w = w' := by
 go_enter Tryd.func89, Tryd.ntmps89
 go_wp2_with (first
   | ((with_reducible refine (nanI_any _ _).mono ?_); rintro e w' ⟨rfl, rfl⟩))
 all_goals
   go_ret
   refine ⟨ret_int ?_, rfl⟩;unfold cmpI
   (repeat' split) <;> first | rfl | omega
set_option maxHeartbeats 400000 in
theorem or2_any (g : Nat) (a b : Int) (w : World) (h0 : w.cell? ⟨g, 0, none⟩ = some (.int .i64 a)) (h1 : w.cell? ⟨g, 1, none⟩ = some (.int .i64 b)) :
   Calls Tryd.prog 87 #[.slice (some ⟨g, 0, none⟩) 2 2] w fun e w' => e = .returned (.int .i64 (orI a b)) ∧ w = w' := by
 by_cases ha : a = 0
 · subst ha
   by_cases hb : b = 0
   · subst hb
     go_enter Tryd.func87, Tryd.ntmps87
     go_wp2
     go_rounds 3
     go_ret
     exact ⟨rfl, rfl⟩
   · have xb : (b != 0) = true := by simp [hb]
     go_enter Tryd.func87, Tryd.ntmps87
     go_wp2
     go_rounds 2
     go_ret
     exact ⟨rfl, rfl⟩
 · have xa : (a != 0) = true := by simp [ha]
   have e : orI a b = a := by unfold orI; rw [if_neg ha]
   replace e := Lib.hid e;go_enter Tryd.func87, Tryd.ntmps87
   go_wp2
   go_rounds 1
   go_ret
   exact ⟨ret_int e.out.symm, rfl⟩
end Go.Proofs.YtefijbpbenmbgaaDoor
