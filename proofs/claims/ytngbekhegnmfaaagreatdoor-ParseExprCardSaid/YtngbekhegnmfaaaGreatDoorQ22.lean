/- A part of the proof: RMach, PRight, PTok, DWords, TDoc1. No condition. -/
import Derived.Test.YtngbekhegnmfaaaGreatDoorQ03
import Derived.Test.YtngbekhegnmfaaaGreatDoorQ10
import Derived.Test.YtngbekhegnmfaaaGreatDoorQ19
import Derived.Test.YtngbekhegnmfaaaGreatDoorQ21
set_option linter.unusedVariables false
set_option linter.unusedSimpArgs false
namespace Go.Proofs.YtngbekhegnmfaaaGreatDoor
open Go.RowKit Go.Shelf
structure Op3 where
 op : Nat
 came : Nat
 n : Nat
 deriving DecidableEq
def popF : List Op3 → List Op3
 | [] => []
 | [u] => if u.came = u.n then [] else [u]
 | u :: v :: r => if u.came = u.n then popF (⟨v.op, v.came + 1, v.n⟩ :: r) else u :: v :: r
termination_by l => l.length
def popTop : List Op3 → List Op3
 | [] => []
 | v :: r => popF (⟨v.op, v.came + 1, v.n⟩ :: r)
theorem popF_whole (u : Op3) (l : List Op3) (h : u.came = u.n) : popF (u :: l) = popTop l := by
 cases l with
 | nil => rw [popF, if_pos h]; rfl
 | cons v r => rw [popF, if_pos h]; rfl
theorem popF_not (u : Op3) (l : List Op3) (h : u.came ≠ u.n) : popF (u :: l) = u :: l := by
 cases l with
 | nil => rw [popF, if_neg h]
 | cons v r => rw [popF, if_neg h]
def topBad (l : List Op3) (x : Tw) : Bool := match l with
 | [] => false
 | u :: _ => !partR u.op u.came u.n x.op
def machEnd (n : Nat) (l : List Op3) (deep : Nat) : Nat × Int := if n = 0 ∨ l ≠ [] then (n, 3) else if 0 < deep then (deep, 2) else (0, 0)
def mach (ts : List Tw) : Nat → Nat → List Op3 → Nat → Nat × Int
 | 0, _, l, deep => machEnd ts.length l deep
 | f + 1, i, l, deep => if (0 < i ∧ l = []) ∨ fineB (twAt ts i) = false then (i, 3) else if topBad l (twAt ts i) = true then (i, 3) else
     mach ts f (i + 1) (popF (⟨(twAt ts i).op, 0, (twAt ts i).kids.toNat⟩ :: l)) (if deep = 0 ∧ 40 ≤ l.length then i else deep)
def machAt (ts : List Tw) (i : Nat) (l : List Op3) (deep : Nat) : Nat × Int := mach ts (ts.length - i) i l deep
theorem machAt_end (ts : List Tw) (l : List Op3) (deep : Nat) : machAt ts ts.length l deep = machEnd ts.length l deep := by
 unfold machAt;rw [Nat.sub_self];rfl
theorem machAt_step {ts : List Tw} {i : Nat} (h : i < ts.length) (l : List Op3) (deep : Nat) : machAt ts i l deep = if (0 < i ∧ l = []) ∨ fineB (twAt ts i) = false then (i, 3) else if topBad l (twAt ts i) = true then (i, 3) else
     machAt ts (i + 1) (popF (⟨(twAt ts i).op, 0, (twAt ts i).kids.toNat⟩ :: l)) (if deep = 0 ∧ 40 ≤ l.length then i else deep) := by
 unfold machAt;rw [show ts.length - i = (ts.length - (i + 1)) + 1 by omega];rfl
section
variable (ts : List Tw) (hop : ∀ i, (twAt ts i).op < 256)
theorem kids_mach (k : Kind) (up : Nat) (hk : kindOf up = some k) (kids : Nat) (hkp : k.part = 0 → kids = 0) (l : List Op3) (f : PSt → Bool × PSt) (lo : Nat)
   (hf : ∀ s s' b (u : Op3), f s = (b, s') → s.gone < ts.length → lo < s.gone → topBad (u :: l) (twAt ts s.gone) = false → s.gone < s'.gone + 1 ∧ s'.gone ≤ ts.length ∧ machAt ts s.gone (u :: l) s.tooDeep = (if b then machAt ts s'.gone (popTop (u :: l)) s'.tooDeep else (s'.gone, 3))) :
   ∀ (n p : Nat) (s s' : PSt) (b : Bool), kidsF f ts k (kids : Int) n p s = (b, s') → p + n = kids → lo < s.gone → s.gone ≤ ts.length → s.gone ≤ s'.gone ∧ s'.gone ≤ ts.length ∧ machAt ts s.gone (popF (⟨up, p, kids⟩ :: l)) s.tooDeep = (if b then machAt ts s'.gone (popTop l) s'.tooDeep else (s'.gone, 3))
 | 0, p, s, s', b, h, hpn, h0, hl => by
   cases h
   refine ⟨Nat.le_refl _, hl, ?_⟩;rw [popF_whole _ _ (show p = kids by omega)];rfl
 | n + 1, p, s, s', b, h, hpn, h0, hl => by
   rw [popF_not _ _ (show p ≠ kids by omega)];unfold kidsF at h;split at h
   · rename_i he
     cases h
     refine ⟨Nat.le_refl _, hl, ?_⟩;rw [he, machAt_end];unfold machEnd;rw [if_pos (.inr (by simp))];rfl
   · rename_i he
     have hlt : s.gone < ts.length := by omega
     have hpd := part_doc hk (fun c => by have := hkp c; omega) (twAt ts s.gone).op (i := (p : Int)) (n := (kids : Int)) (by omega) (by omega);split at h
     · rename_i hp
       cases h
       refine ⟨Nat.le_refl _, hl, ?_⟩;rw [machAt_step hlt];have tb : topBad (⟨up, p, kids⟩ :: l) (twAt ts s.gone) = true := by
         show (!partR up p kids (twAt ts s.gone).op) = true
         rw [← hpd, hp];rfl
       rw [tb, if_pos rfl, ite_self];rfl
     · rename_i hp
       have tb : topBad (⟨up, p, kids⟩ :: l) (twAt ts s.gone) = false := by
         show (!partR up p kids (twAt ts s.gone).op) = false
         rw [← hpd]
         simpa using hp
       rcases hq : f s with ⟨b2, s2⟩
       obtain ⟨a1, a2, a3⟩ := hf s s2 b2 _ hq hlt h0 tb;rw [a3];rw [hq] at h;cases b2 with
       | false =>
         rw [if_pos rfl] at h;cases h
         exact ⟨by show s.gone ≤ s2.gone; omega, a2, rfl⟩
       | true =>
         rw [if_neg (by simp)] at h;obtain ⟨c1, c2, c3⟩ := kids_mach k up hk kids hkp l f lo hf n (p + 1) s2 s' b h (by omega) (by omega) a2;exact ⟨by omega, c2, c3⟩
include hop in
theorem pass_mach : ∀ (fuel : Nat) (l : List Op3) (s s' : PSt) (b : Bool), passF fuel ts (l.length + 1) s = (b, s') → ts.length - s.gone ≤ fuel → s.gone < ts.length → (l = [] → s.gone = 0) → topBad l (twAt ts s.gone) = false →
   s.gone + b.toNat ≤ s'.gone ∧ s'.gone ≤ ts.length ∧ machAt ts s.gone l s.tooDeep = (if b then machAt ts s'.gone (popTop l) s'.tooDeep else (s'.gone, 3))
 | 0, l, s, s', b, h, h1, h2, h3, h4 => by omega
 | fuel + 1, l, s, s', b, h, h1, h2, h3, h4 => by
   have fd := fine_doc (hop s.gone);have hemp : ¬ (0 < s.gone ∧ l = []) := fun c => by have := h3 c.2; omega
   rw [machAt_step h2, h4];unfold passF at h;split at h
   · rename_i hk
     cases h
     rw [hk] at fd;refine ⟨Nat.le_refl _, by show s.gone ≤ _; omega, ?_⟩;rw [if_pos (.inr fd)];rfl
   · rename_i k hk
     rw [hk] at fd;have fd' : fineB (twAt ts s.gone) = allowsB k (twAt ts s.gone) := fd;split at h
     · rename_i ha
       cases h
       refine ⟨Nat.le_refl _, by show s.gone ≤ _; omega, ?_⟩;rw [if_pos (.inr (fd'.trans ha))];rfl
     · rename_i ha
       have ha' : allowsB k (twAt ts s.gone) = true := by simpa using ha
       obtain ⟨hk0, hkm⟩ := allows_kids ha';have hkk := kind_most hk;rw [if_neg (by rintro (c | c); exact hemp c; rw [fd', ha'] at c; cases c), if_neg (by simp)];have hkid : (twAt ts s.gone).kids = (((twAt ts s.gone).kids.toNat : Nat) : Int) := by omega
       have hd : (if s.tooDeep = 0 ∧ 40 ≤ l.length then s.gone else s.tooDeep) = (nextS s (l.length + 1)).tooDeep := by
         unfold nextS;dsimp only;by_cases c : s.tooDeep = 0 ∧ 40 ≤ l.length
         · rw [if_pos c, if_pos ⟨by omega, c.1⟩]
         · rw [if_neg c, if_neg (fun e => c ⟨e.2, by omega⟩)]
       rw [hd];rw [hkid] at h;have := kids_mach ts k (twAt ts s.gone).op hk (twAt ts s.gone).kids.toNat (fun c => by have := hkk.2.2 c; omega) l (passF fuel ts (l.length + 1 + 1)) s.gone
         (fun t t' b' u ht htl ht0 htb => by
           obtain ⟨x1, x2, x3⟩ := pass_mach fuel (u :: l) t t' b' ht (by omega) htl (fun c => by cases c) htb;exact ⟨by omega, x2, x3⟩) _ 0 (nextS s (l.length + 1)) s' b h (by omega) (Nat.lt_succ_self _) h2
       obtain ⟨y1, y2, y3⟩ := this;have y1' : s.gone + 1 ≤ s'.gone := y1;exact ⟨by have := Bool.toNat_le b; omega, y2, y3⟩
def docF (ts : List Tw) : Nat × Int := if 2048 < ts.length then (0, 2) else machAt ts 0 [] 0
include hop in
theorem doc_look : docF ts = ((lookF ts).1, (lookF ts).2.2) := by
 unfold docF lookF;by_cases h1 : 2048 < ts.length
 · rw [if_pos h1, if_pos h1]
 · rw [if_neg h1, if_neg h1]
   by_cases h0 : ts.length = 0
   · rw [if_pos h0]
     have e := machAt_end ts [] 0;rw [h0] at e;rw [e];rfl
   · rw [if_neg h0]
     rcases hq : passF ts.length ts 1 ⟨0, 0, 0⟩ with ⟨b, s'⟩
     obtain ⟨a1, a2, a3⟩ := pass_mach ts hop ts.length [] ⟨0, 0, 0⟩ s' b hq (Nat.sub_le _ _) (by show 0 < _; omega) (fun _ => rfl) rfl;have a3' : machAt ts 0 [] 0 = _ := a3;rw [a3'];cases b with
     | false =>
       rw [if_neg (show ¬ (false = true) by decide), if_pos (Or.inl rfl)]
     | true =>
       rw [if_pos rfl];have a1' : 0 + 1 ≤ s'.gone := a1;by_cases hg : s'.gone < ts.length
       · rw [if_pos (Or.inr hg)]
         show machAt ts s'.gone [] s'.tooDeep = _
         rw [machAt_step hg, if_pos (.inl ⟨by omega, rfl⟩)]
       · have e : s'.gone = ts.length := by omega
         rw [if_neg (by rintro (c | c); cases c; exact hg c)];show machAt ts s'.gone [] s'.tooDeep = _
         rw [e, machAt_end];unfold machEnd;rw [if_neg (by rintro (c | c); exact h0 c; exact c rfl)];by_cases hd : 0 < s'.tooDeep
         · rw [if_pos hd, if_pos hd]
         · rw [if_neg hd, if_neg hd]
end
end Go.Proofs.YtngbekhegnmfaaaGreatDoor
namespace Go.Proofs.YtngbekhegnmfaaaGreatDoor
open Go.RowKit Go.Shelf Tok
def goodTop (L : List Op3) (op : Nat) : Prop := match L with
 | [] => True
 | u :: _ => partR u.op u.came u.n op = true
def RT (us : List Tw) (op : Nat) : Prop := (∃ x r, us = x :: r ∧ x.op = op) ∧ ∀ (pre suf : List Tw) (L : List Op3) (d : Nat), (L = [] → pre = []) → (pre ++ us ++ suf).length ≤ 2048 → goodTop L op →
 ∃ d', machAt (pre ++ us ++ suf) pre.length L d = machAt (pre ++ us ++ suf) (pre.length + us.length) (popTop L) d'
def flatP (ps : List (List Tw × Nat)) : List Tw := (ps.map Prod.fst).flatten
theorem flatP_cons (x : List Tw × Nat) (r : List (List Tw × Nat)) : flatP (x :: r) = x.1 ++ flatP r := rfl
theorem flatP_append (a b : List (List Tw × Nat)) : flatP (a ++ b) = flatP a ++ flatP b := by
 unfold flatP;rw [List.map_append, List.flatten_append]
theorem flatP_len {ps : List (List Tw × Nat)} (h : ∀ x ∈ ps, RT x.1 x.2) : ps.length ≤ (flatP ps).length := by
 induction ps with
 | nil => exact Nat.le_refl _
 | cons x r ih =>
   obtain ⟨y, s, e, _⟩ := (h x (by simp)).1;have := ih (fun z hz => h z (List.mem_cons_of_mem _ hz));rw [flatP_cons, List.length_append, e, List.length_cons, List.length_cons];omega
theorem kids_run (op n : Nat) : ∀ (rest : List (List Tw × Nat)) (p : Nat), p + rest.length = n → (∀ x ∈ rest, RT x.1 x.2) → (∀ k (h : k < rest.length), partR op ((p + k : Nat) : Int) (n : Int) (rest[k]).2 = true) →
   ∀ (pre suf : List Tw) (L : List Op3) (d : Nat), (pre ++ flatP rest ++ suf).length ≤ 2048 → ∃ d', machAt (pre ++ flatP rest ++ suf) pre.length (popF (⟨op, p, n⟩ :: L)) d = machAt (pre ++ flatP rest ++ suf) (pre.length + (flatP rest).length) (popTop L) d'
 | [], p, hp, _, _, pre, suf, L, d, _ => by
   refine ⟨d, ?_⟩;rw [popF_whole _ _ (show p = n by simpa using hp)];rfl
 | (u, o) :: rest, p, hp, hr, hk, pre, suf, L, d, hl => by
   rw [List.length_cons] at hp;rw [popF_not _ _ (show p ≠ n by omega)];have h0 := hk 0 (by simp);obtain ⟨d1, h1⟩ := (hr (u, o) (by simp)).2 pre (flatP rest ++ suf) (⟨op, p, n⟩ :: L) d (fun e => by cases e) (by
     rw [flatP_cons] at hl
     simpa [List.append_assoc] using hl) (by simpa [goodTop] using h0)
   have e1 : pre ++ flatP ((u, o) :: rest) ++ suf = pre ++ u ++ (flatP rest ++ suf) := by rw [flatP_cons]; simp [List.append_assoc]
   have e2 : pre ++ u ++ (flatP rest ++ suf) = (pre ++ u) ++ flatP rest ++ suf := by simp [List.append_assoc]
   obtain ⟨d2, h2⟩ := kids_run op n rest (p + 1) (by omega) (fun x hx => hr x (List.mem_cons_of_mem _ hx)) (fun k h => by
     have := hk (k + 1) (by simpa using h);rw [show p + 1 + k = p + (k + 1) by omega]
     simpa using this) (pre ++ u) suf L d1 (by rw [← e2, ← e1]; exact hl)
   refine ⟨d2, ?_⟩;rw [e1, h1, e2, show pre.length + u.length = (pre ++ u).length by simp];have h3 : popTop (⟨op, p, n⟩ :: L) = popF (⟨op, p + 1, n⟩ :: L) := rfl;rw [h3, h2, flatP_cons]
   congr 1
   simp only [List.length_append];omega
theorem RT_node {op : Nat} {num : Int} {text : List UInt8} {ps : List (List Tw × Nat)} (hf : ps.length ≤ 2048 → fineB ⟨op, (ps.length : Int), num, text⟩ = true) (hr : ∀ x ∈ ps, RT x.1 x.2)
   (hp : ∀ k (h : k < ps.length), partR op (k : Int) (ps.length : Int) (ps[k]).2 = true) : RT (⟨op, (ps.length : Int), num, text⟩ :: flatP ps) op := by
 refine ⟨⟨_, _, rfl, rfl⟩, fun pre suf L d hL hl hg => ?_⟩;have hlen : pre.length < (pre ++ (⟨op, (ps.length : Int), num, text⟩ :: flatP ps) ++ suf).length := by simp only [List.length_append, List.length_cons]; omega
 have htw : twAt (pre ++ (⟨op, (ps.length : Int), num, text⟩ :: flatP ps) ++ suf) pre.length = ⟨op, (ps.length : Int), num, text⟩ := by
   unfold twAt;rw [List.getD_eq_getElem?_getD, List.append_assoc, List.getElem?_append_right (Nat.le_refl _), Nat.sub_self];rfl
 have hm := flatP_len hr;have hfin := hf (by simp only [List.length_append, List.length_cons] at hl; omega);rw [machAt_step hlen, htw, if_neg (by
   rintro (c | c)
   · have := hL c.2
     rw [this] at c;simp at c
   · rw [hfin] at c; cases c), if_neg (by
   cases L with
   | nil => simp [topBad]
   | cons u r =>
     have : partR u.op u.came u.n op = true := hg;simp [topBad, this])]
 dsimp only;rw [Int.toNat_natCast];have e1 : pre ++ (⟨op, (ps.length : Int), num, text⟩ :: flatP ps) ++ suf = (pre ++ [⟨op, (ps.length : Int), num, text⟩]) ++ flatP ps ++ suf := by simp [List.append_assoc]
 obtain ⟨d', h'⟩ := kids_run op ps.length ps 0 (by omega) hr (fun k h => by rw [Nat.zero_add]; exact hp k h) (pre ++ [⟨op, (ps.length : Int), num, text⟩]) suf L (if d = 0 ∧ 40 ≤ L.length then pre.length else d) (by rw [← e1]; exact hl);refine ⟨d', ?_⟩;rw [e1, show pre.length + 1 = (pre ++ [(⟨op, (ps.length : Int), num, text⟩ : Tw)]).length by simp, h']
 congr 1
 simp only [List.length_append, List.length_cons, List.length_nil];omega
theorem RT_check {us : List Tw} {op : Nat} (h : RT us op) : (docF us).2 = 0 ∨ (docF us).2 = 2 := by
 unfold docF;split
 · exact .inr rfl
 · rename_i hl
   obtain ⟨⟨x, r, e, _⟩, h2⟩ := h;obtain ⟨d', h'⟩ := h2 [] [] [] 0 (fun _ => rfl) (by simpa using Nat.not_lt.1 hl) trivial;rw [List.nil_append, List.append_nil] at h';have h3 : machAt us 0 [] 0 = machAt us (0 + us.length) (popTop []) d' := h';rw [h3, Nat.zero_add];have h4 : popTop [] = [] := rfl;rw [h4, machAt_end];unfold machEnd;rw [if_neg (by rintro (c | c); (rw [e] at c; simp at c); exact c rfl)];split
   · exact .inr rfl
   · exact .inl rfl
def Trees (c : Ch) (P : List Nat → Prop) : Prop := ∃ ps : List (List Tw × Nat), c.ts = flatP ps ∧ c.n = ps.length ∧ (∀ x ∈ ps, RT x.1 x.2) ∧ P (ps.map Prod.snd)
theorem Trees.then {c d : Ch} {P Q R : List Nat → Prop} (hc : Trees c P) (hd : Trees d Q) (h : ∀ a b, P a → Q b → R (a ++ b)) : Trees (c.then d) R := by
 obtain ⟨ps, e1, e2, e3, e4⟩ := hc;obtain ⟨qs, f1, f2, f3, f4⟩ := hd;refine ⟨ps ++ qs, by unfold Ch.then; rw [flatP_append, ← e1, ← f1], by unfold Ch.then; rw [List.length_append, ← e2, ← f2], fun x hx => ?_, by rw [List.map_append]; exact h _ _ e4 f4⟩;rcases List.mem_append.1 hx with hx | hx
 · exact e3 x hx
 · exact f3 x hx
theorem Trees.mono {c : Ch} {P Q : List Nat → Prop} (hc : Trees c P) (h : ∀ l, P l → Q l) : Trees c Q := by
 obtain ⟨ps, e1, e2, e3, e4⟩ := hc;exact ⟨ps, e1, e2, e3, h _ e4⟩
theorem Trees.none : Trees Ch.none (fun l => l = []) := by
 refine ⟨[], rfl, rfl, ?_, rfl⟩;intro x hx;cases hx
theorem Trees.under {c : Ch} {P : List Nat → Prop} {op num : Nat} {text : List UInt8} (hc : Trees c P) (h : ∀ l, P l → (l.length ≤ 2048 → fineB ⟨op, (l.length : Int), (num : Int), text⟩ = true) ∧ ∀ k (h : k < l.length), partR op (k : Int) (l.length : Int) l[k] = true) : Trees (c.under op num text) (fun l => l = [op]) := by
 obtain ⟨ps, e1, e2, e3, e4⟩ := hc;obtain ⟨h1, h2⟩ := h _ e4;rw [List.length_map] at h1;refine ⟨[(⟨op, (ps.length : Int), (num : Int), text⟩ :: flatP ps, op)], ?_, rfl, fun x hx => ?_, rfl⟩
 · unfold Ch.under
   rw [e1, e2];simp [flatP]
 · rw [List.mem_singleton] at hx
   subst hx;refine RT_node h1 e3 (fun k hk => ?_);have := h2 k (by rw [List.length_map]; exact hk)
   simpa only [List.length_map, List.getElem_map] using this
def oneE (l : List Nat) : Prop := ∃ o, l = [o] ∧ exprB o = true
def oneS (l : List Nat) : Prop := ∃ o, l = [o] ∧ stmtB o = true
def allE (l : List Nat) : Prop := ∀ o ∈ l, exprB o = true
def allS (l : List Nat) : Prop := ∀ o ∈ l, stmtB o = true
def allP (l : List Nat) : Prop := ∀ o ∈ l, o = 2
def itemS : NT → List Nat → Prop
 | .param => allP
 | _ => allE
def NT.shape : NT → List Nat → Prop
 | .flow => fun l => l = [1]
 | .param => fun l => l = [2]
 | .block => fun l => l = [3]
 | .stmts | .stmtsGo _ => allS
 | .stmt | .set _ | .choice => oneS
 | .two => fun l => ∃ o p, l = [o, p] ∧ exprB o = true ∧ exprB p = true
 | .list _ p _ | .listGo p _ _ => itemS p
 | .between _ p _ => (match p with | .stmts => allS | .two => fun l => ∃ o p, l = [o, p] ∧ exprB o = true ∧ exprB p = true | _ => oneE)
 | _ => oneE
def NT.bears : NT → Prop
 | .stmtsGo a => Trees a allS
 | .listGo p _ a => Trees a (itemS p)
 | .rowGo _ ms a => Trees a oneE ∧ ∀ m ∈ ms, 30 ≤ opOfT m ∧ opOfT m ≤ 40
 | .row _ ms => ∀ m ∈ ms, 30 ≤ opOfT m ∧ opOfT m ≤ 40
 | .postGo a => Trees a oneE
 | .set op => op = 4 ∨ op = 5
 | _ => True
def TokOK (x : Tk) : Prop := (x.kind = 1 → textOK 1 x.text = true ∨ kwB x.text = true) ∧ (x.kind = 3 → textOK 2 x.text = true)
theorem and_ok {α β : Type} {s : St α} {f : α → Nat → St β} {c : β} {j : Nat} (h : s.and f = .ok c j) : ∃ a k, s = .ok a k ∧ f a k = .ok c j := by
 cases s with
 | ok a k => exact ⟨a, k, rfl, h⟩
 | bad k => cases h
 | out => cases h
theorem own_txt {ks : List Tk} (hk : ∀ x ∈ ks, TokOK x) {i j : Nat} {nm : List UInt8} (h : ownT ks i = .ok nm j) : textOK 1 nm = true := by
 unfold ownT at h;split at h
 · rename_i x hx
   split at h
   · rename_i hc
     cases h
     rcases (hk x (List.mem_of_getElem? hx)).1 hc.1 with h1 | h1
     · exact h1
     · rw [hc.2] at h1; cases h1
   · cases h
 · cases h
theorem ok_inj {α : Type} {a b : α} {i j : Nat} (h : St.ok a i = St.ok b j) : a = b := by cases h; rfl
theorem node_two {op : Nat} (h0 : fineB ⟨op, 2, 0, []⟩ = true) (hp : ∀ i o, exprB o = true → partR op i 2 o = true) : ∀ l, (∃ o p, l = [o, p] ∧ exprB o = true ∧ exprB p = true) → (l.length ≤ 2048 → fineB ⟨op, (l.length : Int), ((0 : Nat) : Int), []⟩ = true) ∧ ∀ k (h : k < l.length), partR op (k : Int) (l.length : Int) l[k] = true := by
 rintro l ⟨o, p, rfl, ho, hpp⟩;refine ⟨fun _ => h0, fun k hk => ?_⟩;simp only [List.length_cons, List.length_nil] at hk;rcases (show k = 0 ∨ k = 1 by omega) with rfl | rfl
 · exact hp _ o ho
 · exact hp _ p hpp
theorem part_expr {op : Nat} (h1 : op ≠ 1) (h3 : op ≠ 3) (h6 : op ≠ 6) (h7 : op ≠ 7) (h53 : op ≠ 53) (i n : Int) (o : Nat) (ho : exprB o = true) : partR op i n o = true := by
 unfold partR;rw [if_neg h1, if_neg h3, if_neg (by rintro ⟨c | c, _⟩; exact h6 c; exact h7 c), if_neg h53];exact ho
theorem two_fine : ∀ op, 30 ≤ op → op ≤ 42 → fineB ⟨op, 2, 0, []⟩ = true := by
 have h : ∀ op, op < 43 → (if 30 ≤ op then fineB ⟨op, 2, 0, []⟩ else true) = true := by decide +kernel
 intro op h1 h2;have := h op (by omega)
 rwa [if_pos h1] at this
theorem two_ok {a b : Ch} (ha : Trees a oneE) (hb : Trees b oneE) {op : Nat} (h1 : 30 ≤ op) (h2 : op ≤ 42) : Trees ((a.then b).under op 0 []) oneE := by
 refine ((ha.then hb (R := fun l => ∃ o p, l = [o, p] ∧ exprB o = true ∧ exprB p = true) ?_).under (node_two (two_fine op h1 h2) (fun i o ho => part_expr (by omega) (by omega) (by omega) (by omega) (by omega) i 2 o ho))).mono ?_
 · rintro x y ⟨o, rfl, ho⟩ ⟨p, rfl, hp⟩
   exact ⟨o, p, rfl, ho, hp⟩
 · rintro l rfl
   exact ⟨op, rfl, by unfold exprB; simp; omega⟩
end Go.Proofs.YtngbekhegnmfaaaGreatDoor
namespace Go.Proofs.YtngbekhegnmfaaaGreatDoor
open Go.RowKit Tok
theorem span_take {p : UInt8 → Bool} : ∀ l : List UInt8, (l.take (span p l)).all p = true ∧ span p l ≤ l.length
 | [] => ⟨rfl, Nat.le_refl _⟩
 | c :: l => by
   unfold span;split
   · rename_i h
     obtain ⟨h1, h2⟩ := span_take (p := p) l;refine ⟨?_, by simp; omega⟩;rw [List.take_succ_cons, List.all_cons, h, h1];rfl
   · exact ⟨rfl, Nat.zero_le _⟩
theorem textGo_told : ∀ (k : Nat) (l acc : List UInt8) (n : Nat) {kd : Nat} {tx : List UInt8} {x i : Nat}, acc.length ≤ 4095 → textGo k l acc n = .ok kd tx x i → kd = 3 ∧ tx.length ≤ 4095 ∧ x = 0
 | 0, _, _, _, _, _, _, _, _, h => by unfold textGo at h; cases h
 | k + 1, l, acc, n, kd, tx, x, i, ha, h => by
   unfold textGo at h
   match l, h with
   | [], h => cases h
   | c :: r, h =>
     dsimp only at h;split at h
     · cases h; exact ⟨rfl, ha, rfl⟩
     · cases hi : itemT c r with
       | bad j e => rw [hi] at h; cases h
       | ok b j =>
         rw [hi] at h;dsimp only at h;split at h
         · cases h
         · exact textGo_told k _ _ _ (by rw [List.length_append, List.length_singleton]; omega) h
theorem signGo_told : ∀ (ss : List (List UInt8)) (l : List UInt8) {kd : Nat} {tx : List UInt8} {x i : Nat}, signGo ss l = .ok kd tx x i → kd = 4 ∧ tx ∈ ss ∧ x = 0
 | [], l, _, _, _, _, h => (noneT_bad l h).elim
 | s :: ss, l, _, _, _, _, h => by
   unfold signGo at h;split at h
   · cases h; exact ⟨rfl, List.mem_cons_self, rfl⟩
   · obtain ⟨h1, h2, h3⟩ := signGo_told ss l h
     exact ⟨h1, List.mem_cons_of_mem _ h2, h3⟩
def GoodTk (t : Tk) : Prop := told (toG t) = true ∧ t.num ≤ 9223372036854775807 ∧ TokOK t
theorem tokT_good {c : UInt8} {r : List UInt8} {kd : Nat} {tx : List UInt8} {x i : Nat} (n : Nat) (h : tokT (c :: r) = .ok kd tx x i) : GoodTk ⟨kd, tx, x, n⟩ := by
 rw [tokT_cons] at h;by_cases h1 : lowC c = true
 · rw [if_pos h1] at h
   unfold wordT at h;split at h
   · cases h
   · rename_i hs
     cases h
     have hw : span wordC (c :: r) = span wordC r + 1 := by
       show (if wordC c = true then span wordC r + 1 else 0) = _
       rw [if_pos (low_word h1)]
     have hn : nameL ((c :: r).take (span wordC (c :: r))) = true := by
       rw [hw, List.take_succ_cons];unfold nameL;dsimp only;obtain ⟨a1, a2⟩ := span_take (p := wordC) r;rw [Bool.and_eq_true, Bool.and_eq_true];refine ⟨⟨decide_eq_true (by rw [List.length_take]; omega), h1⟩, a1⟩
     refine ⟨?_, Nat.zero_le _, ?_, ?_⟩
     · unfold told toG
       dsimp only;rw [if_pos rfl, hn];rfl
     · intro _
       by_cases hk : kwB ((c :: r).take (span wordC (c :: r))) = true
       · exact .inr hk
       · refine .inl ?_
         unfold textOK;rw [if_neg (by decide), if_pos rfl];unfold ownL;simp [hn, hk]
     · intro e; exact absurd e (by dsimp only; decide)
 · rw [if_neg h1] at h
   by_cases h2 : digC c = true
   · rw [if_pos h2] at h
     unfold numT at h;split at h
     · cases h
     · rename_i hx
       have hh : kd = 2 ∧ tx = [] ∧ x = numV ((c :: r).take (numN (c :: r))) := by
         split at h
         · cases h; exact ⟨rfl, rfl, rfl⟩
         · split at h
           · cases h
           · cases h; exact ⟨rfl, rfl, rfl⟩
       obtain ⟨rfl, rfl, rfl⟩ := hh;refine ⟨?_, by dsimp only; omega, ⟨fun e => absurd e (by dsimp only; decide), fun e => absurd e (by dsimp only; decide)⟩⟩;unfold told toG;dsimp only;rw [if_neg (by decide), if_pos rfl];simp
   · rw [if_neg h2] at h
     by_cases h3 : c.toNat = 34
     · rw [if_pos h3] at h
       obtain ⟨rfl, a2, rfl⟩ := textGo_told _ _ _ _ (Nat.zero_le _) h;refine ⟨?_, Nat.zero_le _, ⟨fun e => absurd e (by dsimp only; decide), fun _ => ?_⟩⟩
       · unfold told toG
         dsimp only;rw [if_neg (by decide), if_neg (by decide), if_pos rfl];simp [a2]
       · unfold textOK
         rw [if_neg (by decide), if_neg (by decide)];exact decide_eq_true a2
     · rw [if_neg h3] at h
       obtain ⟨rfl, a2, rfl⟩ := signGo_told _ _ h;refine ⟨?_, Nat.zero_le _, ⟨fun e => absurd e (by dsimp only; decide), fun e => absurd e (by dsimp only; decide)⟩⟩;unfold told toG;dsimp only;rw [if_neg (by decide), if_neg (by decide), if_neg (by decide), if_pos rfl];simp [a2]
theorem allGo_good : ∀ (k : Nat) (l : List UInt8) (n : Nat) (ts ks : List Tk), (∀ t ∈ ts, GoodTk t ∧ t.at_ ≤ n) → allGo k l n ts = ⟨ks, 0, 0⟩ → l.length < k → ∀ t ∈ ks, GoodTk t ∧ t.at_ < n + l.length ∨ t ∈ ts
 | 0, l, n, ts, ks, _, h, hl => by omega
 | k + 1, l, n, ts, ks, ht, h, hl => by
   unfold allGo at h
   match l, h, hl with
   | [], h, _ => cases h; exact fun t ht => .inr ht
   | c :: r, h, hl =>
     rw [List.length_cons] at hl;dsimp only at h;split at h
     · intro t hm
       rcases allGo_good k r (n + 1) ts ks (fun t hm => ⟨(ht t hm).1, by have := (ht t hm).2; omega⟩) h (by omega) t hm with h1 | h1
       · exact .inl ⟨h1.1, by have := h1.2; rw [List.length_cons]; omega⟩
       · exact .inr h1
     · split at h
       · intro t hm
         have hle := toLine_le r;rcases allGo_good k _ _ ts ks (fun t hm => ⟨(ht t hm).1, by have := (ht t hm).2; omega⟩) h (by omega) t hm with h1 | h1
         · exact .inl ⟨h1.1, by have := h1.2; rw [List.length_cons]; omega⟩
         · exact .inr h1
       · cases hi : tokT (c :: r) with
         | bad i e =>
           rw [hi] at h;injection h with h _ _;subst h;intro t hm;cases hm
         | ok kd tx x i =>
           rw [hi] at h;dsimp only at h;have hp := tokT_pos hi;intro t hm;by_cases hir : i ≤ r.length + 1
           · rcases allGo_good k _ _ _ ks (fun t hm => by
               rcases List.mem_append.1 hm with hm | hm
               · exact ⟨(ht t hm).1, by have := (ht t hm).2; omega⟩
               · simp at hm; rw [hm]; exact ⟨tokT_good n hi, by dsimp only; omega⟩) h (by rw [List.length_drop, List.length_cons]; omega) t hm with h1 | h1
             · refine .inl ⟨h1.1, ?_⟩
               have := h1.2;rw [List.length_drop, List.length_cons] at this;rw [List.length_cons];omega
             · rcases List.mem_append.1 h1 with hm | hm
               · exact .inr hm
               · simp at hm
                 rw [hm];exact .inl ⟨tokT_good n hi, by dsimp only; rw [List.length_cons]; omega⟩
           · rw [List.drop_of_length_le (by rw [List.length_cons]; omega)] at h
             have h2 : allGo k [] (n + i) (ts ++ [⟨kd, tx, x, n⟩]) = ⟨ts ++ [⟨kd, tx, x, n⟩], 0, 0⟩ := by
               cases k with
               | zero => rfl
               | succ k => rfl
             rw [h2] at h;cases h
             rcases List.mem_append.1 hm with hm | hm
             · exact .inr hm
             · simp at hm
               rw [hm];exact .inl ⟨tokT_good n hi, by dsimp only; rw [List.length_cons]; omega⟩
theorem allT_good {s : List UInt8} {ks : List Tk} (h : allT s = ⟨ks, 0, 0⟩) : ∀ t ∈ ks, GoodTk t ∧ t.at_ < s.length := by
 unfold allT at h;split at h
 · cases h
 · intro t ht
   rcases allGo_good _ s 0 [] ks (fun t ht => by cases ht) h (by omega) t ht with h1 | h1
   · exact ⟨h1.1, by have := h1.2; omega⟩
   · cases h1
end Go.Proofs.YtngbekhegnmfaaaGreatDoor
namespace Go.Proofs.YtngbekhegnmfaaaGreatDoor
open Go.RowKit Go.Shelf Tok
theorem good_words {x : Tk} (h : GoodTk x) : (x.kind = 1 → x.text ≠ B.lsq ∧ x.text ≠ B.opn) ∧ (x.kind = 4 → plainT x.text = 0 ∧ aroundT x.text = 0) := by
 obtain ⟨h1, _, h3, _⟩ := h;refine ⟨fun e => ?_, fun e => ?_⟩
 · have := h3 e
   refine ⟨fun e => ?_, fun e => ?_⟩ <;> (rw [e] at this; exact absurd this (by decide))
 · unfold told toG at h1
   rw [e] at h1;dsimp only at h1;have hs : x.text ∈ signs := by
     simp only [show ((4 : Nat) = 1) = False from by simp, show ((4 : Nat) = 2) = False from by simp, show ((4 : Nat) = 3) = False from by simp, if_false, if_true] at h1;rw [Bool.and_eq_true] at h1;exact of_decide_eq_true h1.1
   have hd : ∀ m ∈ signs, plainT m = 0 ∧ aroundT m = 0 := by decide
   exact hd _ hs
theorem words_ok {ks : List Tk} (h : ∀ x ∈ ks, GoodTk x) : WordsOK ks := by
 intro i hi;rw [tkAt_get hi];exact good_words (h _ (List.getElem_mem hi))
end Go.Proofs.YtngbekhegnmfaaaGreatDoor
namespace Go.Proofs.YtngbekhegnmfaaaGreatDoor
open Go.RowKit Tok
set_option maxHeartbeats 400000 in
theorem refLow_any (c : UInt8) (w : World) : Calls Tryz.prog 111 #[.int .u8 (c.toNat : Int)] w fun e w' => e = .returned (.bool (lowC c)) ∧ w' = w := by
 obtain ⟨B, hB⟩ := exHid (lowC c);rw [hB.out];rcases between_any (B := B) (a := 97) (b := 122) (by rw [← hB.out]; rfl) with ⟨h1, h2⟩ | ⟨h1, h2⟩
 all_goals
   replace h2 := Lib.hid h2;go_enter Tryz.func111, Tryz.ntmps111
   go_wp2
   go_ret
   exact ⟨ret_bool (by rw [h2.out]; try rfl), rfl⟩
set_option maxHeartbeats 400000 in
theorem refDig_any (c : UInt8) (w : World) : Calls Tryz.prog 113 #[.int .u8 (c.toNat : Int)] w fun e w' => e = .returned (.bool (digC c)) ∧ w' = w := by
 obtain ⟨B, hB⟩ := exHid (digC c);rw [hB.out];rcases between_any (B := B) (a := 48) (b := 57) (by rw [← hB.out]; rfl) with ⟨h1, h2⟩ | ⟨h1, h2⟩
 all_goals
   replace h2 := Lib.hid h2;go_enter Tryz.func113, Tryz.ntmps113
   go_wp2
   go_ret
   exact ⟨ret_bool (by rw [h2.out]; try rfl), rfl⟩
def toldV (kd : Nat) (tx : List UInt8) (x at_ en a e : Nat) : Value := .agg #[.int .u8 kd, .string ⟨tx.toArray⟩, .int .i64 x, .int .i64 at_, .int .i64 en, .int .i64 a, .int .i64 e]
def resT (i : Nat) : Res → Value
 | .ok kd tx x n => toldV kd tx x i (i + n) 0 0
 | .bad n e => toldV 0 [] 0 0 0 (i + n) e
set_option maxHeartbeats 400000 in
theorem refWrong_any (a e : Nat) (w : World) : Calls Tryz.prog 140 #[.int .i64 a, .int .i64 e] w fun r w' => r = .returned (.agg #[.int .u8 0, .string ⟨#[]⟩, .int .i64 0, .int .i64 0, .int .i64 0, .int .i64 a, .int .i64 e]) ∧ w' = w.alloc (.cells #[.int .u8 0, .string ⟨#[]⟩, .int .i64 0, .int .i64 0, .int .i64 0, .int .i64 a, .int .i64 e] 107) := by
 go_enter Tryz.func140, Tryz.ntmps140
 go_wp2
 go_returns
 exact ⟨rfl, rfl⟩
theorem drop_get {s : ByteArray} {i j : Nat} (h : j < (s.data.toList.drop i).length) : ∃ hi : i + j < s.size, (s.data.toList.drop i)[j] = s[i + j] := by
 have hl : (s.data.toList.drop i).length = s.size - i := by rw [List.length_drop, size_list]
 refine ⟨by omega, ?_⟩;rw [List.getElem_drop];rfl
theorem span_yes_at {p : UInt8 → Bool} {s : ByteArray} {i j : Nat} (h : j < span p (s.data.toList.drop i)) : ∃ hi : i + j < s.size, p s[i + j] = true := by
 have hl := Nat.lt_of_lt_of_le h (span_le (p := p) (s.data.toList.drop i));obtain ⟨hi, e⟩ := drop_get hl;have h2 := span_in _ _ h;rw [e] at h2;exact ⟨hi, h2⟩
theorem span_no_at {p : UInt8 → Bool} {s : ByteArray} {i j : Nat} (h : j = span p (s.data.toList.drop i)) (hi : i + j < s.size) : p s[i + j] = false := by
 have hl : (s.data.toList.drop i).length = s.size - i := by rw [List.length_drop, size_list]
 subst h;have h1 : span p (s.data.toList.drop i) < (s.data.toList.drop i).length := by omega
 have h2 := span_out _ h1;obtain ⟨_, e⟩ := drop_get h1;rw [e] at h2;exact h2
theorem extract_piece (s : ByteArray) (i n : Nat) : s.extract i (i + n) = ⟨((s.data.toList.drop i).take n).toArray⟩ := by
 rw [Lib.extract_eq]
 congr 1
 rw [show i + n - i = n by omega]
def RefW (c : UInt8) (b : Bool) : Prop := (lowC c = true ∧ b = true) ∨ (lowC c = false ∧ digC c = true ∧ b = true) ∨ (lowC c = false ∧ digC c = false ∧ ((c.toNat : Int) == 95) = true ∧ b = true) ∨ (lowC c = false ∧ digC c = false ∧ ((c.toNat : Int) == 95) = false ∧ b = false)
theorem refW_of {c : UInt8} {b : Bool} (h : wordC c = b) : RefW c b := by
 subst h;rcases word_iff c with ⟨h1, hW⟩ | ⟨h1, h2, hW⟩ | ⟨h1, h2, h3, hW⟩ | ⟨h1, h2, h3, hW⟩
 · exact .inl ⟨h1, hW⟩
 · exact .inr (.inl ⟨h1, h2, hW⟩)
 · exact .inr (.inr (.inl ⟨h1, h2, by rw [h3]; rfl, hW⟩))
 · exact .inr (.inr (.inr ⟨h1, h2, beq_eq_false_iff_ne.2 (by omega), hW⟩))
set_option maxRecDepth 20000 in
set_option maxHeartbeats 2000000 in
theorem refWord_any (s : ByteArray) (i : Nat) (w : World) (hs : s.size ≤ 1000000) (hi : i ≤ s.size) :
   Calls Tryz.prog 112 #[.string s, .int .i64 i] w fun e w' => e = .returned (resT i (wordT (s.data.toList.drop i))) ∧ Below w.heap.size w w' := by
 have hyes := Lib.hid (fun j => span_yes_at (p := wordC) (s := s) (i := i) (j := j));have hno := Lib.hid (fun j => span_no_at (p := wordC) (s := s) (i := i) (j := j));have hle := span_le (p := wordC) (s.data.toList.drop i);rw [List.length_drop, size_list] at hle;have hV : (∀ n, span wordC (s.data.toList.drop i) = n → (24 < n → resT i (wordT (s.data.toList.drop i)) = toldV 0 [] 0 0 0 i 2) ∧ (¬ 24 < n → resT i (wordT (s.data.toList.drop i)) = toldV 1 ((s.data.toList.drop i).take n) 0 i (i + n) 0 0)) := by
   rintro n rfl;unfold wordT;exact ⟨fun h => by rw [if_pos h]; rfl, fun h => by rw [if_neg h]; rfl⟩
 obtain ⟨V, hVe⟩ := exHid (resT i (wordT (s.data.toList.drop i)));rw [hVe.out] at hV ⊢;replace hV := Lib.hid (hV _ rfl);generalize span wordC (s.data.toList.drop i) = n at *;have hx := Lib.hid (extract_piece s i n);go_enter Tryz.func112, Tryz.ntmps112
 go_wp2
 go_loop [5] (fun t5 => ∃ j : Nat, j ≤ n ∧ t5 = .int .i64 ((i + j : Nat) : Int)) (fun t5 => i + n - (intOf t5).toNat)
 case atStart => exact ⟨0, by omega, rfl⟩
 case round =>
   obtain ⟨j, hj, rfl⟩ := hrel;rcases Nat.lt_or_ge j n with hlt | hge
   · obtain ⟨hi2, hp⟩ := hyes.out j hlt
     have hi3 : ((i + j : Nat) : Int) < (s.size : Int) := by omega
     generalize hq : i + j = q at *;rcases refW_of hp with ⟨h1, -⟩ | ⟨h1, h2, -⟩ | ⟨h1, h2, h3, -⟩ | ⟨_, _, _, h4⟩
     case inr.inr.inr => cases h4
     all_goals
       have k1 := Lib.hid (fun W => calls_at (refLow_any s[q] W) h1)
       try have k2 := Lib.hid (fun W => calls_at (refDig_any s[q] W) h2)
       clear hp;go_wp2_with (first | (with_reducible refine (k1.out _).mono ?_; rintro e w' ⟨rfl, rfl⟩) | (with_reducible refine (k2.out _).mono ?_; rintro e w' ⟨rfl, rfl⟩))
       go_round
       case rel => exact ⟨j + 1, by omega, by rw [show i + (j + 1) = q + 1 by omega]; go_num⟩
       case measure => simp [intOf]; omega
   · obtain rfl : j = n := by omega
     have h24s : (24 < j ∧ (24 : Int) < ((i + j : Nat) : Int) - (i : Int)) ∨ (¬ 24 < j ∧ ¬ (24 : Int) < ((i + j : Nat) : Int) - (i : Int)) := by omega
     rcases Nat.lt_or_ge (i + j) s.size with hi2 | hi2
     · have hp := hno.out j rfl hi2
       have hi3 : ((i + j : Nat) : Int) < (s.size : Int) := by omega
       rcases refW_of hp with ⟨_, h4⟩ | ⟨_, _, h4⟩ | ⟨_, _, _, h4⟩ | ⟨h1, h2, h3, -⟩
       case inl => cases h4
       case inr.inl => cases h4
       case inr.inr.inl => cases h4
       rcases h24s with ⟨h24, h24i⟩ | ⟨h24, h24i⟩
       · have hr := Lib.hid (hV.out.1 h24)
         clear hV;generalize hq : i + j = q at *;have k1 := Lib.hid (fun W => calls_at (refLow_any s[q] W) h1);have k2 := Lib.hid (fun W => calls_at (refDig_any s[q] W) h2);clear hp;go_wp2_with (first | (with_reducible refine (k1.out _).mono ?_; rintro e w' ⟨rfl, rfl⟩) | (with_reducible refine (k2.out _).mono ?_; rintro e w' ⟨rfl, rfl⟩) | (go_at_call 140; refine (refWrong_any i 2 _).mono ?_; rintro e w' ⟨rfl, rfl⟩))
         go_returns
         exact ⟨by rw [hr.out]; simp [toldV], by go_grown⟩
       · have hr := Lib.hid (hV.out.2 h24)
         clear hV;generalize hq : i + j = q at *;have k1 := Lib.hid (fun W => calls_at (refLow_any s[q] W) h1);have k2 := Lib.hid (fun W => calls_at (refDig_any s[q] W) h2);clear hp;have hiq : (i : Int) ≤ (q : Int) := by omega
         go_wp2_with (first | (with_reducible refine (k1.out _).mono ?_; rintro e w' ⟨rfl, rfl⟩) | (with_reducible refine (k2.out _).mono ?_; rintro e w' ⟨rfl, rfl⟩))
         go_returns
         exact ⟨by rw [hr.out, hx.out]; simp [toldV], by go_grown⟩
     · have hi3 : ¬ ((i + j : Nat) : Int) < (s.size : Int) := by omega
       rcases h24s with ⟨h24, h24i⟩ | ⟨h24, h24i⟩
       · have hr := Lib.hid (hV.out.1 h24)
         clear hV;generalize hq : i + j = q at *;go_wp2_with (go_at_call 140; refine (refWrong_any i 2 _).mono ?_; rintro e w' ⟨rfl, rfl⟩)
         go_returns
         exact ⟨by rw [hr.out]; simp [toldV], by go_grown⟩
       · have hr := Lib.hid (hV.out.2 h24)
         clear hV;have hiq : (i : Int) ≤ ((i + j : Nat) : Int) := by omega
         generalize hq : i + j = q at *;have hqs : (q : Int) ≤ (s.size : Int) := by omega
         go_wp2
         go_returns
         exact ⟨by rw [hr.out, hx.out]; simp [toldV], by go_grown⟩
end Go.Proofs.YtngbekhegnmfaaaGreatDoor
