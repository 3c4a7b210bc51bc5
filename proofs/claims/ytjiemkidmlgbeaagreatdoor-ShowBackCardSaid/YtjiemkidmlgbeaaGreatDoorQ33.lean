/- A part of the proof: ShE, ShF, SbP, SbR, ShO, ShZ0. No condition. -/
import Derived.Test.YtjiemkidmlgbeaaGreatDoorQ11
import Derived.Test.YtjiemkidmlgbeaaGreatDoorQ21
import Derived.Test.YtjiemkidmlgbeaaGreatDoorQ22
import Derived.Test.YtjiemkidmlgbeaaGreatDoorQ30
import Derived.Test.YtjiemkidmlgbeaaGreatDoorQ32
set_option linter.unusedVariables false
set_option linter.unusedSimpArgs false
namespace Go.Proofs.YtjiemkidmlgbeaaGreatDoor
open Go.RowKit Tok
section
variable {ks : List Tk}
theorem all_p : ∀ x k, (Fs.cons x k .nil).ok → Every (AllP ks) k → AllP ks x k := by
 intro x k hok hk;have hL : LeadP x k := lead_all x k hok ((every_of lead_all k hok.2.2.1));have hS : LeadS x k := leadS_of hok;have mk : (exprB x.op = true → RdP ks x k ∧ (leftN (widthN x.op) ∨ widthN x.op = 8 → SpP ks x k)) → (stmtB x.op = true → StP ks x k) → (x.op = 3 → BlP ks x k) → AllP ks x k :=
   fun a b c => ⟨hL, hS, fun e => (a e).1, fun e => (a e).2, b, c⟩
 have noE : ∀ {n : Nat}, exprB n = false → x.op = n → exprB x.op = true → False := fun h e h2 => by rw [e, h] at h2; cases h2
 have noS : ∀ {n : Nat}, stmtB n = false → x.op = n → stmtB x.op = true → False := fun h e h2 => by rw [e, h] at h2; cases h2
 cases hv : view hok with
 | bare op ho =>
   have hw : widthN op = 9 := by rcases ho with rfl | rfl | rfl | rfl <;> decide
   refine mk (fun _ => ⟨rd_prim hw fun i j hl => ?_, no_left (.inl hw)⟩) (fun e => ?_) (fun e => ?_)
   · rw [bare_bare ho] at hl
     exact ev_bare ho hl
   · exact absurd e (show ¬ stmtB op = true by rcases ho with rfl | rfl | rfl | rfl <;> decide)
   · exact absurd (show op = 3 from e) (by omega)
 | int n =>
   refine mk (fun _ => ⟨rd_prim (by show widthN 23 = 9; decide) fun i j hl => ?_, no_left (.inl (by show widthN 23 = 9; decide))⟩) (fun e => absurd e (show ¬ stmtB 23 = true by decide)) (fun e => absurd (show 23 = 3 from e) (by decide));rw [bare_int] at hl;obtain ⟨h1, rfl⟩ := lz_one hl;exact ev_int h1
 | text s h =>
   refine mk (fun _ => ⟨rd_prim (by show widthN 24 = 9; decide) fun i j hl => ?_, no_left (.inl (by show widthN 24 = 9; decide))⟩) (fun e => absurd e (show ¬ stmtB 24 = true by decide)) (fun e => absurd (show 24 = 3 from e) (by decide));rw [bare_text] at hl;obtain ⟨h1, rfl⟩ := lz_one hl;exact ev_text h1
 | own op s ho h =>
   rcases ho with rfl | rfl | rfl
   · refine mk (fun _ => ⟨rd_prim (by show widthN 26 = 9; decide) fun i j hl => ?_, no_left (.inl (by show widthN 26 = 9; decide))⟩) (fun e => absurd e (show ¬ stmtB 26 = true by decide)) (fun e => absurd (show 26 = 3 from e) (by decide))
     rw [bare_name] at hl;obtain ⟨h1, rfl⟩ := lz_one hl;exact ev_name h1 h
   · refine mk (fun _ => ⟨rd_prim (by show widthN 56 = 9; decide) fun i j hl => ?_, no_left (.inl (by show widthN 56 = 9; decide))⟩) (fun e => absurd e (show ¬ stmtB 56 = true by decide)) (fun e => absurd (show 56 = 3 from e) (by decide))
     rw [bare_take] at hl;exact ev_take h hl
   · exact mk (fun e => absurd e (show ¬ exprB 2 = true by decide)) (fun e => absurd e (show ¬ stmtB 2 = true by decide)) (fun e => absurd (show 2 = 3 from e) (by decide))
 | one op a ka ho ha =>
   have hA : AllP ks a ka := hk.1;by_cases c1 : asksW op
   · have hw : widthN op = 9 := by
       unfold asksW at c1;rcases (show op = 45 ∨ op = 46 ∨ op = 47 ∨ op = 48 ∨ op = 52 by omega) with rfl | rfl | rfl | rfl | rfl <;> decide
     refine mk (fun _ => ⟨rd_prim hw fun i j hl => ?_, no_left (.inl hw)⟩) (fun e => ?_) (fun e => ?_)
     · obtain ⟨m, hm⟩ := mark_one (.inl c1)
       rw [bare_asks c1, hm] at hl;obtain ⟨h1, h2, h3⟩ := hl;obtain ⟨q, h4, h5⟩ := h3.split;obtain ⟨h6, rfl⟩ := lz_one h5;have hq : markT ks q = B.cls := mark_at h6;exact ev_asks c1 hm h1 (ev_btw (mark_at h2) (rd_expr (hA.rd ha) hA.lead ha h4 (by rw [hq]; decide)) hq rfl)
     · unfold asksW at c1
       have : 4 ≤ op ∧ op ≤ 11 := of_decide_eq_true (show stmtB op = true from e);omega
     · unfold asksW at c1
       exact absurd (show op = 3 from e) (by omega)
   · by_cases c2 : op = 43 ∨ op = 44 ∨ op = 54 ∨ op = 55
     · have hw : widthN op = 3 ∨ widthN op = 7 := by rcases c2 with rfl | rfl | rfl | rfl <;> decide
       refine mk (fun _ => ⟨fun i j hl hf => ?_, no_left (hw.elim (fun e => .inr (.inl e)) (fun e => .inr (.inr (.inr e))))⟩) (fun e => ?_) (fun e => ?_)
       · rw [bare_pre c2] at hl
         obtain ⟨m, h1, h2⟩ := hl.split;obtain rfl : m = i + 1 := by
           rcases c2 with rfl | rfl | rfl | rfl <;> exact (lz_one h1).2
         have hf' : lvl (markT ks j) < widthN op := hf;exact ev_pre c2 h1 (rd_at (hA.rd ha) hA.lead ha (by omega) (by omega) h2 hf')
       · have : 4 ≤ op ∧ op ≤ 11 := of_decide_eq_true (show stmtB op = true from e)
         omega
       · exact absurd (show op = 3 from e) (by omega)
     · have ho' : 8 ≤ op ∧ op ≤ 11 := by
         unfold asksW at c1;omega
       refine mk (fun e => ?_) (fun _ => st_one ho' hA ha) (fun e => absurd (show op = 3 from e) (by omega));exact absurd e (show ¬ exprB op = true by rcases (show op = 8 ∨ op = 9 ∨ op = 10 ∨ op = 11 by omega) with rfl | rfl | rfl | rfl <;> decide)
 | set op s a ka ho h ha =>
   refine mk (fun e => ?_) (fun _ => st_set ho h hk.1 ha) (fun e => absurd (show op = 3 from e) (by omega));exact absurd e (show ¬ exprB op = true by rcases ho with rfl | rfl <;> decide)
 | two op a ka b kb h1 h2 ha hb =>
   have hA : AllP ks a ka := hk.1;have hB : AllP ks b kb := hk.2.2.1;have h3 : op = 3 → BlP ks ⟨op, 2, 0, []⟩ (.cons a ka (.cons b kb .nil)) := fun e => absurd (show op = 3 from e) (by omega);have hs : stmtB op = true → StP ks ⟨op, 2, 0, []⟩ (.cons a ka (.cons b kb .nil)) := fun e => by
     have : 4 ≤ op ∧ op ≤ 11 := of_decide_eq_true e;omega
   by_cases c1 : op = 41
   · subst c1
     refine mk (fun _ => ⟨rd_prim (by show widthN 41 = 9; decide) fun i j hl => ?_, no_left (.inl (by show widthN 41 = 9; decide))⟩) hs h3;rw [bare_num] at hl;obtain ⟨g1, g2, g3⟩ := hl;obtain ⟨m, g4, g5, g6⟩ := g3.split;obtain ⟨m2, g7, g8⟩ := g6.split;obtain ⟨g9, rfl⟩ := lz_one g8;have hm : markT ks m = B.com := mark_at g5;have hm2 : markT ks m2 = B.cls := mark_at g9;exact ev_num g1 (ev_btw (mark_at g2) (ev_two (rd_expr (hA.rd ha) hA.lead ha g4 (by rw [hm]; decide)) hm (rd_expr (hB.rd hb) hB.lead hb g7 (by rw [hm2]; decide))) hm2 rfl)
   · by_cases c2 : op = 42
     · subst c2
       have hsp := sp_at hA hB ha hb;exact mk (fun _ => ⟨rd_sp (.inr (by show widthN 42 = 8; decide)) hsp, fun _ => hsp⟩) hs h3
     · by_cases c3 : 32 ≤ op ∧ op ≤ 35
       · have hw : widthN op = 4 := by
           rcases (show op = 32 ∨ op = 33 ∨ op = 34 ∨ op = 35 by omega) with rfl | rfl | rfl | rfl <;> decide
         refine mk (fun _ => ⟨fun i j hl hf => ?_, no_left (.inr (.inr (.inl hw)))⟩) hs h3;rw [bare_cmp c3.1 c3.2] at hl;obtain ⟨m, g1, g2⟩ := hl.split;obtain ⟨m2, g3, g4⟩ := g2.split;have hm : lvl (markT ks m) = 4 := by
           rcases (show op = 32 ∨ op = 33 ∨ op = 34 ∨ op = 35 by omega) with rfl | rfl | rfl | rfl
           all_goals
             rw [mark_at g3.1]
             decide
         have hf' : lvl (markT ks j) < widthN op := hf;show Ev ks (ntOf (widthN op)) i _ j
         rw [hw] at hf' ⊢;exact ev_cmp c3.1 c3.2 g3 (rd_at (hA.rd ha) hA.lead ha (a := 5) (by decide) (by decide) g1 (by omega)) (rd_at (hB.rd hb) hB.lead hb (a := 5) (by decide) (by decide) g4 (by omega))
       · have hl : leftW op := by unfold leftW; omega
         have hsp := sp_left hl hA hB ha hb;exact mk (fun _ => ⟨rd_sp (.inl (left_key hl).1) hsp, fun _ => hsp⟩) hs h3
 | list k he hn =>
   refine mk (fun _ => ⟨rd_prim (by show widthN 25 = 9; decide) fun i j hl => ?_, no_left (.inl (by show widthN 25 = 9; decide))⟩) (fun e => absurd e (show ¬ stmtB 25 = true by decide)) (fun e => absurd (show 25 = 3 from e) (by decide));rw [bare_list] at hl;exact ev_list hl.1 (ev_items (by decide) (by decide) (items_of he hk) (items_lead he hk (by decide)) hl)
 | call op s k ho h he hn =>
   have hw : widthN op = 9 := by rcases ho with rfl | rfl <;> decide
   refine mk (fun _ => ⟨rd_prim hw fun i j hl => ?_, no_left (.inl hw)⟩) (fun e => absurd e (show ¬ stmtB op = true by rcases ho with rfl | rfl <;> decide)) (fun e => absurd (show op = 3 from e) (by omega));obtain ⟨m, hm⟩ := mark_one (.inr ho);rw [bare_call ho, hm] at hl;obtain ⟨h1, h2, h3⟩ := hl;exact ev_call ho h hm h1 h2 (ev_items (by decide) (by decide) (items_of he hk) (items_lead he hk (by decide)) h3)
 | fork b kb hb =>
   refine mk (fun _ => ⟨rd_prim (by show widthN 53 = 9; decide) fun i j hl => ?_, no_left (.inl (by show widthN 53 = 9; decide))⟩) (fun e => absurd e (show ¬ stmtB 53 = true by decide)) (fun e => absurd (show 53 = 3 from e) (by decide));rw [bare_fork] at hl;exact ev_fork hl.1 (hk.1.bl hb _ _ hl.2)
 | block k hs hn =>
   exact mk (fun e => absurd e (show ¬ exprB 3 = true by decide)) (fun e => absurd e (show ¬ stmtB 3 = true by decide)) (fun _ => bl_of hs hk)
 | cond2 op a ka b kb ho ha hb =>
   have hbl : ∀ {i j}, Lz ks i (bareS b kb) j → markT ks i = B.lbr := fun {i j} hl => block_lead hok.2.2.1.rest.first hb hl;refine mk (fun e => absurd e (show ¬ exprB op = true by rcases ho with rfl | rfl <;> decide)) (fun _ => ?_) (fun e => absurd (show op = 3 from e) (by omega));rcases ho with rfl | rfl
   · exact st_if2 hk.1 ha (hk.2.2.1.bl hb) hbl
   · exact st_while hk.1 ha (hk.2.2.1.bl hb) hbl
 | cond3 a ka b kb c kc ha hb hc =>
   have hbl : ∀ {i j}, Lz ks i (bareS b kb) j → markT ks i = B.lbr := fun {i j} hl => block_lead hok.2.2.1.rest.first hb hl;exact mk (fun e => absurd e (show ¬ exprB 6 = true by decide)) (fun _ => st_if3 hk.1 ha (hk.2.2.1.bl hb) (hk.2.2.2.2.1.bl hc) hbl) (fun e => absurd (show 6 = 3 from e) (by decide))
 | flow s k h hp hn => exact mk (fun e => absurd e (show ¬ exprB 1 = true by decide)) (fun e => absurd e (show ¬ stmtB 1 = true by decide)) (fun e => absurd (show 1 = 3 from e) (by decide))
end
end Go.Proofs.YtjiemkidmlgbeaaGreatDoor
namespace Go.Proofs.YtjiemkidmlgbeaaGreatDoor
open Go.RowKit Tok
def Fs.front : Fs → Fs
 | .nil => .nil
 | .cons _ _ .nil => .nil
 | .cons x k (.cons y k' r) => .cons x k (Fs.front (.cons y k' r))
theorem front_last : ∀ (F : Fs), F.params → F.ok → ∃ b kb, b.op = 3 ∧ (Fs.cons b kb .nil).ok ∧ F.flat = F.front.flat ++ (b :: kb.flat) ∧ F.count = F.front.count + 1 ∧ (∀ p, paramS p F = commaS p F.front ++ (signTg B.cls :: bareS b kb)) ∧ (∀ P, Every P F → P b kb) ∧ (∀ P : Tw → Fs → Prop, (∀ x k, x.op = 2 → (Fs.cons x k .nil).ok → P x k) → ∀ x k r, F.front = .cons x k r → P x k)
 | .nil, h, _ => h.elim
 | .cons b kb .nil, h, hok => ⟨b, kb, h, hok, by simp [Fs.flat, Fs.front], rfl, fun _ => rfl, fun _ h => h.1, fun _ _ _ _ _ h => by cases h⟩
 | .cons x k (.cons y k' r), ⟨h1, h2⟩, hok => by
   obtain ⟨b, kb, e1, e2, e3, e4, e5, e6, e7⟩ := front_last (.cons y k' r) h2 hok.rest;refine ⟨b, kb, e1, e2, ?_, ?_, fun p => ?_, fun P h => e6 P h.2.2, fun P hP x' k2 r' e => ?_⟩
   · show x :: (k.flat ++ (Fs.cons y k' r).flat) = (x :: (k.flat ++ (Fs.front (.cons y k' r)).flat)) ++ _
     rw [e3];simp
   · show (Fs.cons y k' r).count + 1 = (Fs.front (.cons y k' r)).count + 1 + 1
     rw [e4]
   · show (comma p).1 ++ bareS x k ++ paramS (p + 1) (.cons y k' r) = ((comma p).1 ++ bareS x k ++ commaS (p + 1) (Fs.front (.cons y k' r))) ++ _
     rw [e5 (p + 1)];simp
   · have e' : Fs.cons x k (Fs.front (.cons y k' r)) = .cons x' k2 r' := e
     injection e' with a1 a2 a3;subst a1 a2;exact hP x k h1 hok.first
theorem param_view {x : Tw} {k : Fs} (h : (Fs.cons x k .nil).ok) (h2 : x.op = 2) : ∃ s, ownL s = true ∧ x = ⟨2, 0, 0, s⟩ ∧ k = .nil := by
 cases view h with
 | own op s ho hs => exact ⟨s, hs, by rw [show op = 2 from h2], rfl⟩
 | bare op ho => exact absurd (show op = 2 from h2) (by omega)
 | int n => exact absurd (show 23 = 2 from h2) (by decide)
 | text s h => exact absurd (show 24 = 2 from h2) (by decide)
 | one op a ka ho ha => exact absurd (show op = 2 from h2) (by omega)
 | set op s a ka ho h ha => exact absurd (show op = 2 from h2) (by omega)
 | two op a ka b kb h1 h3 ha hb => exact absurd (show op = 2 from h2) (by omega)
 | list k hk hn => exact absurd (show 25 = 2 from h2) (by decide)
 | call op s k ho h hk hn => exact absurd (show op = 2 from h2) (by omega)
 | fork b kb hb => exact absurd (show 53 = 2 from h2) (by decide)
 | block k hk hn => exact absurd (show 3 = 2 from h2) (by decide)
 | cond2 op a ka b kb ho ha hb => exact absurd (show op = 2 from h2) (by omega)
 | cond3 a ka b kb c kc ha hb hc => exact absurd (show 6 = 2 from h2) (by decide)
 | flow s k h hk hn => exact absurd (show 1 = 2 from h2) (by decide)
theorem flow_view {x : Tw} {k : Fs} (h : (Fs.cons x k .nil).ok) (h2 : x.op = 1) : ∃ s, ownL s = true ∧ x = ⟨1, (k.count : Int), 0, s⟩ ∧ k.params ∧ k.count ≤ 2048 := by
 cases view h with
 | flow s k ho hk hn => exact ⟨s, ho, rfl, hk, hn⟩
 | own op s ho hs => exact absurd (show op = 1 from h2) (by omega)
 | bare op ho => exact absurd (show op = 1 from h2) (by omega)
 | int n => exact absurd (show 23 = 1 from h2) (by decide)
 | text s h => exact absurd (show 24 = 1 from h2) (by decide)
 | one op a ka ho ha => exact absurd (show op = 1 from h2) (by omega)
 | set op s a ka ho h ha => exact absurd (show op = 1 from h2) (by omega)
 | two op a ka b kb h1 h3 ha hb => exact absurd (show op = 1 from h2) (by omega)
 | list k hk hn => exact absurd (show 25 = 1 from h2) (by decide)
 | call op s k ho h hk hn => exact absurd (show op = 1 from h2) (by omega)
 | fork b kb hb => exact absurd (show 53 = 1 from h2) (by decide)
 | block k hk hn => exact absurd (show 3 = 1 from h2) (by decide)
 | cond2 op a ka b kb ho ha hb => exact absurd (show op = 1 from h2) (by omega)
 | cond3 a ka b kb c kc ha hb hc => exact absurd (show 6 = 1 from h2) (by decide)
theorem params_front : ∀ (F : Fs), F.params → F.ok → ∀ {ks : List Tk}, Items ks .param F.front
 | .nil, h, _, _ => h.elim
 | .cons _ _ .nil, _, _, _ => trivial
 | .cons x k (.cons y k' r), ⟨h1, h2⟩, hok, ks => by
   refine ⟨?_, params_front (.cons y k' r) h2 hok.rest⟩;obtain ⟨s, hs, rfl, rfl⟩ := param_view hok.first h1;intro i j hl _;rw [bare_param] at hl;obtain ⟨g1, rfl⟩ := lz_one hl;refine .step0 fun f => ?_
   show (ownT ks i).and _ = _
   rw [own_at g1 (own_parts hs).2];rfl
theorem params_pos {F : Fs} (h : F.params) : 0 < F.count := by
 cases F with
 | nil => exact h.elim
 | cons x k r => exact Nat.succ_pos _
theorem ev_flow {ks : List Tk} {x : Tw} {k : Fs} (hok : (Fs.cons x k .nil).ok) (h1 : x.op = 1) {i j : Nat} (hl : Lz ks i (bareS x k) j) : Ev ks .flow i (oneC x k) j := by
 obtain ⟨s, hs, rfl, hp, hn⟩ := flow_view hok h1;obtain ⟨b, kb, e1, e2, e3, e4, e5, e6, e7⟩ := front_last k hp hok.2.2.1;have hB : AllP ks b kb := e6 _ (every_of all_p k hok.2.2.1);rw [bare_flow (params_pos hp), e5] at hl;obtain ⟨g1, g2, g3⟩ := hl;have g3' : Lz ks (i + 1 + 1) ((signTg B.opn :: (commaS 0 k.front ++ [signTg B.cls])) ++ bareS b kb) j := by
   have e : (signTg B.opn :: (commaS 0 k.front ++ [signTg B.cls])) ++ bareS b kb = signTg B.opn :: (commaS 0 k.front ++ (signTg B.cls :: bareS b kb)) := by simp
   rw [e];exact g3
 obtain ⟨m, g4, g5⟩ := g3'.split;have hI : Ev ks (.list B.opn .param B.cls) (i + 1 + 1) (listC k.front) m := by
   refine ev_items (by decide) (by decide) (params_front k hp hok.2.2.1) ?_ g4;exact e7 (fun x k => ∃ t r', bareS x k = t :: r' ∧ mkG t ≠ B.cls) (fun x' k' h2 hok' => by
     obtain ⟨s', hs', rfl, rfl⟩ := param_view hok' h2;refine ⟨wordTg s', [], bare_param, fun e => ?_⟩;obtain ⟨n1, _⟩ := own_parts hs';have : s' = B.cls := e;rw [this] at n1
     revert n1
     decide)
 have hm : markT ks i = B.flow := mark_at g1;refine .step2 hI (hB.bl e1 m j g5) fun f f1 f2 => ?_;show (wantT ks B.flow i).and _ = _
 rw [want_at hm];show (ownT ks (i + 1)).and _ = _
 rw [own_at g2 (own_parts hs).2];show (gP ks f (.list B.opn .param B.cls) (i + 1 + 1)).and _ = _
 rw [f1];show (gP ks f .block m).and _ = _
 rw [f2];show St.ok (((listC k.front).then (oneC b kb)).under 1 0 s) j = _
 unfold Ch.then oneC listC Ch.under;dsimp only;rw [e3, e4];rfl
theorem ev_show {ks : List Tk} {x : Tw} {k : Fs} (hok : (Fs.cons x k .nil).ok) (h : exprB x.op = true) {i : Nat} (hl : Lz ks i (bareS x k) ks.length) : Ev ks .expr i (oneC x k) ks.length := by
 have hA : AllP ks x k := all_p x k hok (every_of all_p k hok.2.2.1);refine rd_expr (hA.rd h) hA.lead h hl ?_;have : markT ks ks.length = [] := by
   unfold markT;rw [List.getElem?_eq_none (Nat.le_refl _)]
 rw [this]
 decide
def ToldG (t : Tg) : Prop := told t = true ∧ t.num ≤ 9223372036854775807
theorem told_word {s : List UInt8} (h : nameL s = true) : ToldG (wordTg s) := by
 refine ⟨?_, by show (0 : Int) ≤ _; decide⟩;unfold told;rw [if_pos (show (wordTg s).kind = 1 from rfl)];show (nameL s && decide ((0 : Int) = 0)) = true
 rw [h];rfl
theorem told_sign {s : List UInt8} (h : s ∈ signs) : ToldG (signTg s) := by
 refine ⟨?_, by show (0 : Int) ≤ _; decide⟩;show told ⟨4, s, 0, 0⟩ = true
 simp [told, h]
def ToldL (l : List Tg) : Prop := ∀ t ∈ l, ToldG t
theorem ToldL.nil : ToldL [] := fun t h => by cases h
theorem ToldL.cons {t : Tg} {l : List Tg} (h : ToldG t) (hl : ToldL l) : ToldL (t :: l) := fun u hu => by
 rcases List.mem_cons.1 hu with rfl | hu
 · exact h
 · exact hl u hu
theorem ToldL.app {a b : List Tg} (ha : ToldL a) (hb : ToldL b) : ToldL (a ++ b) := fun u hu => by
 rcases List.mem_append.1 hu with hu | hu
 · exact ha u hu
 · exact hb u hu
theorem told_mark (op : Nat) : ToldL (markTg op) := by
 have h : ∀ L : List (Nat × Nat × List UInt8), (∀ m ∈ L, told ⟨m.2.1, m.2.2, 0, 0⟩ = true) → ToldL (markGo op L) := by
   intro L
   induction L with
   | nil => intro _; exact ToldL.nil
   | cons m r ih =>
     intro hm;unfold markGo;split
     · exact .cons ⟨hm m List.mem_cons_self, by show (0 : Int) ≤ _; decide⟩ (ih fun x hx => hm x (List.mem_cons_of_mem _ hx))
     · exact ih fun x hx => hm x (List.mem_cons_of_mem _ hx)
 exact h marksL (by decide)
def TeP (x : Tw) (k : Fs) : Prop := (∀ y ∈ x :: k.flat, y.num ≤ 9223372036854775807) → ToldL (bareS x k)
theorem told_at {x : Tw} {k : Fs} (h : ToldL (bareS x k)) (a : Nat) : ToldL (atS a x k) := by
 unfold atS wrapT;split
 · exact .cons (told_sign (by decide)) (h.app (.cons (told_sign (by decide)) .nil))
 · exact h
theorem mem_kid {x : Tw} {k r : Fs} {P : Tw → Prop} (h : ∀ y ∈ (Fs.cons x k r).flat, P y) : (∀ y ∈ x :: k.flat, P y) ∧ ∀ y ∈ r.flat, P y := by
 constructor
 · intro y hy
   rcases List.mem_cons.1 hy with rfl | hy
   · exact h _ List.mem_cons_self
   · exact h _ (List.mem_cons_of_mem _ (List.mem_append_left _ hy))
 · intro y hy
   exact h _ (List.mem_cons_of_mem _ (List.mem_append_right _ hy))
theorem told_commas : ∀ (F : Fs) (p : Nat), Every TeP F → (∀ y ∈ F.flat, y.num ≤ 9223372036854775807) → ToldL (commaS p F)
 | .nil, _, _, _ => .nil
 | .cons x k r, p, ⟨h1, _, h3⟩, hn => by
   obtain ⟨n1, n2⟩ := mem_kid hn;refine ToldL.app (ToldL.app ?_ (h1 n1)) (told_commas r (p + 1) h3 n2);show ToldL (if p = 0 then [] else [signTg B.com])
   split
   · exact .nil
   · exact .cons (told_sign (by decide)) .nil
theorem told_rows : ∀ (F : Fs), Every TeP F → (∀ y ∈ F.flat, y.num ≤ 9223372036854775807) → ToldL (rowS F)
 | .nil, _, _ => .nil
 | .cons x k r, ⟨h1, _, h3⟩, hn => by
   obtain ⟨n1, n2⟩ := mem_kid hn;exact ToldL.app (h1 n1) (told_rows r h3 n2)
theorem told_params : ∀ (F : Fs) (p : Nat), Every TeP F → (∀ y ∈ F.flat, y.num ≤ 9223372036854775807) → ToldL (paramS p F)
 | .nil, _, _, _ => .nil
 | .cons b kb .nil, _, ⟨h1, _, _⟩, hn => by
   obtain ⟨n1, n2⟩ := mem_kid hn;exact .cons (told_sign (by decide)) (h1 n1)
 | .cons x k (.cons y k' r), p, ⟨h1, _, h3⟩, hn => by
   obtain ⟨n1, n2⟩ := mem_kid hn;refine ToldL.app (ToldL.app ?_ (h1 n1)) (told_params (.cons y k' r) (p + 1) h3 n2);show ToldL (if p = 0 then [] else [signTg B.com])
   split
   · exact .nil
   · exact .cons (told_sign (by decide)) .nil
theorem te_all : ∀ x k, (Fs.cons x k .nil).ok → Every TeP k → TeP x k := by
 intro x k hok hk hn;have sg : ∀ {s : List UInt8}, s ∈ signs → ∀ {l : List Tg}, ToldL l → ToldL (signTg s :: l) := fun h => .cons (told_sign h);have kw : ∀ {s : List UInt8}, nameL s = true → ∀ {l : List Tg}, ToldL l → ToldL (wordTg s :: l) := fun h => .cons (told_word h);have hkf : ∀ y ∈ k.flat, y.num ≤ 9223372036854775807 := fun y hy => hn y (List.mem_cons_of_mem _ hy)
 cases view hok with
 | bare op ho => rw [bare_bare ho]; exact told_mark op
 | int n =>
   rw [bare_int];refine .cons ⟨?_, hn _ List.mem_cons_self⟩ .nil;simp [told]
 | text s h =>
   rw [bare_text];refine .cons ⟨?_, by show (0 : Int) ≤ _; decide⟩ .nil;simp [told, h]
 | own op s ho h =>
   have hs := (own_parts h).1;rcases ho with rfl | rfl | rfl
   · rw [bare_name]; exact kw hs .nil
   · rw [bare_take]; exact kw (by decide) (kw hs .nil)
   · rw [bare_param]; exact kw hs .nil
 | one op a ka ho ha =>
   have hA : ToldL (bareS a ka) := hk.1 (mem_kid hkf).1;by_cases c1 : asksW op
   · rw [bare_asks c1]
     exact (told_mark op).app (sg (by decide) (hA.app (sg (by decide) .nil)))
   · by_cases c2 : op = 43 ∨ op = 44 ∨ op = 54 ∨ op = 55
     · rw [bare_pre c2]
       exact (told_mark op).app (told_at hA _)
     · have ho' : 8 ≤ op ∧ op ≤ 11 := by
         unfold asksW at c1;omega
       rw [bare_stmt ho'];exact (told_mark op).app hA
 | set op s a ka ho h ha =>
   have hA : ToldL (bareS a ka) := hk.1 (mem_kid hkf).1;have hs := (own_parts h).1;rcases ho with rfl | rfl
   · rw [bare_let]; exact kw (by decide) (kw hs (sg (by decide) hA))
   · rw [bare_set]; exact kw hs (sg (by decide) hA)
 | two op a ka b kb h1 h2 ha hb =>
   have hA : ToldL (bareS a ka) := hk.1 (mem_kid hkf).1;have hB : ToldL (bareS b kb) := hk.2.2.1 (mem_kid (mem_kid hkf).2).1;by_cases c1 : op = 41
   · subst c1
     rw [bare_num];exact kw (by decide) (sg (by decide) (hA.app (sg (by decide) (hB.app (sg (by decide) .nil)))))
   · by_cases c2 : op = 42
     · subst c2
       rw [bare_at];exact (told_at hA _).app (sg (by decide) (hB.app (sg (by decide) .nil)))
     · by_cases c3 : 32 ≤ op ∧ op ≤ 35
       · rw [bare_cmp c3.1 c3.2]
         exact (told_at hA _).app ((told_mark op).app (told_at hB _))
       · rw [bare_left (by unfold leftW; omega)]
         exact (told_at hA _).app ((told_mark op).app (told_at hB _))
 | list k he hn => rw [bare_list]; exact sg (by decide) ((told_commas k 0 hk hkf).app (sg (by decide) .nil))
 | call op s k ho h he hn =>
   rw [bare_call ho];exact (told_mark op).app (kw (own_parts h).1 (sg (by decide) ((told_commas k 0 hk hkf).app (sg (by decide) .nil))))
 | fork b kb hb => rw [bare_fork]; exact kw (by decide) (hk.1 (mem_kid hkf).1)
 | block k hs hn => rw [bare_block]; exact sg (by decide) ((told_rows k hk hkf).app (sg (by decide) .nil))
 | cond2 op a ka b kb ho ha hb =>
   rw [bare_cond2 ho];exact kw (by rcases ho with rfl | rfl <;> decide) ((hk.1 (mem_kid hkf).1).app (hk.2.2.1 (mem_kid (mem_kid hkf).2).1))
 | cond3 a ka b kb c kc ha hb hc =>
   rw [bare_cond3];exact kw (by decide) ((hk.1 (mem_kid hkf).1).app ((hk.2.2.1 (mem_kid (mem_kid hkf).2).1).app (kw (by decide) (hk.2.2.2.2.1 (mem_kid (mem_kid (mem_kid hkf).2).2).1))))
 | flow s k h hp hn =>
   rw [bare_flow (params_pos hp)];exact kw (by decide) (kw (own_parts h).1 (sg (by decide) (told_params k 0 hk hkf)))
theorem show_told {x : Tw} {k : Fs} (hok : (Fs.cons x k .nil).ok) (hn : ∀ y ∈ x :: k.flat, y.num ≤ 9223372036854775807) : ToldL (showL x k) := told_at (te_all x k hok (every_of te_all k hok.2.2.1) hn) 1
theorem show_read {x : Tw} {k : Fs} (hok : (Fs.cons x k .nil).ok) (h : x.op = 1 ∨ exprB x.op = true) {q : NT} (hq : q = if x.op = 1 then .flow else .expr) {f : Nat} (hf : gP ((showL x k).map toK) f q 0 ≠ .out) : gP ((showL x k).map toK) f q 0 = .ok (oneC x k) (showL x k).length := by
 have hl : Lz ((showL x k).map toK) 0 (bareS x k) (showL x k).length := by
   have := lz_all (ts := showL x k) (showL x k) [] rfl;rw [show showL x k = bareS x k from atS_one x k] at this ⊢;exact this
 have hlen : ((showL x k).map toK).length = (showL x k).length := List.length_map ..;by_cases h1 : x.op = 1
 · rw [if_pos h1] at hq
   subst hq;exact (ev_flow hok h1 hl).at hf
 · rw [if_neg h1] at hq
   subst hq;rw [← hlen] at hl ⊢;exact (ev_show hok (h.resolve_left h1) hl).at hf
end Go.Proofs.YtjiemkidmlgbeaaGreatDoor
namespace Go.Proofs.YtjiemkidmlgbeaaGreatDoor
open Go.RowKit Go.Shelf Tok
theorem key_shown {ks : List Tk} {L : List Tg} (h : ks.map (bareG ∘ toG) = L.map bareG) : ks.map keyT = (L.map toK).map keyT := by
 have h1 : ks.map keyT = (ks.map (bareG ∘ toG)).map (fun g : Tg => (g.kind, g.text, g.num.toNat)) := by
   rw [List.map_map];exact List.map_congr_left (fun t _ => by simp [keyT, bareG, toG])
 have h2 : (L.map toK).map keyT = (L.map bareG).map (fun g : Tg => (g.kind, g.text, g.num.toNat)) := by
   rw [List.map_map, List.map_map];exact List.map_congr_left (fun t _ => by simp [keyT, bareG, toK])
 rw [h1, h2, h]
def ruleN (op : Nat) : NT := if op = 1 then .flow else .expr
theorem rule_wf (op : Nat) : (ruleN op).wf := by
 unfold ruleN;split <;> trivial
theorem back_read {ts : List Tw} {L : List Tg} (h : ShowIs ts L 0) (hf : ∀ x ∈ ts, FitT x) (hl : (joinL L).length ≤ 16384) {x : Tw} {r : List Tw} (hx : ts = x :: r) : readR (joinL L) (ruleN x.op) = (ts, 0, 0) := by
 rcases h with ⟨hc, _, hE⟩ | ⟨_, _, _, _, _, _, _, hE⟩ | ⟨hc, x', k, hts, hok, _, hx1, rfl, _⟩
 · exact absurd hE.symm (by simpa using hc)
 · exact absurd hE (by decide)
 · rw [hts] at hx
   obtain ⟨rfl, rfl⟩ := List.cons.inj hx;have hTold : ToldL (showL x' k) := show_told hok (fun y hy => (hf y (by rw [hts]; exact hy)).2.2.1.2);obtain ⟨ks, h1, h2⟩ := join_back hTold hl;have hk := key_shown h2;have hlen : ks.length = ((showL x' k).map toK).length := by have := congrArg List.length hk; simpa using this
   have hlen2 : ks.length = (showL x' k).length := by rw [hlen, List.length_map]
   unfold readR;rw [h1];dsimp only;rw [if_neg (by decide)];unfold readK;have hfine := gP_fine ((showL x' k).map toK) (fuelP ks (ruleN x'.op)) (ruleN x'.op) 0 (rule_wf _) (Nat.zero_le _) (by unfold fuelP; omega);rw [gP_same hk, show_read hok hx1 (q := ruleN x'.op) rfl hfine.1];dsimp only;rw [if_neg (by omega), hts];show (if (lookF (x' :: k.flat)).2.2 = 0 then (x' :: k.flat, (0 : Int), (0 : Int)) else _) = _
   rw [if_pos (by rw [← hts]; exact hc)]
end Go.Proofs.YtjiemkidmlgbeaaGreatDoor
namespace Go.Proofs.YtjiemkidmlgbeaaGreatDoor
open Go.RowKit Go.Shelf Tok
set_option maxRecDepth 20000 in
set_option maxHeartbeats 1000000 in
theorem read10_any {l : List UInt8} (hl : l.length ≤ 20000) {b : Bool} {q : NT} (hq : q = if b = true then .flow else .expr) (w : World) (hA : ErrR w) (hS : SignsOK w) (hM : MakesOK w) :
   Calls Tryz.prog 9 #[.string ⟨l.toArray⟩, .bool b] w fun e w' => ∃ v, e = .returned (.tuple #[v, .int .i64 (readR l q).2.2]) ∧ TwsAt w' w.heap.size v (readR l q).1 ∧ Below w.heap.size w w' := by
 have hs : (⟨l.toArray⟩ : ByteArray).size ≤ 140737488351232 := by
   show l.toArray.size ≤ _
   simp only [List.size_toArray];omega
 subst hq;cases b with
 | true =>
   have kF := Lib.hid (Flow_any ⟨l.toArray⟩ w hs hA hS hM);unfold ReadP at kF;simp only [if_true] at kF ⊢;generalize readR l .flow = R at *;obtain ⟨us, at_, cd⟩ := R;dsimp only at kF ⊢;clear hA hS hM;go_enter Tryz.func9, Tryz.ntmps9
   go_wp2_with fail
   with_reducible refine kF.out.mono ?_
   rintro e w1 ⟨v, rfl, hv, hb⟩;go_wp2_with fail
   go_ret2
   exact ⟨_, rfl, hv, hb⟩
 | false =>
   have kF := Lib.hid (Expr_any ⟨l.toArray⟩ w hs hA hS hM);unfold ReadP at kF;simp only [if_false, Bool.false_eq_true] at kF ⊢;generalize readR l .expr = R at *;obtain ⟨us, at_, cd⟩ := R;dsimp only at kF ⊢;clear hA hS hM;go_enter Tryz.func9, Tryz.ntmps9
   go_wp2_with fail
   with_reducible refine kF.out.mono ?_
   rintro e w1 ⟨v, rfl, hv, hb⟩;go_wp2_with fail
   go_ret2
   exact ⟨_, rfl, hv, hb⟩
end Go.Proofs.YtjiemkidmlgbeaaGreatDoor
namespace Go.Proofs.YtjiemkidmlgbeaaGreatDoor
open Go.RowKit Go.Shelf Tok
theorem PowOK.next10 {w W : World} (h : PowOK w.heap.size w) (hb : Below w.heap.size w W) : PowOK W.heap.size W := fun w' h' => h w' (below_next hb h')
def wakT : List Tw := [⟨37, 2, 0, []⟩, ⟨23, 0, 1, []⟩, ⟨37, 2, 0, []⟩, ⟨23, 0, 2, []⟩, ⟨23, 0, 3, []⟩]
def wakK : Fs := .cons ⟨23, 0, 1, []⟩ .nil (.cons ⟨37, 2, 0, []⟩ (.cons ⟨23, 0, 2, []⟩ .nil (.cons ⟨23, 0, 3, []⟩ .nil .nil)) .nil)
def wakL : List Tg := [⟨2, [], 1, 0⟩, ⟨4, [45], 0, 0⟩, ⟨4, [40], 0, 0⟩, ⟨2, [], 2, 0⟩, ⟨4, [45], 0, 0⟩, ⟨2, [], 3, 0⟩, ⟨4, [41], 0, 0⟩]
theorem wak_leaf (n : Nat) (r : Fs) (h : r.ok) : (Fs.cons ⟨23, 0, (n : Int), []⟩ .nil r).ok := by
 refine ⟨⟨_, rfl, ?_, trivial⟩, rfl, trivial, h⟩;simp [allowsB]
 exact ⟨Nat.eq_zero_or_pos n, rfl⟩
theorem wak_show : ShowIs wakT wakL 0 := by
 refine .inr (.inr ⟨by decide +kernel, ⟨37, 2, 0, []⟩, wakK, rfl, ?_, by decide, .inr (by decide), rfl, rfl⟩);exact ⟨⟨_, rfl, by decide, by decide, by decide, trivial⟩, rfl, wak_leaf 1 _ ⟨⟨_, rfl, by decide, by decide, by decide, trivial⟩, rfl, wak_leaf 2 _ (wak_leaf 3 _ trivial), trivial⟩, trivial⟩
theorem wak_spell : spellR wakL = ([49, 32, 45, 32, 40, 32, 50, 32, 45, 32, 51, 32, 41], 0) := by
 have h1 : Lib.itoa 1 = [49] := by decide +kernel
 have h2 : Lib.itoa 2 = [50] := by decide +kernel
 have h3 : Lib.itoa 3 = [51] := by decide +kernel
 have hj : joinL wakL = [49, 32, 45, 32, 40, 32, 50, 32, 45, 32, 51, 32, 41] := by
   simp [joinL, wakL, spellL, h1, h2, h3]
 unfold spellR;rw [if_pos (by decide +kernel), if_neg (by rw [hj]; decide), hj]
theorem wak_fit : ∀ t ∈ wakL, Fit t := by
 intro t ht;simp only [wakL, List.mem_cons, List.not_mem_nil, or_false] at ht;rcases ht with rfl | rfl | rfl | rfl | rfl | rfl | rfl <;> exact ⟨by decide, by decide, by decide⟩
set_option maxRecDepth 20000 in
set_option maxHeartbeats 1000000 in
theorem Tree_ok {v : Value} {ts : List Tw} {w : World} {L : List Tg} (hT : TwIn w v ts) (hf : ∀ x ∈ ts, FitT x) (hM : MarksOK w) (hS : SignsOK w) (hP : PowOK w.heap.size w) (h : ShowIs ts L 0) (hL : ∀ t ∈ L, Fit t) :
   Calls Tryz.prog 6 #[v] w fun e w' => e = .returned (spellV (spellR L)) ∧ Below w.heap.size w w' := by
 have kT := Lib.hid (Tokens_is hT hf hM h);have kS := Lib.hid (fun (W : World) (u : Value) (hb : Below w.heap.size w W) (hu : TgIn W u L) => Spell_any hu hL (hS.below hb) (fun w' h' => hP w' (below_next hb h')));generalize spellR L = R at *;obtain ⟨st, cd⟩ := R;unfold spellV at kS ⊢;clear hT hf hM hS hP h hL;go_enter Tryz.func6, Tryz.ntmps6
 go_wp2_with fail
 with_reducible refine kT.out.mono ?_
 rintro e w1 ⟨v1, rfl, h1, hb1⟩;have k1 := Lib.hid (kS.out w1 v1 hb1 h1.tgIn);replace hb1 := Lib.hid hb1;clear kS kT h1;go_wp2_with fail
 with_reducible refine k1.out.mono ?_
 rintro e w2 ⟨rfl, hb2⟩;have hb3 := Lib.hid (below_next hb1.out hb2);clear hb2;go_wp2_with fail
 go_ret2
 exact ⟨rfl, hb3.out⟩
theorem wak_twIn (w : World) {cs : Array Value} (hcs : cs = (rowOf twC wakT).toArray) : TwIn (w.alloc (.cells cs 31)) (.slice (some ⟨w.heap.size, 0, none⟩) 5 5) wakT := by
 subst hcs;refine ⟨_, 5, rfl, Nat.le_refl _, by decide, fun _ => ⟨w.heap.size, 0, rfl, by simp, fun i hi c hc => ?_⟩⟩;have h := rowOf_get (show ∀ t : Tw, (twC t).length = 4 from fun _ => rfl) wakT i c hi hc;rw [← h];have e : (w.alloc (.cells (rowOf twC wakT).toArray 31)).cell? ⟨w.heap.size, 0 + i * 4 + c, none⟩ = (rowOf twC wakT).toArray[0 + i * 4 + c]? := by
   simp only [World.cell?, heap_alloc_new, Option.isSome_none, Bool.false_eq_true, if_false]
 rw [e, Nat.zero_add, List.getElem?_toArray]
set_option maxRecDepth 20000 in
set_option maxHeartbeats 1000000 in
theorem wakes10_any (w : World) (hM : MarksOK w) (hS : SignsOK w) (hP : PowOK w.heap.size w) :
   Calls Tryz.prog 5 #[] w fun e w' => e = .returned (.bool true) ∧ Below w.heap.size w w' := by
 have hal := (Below.refl w.heap.size w).alloc (Nat.le_refl _) (.cells #[.int .u8 37, .int .i64 2, .int .i64 0, .string ⟨#[]⟩, .int .u8 23, .int .i64 0, .int .i64 1, .string ⟨#[]⟩, .int .u8 37, .int .i64 2, .int .i64 0, .string ⟨#[]⟩, .int .u8 23, .int .i64 0, .int .i64 2, .string ⟨#[]⟩, .int .u8 23, .int .i64 0, .int .i64 3, .string ⟨#[]⟩] 31);have kT := Lib.hid (Tree_ok (wak_twIn w (cs := #[.int .u8 37, .int .i64 2, .int .i64 0, .string ⟨#[]⟩, .int .u8 23, .int .i64 0, .int .i64 1, .string ⟨#[]⟩, .int .u8 37, .int .i64 2, .int .i64 0, .string ⟨#[]⟩, .int .u8 23, .int .i64 0, .int .i64 2, .string ⟨#[]⟩, .int .u8 23, .int .i64 0, .int .i64 3, .string ⟨#[]⟩]) rfl) (by
   intro x hx;simp only [wakT, List.mem_cons, List.not_mem_nil, or_false] at hx;rcases hx with rfl | rfl | rfl | rfl | rfl <;> exact ⟨by decide, ⟨by decide, by decide⟩, ⟨by decide, by decide⟩, by decide⟩) (hM.below hM.lt hal) (hS.below hal) (fun w' h' => hP w' (below_next hal h')) wak_show wak_fit)
 rw [wak_spell] at kT;unfold spellV at kT;dsimp only at kT;replace hal := Lib.hid hal;clear hM hS hP;go_enter Tryz.func5, Tryz.ntmps5
 go_wp2_with fail
 refine kT.out.mono ?_;rintro e w1 ⟨rfl, hb⟩;have hb3 := Lib.hid (below_next hal.out hb);clear hb kT hal;go_wp2_with fail
 go_ret
 exact ⟨rfl, hb3.out⟩
end Go.Proofs.YtjiemkidmlgbeaaGreatDoor
namespace Go.Proofs.YtjiemkidmlgbeaaGreatDoor
open Go.RowKit Go.Shelf Tok
theorem told_num10 {t : Tg} (h : told t = true) : 0 ≤ t.num := by
 obtain ⟨kd, tx, x, at_⟩ := t;unfold told at h;dsimp only at *
 repeat' split at h
 all_goals first
   | (rw [Bool.and_eq_true] at h; have := of_decide_eq_true h.2; omega)
   | (rw [Bool.and_eq_true] at h; exact of_decide_eq_true h.1)
   | (cases h)
theorem told_fit {t : Tg} (h : ToldG t) : Fit t := by
 have h1 := told_len h.1;have h2 := told_num10 h.1;have h3 := h.2;exact ⟨by omega, by omega, by omega⟩
theorem show_told10 {ts : List Tw} {L : List Tg} {E : Int} (h : ShowIs ts L E) (hf : ∀ x ∈ ts, FitT x) : ToldL L := by
 rcases h with ⟨_, rfl, _⟩ | ⟨_, x, r, _, _, _, rfl, _⟩ | ⟨_, x, k, rfl, hok, _, _, rfl, _⟩
 · exact ToldL.nil
 · exact ToldL.nil
 · exact show_told hok (fun y hy => (hf y hy).2.2.1.2)
theorem show_fit {ts : List Tw} {L : List Tg} {E : Int} (h : ShowIs ts L E) (hf : ∀ x ∈ ts, FitT x) : ∀ t ∈ L, Fit t := fun t ht => told_fit (show_told10 h hf t ht)
def TreeIs (ts : List Tw) (st : List UInt8) (cd : Int) : Prop := ∃ L E, ShowIs ts L E ∧ ((E = 0 ∧ spellR L = (st, cd.toNat) ∧ 0 ≤ cd) ∨ (E ≠ 0 ∧ st = [] ∧ cd = E))
set_option maxRecDepth 20000 in
set_option maxHeartbeats 1000000 in
theorem Tree_no {v : Value} {ts : List Tw} {w : World} {L : List Tg} {E : Int} (hT : TwIn w v ts) (hf : ∀ x ∈ ts, FitT x) (hM : MarksOK w) (h : ShowIs ts L E) (hE : E ≠ 0) :
   Calls Tryz.prog 6 #[v] w fun e w' => e = .returned (.tuple #[.string ⟨#[]⟩, .int .i64 E]) ∧ Below w.heap.size w w' := by
 have kT := Lib.hid (Tokens_is hT hf hM h);have hc : (E != 0) = true := by simpa using hE
 clear hT hf hM h hE;go_enter Tryz.func6, Tryz.ntmps6
 go_wp2_with fail
 with_reducible refine kT.out.mono ?_
 rintro e w1 ⟨v1, rfl, h1, hb1⟩;go_wp2_with fail
 go_ret2
 exact ⟨rfl, hb1⟩
theorem spellV_is {L : List Tg} {st : List UInt8} {cd : Int} (h : spellR L = (st, cd.toNat)) (h0 : 0 ≤ cd) : spellV (spellR L) = .tuple #[.string ⟨st.toArray⟩, .int .i64 cd] := by
 rw [h];unfold spellV;dsimp only;rw [Int.toNat_of_nonneg h0]
theorem Tree_is10 {v : Value} {ts : List Tw} {w : World} {st : List UInt8} {cd : Int} (hT : TwIn w v ts) (hf : ∀ x ∈ ts, FitT x) (hM : MarksOK w) (hS : SignsOK w) (hP : PowOK w.heap.size w) (h : TreeIs ts st cd) :
   Calls Tryz.prog 6 #[v] w fun e w' => e = .returned (.tuple #[.string ⟨st.toArray⟩, .int .i64 cd]) ∧ Below w.heap.size w w' := by
 obtain ⟨L, E, hI, ⟨rfl, hs, h0⟩ | ⟨hE, rfl, rfl⟩⟩ := h
 · rw [← spellV_is hs h0]
   exact Tree_ok hT hf hM hS hP hI (show_fit hI hf)
 · exact Tree_no hT hf hM hI hE
end Go.Proofs.YtjiemkidmlgbeaaGreatDoor
