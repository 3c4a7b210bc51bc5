/- A part of the proof: ShC, ShD. No condition. -/
import Derived.Test.YtjiemkidmlgbeaaGreatDoorQ31
set_option linter.unusedVariables false
set_option linter.unusedSimpArgs false
namespace Go.Proofs.YtjiemkidmlgbeaaGreatDoor
open Go.RowKit Tok
section
variable {ks : List Tk}
theorem lz_nil {i j : Nat} (h : Lz ks i [] j) : i = j := h
theorem lz_one {i j : Nat} {t : Tg} (h : Lz ks i [t] j) : ks[i]? = some (toK t) ∧ j = i + 1 := ⟨h.1, (lz_nil h.2).symm⟩
theorem ev_prim {i j : Nat} {t : Tg} {c : Ch} (ht : ks[i]? = some (toK t)) (h2 : t.kind ≠ 2) (h3 : t.kind ≠ 3) (h : ∃ f0, ∀ f, f0 ≤ f → gM ks (gP ks f) (mkG t) i = .ok c j) : Ev ks .prim i c j := by
 obtain ⟨f0, h⟩ := h;refine ⟨f0 + 1, fun f hf => ?_⟩;obtain ⟨g, rfl⟩ : ∃ g, f = g + 1 := ⟨f - 1, by omega⟩;unfold gP;rw [ht];dsimp only;rw [if_neg (show ¬ (toK t).kind = 2 from h2), if_neg (show ¬ (toK t).kind = 3 from h3), mark_at ht];exact h g (by omega)
theorem ev_int {i : Nat} {n : Nat} (ht : ks[i]? = some (toK ⟨2, [], (n : Int), 0⟩)) : Ev ks .prim i (oneC ⟨23, 0, (n : Int), []⟩ .nil) (i + 1) := .step0 fun f => by
 unfold gP;rw [ht];dsimp only;rw [if_pos (show (toK ⟨2, [], (n : Int), 0⟩).kind = 2 from rfl)];show St.ok (Ch.none.under 23 ((n : Int).toNat) []) (i + 1) = _
 rw [Int.toNat_natCast];rfl
theorem ev_text {i : Nat} {s : List UInt8} (ht : ks[i]? = some (toK ⟨3, s, 0, 0⟩)) : Ev ks .prim i (oneC ⟨24, 0, 0, s⟩ .nil) (i + 1) := .step0 fun f => by
 unfold gP;rw [ht];dsimp only;rw [if_neg (show ¬ (toK ⟨3, s, 0, 0⟩).kind = 2 from (by decide : ¬ (3 : Nat) = 2)), if_pos (show (toK ⟨3, s, 0, 0⟩).kind = 3 from rfl)];rfl
def primW : List (List UInt8) := [B.lsq, B.opn, B.none, B.tru, B.fls, B.version, B.len, B.re, B.im, B.conj, B.timer, B.num, B.call, B.child, B.fork, B.take]
theorem own_prim {s : List UInt8} (h : ownL s = true) : s ∉ primW := by
 obtain ⟨h1, h2⟩ := own_parts h;intro e;have hall : ∀ m ∈ primW, nameL m = false ∨ kwB m = true := by decide
 rcases hall s e with e | e
 · rw [h1] at e; cases e
 · rw [h2] at e; cases e
theorem ev_name {i : Nat} {s : List UInt8} (ht : ks[i]? = some (toK (wordTg s))) (h : ownL s = true) : Ev ks .prim i (oneC ⟨26, 0, 0, s⟩ .nil) (i + 1) := by
 refine ev_prim ht (by show 1 ≠ 2; decide) (by show 1 ≠ 3; decide) ⟨0, fun f _ => ?_⟩;have hn := own_prim h;simp only [primW, List.mem_cons, List.not_mem_nil, or_false, not_or] at hn;obtain ⟨n1, n2, n3, n4, n5, n6, n7, n8, n9, n10, n11, n12, n13, n14, n15, n16⟩ := hn;show gM ks (gP ks f) s i = _
 unfold gM;rw [if_neg n1, if_neg n2, if_neg (by simp only [n3, n4, n5, n6, or_self]; exact not_false), if_neg (by simp only [n7, n8, n9, n10, n11, or_self]; exact not_false), if_neg n12, if_neg (by simp only [n13, n14, or_self]; exact not_false), if_neg n15, if_neg n16, own_at ht (own_parts h).2];rfl
theorem ev_bare {i : Nat} {op : Nat} (ho : op = 20 ∨ op = 21 ∨ op = 22 ∨ op = 57) {j : Nat} (hl : Lz ks i (markTg op) j) : Ev ks .prim i (oneC ⟨op, 0, 0, []⟩ .nil) j := by
 rcases ho with rfl | rfl | rfl | rfl
 all_goals
   obtain ⟨h1, rfl⟩ := lz_one hl;refine ev_prim h1 (by decide) (by decide) ⟨0, fun f _ => ?_⟩;unfold gM;rw [if_neg (by decide), if_neg (by decide), if_pos (by decide), want_at (mark_at h1)];rfl
theorem ev_take {i j : Nat} {s : List UInt8} (h : ownL s = true) (hl : Lz ks i [wordTg B.take, wordTg s] j) : Ev ks .prim i (oneC ⟨56, 0, 0, s⟩ .nil) j := by
 obtain ⟨h1, h2⟩ := hl;obtain ⟨h3, rfl⟩ := lz_one h2;refine ev_prim h1 (by decide) (by decide) ⟨0, fun f _ => ?_⟩;unfold gM;rw [if_neg (by decide), if_neg (by decide), if_neg (by decide), if_neg (by decide), if_neg (by decide), if_neg (by decide), if_neg (by decide), if_pos (by decide), want_at (mark_at h1)];show (ownT ks (i + 1)).and _ = _
 rw [own_at h3 (own_parts h).2];rfl
theorem ev_btw {i j j' : Nat} {c : Ch} {p : NT} {o e : List UInt8} (h1 : markT ks i = o) (h : Ev ks p (i + 1) c j) (h2 : markT ks j = e) (hj : j + 1 = j') : Ev ks (.between o p e) i c j' := by
 subst hj;refine .step1 h fun f e1 => ?_
 show (wantT ks o i).and _ = _
 rw [want_at h1];show (gP ks f p (i + 1)).and _ = _
 rw [e1];show (wantT ks e j).and _ = _
 rw [want_at h2];rfl
theorem ev_asks {i j : Nat} {op : Nat} (ho : asksW op) {a : Tw} {ka : Fs} {m : Tg} (hm : markTg op = [m]) (h1 : ks[i]? = some (toK m)) (h : Ev ks (.between B.opn .expr B.cls) (i + 1) (oneC a ka) j) : Ev ks .prim i (oneC ⟨op, 1, 0, []⟩ (.cons a ka .nil)) j := by
 obtain ⟨f0, h⟩ := h;unfold asksW at ho;rcases (show op = 45 ∨ op = 46 ∨ op = 47 ∨ op = 48 ∨ op = 52 by omega) with rfl | rfl | rfl | rfl | rfl
 all_goals
   obtain rfl : _ = m := List.head_eq_of_cons_eq hm;refine ev_prim h1 (by decide) (by decide) ⟨f0, fun f hf => ?_⟩;unfold gM;rw [if_neg (by decide), if_neg (by decide), if_neg (by decide), if_pos (by decide), want_at (mark_at h1)];show (gP ks f (.between B.opn .expr B.cls) (i + 1)).and _ = _
   rw [h f hf];show St.ok ((oneC a ka).under _ 0 []) j = _
   rw [under_one];rfl
theorem ev_num {i j : Nat} {a b : Tw} {ka kb : Fs} (h1 : ks[i]? = some (toK (wordTg B.num))) (h : Ev ks (.between B.opn .two B.cls) (i + 1) ((oneC a ka).then (oneC b kb)) j) : Ev ks .prim i (oneC ⟨41, 2, 0, []⟩ (.cons a ka (.cons b kb .nil))) j := by
 obtain ⟨f0, h⟩ := h;refine ev_prim h1 (by decide) (by decide) ⟨f0, fun f hf => ?_⟩;unfold gM;rw [if_neg (by decide), if_neg (by decide), if_neg (by decide), if_neg (by decide), if_pos (by decide), want_at (mark_at h1)];show (gP ks f (.between B.opn .two B.cls) (i + 1)).and _ = _
 rw [h f hf];show St.ok (((oneC a ka).then (oneC b kb)).under 41 0 []) j = _
 rw [under_two];rfl
theorem ev_two {i j1 j : Nat} {c d : Ch} (h1 : Ev ks .expr i c j1) (h2 : markT ks j1 = B.com) (h3 : Ev ks .expr (j1 + 1) d j) : Ev ks .two i (c.then d) j := .step2 h1 h3 fun f e1 e3 => by
 show (gP ks f .expr i).and _ = _
 rw [e1];show (wantT ks B.com j1).and _ = _
 rw [want_at h2];show (gP ks f .expr (j1 + 1)).and _ = _
 rw [e3];rfl
theorem ev_call {i j : Nat} {op : Nat} (ho : op = 50 ∨ op = 51) {s : List UInt8} (hs : ownL s = true) {F : Fs} {m : Tg} (hm : markTg op = [m]) (h1 : ks[i]? = some (toK m)) (h2 : ks[i + 1]? = some (toK (wordTg s))) (h : Ev ks (.list B.opn .expr B.cls) (i + 2) (listC F) j) : Ev ks .prim i (oneC ⟨op, (F.count : Int), 0, s⟩ F) j := by
 obtain ⟨f0, h⟩ := h;rcases ho with rfl | rfl
 all_goals
   obtain rfl : _ = m := List.head_eq_of_cons_eq hm;refine ev_prim h1 (by decide) (by decide) ⟨f0, fun f hf => ?_⟩;unfold gM;rw [if_neg (by decide), if_neg (by decide), if_neg (by decide), if_neg (by decide), if_neg (by decide), if_pos (by decide), want_at (mark_at h1)];show (ownT ks (i + 1)).and _ = _
   rw [own_at h2 (own_parts hs).2];show (gP ks f (.list B.opn .expr B.cls) (i + 2)).and _ = _
   rw [h f hf];rfl
theorem ev_list {i j : Nat} {F : Fs} (h1 : ks[i]? = some (toK (signTg B.lsq))) (h : Ev ks (.list B.lsq .expr B.rsq) i (listC F) j) : Ev ks .prim i (oneC ⟨25, (F.count : Int), 0, []⟩ F) j := by
 obtain ⟨f0, h⟩ := h;refine ev_prim h1 (by decide) (by decide) ⟨f0, fun f hf => ?_⟩;unfold gM;rw [if_pos (by decide), h f hf];rfl
theorem ev_fork {i j : Nat} {b : Tw} {kb : Fs} (h1 : ks[i]? = some (toK (wordTg B.fork))) (h : Ev ks .block (i + 1) (oneC b kb) j) : Ev ks .prim i (oneC ⟨53, 1, 0, []⟩ (.cons b kb .nil)) j := by
 obtain ⟨f0, h⟩ := h;refine ev_prim h1 (by decide) (by decide) ⟨f0, fun f hf => ?_⟩;unfold gM;rw [if_neg (by decide), if_neg (by decide), if_neg (by decide), if_neg (by decide), if_neg (by decide), if_neg (by decide), if_pos (by decide), want_at (mark_at h1)];show (gP ks f .block (i + 1)).and _ = _
 rw [h f hf];show St.ok ((oneC b kb).under 53 0 []) j = _
 rw [under_one];rfl
def ItemP (ks : List Tk) (p : NT) (x : Tw) (k : Fs) : Prop := ∀ i j, Lz ks i (bareS x k) j → lvl (markT ks j) = 0 → Ev ks p i (oneC x k) j
def Items (ks : List Tk) (p : NT) : Fs → Prop
 | .nil => True
 | .cons x k r => ItemP ks p x k ∧ Items ks p r
theorem com_at {n : Nat} {F : Fs} (e : List UInt8) (h : n ≠ 0) : ∃ t r, commaS n F ++ [signTg e] = t :: r ∧ (mkG t = B.com ∨ mkG t = e) ∧ (mkG t = B.com → F ≠ .nil) ∨ e = B.com := by
 by_cases he : e = B.com
 · exact ⟨signTg e, [], .inr he⟩
 · cases F with
   | nil => exact ⟨signTg e, [], .inl ⟨rfl, .inr rfl, fun h => absurd h he⟩⟩
   | cons x k r =>
     refine ⟨signTg B.com, bareS x k ++ commaS (n + 1) r ++ [signTg e], .inl ⟨?_, .inl rfl, fun _ => by intro h; cases h⟩⟩;show ((comma n).1 ++ bareS x k ++ commaS (n + 1) r) ++ [signTg e] = _
     unfold comma;rw [if_neg h];simp
theorem ev_rest {p : NT} {e : List UInt8} (he : e ≠ B.com) (hl : lvl e = 0) : ∀ (F : Fs) (n : Nat) (a : Ch) (i j : Nat), n ≠ 0 → Items ks p F → Lz ks i (commaS n F ++ [signTg e]) j → Ev ks (.listGo p e a) i (a.then (listC F)) j
 | .nil, n, a, i, j, _, _, h => by
   obtain ⟨h1, rfl⟩ := lz_one h;have hm : markT ks i = e := mark_at h1;refine .step0 fun f => ?_
   show (if markT ks i = B.com then _ else (wantT ks e i).and _) = _
   rw [if_neg (by rw [hm]; exact he), want_at hm, then_nil];rfl
 | .cons x k r, n, a, i, j, hn, ⟨hx, hr⟩, h => by
   have e0 : commaS n (.cons x k r) ++ [signTg e] = signTg B.com :: (bareS x k ++ (commaS (n + 1) r ++ [signTg e])) := by
     show ((comma n).1 ++ bareS x k ++ commaS (n + 1) r) ++ [signTg e] = _
     unfold comma;rw [if_neg hn];simp
   rw [e0] at h;obtain ⟨h1, h2⟩ := h;obtain ⟨m, h3, h4⟩ := h2.split;have hm : markT ks i = B.com := mark_at h1;have hf : lvl (markT ks m) = 0 := by
     rcases com_at (n := n + 1) (F := r) e (by omega) with ⟨t, r', ⟨e1, e2, _⟩ | e1⟩
     · rw [e1] at h4
       rw [mark_at h4.1];rcases e2 with e2 | e2
       · rw [e2]; decide
       · rw [e2]; exact hl
     · exact absurd e1 he
   have ih := ev_rest he hl r (n + 1) (a.then (oneC x k)) m j (by omega) hr h4;rw [list_cons] at ih;refine .step2 (hx _ _ h3 hf) ih fun f e1 e2 => ?_;show (if markT ks i = B.com then (wantT ks B.com i).and _ else _) = _
   rw [if_pos hm, want_at hm];show (gP ks f p (i + 1)).and _ = _
   rw [e1];exact e2
theorem ev_items {p : NT} {o e : List UInt8} (he : e ≠ B.com) (hl : lvl e = 0) {F : Fs} {i j : Nat} (hF : Items ks p F) (hlead : ∀ x k r, F = .cons x k r → ∃ t r', bareS x k = t :: r' ∧ mkG t ≠ e) (h : Lz ks i (signTg o :: (commaS 0 F ++ [signTg e])) j) : Ev ks (.list o p e) i (listC F) j := by
 obtain ⟨h1, h2⟩ := h;have hm : markT ks i = o := mark_at h1;cases F with
 | nil =>
   obtain ⟨h3, rfl⟩ := lz_one h2;refine .step0 fun f => ?_
   show (wantT ks o i).and _ = _
   rw [want_at hm];show (if markT ks (i + 1) = e then (wantT ks e (i + 1)).and _ else _) = _
   have hm2 : markT ks (i + 1) = e := mark_at h3;rw [if_pos hm2, want_at hm2];rfl
 | cons x k r =>
   have e0 : commaS 0 (.cons x k r) ++ [signTg e] = bareS x k ++ (commaS 1 r ++ [signTg e]) := by
     show ([] ++ bareS x k ++ commaS 1 r) ++ [signTg e] = _
     simp
   rw [e0] at h2;obtain ⟨m, h3, h4⟩ := h2.split;have hf : lvl (markT ks m) = 0 := by
     rcases com_at (n := 1) (F := r) e (by omega) with ⟨t, r', ⟨e1, e2, _⟩ | e1⟩
     · rw [e1] at h4
       rw [mark_at h4.1];rcases e2 with e2 | e2
       · rw [e2]; decide
       · rw [e2]; exact hl
     · exact absurd e1 he
   have hne : markT ks (i + 1) ≠ e := by
     obtain ⟨t, r', e1, e2⟩ := hlead x k r rfl;rw [e1] at h3;rw [mark_at h3.1];exact e2
   have ih := ev_rest he hl r 1 (oneC x k) m j (by omega) hF.2 h4;rw [list_first] at ih;refine .step2 (hF.1 _ _ h3 hf) ih fun f e1 e2 => ?_;show (wantT ks o i).and _ = _
   rw [want_at hm];show (if markT ks (i + 1) = e then _ else (gP ks f p (i + 1)).and _) = _
   rw [if_neg hne, e1];exact e2
end
end Go.Proofs.YtjiemkidmlgbeaaGreatDoor
namespace Go.Proofs.YtjiemkidmlgbeaaGreatDoor
open Go.RowKit Tok
section
variable {ks : List Tk}
def FolS (m : List UInt8) : Prop := lvl m = 0 ∧ m ≠ B.elseW
def StP (ks : List Tk) (x : Tw) (k : Fs) : Prop := ∀ i j, Lz ks i (bareS x k) j → FolS (markT ks j) → Ev ks .stmt i (oneC x k) j
def BlP (ks : List Tk) (x : Tw) (k : Fs) : Prop := ∀ i j, Lz ks i (bareS x k) j → Ev ks .block i (oneC x k) j
def LeadS (x : Tw) (k : Fs) : Prop := stmtB x.op = true → ∃ t r, bareS x k = t :: r ∧ FolS (mkG t) ∧ mkG t ≠ B.rbr
structure AllP (ks : List Tk) (x : Tw) (k : Fs) : Prop where
 lead : LeadP x k
 leadS : LeadS x k
 rd : exprB x.op = true → RdP ks x k
 sp : exprB x.op = true → leftN (widthN x.op) ∨ widthN x.op = 8 → SpP ks x k
 st : stmtB x.op = true → StP ks x k
 bl : x.op = 3 → BlP ks x k
theorem rd_prim {x : Tw} {k : Fs} (hw : widthN x.op = 9) (h : ∀ i j, Lz ks i (bareS x k) j → Ev ks .prim i (oneC x k) j) : RdP ks x k := by
 intro i j hl _;rw [hw];exact h i j hl
theorem no_left {x : Tw} {k : Fs} (hw : widthN x.op = 9 ∨ widthN x.op = 3 ∨ widthN x.op = 4 ∨ widthN x.op = 7) : leftN (widthN x.op) ∨ widthN x.op = 8 → SpP ks x k := by
 intro h;unfold leftN at h;omega
theorem items_of : ∀ {F : Fs}, F.exprs → Every (AllP ks) F → Items ks .expr F
 | .nil, _, _ => trivial
 | .cons x k r, ⟨a, b⟩, ⟨c, _, d⟩ => ⟨fun i j h hf => rd_expr (c.rd a) c.lead a h hf, items_of b d⟩
theorem items_lead {F : Fs} (h : F.exprs) (hA : Every (AllP ks) F) {e : List UInt8} (he : e ∈ [B.cls, B.rsq, B.rbr, B.com]) : ∀ x k r, F = .cons x k r → ∃ t r', bareS x k = t :: r' ∧ mkG t ≠ e := by
 rintro x k r rfl;obtain ⟨t, r', e1, _, _, e2⟩ := hA.1.lead h.1;exact ⟨t, r', e1, fun e3 => e2 (e3 ▸ he)⟩
theorem mark_one {op : Nat} (h : asksW op ∨ op = 50 ∨ op = 51) : ∃ m, markTg op = [m] := by
 unfold asksW at h;rcases (show op = 45 ∨ op = 46 ∨ op = 47 ∨ op = 48 ∨ op = 52 ∨ op = 50 ∨ op = 51 by omega) with rfl | rfl | rfl | rfl | rfl | rfl | rfl <;> exact ⟨_, rfl⟩
theorem ev_pre {op : Nat} (ho : op = 43 ∨ op = 44 ∨ op = 54 ∨ op = 55) {a : Tw} {ka : Fs} {i j : Nat} (h1 : Lz ks i (markTg op) (i + 1)) (h : Ev ks (ntOf (widthN op)) (i + 1) (oneC a ka) j) : Ev ks (ntOf (widthN op)) i (oneC ⟨op, 1, 0, []⟩ (.cons a ka .nil)) j := by
 rcases ho with rfl | rfl | rfl | rfl
 · have hm : markT ks i = B.not := mark_at h1.1
   refine .step1 (q1 := .not) h fun f e => ?_;show (if markT ks i = B.not then (wantT ks B.not i).and _ else _) = _
   rw [if_pos hm, want_at hm];show (gP ks f .not (i + 1)).and _ = _
   rw [e];show St.ok ((oneC a ka).under 43 0 []) j = _
   rw [under_one];rfl
 · have hm : markT ks i = B.sub := mark_at h1.1
   refine .step1 (q1 := .pre) h fun f e => ?_;show (if markT ks i = B.sub then (wantT ks B.sub i).and _ else _) = _
   rw [if_pos hm, want_at hm];show (gP ks f .pre (i + 1)).and _ = _
   rw [e];show St.ok ((oneC a ka).under 44 0 []) j = _
   rw [under_one];rfl
 · have hm : markT ks i = B.await := mark_at h1.1
   refine .step1 (q1 := .pre) h fun f e => ?_;show (if markT ks i = B.sub then _ else if markT ks i = B.await ∨ markT ks i = B.settle then (wantT ks (markT ks i) i).and _ else _) = _
   rw [hm, if_neg (by decide), if_pos (by decide), want_at hm];show (gP ks f .pre (i + 1)).and _ = _
   rw [e];show St.ok ((oneC a ka).under (opOfT B.await) 0 []) j = _
   rw [under_one];rfl
 · have hm : markT ks i = B.settle := mark_at h1.1
   refine .step1 (q1 := .pre) h fun f e => ?_;show (if markT ks i = B.sub then _ else if markT ks i = B.await ∨ markT ks i = B.settle then (wantT ks (markT ks i) i).and _ else _) = _
   rw [hm, if_neg (by decide), if_pos (by decide), want_at hm];show (gP ks f .pre (i + 1)).and _ = _
   rw [e];show St.ok ((oneC a ka).under (opOfT B.settle) 0 []) j = _
   rw [under_one];rfl
theorem ev_cmp {op : Nat} (h1 : 32 ≤ op) (h2 : op ≤ 35) {a b : Tw} {ka kb : Fs} {i m m2 j : Nat} (hl : Lz ks m (markTg op) m2) (ha : Ev ks .sum i (oneC a ka) m) (hb : Ev ks .sum m2 (oneC b kb) j) : Ev ks .cmp i (oneC ⟨op, 2, 0, []⟩ (.cons a ka (.cons b kb .nil))) j := by
 have key : ∃ s, markT ks m = s ∧ m2 = m + 1 ∧ (s = B.eqq ∨ s = B.neq ∨ s = B.les ∨ s = B.leq) ∧ opOfT s = op := by
   rcases (show op = 32 ∨ op = 33 ∨ op = 34 ∨ op = 35 by omega) with rfl | rfl | rfl | rfl
   all_goals
     obtain ⟨g1, g2⟩ := lz_one hl;exact ⟨_, mark_at g1, g2, by decide, by decide⟩
 obtain ⟨s, hs, rfl, hm, ho⟩ := key;refine .step2 ha hb fun f e1 e2 => ?_
 show (gP ks f .sum i).and _ = _
 rw [e1];show (if markT ks m = B.eqq ∨ markT ks m = B.neq ∨ markT ks m = B.les ∨ markT ks m = B.leq then (wantT ks (markT ks m) m).and _ else _) = _
 rw [hs, if_pos hm, want_at hs];show (gP ks f .sum (m + 1)).and _ = _
 rw [e2];show St.ok (((oneC a ka).then (oneC b kb)).under (opOfT s) 0 []) j = _
 rw [under_two, ho];rfl
theorem left_key {op : Nat} (h : leftW op) : leftN (widthN op) ∧ ∃ kd s, markTg op = [⟨kd, s, 0, 0⟩] ∧ (kd = 1 ∨ kd = 4) ∧ s ∈ rowM (widthN op) ∧ lvl s = widthN op ∧ opOfT s = op := by
 unfold leftW at h;rcases (show op = 30 ∨ op = 31 ∨ op = 36 ∨ op = 37 ∨ op = 38 ∨ op = 39 ∨ op = 40 by omega) with rfl | rfl | rfl | rfl | rfl | rfl | rfl
 all_goals exact ⟨by unfold leftN; decide, _, _, rfl, by decide, by decide, by decide, by decide⟩
theorem sp_left {op : Nat} (ho : leftW op) {a b : Tw} {ka kb : Fs} (hA : AllP ks a ka) (hB : AllP ks b kb) (ha : exprB a.op = true) (hb : exprB b.op = true) : SpP ks ⟨op, 2, 0, []⟩ (.cons a ka (.cons b kb .nil)) := by
 obtain ⟨hw, kd, s, e1, e2, e3, e4, e5⟩ := left_key ho;intro i j hl hf d j2 h2;rw [bare_left ho, e1] at hl;obtain ⟨m, g1, g2⟩ := hl.split;obtain ⟨g3, g4⟩ := g2;have hm : markT ks m = s := by
   rw [mark_at g3];unfold mkG;rw [if_pos e2]
 have hw2 : widthN op ≤ 6 := by unfold leftN at hw; omega
 have hE : Ev ks (ntOf (widthN op + 1)) (m + 1) (oneC b kb) j := rd_at (hB.rd hb) hB.lead hb (by omega) (by omega) g4 (by have : lvl (markT ks j) ≤ widthN op := hf; omega);have h3 : Ev ks (goOf (widthN op) (((oneC a ka).then (oneC b kb)).under (opOfT s) 0 [])) j d j2 := by
   rw [under_two, e5];exact h2
 have h4 := ev_go hw hm e3 hE h3;exact rd_left (hA.rd ha) (hA.sp ha) hA.lead ha (.inl hw) g1 (by rw [hm, e4]; exact Nat.le_refl _) h4
theorem sp_at {a b : Tw} {ka kb : Fs} (hA : AllP ks a ka) (hB : AllP ks b kb) (ha : exprB a.op = true) (hb : exprB b.op = true) : SpP ks ⟨42, 2, 0, []⟩ (.cons a ka (.cons b kb .nil)) := by
 intro i j hl hf d j2 h2;rw [bare_at] at hl;obtain ⟨m, g1, g2, g3⟩ := hl.split;obtain ⟨m2, g4, g5⟩ := g3.split;obtain ⟨g6, rfl⟩ := lz_one g5;have hm : markT ks m = B.lsq := mark_at g2;have hm2 : markT ks m2 = B.rsq := mark_at g6;have hE : Ev ks .expr (m + 1) (oneC b kb) m2 := rd_expr (hB.rd hb) hB.lead hb g4 (by rw [hm2]; decide);have hBt : Ev ks (.between B.lsq .expr B.rsq) m (oneC b kb) (m2 + 1) := ev_btw hm hE hm2 rfl;have h4 : Ev ks (.postGo (oneC a ka)) m d j2 := .step2 (q2 := .postGo (oneC ⟨42, 2, 0, []⟩ (.cons a ka (.cons b kb .nil)))) hBt h2 fun f e1 e2 => by
   show (if markT ks m = B.lsq then (gP ks f (.between B.lsq .expr B.rsq) m).and _ else _) = _
   rw [if_pos hm, e1];show gP ks f (.postGo (((oneC a ka).then (oneC b kb)).under 42 0 [])) (m2 + 1) = _
   rw [under_two];exact e2
 exact rd_left (hA.rd ha) (hA.sp ha) hA.lead ha (w := 8) (.inr rfl) g1 (by rw [hm]; decide) h4
theorem rd_sp {x : Tw} {k : Fs} (hw : leftN (widthN x.op) ∨ widthN x.op = 8) (h : SpP ks x k) : RdP ks x k := fun i j hl hf => h i j hl (by omega) _ _ (ev_stop hw (by omega))
theorem ev_stmts : ∀ (F : Fs) (a : Ch) (i j : Nat), F.stmts → Every (AllP ks) F → Lz ks i (rowS F ++ [signTg B.rbr]) j → Ev ks (.stmtsGo a) i (a.then (listC F)) (j - 1) ∧ markT ks (j - 1) = B.rbr ∧ 1 ≤ j
 | .nil, a, i, j, _, _, h => by
   obtain ⟨h1, rfl⟩ := lz_one h;have hm : markT ks i = B.rbr := mark_at h1;refine ⟨.step0 fun f => ?_, hm, by omega⟩;show (if markT ks i = B.rbr then St.ok a i else _) = _
   rw [if_pos hm, then_nil];rfl
 | .cons x k r, a, i, j, ⟨hx, hr⟩, ⟨hA, _, hAr⟩, h => by
   have e0 : rowS (.cons x k r) ++ [signTg B.rbr] = bareS x k ++ (rowS r ++ [signTg B.rbr]) := by
     show (bareS x k ++ rowS r) ++ _ = _
     rw [List.append_assoc]
   rw [e0] at h;obtain ⟨m, h1, h2⟩ := h.split;have hf : FolS (markT ks m) := by
     cases r with
     | nil =>
       obtain ⟨h3, _⟩ := lz_one h2;rw [mark_at h3];exact ⟨by decide, by decide⟩
     | cons y l r' =>
       obtain ⟨t, r2, e1, e2, _⟩ := hAr.1.leadS hr.1;have e3 : rowS (.cons y l r') ++ [signTg B.rbr] = t :: (r2 ++ rowS r' ++ [signTg B.rbr]) := by
         show (bareS y l ++ rowS r') ++ _ = _
         rw [e1];rfl
       rw [e3] at h2;rw [mark_at h2.1];exact e2
   have hn : markT ks i ≠ B.rbr := by
     obtain ⟨t, r2, e1, _, e2⟩ := hA.leadS hx;rw [e1] at h1;rw [mark_at h1.1];exact e2
   obtain ⟨ih, i2, i3⟩ := ev_stmts r (a.then (oneC x k)) m j hr hAr h2;rw [list_cons] at ih;refine ⟨.step2 (hA.st hx i m h1 hf) ih fun f e1 e2 => ?_, i2, i3⟩;show (if markT ks i = B.rbr then _ else (gP ks f .stmt i).and _) = _
   rw [if_neg hn, e1];exact e2
theorem none_then (F : Fs) : Ch.none.then (listC F) = listC F := by
 unfold Ch.then Ch.none listC;simp
theorem bl_of {k : Fs} (hk : k.stmts) (hA : Every (AllP ks) k) : BlP ks ⟨3, (k.count : Int), 0, []⟩ k := by
 intro i j hl;rw [bare_block] at hl;obtain ⟨h1, h2⟩ := hl;obtain ⟨g1, g2, g3⟩ := ev_stmts k Ch.none (i + 1) j hk hA h2;rw [none_then] at g1;have hS : Ev ks .stmts (i + 1) (listC k) (j - 1) := .step1 g1 fun f e => e;have hB := ev_btw (o := B.lbr) (e := B.rbr) (mark_at h1) hS g2 (show j - 1 + 1 = j by omega);refine .step1 hB fun f e => ?_
 show (gP ks f (.between B.lbr .stmts B.rbr) i).and _ = _
 rw [e];rfl
theorem own_folS {s : List UInt8} (h : ownL s = true) : FolS s ∧ s ≠ B.rbr ∧ s ∉ [B.letW, B.ifW, B.whileW, B.ret, B.fail, B.sleep, B.doW] := by
 obtain ⟨h1, h2⟩ := own_parts h;have k : ∀ m : List UInt8, nameL m = false ∨ kwB m = true → s ≠ m := fun m hm e => by
   rcases hm with hm | hm
   · rw [e, hm] at h1; cases h1
   · rw [e, hm] at h2; cases h2
 have hall : ∀ m ∈ ([B.or, B.and, B.eqq, B.neq, B.les, B.leq, B.lsq] ++ addS ++ mulS), nameL m = false ∨ kwB m = true := by decide
 refine ⟨⟨?_, k _ (by decide)⟩, k _ (by decide), ?_⟩
 · have hn : ∀ m ∈ ([B.or, B.and, B.eqq, B.neq, B.les, B.leq, B.lsq] ++ addS ++ mulS), s ≠ m := fun m hm => k m (hall m hm)
   unfold lvl;rw [if_neg (hn _ (by decide)), if_neg (hn _ (by decide)), if_neg (fun e => by
     rcases e with e | e | e | e
     · exact hn _ (by decide) e
     · exact hn _ (by decide) e
     · exact hn _ (by decide) e
     · exact hn _ (by decide) e), if_neg (fun e => hn s (by simp [e]) rfl), if_neg (fun e => hn s (by simp [e]) rfl), if_neg (hn _ (by decide))]
 · intro e
   have h3 : ∀ m ∈ [B.letW, B.ifW, B.whileW, B.ret, B.fail, B.sleep, B.doW], nameL m = false ∨ kwB m = true := by decide
   exact k s (h3 s e) rfl
theorem ev_set {op i j : Nat} {s : List UInt8} (hs : ownL s = true) {a : Tw} {ka : Fs} (hA : AllP ks a ka) (ha : exprB a.op = true) (hl : Lz ks i ([wordTg s, signTg B.eq] ++ bareS a ka) j) (hf : lvl (markT ks j) = 0) : Ev ks (.set op) i (oneC ⟨op, 1, 0, s⟩ (.cons a ka .nil)) j := by
 obtain ⟨h1, h2, h3⟩ := hl;refine .step1 (rd_expr (hA.rd ha) hA.lead ha h3 hf) fun f e => ?_;show (ownT ks i).and _ = _
 rw [own_at h1 (own_parts hs).2];show (wantT ks B.eq (i + 1)).and _ = _
 rw [want_at (m := B.eq) (mark_at h2)];show (gP ks f .expr (i + 1 + 1)).and _ = _
 rw [e];show St.ok ((oneC a ka).under op 0 s) j = _
 rw [under_one];rfl
theorem stmt_key {op : Nat} (h : 8 ≤ op ∧ op ≤ 11) : ∃ s, markTg op = [wordTg s] ∧ (s = B.ret ∨ s = B.fail ∨ s = B.sleep ∨ s = B.doW) ∧ opOfT s = op ∧ s ≠ B.letW ∧ s ≠ B.ifW ∧ s ≠ B.whileW ∧ FolS s ∧ s ≠ B.rbr := by
 rcases (show op = 8 ∨ op = 9 ∨ op = 10 ∨ op = 11 by omega) with rfl | rfl | rfl | rfl
 all_goals exact ⟨_, rfl, by decide, by decide, by decide, by decide, by decide, ⟨by decide, by decide⟩, by decide⟩
theorem st_one {op : Nat} (ho : 8 ≤ op ∧ op ≤ 11) {a : Tw} {ka : Fs} (hA : AllP ks a ka) (ha : exprB a.op = true) : StP ks ⟨op, 1, 0, []⟩ (.cons a ka .nil) := by
 obtain ⟨s, e1, e2, e3, e4, e5, e6, _, _⟩ := stmt_key ho;intro i j hl hf;rw [bare_stmt ho, e1] at hl;obtain ⟨h1, h2⟩ := hl;have hm : markT ks i = s := mark_at h1;refine .step1 (rd_expr (hA.rd ha) hA.lead ha h2 hf.1) fun f e => ?_;show (if markT ks i = B.letW then _ else if markT ks i = B.ifW then _ else if markT ks i = B.whileW then _ else if markT ks i = B.ret ∨ markT ks i = B.fail ∨ markT ks i = B.sleep ∨ markT ks i = B.doW then (wantT ks (markT ks i) i).and _ else _) = _
 rw [hm, if_neg e4, if_neg e5, if_neg e6, if_pos e2, want_at hm];show (gP ks f .expr (i + 1)).and _ = _
 rw [e];show St.ok ((oneC a ka).under (opOfT s) 0 []) j = _
 rw [under_one, e3];rfl
theorem st_set {op : Nat} (ho : op = 4 ∨ op = 5) {s : List UInt8} (hs : ownL s = true) {a : Tw} {ka : Fs} (hA : AllP ks a ka) (ha : exprB a.op = true) : StP ks ⟨op, 1, 0, s⟩ (.cons a ka .nil) := by
 intro i j hl hf;rcases ho with rfl | rfl
 · rw [bare_let] at hl
   obtain ⟨h1, h2⟩ := hl;have hm : markT ks i = B.letW := mark_at h1;refine .step1 (ev_set (op := 4) hs hA ha h2 hf.1) fun f e => ?_;show (if markT ks i = B.letW then (wantT ks B.letW i).and _ else _) = _
   rw [if_pos hm, want_at hm];exact e
 · rw [bare_set] at hl
   have hm : markT ks i = s := mark_at hl.1;obtain ⟨_, _, hn⟩ := own_folS hs;simp only [List.mem_cons, List.not_mem_nil, or_false, not_or] at hn;obtain ⟨n1, n2, n3, n4, n5, n6, n7⟩ := hn;refine .step1 (ev_set (op := 5) hs hA ha hl hf.1) fun f e => ?_;show (if markT ks i = B.letW then _ else if markT ks i = B.ifW then _ else if markT ks i = B.whileW then _ else if markT ks i = B.ret ∨ markT ks i = B.fail ∨ markT ks i = B.sleep ∨ markT ks i = B.doW then _ else gP ks f (.set 5) i) = _
   rw [hm, if_neg n1, if_neg n2, if_neg n3, if_neg (by simp only [n4, n5, n6, n7, or_self]; exact not_false)];exact e
theorem st_while {a b : Tw} {ka kb : Fs} (hA : AllP ks a ka) (ha : exprB a.op = true) (hB : BlP ks b kb) (hbl : ∀ {i j}, Lz ks i (bareS b kb) j → markT ks i = B.lbr) : StP ks ⟨7, 2, 0, []⟩ (.cons a ka (.cons b kb .nil)) := by
 intro i j hl hf;rw [bare_cond2 (.inr rfl)] at hl;obtain ⟨h1, h2⟩ := hl;obtain ⟨m, h3, h4⟩ := h2.split;have hm : markT ks i = B.whileW := mark_at h1;refine .step2 (rd_expr (hA.rd ha) hA.lead ha h3 (by rw [hbl h4]; decide)) (hB m j h4) fun f e1 e2 => ?_;show (if markT ks i = B.letW then _ else if markT ks i = B.ifW then _ else if markT ks i = B.whileW then (wantT ks B.whileW i).and _ else _) = _
 rw [hm, if_neg (by decide), if_neg (by decide), if_pos rfl, want_at hm];show (gP ks f .expr (i + 1)).and _ = _
 rw [e1];show (gP ks f .block m).and _ = _
 rw [e2];show St.ok (((oneC a ka).then (oneC b kb)).under 7 0 []) j = _
 rw [under_two];rfl
theorem ev_if {i j : Nat} {c : Ch} (hm : markT ks i = B.ifW) (h : Ev ks .choice i c j) : Ev ks .stmt i c j := .step1 h fun f e => by
 show (if markT ks i = B.letW then _ else if markT ks i = B.ifW then gP ks f .choice i else _) = _
 rw [hm, if_neg (by decide), if_pos rfl];exact e
theorem st_if2 {a b : Tw} {ka kb : Fs} (hA : AllP ks a ka) (ha : exprB a.op = true) (hB : BlP ks b kb) (hbl : ∀ {i j}, Lz ks i (bareS b kb) j → markT ks i = B.lbr) : StP ks ⟨6, 2, 0, []⟩ (.cons a ka (.cons b kb .nil)) := by
 intro i j hl hf;rw [bare_cond2 (.inl rfl)] at hl;obtain ⟨h1, h2⟩ := hl;obtain ⟨m, h3, h4⟩ := h2.split;have hm : markT ks i = B.ifW := mark_at h1;refine ev_if hm (.step2 (rd_expr (hA.rd ha) hA.lead ha h3 (by rw [hbl h4]; decide)) (hB m j h4) fun f e1 e2 => ?_);show (wantT ks B.ifW i).and _ = _
 rw [want_at hm];show (gP ks f .expr (i + 1)).and _ = _
 rw [e1];show (gP ks f .block m).and _ = _
 rw [e2];show (if markT ks j = B.elseW then _ else St.ok (((oneC a ka).then (oneC b kb)).under 6 0 []) j) = _
 rw [if_neg hf.2, under_two];rfl
theorem st_if3 {a b c : Tw} {ka kb kc : Fs} (hA : AllP ks a ka) (ha : exprB a.op = true) (hB : BlP ks b kb) (hC : BlP ks c kc) (hbl : ∀ {i j}, Lz ks i (bareS b kb) j → markT ks i = B.lbr) : StP ks ⟨6, 3, 0, []⟩ (.cons a ka (.cons b kb (.cons c kc .nil))) := by
 intro i j hl hf;rw [bare_cond3] at hl;obtain ⟨h1, h2⟩ := hl;obtain ⟨m, h3, h4⟩ := h2.split;obtain ⟨m2, h5, h6, h7⟩ := h4.split;have hm : markT ks i = B.ifW := mark_at h1;have hm2 : markT ks m2 = B.elseW := mark_at h6;refine ev_if hm (.step3 (rd_expr (hA.rd ha) hA.lead ha h3 (by rw [hbl h5]; decide)) (hB m m2 h5) (hC (m2 + 1) j h7) fun f e1 e2 e3 => ?_);show (wantT ks B.ifW i).and _ = _
 rw [want_at hm];show (gP ks f .expr (i + 1)).and _ = _
 rw [e1];show (gP ks f .block m).and _ = _
 rw [e2];show (if markT ks m2 = B.elseW then (wantT ks B.elseW m2).and _ else _) = _
 rw [if_pos hm2, want_at hm2];show (gP ks f .block (m2 + 1)).and _ = _
 rw [e3];show St.ok ((((oneC a ka).then (oneC b kb)).then (oneC c kc)).under 6 0 []) j = _
 rw [under_three];rfl
theorem leadS_of {x : Tw} {k : Fs} (h : (Fs.cons x k .nil).ok) : LeadS x k := by
 intro hs;cases view h with
 | bare op ho => exact absurd hs (show ¬ stmtB op = true by rcases ho with rfl | rfl | rfl | rfl <;> decide)
 | int n => exact absurd hs (show ¬ stmtB 23 = true by decide)
 | text s h => exact absurd hs (show ¬ stmtB 24 = true by decide)
 | own op s ho h => exact absurd hs (show ¬ stmtB op = true by rcases ho with rfl | rfl | rfl <;> decide)
 | one op a ka ho ha =>
   have hs' : 4 ≤ op ∧ op ≤ 11 := by
     have : stmtB op = true := hs;exact of_decide_eq_true this
   have ho' : 8 ≤ op ∧ op ≤ 11 := by omega
   obtain ⟨s, e1, _, _, _, _, _, e2, e3⟩ := stmt_key ho';exact ⟨wordTg s, bareS a ka, by rw [bare_stmt ho', e1]; rfl, e2, e3⟩
 | set op s a ka ho ht ha =>
   rcases ho with rfl | rfl
   · exact ⟨_, _, bare_let, ⟨by decide, by decide⟩, by decide⟩
   · obtain ⟨e1, e2, _⟩ := own_folS ht
     exact ⟨wordTg s, _, bare_set, e1, e2⟩
 | two op a ka b kb h1 h2 ha hb =>
   have hs' : 4 ≤ op ∧ op ≤ 11 := by
     have : stmtB op = true := hs;exact of_decide_eq_true this
   omega
 | list k hk hn => exact absurd hs (show ¬ stmtB 25 = true by decide)
 | call op s k ho h hk hn => exact absurd hs (show ¬ stmtB op = true by rcases ho with rfl | rfl <;> decide)
 | fork b kb hb => exact absurd hs (show ¬ stmtB 53 = true by decide)
 | block k hk hn => exact absurd hs (show ¬ stmtB 3 = true by decide)
 | cond2 op a ka b kb ho ha hb =>
   rcases ho with rfl | rfl
   · exact ⟨_, _, bare_cond2 (.inl rfl), ⟨by decide, by decide⟩, by decide⟩
   · exact ⟨_, _, bare_cond2 (.inr rfl), ⟨by decide, by decide⟩, by decide⟩
 | cond3 a ka b kb c kc ha hb hc => exact ⟨_, _, bare_cond3, ⟨by decide, by decide⟩, by decide⟩
 | flow s k h hk hn => exact absurd hs (show ¬ stmtB 1 = true by decide)
theorem block_lead {x : Tw} {k : Fs} (h : (Fs.cons x k .nil).ok) (h3 : x.op = 3) {i j : Nat} (hl : Lz ks i (bareS x k) j) : markT ks i = B.lbr := by
 have e : ∃ r, bareS x k = signTg B.lbr :: r := by
   cases view h with
   | block k hk hn => exact ⟨_, bare_block⟩
   | bare op ho => exact absurd (show op = 3 from h3) (by omega)
   | int n => exact absurd (show 23 = 3 from h3) (by decide)
   | text s h => exact absurd (show 24 = 3 from h3) (by decide)
   | own op s ho h => exact absurd (show op = 3 from h3) (by omega)
   | one op a ka ho ha => exact absurd (show op = 3 from h3) (by omega)
   | set op s a ka ho h ha => exact absurd (show op = 3 from h3) (by omega)
   | two op a ka b kb h1 h2 ha hb => exact absurd (show op = 3 from h3) (by omega)
   | list k hk hn => exact absurd (show 25 = 3 from h3) (by decide)
   | call op s k ho h hk hn => exact absurd (show op = 3 from h3) (by omega)
   | fork b kb hb => exact absurd (show 53 = 3 from h3) (by decide)
   | cond2 op a ka b kb ho ha hb => exact absurd (show op = 3 from h3) (by omega)
   | cond3 a ka b kb c kc ha hb hc => exact absurd (show 6 = 3 from h3) (by decide)
   | flow s k h hk hn => exact absurd (show 1 = 3 from h3) (by decide)
 obtain ⟨r, e⟩ := e;rw [e] at hl;exact mark_at hl.1
end
end Go.Proofs.YtjiemkidmlgbeaaGreatDoor
