/- The document's Own and part (layer 8), walked. No condition. -/
import Derived.Test.YtkmhdhnoghbkgaaGreatDoorQ34
import Derived.Test.YtkmhdhnoghbkgaaGreatDoorQ14
import Derived.Test.YtkmhdhnoghbkgaaGreatDoorQ12
set_option linter.unusedVariables false
/- The document's Own and part (layer 8), walked. No condition. -/
namespace Go.Proofs.YtkmhdhnoghbkgaaGreatDoor
open Go.RowKit Go.Shelf

theorem refName_at {tx : List UInt8} {b : Bool} (h : nameL tx = b) (hl : tx.length ≤ 9223372036854775807) (W : World) :
    Calls Tryz.prog 154 #[.string ⟨tx.toArray⟩] W fun e w' => e = .returned (.bool b) ∧ w' = W := by
  have h1 := refName_any ⟨tx.toArray⟩ W (by simp [ByteArray.size]; omega)
  refine h1.mono fun e w' ⟨he, hw⟩ => ⟨?_, hw.symm⟩
  rw [he]
  exact ret_bool (by simpa using h)
theorem refKw_at {tx : List UInt8} {b : Bool} (h : kwB tx = b) (W : World) :
    Calls Tryz.prog 151 #[.string ⟨tx.toArray⟩] W fun e w' => e = .returned (.bool b) ∧ Below W.heap.size W w' := by
  refine (refKeyword_any ⟨tx.toArray⟩ W).mono fun e w' ⟨he, hw⟩ => ⟨?_, hw⟩
  rw [he]
  exact ret_bool (by rw [ByteArray.toList_eq]; simpa using h)
set_option maxHeartbeats 400000 in
theorem refOwn_any (s : List UInt8) (w : World) (hl : s.length ≤ 9223372036854775807) : Calls Tryz.prog 132 #[.string ⟨s.toArray⟩] w fun e w' => e = .returned (.bool (textOK 1 s)) ∧ Below w.heap.size w w' := by
  obtain ⟨B, hB⟩ := exHid (textOK 1 s)
  rw [hB.out]
  have h : (nameL s && !kwB s) = B := hB.out
  rcases h1 : nameL s with _ | _
  · have k1 := Lib.hid (fun W => refName_at h1 hl W)
    rw [h1] at h
    replace h := Lib.hid h
    clear h1
    go_enter Tryz.func132, Tryz.ntmps132
    go_wp2_with fail
    refine (k1.out _).mono ?_
    rintro e w2 ⟨rfl, rfl⟩
    go_wp2
    go_ret
    exact ⟨ret_bool (by rw [← h.out]; rfl), Below.refl _ _⟩
  · have k1 := Lib.hid (fun W => refName_at h1 hl W)
    have k2 := Lib.hid (fun W => refKw_at (tx := s) rfl W)
    rw [h1, Bool.true_and] at h
    replace h := Lib.hid h
    clear h1
    go_enter Tryz.func132, Tryz.ntmps132
    go_wp2_with fail
    refine (k1.out _).mono ?_
    rintro e w2 ⟨rfl, rfl⟩
    go_wp2_with fail
    refine (k2.out _).mono ?_
    rintro e w2 ⟨rfl, hb⟩
    replace hb := Lib.hid hb
    go_wp2
    go_ret
    exact ⟨ret_bool (by rw [← h.out]; try rfl), hb.out⟩

/-- May an Op be part number i of n of another one? -/
def partR (up : Nat) (i n : Int) (op : Nat) : Bool :=
  if up = 1 then (if i = n - 1 then (op : Int) == 3 else (op : Int) == 2)
  else if up = 3 then stmtB op
  else if (up = 6 ∨ up = 7) ∧ 0 < i then (op : Int) == 3
  else if up = 53 then (op : Int) == 3
  else exprB op
set_option maxHeartbeats 2000000 in
theorem refPart_any (up : Nat) (i n : Int) (op : Nat) (w : World) (hn : -1000000 ≤ n) (hn2 : n ≤ 1000000) :
    Calls Tryz.prog 98 #[.int .u8 (up : Int), .int .i64 i, .int .i64 n, .int .u8 (op : Int)] w fun e w' => e = .returned (.bool (partR up i n op)) ∧ w' = w := by
  obtain ⟨Z, hZ⟩ := exHid (partR up i n op)
  rw [hZ.out]
  have hz := hZ.out
  unfold partR at hz
  clear hZ
  have kE := Lib.hid (fun W => refExpression_any op W)
  have kS := Lib.hid (fun W => refStatement_any op W)
  by_cases h1 : up = 1
  · subst h1
    rw [if_pos rfl] at hz
    by_cases h : i = n - 1
    · rw [if_pos h] at hz
      have q : (i == n - 1) = true := beq_iff_eq.2 h
      replace hz := Lib.hid hz
      clear h
      go_enter Tryz.func98, Tryz.ntmps98
      go_wp2
      go_ret
      exact ⟨ret_bool hz.out, rfl⟩
    · rw [if_neg h] at hz
      have q : (i == n - 1) = false := beq_eq_false_iff_ne.2 h
      replace hz := Lib.hid hz
      clear h
      go_enter Tryz.func98, Tryz.ntmps98
      go_wp2
      go_ret
      exact ⟨ret_bool hz.out, rfl⟩
  · rw [if_neg h1] at hz
    have e1 : ((up : Int) == 1) = false := beq_eq_false_iff_ne.2 (by omega)
    by_cases h3 : up = 3
    · subst h3
      rw [if_pos rfl] at hz
      replace hz := Lib.hid hz
      go_enter Tryz.func98, Tryz.ntmps98
      go_wp2_with fail
      refine (kS.out _).mono ?_
      rintro e w2 ⟨rfl, rfl⟩
      go_wp2
      go_ret
      exact ⟨ret_bool hz.out, rfl⟩
    · rw [if_neg h3] at hz
      have e3 : ((up : Int) == 3) = false := beq_eq_false_iff_ne.2 (by omega)
      by_cases h67 : (up = 6 ∨ up = 7) ∧ 0 < i
      · rw [if_pos h67] at hz
        obtain ⟨h6, hi⟩ := h67
        replace hz := Lib.hid hz
        rcases h6 with rfl | rfl
        · go_enter Tryz.func98, Tryz.ntmps98
          go_wp2
          go_ret
          exact ⟨ret_bool hz.out, rfl⟩
        · go_enter Tryz.func98, Tryz.ntmps98
          go_wp2
          go_ret
          exact ⟨ret_bool hz.out, rfl⟩
      · rw [if_neg h67] at hz
        by_cases h53 : up = 53
        · subst h53
          rw [if_pos rfl] at hz
          replace hz := Lib.hid hz
          go_enter Tryz.func98, Tryz.ntmps98
          go_wp2
          go_ret
          exact ⟨ret_bool hz.out, rfl⟩
        · rw [if_neg h53] at hz
          have e53 : ((up : Int) == 53) = false := beq_eq_false_iff_ne.2 (by omega)
          replace hz := Lib.hid hz
          by_cases h6 : up = 6 ∨ up = 7
          · have hi : ¬ (0 : Int) < i := fun h => h67 ⟨h6, h⟩
            clear h67
            rcases h6 with rfl | rfl
            · go_enter Tryz.func98, Tryz.ntmps98
              go_wp2_with fail
              refine (kE.out _).mono ?_
              rintro e w2 ⟨rfl, rfl⟩
              go_wp2
              go_ret
              exact ⟨ret_bool hz.out, rfl⟩
            · go_enter Tryz.func98, Tryz.ntmps98
              go_wp2_with fail
              refine (kE.out _).mono ?_
              rintro e w2 ⟨rfl, rfl⟩
              go_wp2
              go_ret
              exact ⟨ret_bool hz.out, rfl⟩
          · have e6 : ((up : Int) == 6) = false := beq_eq_false_iff_ne.2 (by omega)
            have e7 : ((up : Int) == 7) = false := beq_eq_false_iff_ne.2 (by omega)
            clear h67 h6
            go_enter Tryz.func98, Tryz.ntmps98
            go_wp2_with fail
            refine (kE.out _).mono ?_
            rintro e w2 ⟨rfl, rfl⟩
            go_wp2
            go_ret
            exact ⟨ret_bool hz.out, rfl⟩
end Go.Proofs.YtkmhdhnoghbkgaaGreatDoor
/- Plain: the program's table says what the document's functions say of each Op (layer 8). No condition. -/
namespace Go.Proofs.YtkmhdhnoghbkgaaGreatDoor
open Go.RowKit Go.Shelf

theorem lookK_pair : ∀ {L : List (Nat × Kind)} {op : Nat} {k : Kind}, lookK L op = some k → (op, k) ∈ L
  | [], _, _, h => by cases h
  | p :: r, op, k, h => by
    unfold lookK at h
    split at h
    · rename_i e
      cases h
      subst e
      exact List.mem_cons_self ..
    · exact List.mem_cons_of_mem _ (lookK_pair h)
theorem kind_parts {up : Nat} {k : Kind} (h : kindOf up = some k) : k.part = 0 ∨ (k.part = 1 ∧ up ≠ 1 ∧ up ≠ 3 ∧ up ≠ 6 ∧ up ≠ 7 ∧ up ≠ 53) ∨ (k.part = 2 ∧ up = 1) ∨ (k.part = 3 ∧ up = 3) ∨ (k.part = 4 ∧ (up = 6 ∨ up = 7)) ∨ (k.part = 5 ∧ up = 53) := by
  have a : ∀ p ∈ kindsL, p.2.part = 0 ∨ (p.2.part = 1 ∧ p.1 ≠ 1 ∧ p.1 ≠ 3 ∧ p.1 ≠ 6 ∧ p.1 ≠ 7 ∧ p.1 ≠ 53) ∨ (p.2.part = 2 ∧ p.1 = 1) ∨ (p.2.part = 3 ∧ p.1 = 3) ∨ (p.2.part = 4 ∧ (p.1 = 6 ∨ p.1 = 7)) ∨ (p.2.part = 5 ∧ p.1 = 53) := by decide
  exact a _ (lookK_pair h)
/-- A part is what the document lets it be. -/
theorem part_doc {up : Nat} {k : Kind} (h : kindOf up = some k) (h0 : k.part ≠ 0) (op : Nat) {i n : Int} (hi : 0 ≤ i) (hn : i < n) : partOK k.part op i n = partR up i n op := by
  rcases kind_parts h with e | ⟨e, e1, e3, e6, e7, e53⟩ | ⟨e, rfl⟩ | ⟨e, rfl⟩ | ⟨e, e2⟩ | ⟨e, rfl⟩
  · exact absurd e h0
  · rw [e]
    unfold partOK partR
    rw [if_pos rfl, if_neg e1, if_neg e3, if_neg (fun c => c.1.elim e6 e7), if_neg e53]
    rfl
  · rw [e]
    unfold partOK partR
    rw [if_neg (by decide), if_pos rfl, if_pos rfl]
    by_cases c : i = n - 1
    · rw [if_pos c, if_neg (by omega)]
    · rw [if_neg c, if_pos (by omega)]
  · rw [e]; rfl
  · rw [e]
    unfold partOK partR
    rw [if_neg (by decide), if_neg (by decide), if_neg (by decide), if_pos rfl, if_neg (show ¬ up = 1 by rcases e2 with rfl | rfl <;> decide), if_neg (show ¬ up = 3 by rcases e2 with rfl | rfl <;> decide)]
    by_cases c : i = 0
    · rw [if_pos c, if_neg (by omega), if_neg (show ¬ up = 53 by rcases e2 with rfl | rfl <;> decide)]
      rfl
    · rw [if_neg c, if_pos ⟨e2, by omega⟩]
  · rw [e]
    unfold partOK partR
    rw [if_neg (by decide), if_neg (by decide), if_neg (by decide), if_neg (by decide), if_neg (by decide), if_neg (by decide), if_neg (by simp), if_pos rfl]
/-- Is a twig by itself as the document's table says? -/
def fineB (x : Tw) : Bool :=
  (exprB x.op || stmtB x.op || (decide (1 ≤ x.op) && decide (x.op ≤ 3))) &&
  (if namedB x.op then textOK 1 x.text else if x.op = 24 then textOK 2 x.text else textOK 0 x.text) &&
  !(decide (x.num < 0) || (decide (0 < x.num) && x.op != 23)) &&
  (decide (leastN x.op ≤ x.kids) && ((decide (mostN x.op < 0) && decide (x.kids ≤ 2048)) || decide (x.kids ≤ mostN x.op)))
def anyK (op : Nat) : Bool := exprB op || stmtB op || (decide (1 ≤ op) && decide (op ≤ 3))
def kfB (op : Nat) : Option Kind → Bool
  | none => !anyK op
  | some k => anyK op && k.text == (if namedB op then 1 else if op = 24 then 2 else 0) && decide ((k.least : Int) = leastN op) && ((decide (mostN op = -1) && k.most == 2048) || (decide (0 ≤ mostN op) && decide ((k.most : Int) = mostN op)))
theorem kfB_all : ∀ op, op < 256 → kfB op (kindOf op) = true := by decide +kernel
theorem kind_facts : ∀ op, op < 256 → match kindOf op with
    | none => anyK op = false
    | some k => anyK op = true ∧ k.text = (if namedB op then 1 else if op = 24 then 2 else 0) ∧ (k.least : Int) = leastN op ∧ ((mostN op = -1 ∧ k.most = 2048) ∨ (0 ≤ mostN op ∧ (k.most : Int) = mostN op)) := by
  intro op h
  have a := kfB_all op h
  revert a
  cases kindOf op with
  | none => intro a; simpa [kfB] using a
  | some k =>
    intro a
    simp only [kfB, Bool.and_eq_true, Bool.or_eq_true, decide_eq_true_eq, beq_iff_eq] at a
    exact ⟨a.1.1.1, a.1.1.2, a.1.2, a.2⟩
theorem fine_doc {x : Tw} (h : x.op < 256) : fineB x = match kindOf x.op with
    | none => false
    | some k => allowsB k x := by
  have f := kind_facts x.op h
  rcases hk : kindOf x.op with _ | k
  · rw [hk] at f
    have f' : (exprB x.op || stmtB x.op || (decide (1 ≤ x.op) && decide (x.op ≤ 3))) = false := f
    unfold fineB
    rw [f', Bool.false_and, Bool.false_and, Bool.false_and]
  · rw [hk] at f
    obtain ⟨f1, f2, f3, f4⟩ := f
    have f1' : (exprB x.op || stmtB x.op || (decide (1 ≤ x.op) && decide (x.op ≤ 3))) = true := f1
    have ft : (if namedB x.op then textOK 1 x.text else if x.op = 24 then textOK 2 x.text else textOK 0 x.text) = textOK k.text x.text := by
      rw [f2]
      by_cases a : namedB x.op = true
      · rw [if_pos a, if_pos a]
      · rw [if_neg a, if_neg a]
        by_cases b : x.op = 24
        · rw [if_pos b, if_pos b]
        · rw [if_neg b, if_neg b]
    unfold fineB
    rw [f1', ft, Bool.true_and]
    show _ = allowsB k x
    unfold allowsB
    rw [← f3]
    have fn : (!(decide (x.num < 0) || (decide (0 < x.num) && x.op != 23))) = (x.num == 0 || ((x.op : Int) == 23 && decide (0 < x.num))) := by
      by_cases a : x.num < 0
      · have b1 : (x.num == 0) = false := beq_eq_false_iff_ne.2 (by omega)
        have b2 : ¬ 0 < x.num := by omega
        simp [a, b1, b2]
      · by_cases b : x.num = 0
        · simp [b]
        · have b1 : (x.num == 0) = false := beq_eq_false_iff_ne.2 b
          have b2 : 0 < x.num := by omega
          by_cases c : x.op = 23
          · simp [a, b1, b2, c]
          · have c1 : ((x.op : Int) == 23) = false := beq_eq_false_iff_ne.2 (by omega)
            simp [a, b1, b2, c, c1]
    have fk : ((decide (mostN x.op < 0) && decide (x.kids ≤ 2048)) || decide (x.kids ≤ mostN x.op)) = decide (x.kids ≤ (k.most : Int)) ∨ ¬ (k.least : Int) ≤ x.kids := by
      rcases f4 with ⟨m1, m2⟩ | ⟨m1, m2⟩
      · by_cases c : (k.least : Int) ≤ x.kids
        · refine .inl ?_
          rw [m1, m2]
          have : (0 : Int) ≤ k.least := by omega
          have c2 : ¬ x.kids ≤ -1 := by omega
          simp [c2]
        · exact .inr c
      · refine .inl ?_
        rw [m2]
        have : ¬ mostN x.op < 0 := by omega
        simp [this]
    rw [fn]
    rcases fk with fk | fk
    · rw [fk]
      cases textOK k.text x.text <;> cases (x.num == 0 || ((x.op : Int) == 23 && decide (0 < x.num))) <;> cases decide ((k.least : Int) ≤ x.kids) <;> cases decide (x.kids ≤ (k.most : Int)) <;> rfl
    · have g : decide ((k.least : Int) ≤ x.kids) = false := decide_eq_false fk
      rw [g]
      simp
end Go.Proofs.YtkmhdhnoghbkgaaGreatDoor
/- Plain: the document's Check as a machine with a stack says what the pass says (layer 8). No condition. -/
namespace Go.Proofs.YtkmhdhnoghbkgaaGreatDoor
open Go.RowKit Go.Shelf

structure Op3 where
  op : Nat
  came : Nat
  n : Nat
  deriving DecidableEq
/-- What is whole goes off the stack. -/
def popF : List Op3 → List Op3
  | [] => []
  | [u] => if u.came = u.n then [] else [u]
  | u :: v :: r => if u.came = u.n then popF (⟨v.op, v.came + 1, v.n⟩ :: r) else u :: v :: r
termination_by l => l.length
/-- One part more of the top. -/
def popTop : List Op3 → List Op3
  | [] => []
  | v :: r => popF (⟨v.op, v.came + 1, v.n⟩ :: r)
theorem popF_whole (u : Op3) (l : List Op3) (h : u.came = u.n) : popF (u :: l) = popTop l := by
  cases l with
  | nil => rw [popF, if_pos h]; rfl
  | cons v r => rw [popF, if_pos h]; rfl
theorem popF_not (u : Op3) (l : List Op3) (h : u.came ≠ u.n) : popF (u :: l) = u :: l := by
  cases l with
  | nil => rw [popF, if_neg h]
  | cons v r => rw [popF, if_neg h]
def topBad (l : List Op3) (x : Tw) : Bool := match l with
  | [] => false
  | u :: _ => !partR u.op u.came u.n x.op
def machEnd (n : Nat) (l : List Op3) (deep : Nat) : Nat × Int := if n = 0 ∨ l ≠ [] then (n, 3) else if 0 < deep then (deep, 2) else (0, 0)
/-- The document's Check, from twig i on: so many to go, the stack, the first too deep (0: none). -/
def mach (ts : List Tw) : Nat → Nat → List Op3 → Nat → Nat × Int
  | 0, _, l, deep => machEnd ts.length l deep
  | f + 1, i, l, deep => if (0 < i ∧ l = []) ∨ fineB (twAt ts i) = false then (i, 3) else if topBad l (twAt ts i) = true then (i, 3) else
      mach ts f (i + 1) (popF (⟨(twAt ts i).op, 0, (twAt ts i).kids.toNat⟩ :: l)) (if deep = 0 ∧ 40 ≤ l.length then i else deep)
def machAt (ts : List Tw) (i : Nat) (l : List Op3) (deep : Nat) : Nat × Int := mach ts (ts.length - i) i l deep
theorem machAt_end (ts : List Tw) (l : List Op3) (deep : Nat) : machAt ts ts.length l deep = machEnd ts.length l deep := by
  unfold machAt
  rw [Nat.sub_self]
  rfl
theorem machAt_step {ts : List Tw} {i : Nat} (h : i < ts.length) (l : List Op3) (deep : Nat) : machAt ts i l deep = if (0 < i ∧ l = []) ∨ fineB (twAt ts i) = false then (i, 3) else if topBad l (twAt ts i) = true then (i, 3) else
      machAt ts (i + 1) (popF (⟨(twAt ts i).op, 0, (twAt ts i).kids.toNat⟩ :: l)) (if deep = 0 ∧ 40 ≤ l.length then i else deep) := by
  unfold machAt
  rw [show ts.length - i = (ts.length - (i + 1)) + 1 by omega]
  rfl

section
variable (ts : List Tw) (hop : ∀ i, (twAt ts i).op < 256)
theorem kids_mach (k : Kind) (up : Nat) (hk : kindOf up = some k) (kids : Nat) (hkp : k.part = 0 → kids = 0) (l : List Op3) (f : PSt → Bool × PSt) (lo : Nat)
    (hf : ∀ s s' b (u : Op3), f s = (b, s') → s.gone < ts.length → lo < s.gone → topBad (u :: l) (twAt ts s.gone) = false → s.gone < s'.gone + 1 ∧ s'.gone ≤ ts.length ∧ machAt ts s.gone (u :: l) s.tooDeep = (if b then machAt ts s'.gone (popTop (u :: l)) s'.tooDeep else (s'.gone, 3))) :
    ∀ (n p : Nat) (s s' : PSt) (b : Bool), kidsF f ts k (kids : Int) n p s = (b, s') → p + n = kids → lo < s.gone → s.gone ≤ ts.length → s.gone ≤ s'.gone ∧ s'.gone ≤ ts.length ∧ machAt ts s.gone (popF (⟨up, p, kids⟩ :: l)) s.tooDeep = (if b then machAt ts s'.gone (popTop l) s'.tooDeep else (s'.gone, 3))
  | 0, p, s, s', b, h, hpn, h0, hl => by
    cases h
    refine ⟨Nat.le_refl _, hl, ?_⟩
    rw [popF_whole _ _ (show p = kids by omega)]
    rfl
  | n + 1, p, s, s', b, h, hpn, h0, hl => by
    rw [popF_not _ _ (show p ≠ kids by omega)]
    unfold kidsF at h
    split at h
    · rename_i he
      cases h
      refine ⟨Nat.le_refl _, hl, ?_⟩
      rw [he, machAt_end]
      unfold machEnd
      rw [if_pos (.inr (by simp))]
      rfl
    · rename_i he
      have hlt : s.gone < ts.length := by omega
      have hpd := part_doc hk (fun c => by have := hkp c; omega) (twAt ts s.gone).op (i := (p : Int)) (n := (kids : Int)) (by omega) (by omega)
      split at h
      · rename_i hp
        cases h
        refine ⟨Nat.le_refl _, hl, ?_⟩
        rw [machAt_step hlt]
        have tb : topBad (⟨up, p, kids⟩ :: l) (twAt ts s.gone) = true := by
          show (!partR up p kids (twAt ts s.gone).op) = true
          rw [← hpd, hp]
          rfl
        rw [tb, if_pos rfl, ite_self]
        rfl
      · rename_i hp
        have tb : topBad (⟨up, p, kids⟩ :: l) (twAt ts s.gone) = false := by
          show (!partR up p kids (twAt ts s.gone).op) = false
          rw [← hpd]
          simpa using hp
        rcases hq : f s with ⟨b2, s2⟩
        obtain ⟨a1, a2, a3⟩ := hf s s2 b2 _ hq hlt h0 tb
        rw [a3]
        rw [hq] at h
        cases b2 with
        | false =>
          rw [if_pos rfl] at h
          cases h
          exact ⟨by show s.gone ≤ s2.gone; omega, a2, rfl⟩
        | true =>
          rw [if_neg (by simp)] at h
          obtain ⟨c1, c2, c3⟩ := kids_mach k up hk kids hkp l f lo hf n (p + 1) s2 s' b h (by omega) (by omega) a2
          exact ⟨by omega, c2, c3⟩
include hop in
theorem pass_mach : ∀ (fuel : Nat) (l : List Op3) (s s' : PSt) (b : Bool), passF fuel ts (l.length + 1) s = (b, s') → ts.length - s.gone ≤ fuel → s.gone < ts.length → (l = [] → s.gone = 0) → topBad l (twAt ts s.gone) = false →
    s.gone + b.toNat ≤ s'.gone ∧ s'.gone ≤ ts.length ∧ machAt ts s.gone l s.tooDeep = (if b then machAt ts s'.gone (popTop l) s'.tooDeep else (s'.gone, 3))
  | 0, l, s, s', b, h, h1, h2, h3, h4 => by omega
  | fuel + 1, l, s, s', b, h, h1, h2, h3, h4 => by
    have fd := fine_doc (hop s.gone)
    have hemp : ¬ (0 < s.gone ∧ l = []) := fun c => by have := h3 c.2; omega
    rw [machAt_step h2, h4]
    unfold passF at h
    split at h
    · rename_i hk
      cases h
      rw [hk] at fd
      refine ⟨Nat.le_refl _, by show s.gone ≤ _; omega, ?_⟩
      rw [if_pos (.inr fd)]
      rfl
    · rename_i k hk
      rw [hk] at fd
      have fd' : fineB (twAt ts s.gone) = allowsB k (twAt ts s.gone) := fd
      split at h
      · rename_i ha
        cases h
        refine ⟨Nat.le_refl _, by show s.gone ≤ _; omega, ?_⟩
        rw [if_pos (.inr (fd'.trans ha))]
        rfl
      · rename_i ha
        have ha' : allowsB k (twAt ts s.gone) = true := by simpa using ha
        obtain ⟨hk0, hkm⟩ := allows_kids ha'
        have hkk := kind_most hk
        rw [if_neg (by rintro (c | c); exact hemp c; rw [fd', ha'] at c; cases c), if_neg (by simp)]
        have hkid : (twAt ts s.gone).kids = (((twAt ts s.gone).kids.toNat : Nat) : Int) := by omega
        have hd : (if s.tooDeep = 0 ∧ 40 ≤ l.length then s.gone else s.tooDeep) = (nextS s (l.length + 1)).tooDeep := by
          unfold nextS
          dsimp only
          by_cases c : s.tooDeep = 0 ∧ 40 ≤ l.length
          · rw [if_pos c, if_pos ⟨by omega, c.1⟩]
          · rw [if_neg c, if_neg (fun e => c ⟨e.2, by omega⟩)]
        rw [hd]
        rw [hkid] at h
        have := kids_mach ts k (twAt ts s.gone).op hk (twAt ts s.gone).kids.toNat (fun c => by have := hkk.2.2 c; omega) l (passF fuel ts (l.length + 1 + 1)) s.gone
          (fun t t' b' u ht htl ht0 htb => by
            obtain ⟨x1, x2, x3⟩ := pass_mach fuel (u :: l) t t' b' ht (by omega) htl (fun c => by cases c) htb
            exact ⟨by omega, x2, x3⟩) _ 0 (nextS s (l.length + 1)) s' b h (by omega) (Nat.lt_succ_self _) h2
        obtain ⟨y1, y2, y3⟩ := this
        have y1' : s.gone + 1 ≤ s'.gone := y1
        exact ⟨by have := Bool.toNat_le b; omega, y2, y3⟩
/-- What the document's Check answers. -/
def docF (ts : List Tw) : Nat × Int := if 2048 < ts.length then (0, 2) else machAt ts 0 [] 0
include hop in
theorem doc_look : docF ts = ((lookF ts).1, (lookF ts).2.2) := by
  unfold docF lookF
  by_cases h1 : 2048 < ts.length
  · rw [if_pos h1, if_pos h1]
  · rw [if_neg h1, if_neg h1]
    by_cases h0 : ts.length = 0
    · rw [if_pos h0]
      have e := machAt_end ts [] 0
      rw [h0] at e
      rw [e]
      rfl
    · rw [if_neg h0]
      rcases hq : passF ts.length ts 1 ⟨0, 0, 0⟩ with ⟨b, s'⟩
      obtain ⟨a1, a2, a3⟩ := pass_mach ts hop ts.length [] ⟨0, 0, 0⟩ s' b hq (Nat.sub_le _ _) (by show 0 < _; omega) (fun _ => rfl) rfl
      have a3' : machAt ts 0 [] 0 = _ := a3
      rw [a3']
      cases b with
      | false =>
        rw [if_neg (show ¬ (false = true) by decide), if_pos (Or.inl rfl)]
      | true =>
        rw [if_pos rfl]
        have a1' : 0 + 1 ≤ s'.gone := a1
        by_cases hg : s'.gone < ts.length
        · rw [if_pos (Or.inr hg)]
          show machAt ts s'.gone [] s'.tooDeep = _
          rw [machAt_step hg, if_pos (.inl ⟨by omega, rfl⟩)]
        · have e : s'.gone = ts.length := by omega
          rw [if_neg (by rintro (c | c); cases c; exact hg c)]
          show machAt ts s'.gone [] s'.tooDeep = _
          rw [e, machAt_end]
          unfold machEnd
          rw [if_neg (by rintro (c | c); exact h0 c; exact c rfl)]
          by_cases hd : 0 < s'.tooDeep
          · rw [if_pos hd, if_pos hd]
          · rw [if_neg hd, if_neg hd]
end
end Go.Proofs.YtkmhdhnoghbkgaaGreatDoor
/- What the grammar of layer 9 reads are right trees (plain): the document's Check says of them that they are right, or too long. No condition. -/
namespace Go.Proofs.YtkmhdhnoghbkgaaGreatDoor
open Go.RowKit Go.Shelf Tok

def goodTop (L : List Op3) (op : Nat) : Prop := match L with
  | [] => True
  | u :: _ => partR u.op u.came u.n op = true
/-- A right tree with such an Op at its top: the machine goes over it. -/
def RT (us : List Tw) (op : Nat) : Prop := (∃ x r, us = x :: r ∧ x.op = op) ∧ ∀ (pre suf : List Tw) (L : List Op3) (d : Nat), (L = [] → pre = []) → (pre ++ us ++ suf).length ≤ 2048 → goodTop L op →
  ∃ d', machAt (pre ++ us ++ suf) pre.length L d = machAt (pre ++ us ++ suf) (pre.length + us.length) (popTop L) d'
def flatP (ps : List (List Tw × Nat)) : List Tw := (ps.map Prod.fst).flatten
theorem flatP_cons (x : List Tw × Nat) (r : List (List Tw × Nat)) : flatP (x :: r) = x.1 ++ flatP r := rfl
theorem flatP_append (a b : List (List Tw × Nat)) : flatP (a ++ b) = flatP a ++ flatP b := by
  unfold flatP
  rw [List.map_append, List.flatten_append]
theorem flatP_len {ps : List (List Tw × Nat)} (h : ∀ x ∈ ps, RT x.1 x.2) : ps.length ≤ (flatP ps).length := by
  induction ps with
  | nil => exact Nat.le_refl _
  | cons x r ih =>
    obtain ⟨y, s, e, _⟩ := (h x (by simp)).1
    have := ih (fun z hz => h z (List.mem_cons_of_mem _ hz))
    rw [flatP_cons, List.length_append, e, List.length_cons, List.length_cons]
    omega
theorem kids_run (op n : Nat) : ∀ (rest : List (List Tw × Nat)) (p : Nat), p + rest.length = n → (∀ x ∈ rest, RT x.1 x.2) → (∀ k (h : k < rest.length), partR op ((p + k : Nat) : Int) (n : Int) (rest[k]).2 = true) →
    ∀ (pre suf : List Tw) (L : List Op3) (d : Nat), (pre ++ flatP rest ++ suf).length ≤ 2048 → ∃ d', machAt (pre ++ flatP rest ++ suf) pre.length (popF (⟨op, p, n⟩ :: L)) d = machAt (pre ++ flatP rest ++ suf) (pre.length + (flatP rest).length) (popTop L) d'
  | [], p, hp, _, _, pre, suf, L, d, _ => by
    refine ⟨d, ?_⟩
    rw [popF_whole _ _ (show p = n by simpa using hp)]
    rfl
  | (u, o) :: rest, p, hp, hr, hk, pre, suf, L, d, hl => by
    rw [List.length_cons] at hp
    rw [popF_not _ _ (show p ≠ n by omega)]
    have h0 := hk 0 (by simp)
    obtain ⟨d1, h1⟩ := (hr (u, o) (by simp)).2 pre (flatP rest ++ suf) (⟨op, p, n⟩ :: L) d (fun e => by cases e) (by
      rw [flatP_cons] at hl
      simpa [List.append_assoc] using hl) (by simpa [goodTop] using h0)
    have e1 : pre ++ flatP ((u, o) :: rest) ++ suf = pre ++ u ++ (flatP rest ++ suf) := by rw [flatP_cons]; simp [List.append_assoc]
    have e2 : pre ++ u ++ (flatP rest ++ suf) = (pre ++ u) ++ flatP rest ++ suf := by simp [List.append_assoc]
    obtain ⟨d2, h2⟩ := kids_run op n rest (p + 1) (by omega) (fun x hx => hr x (List.mem_cons_of_mem _ hx)) (fun k h => by
      have := hk (k + 1) (by simpa using h)
      rw [show p + 1 + k = p + (k + 1) by omega]
      simpa using this) (pre ++ u) suf L d1 (by rw [← e2, ← e1]; exact hl)
    refine ⟨d2, ?_⟩
    rw [e1, h1, e2, show pre.length + u.length = (pre ++ u).length by simp]
    have h3 : popTop (⟨op, p, n⟩ :: L) = popF (⟨op, p + 1, n⟩ :: L) := rfl
    rw [h3, h2, flatP_cons]
    congr 1
    simp only [List.length_append]
    omega
theorem RT_node {op : Nat} {num : Int} {text : List UInt8} {ps : List (List Tw × Nat)} (hf : ps.length ≤ 2048 → fineB ⟨op, (ps.length : Int), num, text⟩ = true) (hr : ∀ x ∈ ps, RT x.1 x.2)
    (hp : ∀ k (h : k < ps.length), partR op (k : Int) (ps.length : Int) (ps[k]).2 = true) : RT (⟨op, (ps.length : Int), num, text⟩ :: flatP ps) op := by
  refine ⟨⟨_, _, rfl, rfl⟩, fun pre suf L d hL hl hg => ?_⟩
  have hlen : pre.length < (pre ++ (⟨op, (ps.length : Int), num, text⟩ :: flatP ps) ++ suf).length := by simp only [List.length_append, List.length_cons]; omega
  have htw : twAt (pre ++ (⟨op, (ps.length : Int), num, text⟩ :: flatP ps) ++ suf) pre.length = ⟨op, (ps.length : Int), num, text⟩ := by
    unfold twAt
    rw [List.getD_eq_getElem?_getD, List.append_assoc, List.getElem?_append_right (Nat.le_refl _), Nat.sub_self]
    rfl
  have hm := flatP_len hr
  have hfin := hf (by simp only [List.length_append, List.length_cons] at hl; omega)
  rw [machAt_step hlen, htw, if_neg (by
    rintro (c | c)
    · have := hL c.2
      rw [this] at c
      simp at c
    · rw [hfin] at c; cases c), if_neg (by
    cases L with
    | nil => simp [topBad]
    | cons u r =>
      have : partR u.op u.came u.n op = true := hg
      simp [topBad, this])]
  dsimp only
  rw [Int.toNat_natCast]
  have e1 : pre ++ (⟨op, (ps.length : Int), num, text⟩ :: flatP ps) ++ suf = (pre ++ [⟨op, (ps.length : Int), num, text⟩]) ++ flatP ps ++ suf := by simp [List.append_assoc]
  obtain ⟨d', h'⟩ := kids_run op ps.length ps 0 (by omega) hr (fun k h => by rw [Nat.zero_add]; exact hp k h) (pre ++ [⟨op, (ps.length : Int), num, text⟩]) suf L (if d = 0 ∧ 40 ≤ L.length then pre.length else d) (by rw [← e1]; exact hl)
  refine ⟨d', ?_⟩
  rw [e1, show pre.length + 1 = (pre ++ [(⟨op, (ps.length : Int), num, text⟩ : Tw)]).length by simp, h']
  congr 1
  simp only [List.length_append, List.length_cons, List.length_nil]
  omega
/-- The document's Check of such a tree: right, or too long or too deep. -/
theorem RT_check {us : List Tw} {op : Nat} (h : RT us op) : (docF us).2 = 0 ∨ (docF us).2 = 2 := by
  unfold docF
  split
  · exact .inr rfl
  · rename_i hl
    obtain ⟨⟨x, r, e, _⟩, h2⟩ := h
    obtain ⟨d', h'⟩ := h2 [] [] [] 0 (fun _ => rfl) (by simpa using Nat.not_lt.1 hl) trivial
    rw [List.nil_append, List.append_nil] at h'
    have h3 : machAt us 0 [] 0 = machAt us (0 + us.length) (popTop []) d' := h'
    rw [h3, Nat.zero_add]
    have h4 : popTop [] = [] := rfl
    rw [h4, machAt_end]
    unfold machEnd
    rw [if_neg (by rintro (c | c); (rw [e] at c; simp at c); exact c rfl)]
    split
    · exact .inr rfl
    · exact .inl rfl

/-! ### the rules' trees -/
def Trees (c : Ch) (P : List Nat → Prop) : Prop := ∃ ps : List (List Tw × Nat), c.ts = flatP ps ∧ c.n = ps.length ∧ (∀ x ∈ ps, RT x.1 x.2) ∧ P (ps.map Prod.snd)
theorem Trees.then {c d : Ch} {P Q R : List Nat → Prop} (hc : Trees c P) (hd : Trees d Q) (h : ∀ a b, P a → Q b → R (a ++ b)) : Trees (c.then d) R := by
  obtain ⟨ps, e1, e2, e3, e4⟩ := hc
  obtain ⟨qs, f1, f2, f3, f4⟩ := hd
  refine ⟨ps ++ qs, by unfold Ch.then; rw [flatP_append, ← e1, ← f1], by unfold Ch.then; rw [List.length_append, ← e2, ← f2], fun x hx => ?_, by rw [List.map_append]; exact h _ _ e4 f4⟩
  rcases List.mem_append.1 hx with hx | hx
  · exact e3 x hx
  · exact f3 x hx
theorem Trees.mono {c : Ch} {P Q : List Nat → Prop} (hc : Trees c P) (h : ∀ l, P l → Q l) : Trees c Q := by
  obtain ⟨ps, e1, e2, e3, e4⟩ := hc
  exact ⟨ps, e1, e2, e3, h _ e4⟩
theorem Trees.none : Trees Ch.none (fun l => l = []) := by
  refine ⟨[], rfl, rfl, ?_, rfl⟩
  intro x hx
  cases hx
theorem Trees.under {c : Ch} {P : List Nat → Prop} {op num : Nat} {text : List UInt8} (hc : Trees c P) (h : ∀ l, P l → (l.length ≤ 2048 → fineB ⟨op, (l.length : Int), (num : Int), text⟩ = true) ∧ ∀ k (h : k < l.length), partR op (k : Int) (l.length : Int) l[k] = true) : Trees (c.under op num text) (fun l => l = [op]) := by
  obtain ⟨ps, e1, e2, e3, e4⟩ := hc
  obtain ⟨h1, h2⟩ := h _ e4
  rw [List.length_map] at h1
  refine ⟨[(⟨op, (ps.length : Int), (num : Int), text⟩ :: flatP ps, op)], ?_, rfl, fun x hx => ?_, rfl⟩
  · unfold Ch.under
    rw [e1, e2]
    simp [flatP]
  · rw [List.mem_singleton] at hx
    subst hx
    refine RT_node h1 e3 (fun k hk => ?_)
    have := h2 k (by rw [List.length_map]; exact hk)
    simpa only [List.length_map, List.getElem_map] using this
def oneE (l : List Nat) : Prop := ∃ o, l = [o] ∧ exprB o = true
def oneS (l : List Nat) : Prop := ∃ o, l = [o] ∧ stmtB o = true
def allE (l : List Nat) : Prop := ∀ o ∈ l, exprB o = true
def allS (l : List Nat) : Prop := ∀ o ∈ l, stmtB o = true
def allP (l : List Nat) : Prop := ∀ o ∈ l, o = 2
def itemS : NT → List Nat → Prop
  | .param => allP
  | _ => allE
/-- What the trees are that a rule reads. -/
def NT.shape : NT → List Nat → Prop
  | .flow => fun l => l = [1]
  | .param => fun l => l = [2]
  | .block => fun l => l = [3]
  | .stmts | .stmtsGo _ => allS
  | .stmt | .set _ | .choice => oneS
  | .two => fun l => ∃ o p, l = [o, p] ∧ exprB o = true ∧ exprB p = true
  | .list _ p _ | .listGo p _ _ => itemS p
  | .between _ p _ => (match p with | .stmts => allS | .two => fun l => ∃ o p, l = [o, p] ∧ exprB o = true ∧ exprB p = true | _ => oneE)
  | _ => oneE
/-- What a rule that goes on bears already. -/
def NT.bears : NT → Prop
  | .stmtsGo a => Trees a allS
  | .listGo p _ a => Trees a (itemS p)
  | .rowGo _ ms a => Trees a oneE ∧ ∀ m ∈ ms, 30 ≤ opOfT m ∧ opOfT m ≤ 40
  | .row _ ms => ∀ m ∈ ms, 30 ≤ opOfT m ∧ opOfT m ≤ 40
  | .postGo a => Trees a oneE
  | .set op => op = 4 ∨ op = 5
  | _ => True
/-- A token as token.All tells it. -/
def TokOK (x : Tk) : Prop := (x.kind = 1 → textOK 1 x.text = true ∨ kwB x.text = true) ∧ (x.kind = 3 → textOK 2 x.text = true)
theorem and_ok {α β : Type} {s : St α} {f : α → Nat → St β} {c : β} {j : Nat} (h : s.and f = .ok c j) : ∃ a k, s = .ok a k ∧ f a k = .ok c j := by
  cases s with
  | ok a k => exact ⟨a, k, rfl, h⟩
  | bad k => cases h
  | out => cases h
theorem own_txt {ks : List Tk} (hk : ∀ x ∈ ks, TokOK x) {i j : Nat} {nm : List UInt8} (h : ownT ks i = .ok nm j) : textOK 1 nm = true := by
  unfold ownT at h
  split at h
  · rename_i x hx
    split at h
    · rename_i hc
      cases h
      rcases (hk x (List.mem_of_getElem? hx)).1 hc.1 with h1 | h1
      · exact h1
      · rw [hc.2] at h1; cases h1
    · cases h
  · cases h
theorem ok_inj {α : Type} {a b : α} {i j : Nat} (h : St.ok a i = St.ok b j) : a = b := by cases h; rfl
/-- A node of one expression. -/
theorem node_one {op : Nat} (h0 : fineB ⟨op, 1, 0, []⟩ = true) (hp : ∀ o, exprB o = true → partR op 0 1 o = true) : ∀ l, oneE l → (l.length ≤ 2048 → fineB ⟨op, (l.length : Int), ((0 : Nat) : Int), []⟩ = true) ∧ ∀ k (h : k < l.length), partR op (k : Int) (l.length : Int) l[k] = true := by
  rintro l ⟨o, rfl, ho⟩
  refine ⟨fun _ => h0, fun k hk => ?_⟩
  simp only [List.length_cons, List.length_nil] at hk
  obtain rfl : k = 0 := by omega
  exact hp o ho
theorem node_two {op : Nat} (h0 : fineB ⟨op, 2, 0, []⟩ = true) (hp : ∀ i o, exprB o = true → partR op i 2 o = true) : ∀ l, (∃ o p, l = [o, p] ∧ exprB o = true ∧ exprB p = true) → (l.length ≤ 2048 → fineB ⟨op, (l.length : Int), ((0 : Nat) : Int), []⟩ = true) ∧ ∀ k (h : k < l.length), partR op (k : Int) (l.length : Int) l[k] = true := by
  rintro l ⟨o, p, rfl, ho, hpp⟩
  refine ⟨fun _ => h0, fun k hk => ?_⟩
  simp only [List.length_cons, List.length_nil] at hk
  rcases (show k = 0 ∨ k = 1 by omega) with rfl | rfl
  · exact hp _ o ho
  · exact hp _ p hpp
theorem part_expr {op : Nat} (h1 : op ≠ 1) (h3 : op ≠ 3) (h6 : op ≠ 6) (h7 : op ≠ 7) (h53 : op ≠ 53) (i n : Int) (o : Nat) (ho : exprB o = true) : partR op i n o = true := by
  unfold partR
  rw [if_neg h1, if_neg h3, if_neg (by rintro ⟨c | c, _⟩; exact h6 c; exact h7 c), if_neg h53]
  exact ho
theorem two_fine : ∀ op, 30 ≤ op → op ≤ 42 → fineB ⟨op, 2, 0, []⟩ = true := by
  have h : ∀ op, op < 43 → (if 30 ≤ op then fineB ⟨op, 2, 0, []⟩ else true) = true := by decide +kernel
  intro op h1 h2
  have := h op (by omega)
  rwa [if_pos h1] at this
theorem two_ok {a b : Ch} (ha : Trees a oneE) (hb : Trees b oneE) {op : Nat} (h1 : 30 ≤ op) (h2 : op ≤ 42) : Trees ((a.then b).under op 0 []) oneE := by
  refine ((ha.then hb (R := fun l => ∃ o p, l = [o, p] ∧ exprB o = true ∧ exprB p = true) ?_).under (node_two (two_fine op h1 h2) (fun i o ho => part_expr (by omega) (by omega) (by omega) (by omega) (by omega) i 2 o ho))).mono ?_
  · rintro x y ⟨o, rfl, ho⟩ ⟨p, rfl, hp⟩
    exact ⟨o, p, rfl, ho, hp⟩
  · rintro l rfl
    exact ⟨op, rfl, by unfold exprB; simp; omega⟩
end Go.Proofs.YtkmhdhnoghbkgaaGreatDoor
