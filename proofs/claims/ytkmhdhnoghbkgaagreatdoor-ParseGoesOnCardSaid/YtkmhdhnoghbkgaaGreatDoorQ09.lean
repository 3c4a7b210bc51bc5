/- token.All of a source of any length (cut of TWake and TAllL, which name functions that a seat may lack). -/
import Derived.Test.YtkmhdhnoghbkgaaGreatDoorQ08
import Derived.Test.YtkmhdhnoghbkgaaGreatDoorQ07
set_option linter.unusedVariables false
/- token.All of a source of any length (cut of TWake and TAllL, which name functions that a seat may lack). -/
namespace Go.Proofs.YtkmhdhnoghbkgaaGreatDoor
open Go.RowKit Tok
set_option maxHeartbeats 400000 in
/-- A source that is too long. -/
theorem All_long (s : ByteArray) (w : World) (hs : 16384 < s.size) (hs2 : s.size ≤ 140737488351232) :
    Calls Tryz.prog 17 #[.string s] w fun e w' => e = .returned (.tuple #[.slice none 0 0, .int .i64 0, .int .i64 2]) ∧ w' = w := by
  have h1 : (16384 : Int) < (s.size : Int) := by omega
  go_enter Tryz.func17, Tryz.ntmps17
  go_wp2
  go_step3
  go_wp2
  simp (config := { zetaDelta := true }) only [Exit.noGoto_ret]
  go_ret3
  exact ⟨rfl, rfl⟩
/-- What All answers, of any source. -/
def AllPost (s : ByteArray) (w : World) (e : Ending) (w' : World) : Prop := ∃ v', e = .returned (.tuple #[v', .int .i64 (allT s.data.toList).at_, .int .i64 (allT s.data.toList).code]) ∧ TksAt w' w.heap.size v' (allT s.data.toList).toks ∧ Below w.heap.size w w'
theorem allT_long {s : ByteArray} (h : 16384 < s.size) : allT s.data.toList = ⟨[], 0, 2⟩ := if_pos (by rw [size_list]; exact h)
theorem All_every (s : ByteArray) (w : World) (hs : s.size ≤ 140737488351232) (hE : ErrR w) (hS : SignsOK w) : Calls Tryz.prog 17 #[.string s] w (AllPost s w) := by
  rcases Nat.lt_or_ge 16384 s.size with h | h
  · refine (All_long s w h hs).mono ?_
    rintro e w' ⟨rfl, rfl⟩
    unfold AllPost
    rw [allT_long h]
    exact ⟨_, rfl, TksAt.nil _ _, Below.refl _ _⟩
  · exact All_any s w h hE hS
end Go.Proofs.YtkmhdhnoghbkgaaGreatDoor
/- The reader of layer 9: mark, want, own, walked. No condition. -/
namespace Go.Proofs.YtkmhdhnoghbkgaaGreatDoor
open Go.RowKit Tok

set_option maxRecDepth 20000 in
set_option maxHeartbeats 1000000 in
theorem mark_any {w : World} {R cap n p : Nat} {a : Option Addr} {ks : List Tk} (h : PR w R a cap n ks p) :
    Calls Tryz.prog 83 #[.pointer (some ⟨R, 0, none⟩)] w fun e w' => e = .returned (.string ⟨(markT ks p).toArray⟩) ∧ Below w.heap.size w w' := by
  have c := Lib.hid (ahead_any h)
  rw [markT_at]
  generalize tkAt ks p = t at *
  obtain ⟨kd, tx, nu, at_⟩ := t
  unfold tkV at c
  dsimp only at c ⊢
  clear h
  by_cases h1 : kd = 1
  · subst h1
    rw [if_pos (.inl rfl)]
    go_enter Tryz.func83, Tryz.ntmps83
    go_wp2_with fail
    refine c.out.mono ?_
    rintro e w1 ⟨rfl, hb⟩
    go_wp2_with fail
    go_ret
    exact ⟨rfl, hb.alloc hb.size _⟩
  · have q1 : ((kd : Int) == 1) = false := beq_eq_false_iff_ne.2 (by omega)
    by_cases h4 : kd = 4
    · subst h4
      rw [if_pos (.inr rfl)]
      go_enter Tryz.func83, Tryz.ntmps83
      go_wp2_with fail
      refine c.out.mono ?_
      rintro e w1 ⟨rfl, hb⟩
      go_wp2_with fail
      go_ret
      exact ⟨rfl, hb.alloc hb.size _⟩
    · have q4 : ((kd : Int) == 4) = false := beq_eq_false_iff_ne.2 (by omega)
      rw [if_neg (by rintro (c | c); exact h1 c; exact h4 c)]
      go_enter Tryz.func83, Tryz.ntmps83
      go_wp2_with fail
      refine c.out.mono ?_
      rintro e w1 ⟨rfl, hb⟩
      go_wp2_with fail
      go_ret
      exact ⟨rfl, hb.alloc hb.size _⟩
theorem tok_cell (w : World) (kd : Int) (tx : Value) (nu at_ : Int) : (w.alloc (.cells #[.int .u8 kd, tx, .int .i64 nu, .int .i64 at_] 60)).cell? ⟨w.heap.size, 1, none⟩ = some tx := by
  have h := heap_alloc_new w (.cells #[.int .u8 kd, tx, .int .i64 nu, .int .i64 at_] 60)
  simp only [World.cell?, h]
  rfl
/-- What a call of a reader's method comes to: told by T, the reader moved on; or it gave up. -/
def TookP {α : Type} (s : St α) (T : α → Value → World → Prop) (w : World) (R : Nat) (a : Option Addr) (cap n : Nat) (ks : List Tk) (e : Ending) (w' : World) : Prop :=
  match s with
  | .ok x j => (∃ v, e = .returned v ∧ T x v w') ∧ PR w' R a cap n ks j ∧ Only (fun k => k = R) w w'
  | .bad j => GaveP ks n j e ∧ Below R w w'
  | .out => True
set_option maxRecDepth 20000 in
set_option maxHeartbeats 1000000 in
theorem want_any {w : World} {R cap n p : Nat} {a : Option Addr} {ks : List Tk} (h : PR w R a cap n ks p) {m : List UInt8} (hm : m ≠ []) :
    Calls Tryz.prog 45 #[.pointer (some ⟨R, 0, none⟩), .string ⟨m.toArray⟩] w (TookP (wantT ks m p) (fun _ v _ => v = .tuple #[]) w R a cap n ks) := by
  have c := Lib.hid (mark_any h)
  have hlt := h.lt
  unfold wantT
  by_cases hq : markT ks p = m
  · rw [if_pos hq]
    have hpl : p < ks.length := by
      rcases Nat.lt_or_ge p ks.length with hl | hl
      · exact hl
      · unfold markT at hq
        rw [List.getElem?_eq_none hl] at hq
        exact absurd hq.symm hm
    rw [hq] at c
    have q : (m == m) = true := beq_self_eq_true _
    have kl := h.kl
    have hh := Lib.hid h
    clear h hq
    go_enter Tryz.func45, Tryz.ntmps45
    go_wp2_with fail
    refine c.out.mono ?_
    rintro e w1 ⟨rfl, hb⟩
    have h1 := hh.out.below hb
    have d1 := h1.c1
    have f1 := h1.fz 1
    have hmv := Lib.hid (h1.moved (q := p + 1) (by omega))
    have ho := Lib.hid ((Only.of_below (F := fun k => k = R) hb).setCell (p := ⟨R, 1, none⟩) (.inl rfl) (.int .i64 ((p + 1 : Nat) : Int)))
    clear h1 hb
    go_wp2_with fail
    refine bodyPost_ret (results_none rfl _ _ _) rfl ?_
    exact ⟨⟨_, rfl, rfl⟩, hmv.out, ho.out⟩
  · rw [if_neg hq]
    have q : (markT ks p == m) = false := beq_eq_false_iff_ne.2 hq
    have g := Lib.hid (fun W (hb : Below w.heap.size w W) => giveUp_any (h.below hb))
    generalize markT ks p = A at *
    clear h
    go_enter Tryz.func45, Tryz.ntmps45
    go_wp2_with fail
    refine c.out.mono ?_
    rintro e w1 ⟨rfl, hb⟩
    go_wp2_with fail
    refine (g.out _ hb).mono ?_
    rintro e w2 ⟨he, hb2⟩
    have hB := hb.trans (hb2.mono hb.size)
    unfold GaveP at he
    subst he
    go_wp2_with fail
    exact ⟨rfl, rfl, hB.mono (Nat.le_of_lt hlt)⟩
set_option maxRecDepth 20000 in
set_option maxHeartbeats 1000000 in
theorem own_any {w : World} {R cap n p : Nat} {a : Option Addr} {ks : List Tk} (h : PR w R a cap n ks p) :
    Calls Tryz.prog 46 #[.pointer (some ⟨R, 0, none⟩)] w (TookP (ownT ks p) (fun x v _ => v = .string ⟨x.toArray⟩) w R a cap n ks) := by
  have c := Lib.hid (ahead_any h)
  have hlt := h.lt
  have kl := h.kl
  have g := Lib.hid (fun W (hb : Below w.heap.size w W) => giveUp_any (h.below hb))
  have hh := Lib.hid h
  have hpos : (tkAt ks p).kind = 1 → p < ks.length := by
    intro e
    rcases Nat.lt_or_ge p ks.length with hl | hl
    · exact hl
    · unfold tkAt at e
      rw [List.getD_eq_getElem?_getD, List.getElem?_eq_none hl] at e
      cases e
  have how : ownT ks p = if (tkAt ks p).kind = 1 ∧ kwB (tkAt ks p).text = false then .ok (tkAt ks p).text (p + 1) else .bad p := by
    unfold ownT tkAt
    rw [List.getD_eq_getElem?_getD]
    cases ks[p]? with
    | none => rfl
    | some x => rfl
  rw [how]
  clear h how
  generalize tkAt ks p = t at *
  obtain ⟨kd, tx, nu, at_⟩ := t
  unfold tkV at c
  dsimp only at c hpos ⊢
  by_cases h1 : kd = 1
  · subst h1
    have hpl := hpos rfl
    have kK := Lib.hid (fun W => keyword_any ⟨tx.toArray⟩ W)
    rcases hkb : kwB tx with _ | _
    · rw [if_pos ⟨rfl, rfl⟩]
      have hkb' : kwB (⟨tx.toArray⟩ : ByteArray).toList = false := by simpa using hkb
      rw [hkb'] at kK
      go_enter Tryz.func46, Tryz.ntmps46
      go_wp2_with fail
      refine c.out.mono ?_
      rintro e w1 ⟨rfl, hb⟩
      go_wp2_with fail
      refine (kK.out _).mono ?_
      rintro e w2 ⟨rfl, rfl⟩
      have hal := hb.alloc hb.size (.cells #[.int .u8 1, .string ⟨tx.toArray⟩, .int .i64 (nu : Int), .int .i64 (at_ : Int)] 60)
      have h1 := hh.out.below hal
      have d1 := h1.c1
      have f1 := h1.fz 1
      have hmv := Lib.hid (h1.moved (q := p + 1) (by omega))
      have ho := Lib.hid ((Only.of_below (F := fun k => k = R) hal).setCell (p := ⟨R, 1, none⟩) (.inl rfl) (.int .i64 ((p : Int) + 1)))
      have y1 := tok_cell w1 1 (.string ⟨tx.toArray⟩) (nu : Int) (at_ : Int)
      have hRne : (⟨R, 1, none⟩ : Addr) ≠ ⟨w1.heap.size, 1, none⟩ := fun e => by
        injection e with e _ _
        have := hb.size
        omega
      have y2 := (World.cell?_setCell_other _ ⟨R, 1, none⟩ ⟨w1.heap.size, 1, none⟩ (.int .i64 ((p : Int) + 1)) hRne).trans y1
      clear h1 hal
      go_wp2_with fail
      go_ret
      exact ⟨⟨_, rfl, rfl⟩, hmv.out, ho.out⟩
    · rw [if_neg (by rintro ⟨_, c⟩; cases c)]
      have hkb' : kwB (⟨tx.toArray⟩ : ByteArray).toList = true := by simpa using hkb
      rw [hkb'] at kK
      go_enter Tryz.func46, Tryz.ntmps46
      go_wp2_with fail
      refine c.out.mono ?_
      rintro e w1 ⟨rfl, hb⟩
      go_wp2_with fail
      refine (kK.out _).mono ?_
      rintro e w2 ⟨rfl, rfl⟩
      have hal := hb.alloc hb.size (.cells #[.int .u8 1, .string ⟨tx.toArray⟩, .int .i64 (nu : Int), .int .i64 (at_ : Int)] 60)
      go_wp2_with fail
      refine (g.out _ hal).mono ?_
      rintro e w2 ⟨he, hb2⟩
      have hB := hal.trans (hb2.mono hal.size)
      unfold GaveP at he
      subst he
      go_wp2_with fail
      exact ⟨rfl, rfl, hB.mono (Nat.le_of_lt hlt)⟩
  · have q1 : ((kd : Int) == 1) = false := beq_eq_false_iff_ne.2 (by omega)
    rw [if_neg (by rintro ⟨c, _⟩; exact h1 c)]
    go_enter Tryz.func46, Tryz.ntmps46
    go_wp2_with fail
    refine c.out.mono ?_
    rintro e w1 ⟨rfl, hb⟩
    have hal := hb.alloc hb.size (.cells #[.int .u8 (kd : Int), .string ⟨tx.toArray⟩, .int .i64 (nu : Int), .int .i64 (at_ : Int)] 60)
    go_wp2_with fail
    refine (g.out _ hal).mono ?_
    rintro e w2 ⟨he, hb2⟩
    have hB := hal.trans (hb2.mono hal.size)
    unfold GaveP at he
    subst he
    go_wp2_with fail
    exact ⟨rfl, rfl, hB.mono (Nat.le_of_lt hlt)⟩
end Go.Proofs.YtkmhdhnoghbkgaaGreatDoor
