/- A part of the proof: DSt, KwR, DOwn. No condition. -/
import Derived.WalkKit
import Derived.WalkSpells
import Derived.WalkLawsBesides
import Derived.Handy
import Derived.Lib.Hide
import Derived.LoopTactic
import Derived.Lib.IndexBytes
import Derived.Deep.RegionHeld3
import Derived.Test.YtngbekhegnmfaaaGreatDoorQ01
import Derived.Test.YtngbekhegnmfaaaGreatDoorQ05
set_option linter.unusedVariables false
set_option linter.unusedSimpArgs false
namespace Go.Proofs.YtngbekhegnmfaaaGreatDoor
open Go.RowKit Tok
structure SR (w : World) (R : Nat) (a : Option Addr) (cap : Nat) (ks : List Tk) (p : Nat) (bd lg : Bool) : Prop where
 st : w.heap[R]? = some (.cells #[.slice a ks.length cap, .int .i64 p, .bool bd, .bool lg] 81 (0, 0))
 tk : TkIn w (.slice a ks.length cap) ks
 ne : ∀ q, a = some q → 0 < ks.length → q.block ≠ R
 le : p ≤ ks.length
 kl : ks.length ≤ 1000000
 tl : ∀ x ∈ ks, x.text.length ≤ 9223372036854775807
section
variable {w : World} {R cap p : Nat} {bd lg : Bool} {a : Option Addr} {ks : List Tk}
theorem SR.text (h : SR w R a cap ks p bd lg) (i : Nat) : (tkAt ks i).text.length ≤ 9223372036854775807 := by
 unfold tkAt;rw [List.getD_eq_getElem?_getD];rcases Nat.lt_or_ge i ks.length with hi | hi
 · rw [List.getElem?_eq_getElem hi]
   exact h.tl _ (List.getElem_mem hi)
 · rw [List.getElem?_eq_none hi]
   simp [tok0]
theorem SR.lt (h : SR w R a cap ks p bd lg) : R < w.heap.size := (Array.getElem?_eq_some_iff.1 h.st).1
theorem SR.c0 (h : SR w R a cap ks p bd lg) : w.cell? ⟨R, 0, none⟩ = some (.slice a ks.length cap) := by simp [World.cell?, h.st]
theorem SR.c1 (h : SR w R a cap ks p bd lg) : w.cell? ⟨R, 1, none⟩ = some (.int .i64 p) := by simp [World.cell?, h.st]
theorem SR.c2 (h : SR w R a cap ks p bd lg) : w.cell? ⟨R, 2, none⟩ = some (.bool bd) := by simp [World.cell?, h.st]
theorem SR.c3 (h : SR w R a cap ks p bd lg) : w.cell? ⟨R, 3, none⟩ = some (.bool lg) := by simp [World.cell?, h.st]
theorem SR.fz (h : SR w R a cap ks p bd lg) (j : Nat) : w.frozen? ⟨R, j, none⟩ = false := by simp [World.frozen?, h.st]
theorem SR.kept {w' : World} {F : Nat → Prop} (h : SR w R a cap ks p bd lg) (ho : Only F w w') (hR : ¬ F R) (hF : ∀ q, a = some q → 0 < ks.length → ¬ F q.block) : SR w' R a cap ks p bd lg :=
 ⟨(ho.block R h.lt hR).trans h.st, h.tk.kept ho (fun q n c e h0 => by injection e with e _ _; exact hF q e h0), h.ne, h.le, h.kl, h.tl⟩
theorem SR.below {w' : World} (h : SR w R a cap ks p bd lg) (hb : Below w.heap.size w w') : SR w' R a cap ks p bd lg := h.kept (F := fun _ => False) (Only.of_below hb) (fun h => h) (fun _ _ _ h => h)
theorem SR.turn (h : SR w R a cap ks p bd lg) {c : Nat} {v : Value} {q : Nat} {bd' lg' : Bool} (hq : q ≤ ks.length) (hv : (#[.slice a ks.length cap, .int .i64 p, .bool bd, .bool lg] : Array Value).setIfInBounds c v = #[.slice a ks.length cap, .int .i64 q, .bool bd', .bool lg']) :
   SR (w.setCell ⟨R, c, none⟩ v) R a cap ks q bd' lg' := by
 have ho : Only (fun k => k = R) w (w.setCell ⟨R, c, none⟩ v) := (Only.refl (fun k => k = R) w).setCell (p := ⟨R, c, none⟩) (.inl rfl) _;refine ⟨?_, h.tk.kept ho (fun q n c e h0 => by injection e with e _ _; exact h.ne q e h0), h.ne, hq, h.kl, h.tl⟩;have := heap_setCell_same w R c _ _ v h.st;rw [hv] at this;exact this
theorem SR.moved (h : SR w R a cap ks p bd lg) {q : Nat} (hq : q ≤ ks.length) : SR (w.setCell ⟨R, 1, none⟩ (.int .i64 q)) R a cap ks q bd lg := h.turn hq rfl
theorem SR.bad (h : SR w R a cap ks p bd lg) : SR (w.setCell ⟨R, 2, none⟩ (.bool true)) R a cap ks p true lg := h.turn h.le rfl
theorem SR.long (h : SR w R a cap ks p bd lg) : SR (w.setCell ⟨R, 3, none⟩ (.bool true)) R a cap ks p bd true := h.turn h.le rfl
theorem setOnly (w : World) (R c : Nat) (v : Value) : Only (fun k => k = R) w (w.setCell ⟨R, c, none⟩ v) := (Only.refl (fun k => k = R) w).setCell (p := ⟨R, c, none⟩) (.inl rfl) _
end
def sp (R : Nat) : Value := .pointer (some ⟨R, 0, none⟩)
set_option maxRecDepth 20000 in
set_option maxHeartbeats 2000000 in
theorem is_any {w : World} {R cap p : Nat} {bd lg : Bool} {a : Option Addr} {ks : List Tk} (h : SR w R a cap ks p bd lg) {m : List UInt8} (hm : m ≠ []) :
   Calls Tryz.prog 118 #[.pointer (some ⟨R, 0, none⟩), .string ⟨m.toArray⟩] w fun e w' => e = .returned (.bool (!bd && decide (markT ks p = m))) ∧ Below w.heap.size w w' := by
 have c0 := h.c0;have c1 := h.c1;have c2 := h.c2;have le := h.le;have kl := h.kl;obtain ⟨a', cap', e, lc, cm, hx⟩ := h.tk;injection e with e1 _ e2;subst e1 e2;have hb0 := fun m => Lib.hid (below_dn (Below.refl w.heap.size w) m)
 rw [markT_at];clear h;cases bd with
 | true =>
   clear hx;simp only [Bool.not_true, Bool.false_and];go_enter Tryz.func118, Tryz.ntmps118
   go_wp2_with fail
   go_quiet (fail)
   go_wp2_with fail
   go_ret
   exact ⟨rfl, (hb0 _).out⟩
 | false =>
   by_cases hp : p = ks.length
   · subst hp
     have ht : tkAt ks ks.length = tok0 := by unfold tkAt; rw [List.getD_eq_getElem?_getD, List.getElem?_eq_none (Nat.le_refl _)]; rfl
     have hpi : ¬ ((ks.length : Int) < (ks.length : Int)) := by omega
     have hr : decide ((if (tkAt ks ks.length).kind = 1 ∨ (tkAt ks ks.length).kind = 4 then (tkAt ks ks.length).text else []) = m) = false := by
       rw [ht]; exact decide_eq_false (fun e => hm (by simpa [tok0] using e.symm))
     rw [hr];clear hx ht hr;go_enter Tryz.func118, Tryz.ntmps118
     go_wp2_with fail
     go_quiet (fail)
     go_wp2_with fail
     go_ret
     exact ⟨rfl, (hb0 _).out⟩
   · have hlt : p < ks.length := by omega
     have hlti : (p : Int) < (ks.length : Int) := by omega
     obtain ⟨g, off, rfl, hg, hc⟩ := hx (by omega);have y0 := hc p hlt 0 (by omega); have y1 := hc p hlt 1 (by omega);rw [tkAt_get hlt];simp only [tkC, List.getElem?_cons_succ, List.getElem?_cons_zero, Nat.add_zero] at y0 y1;clear hx hc;generalize ks[p] = t at *;obtain ⟨kd, tx, nu, at_⟩ := t;dsimp only at y0 y1 ⊢;generalize ks.length = N at *;by_cases h1 : kd = 1
     · subst h1
       rw [if_pos (.inl rfl)];rcases hq : decide (tx = m) with _ | _
       · have q : (tx == m) = false := beq_eq_false_iff_ne.2 (of_decide_eq_false hq)
         clear hq;go_enter Tryz.func118, Tryz.ntmps118
         go_wp2_with fail
         go_quiet (fail)
         go_wp2_with fail
         go_ret
         exact ⟨rfl, (hb0 _).out⟩
       · have q : (tx == m) = true := beq_iff_eq.2 (of_decide_eq_true hq)
         clear hq;go_enter Tryz.func118, Tryz.ntmps118
         go_wp2_with fail
         go_quiet (fail)
         go_wp2_with fail
         go_ret
         exact ⟨rfl, (hb0 _).out⟩
     · have q1 : ((kd : Int) == 1) = false := beq_eq_false_iff_ne.2 (by omega)
       by_cases h4 : kd = 4
       · subst h4
         rw [if_pos (.inr rfl)];rcases hq : decide (tx = m) with _ | _
         · have q : (tx == m) = false := beq_eq_false_iff_ne.2 (of_decide_eq_false hq)
           clear hq;go_enter Tryz.func118, Tryz.ntmps118
           go_wp2_with fail
           go_quiet (fail)
           go_wp2_with fail
           go_ret
           exact ⟨rfl, (hb0 _).out⟩
         · have q : (tx == m) = true := beq_iff_eq.2 (of_decide_eq_true hq)
           clear hq;go_enter Tryz.func118, Tryz.ntmps118
           go_wp2_with fail
           go_quiet (fail)
           go_wp2_with fail
           go_ret
           exact ⟨rfl, (hb0 _).out⟩
       · have q4 : ((kd : Int) == 4) = false := beq_eq_false_iff_ne.2 (by omega)
         rw [if_neg (by rintro (c | c); exact h1 c; exact h4 c)];have hr : decide (([] : List UInt8) = m) = false := decide_eq_false (fun e => hm e.symm);rw [hr];clear hr;go_enter Tryz.func118, Tryz.ntmps118
         go_wp2_with fail
         go_quiet (fail)
         go_wp2_with fail
         go_ret
         exact ⟨rfl, (hb0 _).out⟩
def isB (ks : List Tk) (p : Nat) (bd : Bool) (m : List UInt8) : Bool := !bd && decide (markT ks p = m)
theorem isB_lt {ks : List Tk} {p : Nat} {bd : Bool} {m : List UInt8} (hm : m ≠ []) (h : isB ks p bd m = true) : p < ks.length ∧ bd = false ∧ markT ks p = m := by
 unfold isB at h;rw [Bool.and_eq_true] at h;have h2 := of_decide_eq_true h.2;have h1 : bd = false := by cases bd; rfl; exact absurd h.1 (by decide)
 refine ⟨?_, h1, h2⟩;unfold markT at h2;rcases Nat.lt_or_ge p ks.length with hl | hl
 · exact hl
 · rw [List.getElem?_eq_none hl] at h2
   exact absurd h2.symm hm
set_option maxRecDepth 20000 in
set_option maxHeartbeats 1000000 in
theorem has_any {w : World} {R cap p : Nat} {bd lg : Bool} {a : Option Addr} {ks : List Tk} (h : SR w R a cap ks p bd lg) {m : List UInt8} (hm : m ≠ []) :
   Calls Tryz.prog 86 #[.pointer (some ⟨R, 0, none⟩), .string ⟨m.toArray⟩] w fun e w' => e = .returned (.bool (isB ks p bd m)) ∧ SR w' R a cap ks (if isB ks p bd m then p + 1 else p) bd lg ∧ Only (fun k => k = R) w w' := by
 have c := Lib.hid (is_any h hm);have hh := Lib.hid h;have hb : (!bd && decide (markT ks p = m)) = isB ks p bd m := rfl;rw [hb] at c;have hl := fun h => isB_lt hm (p := p) (ks := ks) (bd := bd) h
 generalize isB ks p bd m = B at *;have kl := h.kl;clear h;cases B with
 | false =>
   go_enter Tryz.func86, Tryz.ntmps86
   go_wp2_with fail
   refine c.out.mono ?_;rintro e w1 ⟨rfl, hb1⟩;go_wp2_with fail
   go_ret
   exact ⟨rfl, hh.out.below hb1, Only.of_below hb1⟩
 | true =>
   have hpl := (hl rfl).1;clear hl;go_enter Tryz.func86, Tryz.ntmps86
   go_wp2_with fail
   refine c.out.mono ?_;rintro e w1 ⟨rfl, hb1⟩;have h1 := hh.out.below hb1;have d1 := h1.c1;have f1 := h1.fz 1;have hmv := Lib.hid (h1.moved (q := p + 1) (by omega));have ho := Lib.hid ((Only.of_below (F := fun k => k = R) hb1).then (setOnly w1 R 1 (.int .i64 ((p + 1 : Nat) : Int))));clear h1;go_wp2_with fail
   go_ret
   exact ⟨rfl, hmv.out, ho.out⟩
set_option maxRecDepth 20000 in
set_option maxHeartbeats 1000000 in
theorem must_any {w : World} {R cap p : Nat} {bd lg : Bool} {a : Option Addr} {ks : List Tk} (h : SR w R a cap ks p bd lg) {m : List UInt8} (hm : m ≠ []) :
   Calls Tryz.prog 84 #[.pointer (some ⟨R, 0, none⟩), .string ⟨m.toArray⟩] w fun e w' => e = .returned (.tuple #[]) ∧ SR w' R a cap ks (if isB ks p bd m then p + 1 else p) (if isB ks p bd m then bd else true) lg ∧ Only (fun k => k = R) w w' := by
 have c := Lib.hid (has_any h hm);generalize isB ks p bd m = B at *;clear h;cases B with
 | false =>
   simp only [Bool.false_eq_true, ↓reduceIte] at c ⊢;go_enter Tryz.func84, Tryz.ntmps84
   go_wp2_with fail
   refine c.out.mono ?_;rintro e w1 ⟨rfl, h1, ho1⟩;have d2 := h1.c2;have f2 := h1.fz 2;have hmv := Lib.hid h1.bad;have ho := Lib.hid (ho1.then (setOnly w1 R 2 (.bool true)));clear h1 ho1;go_wp2_with fail
   go_end0
   exact ⟨rfl, hmv.out, ho.out⟩
 | true =>
   simp only [↓reduceIte] at c ⊢;go_enter Tryz.func84, Tryz.ntmps84
   go_wp2_with fail
   refine c.out.mono ?_;rintro e w1 ⟨rfl, h1, ho1⟩;go_wp2_with fail
   go_end0
   exact ⟨rfl, h1, ho1⟩
end Go.Proofs.YtngbekhegnmfaaaGreatDoor
namespace Go.Proofs.YtngbekhegnmfaaaGreatDoor
open Go.RowKit
def TxtsK (w : World) (a : Option Addr) (f : Nat → ByteArray) (n : Nat) : Prop :=
 0 < n → ∃ b off, a = some ⟨b, off, none⟩ ∧ b < w.heap.size ∧ ∀ j, j < n → w.cell? ⟨b, off + j, none⟩ = some (.string (f j))
theorem any_rangeK (g : Nat → Bool) : ∀ n, (∀ j, j < n → g j = false) → (List.range n).any g = false := by
 intro n h;rw [List.any_eq_false];intro j hj;simp [h j (List.mem_range.1 hj)]
theorem any_hitK {g : Nat → Bool} {n j : Nat} (hj : j < n) (h : g j = true) : (List.range n).any g = true :=
 List.any_eq_true.2 ⟨j, List.mem_range.2 hj, h⟩
set_option maxRecDepth 20000 in
set_option maxHeartbeats 1000000 in
theorem among_anyK {w : World} {a : Option Addr} {f : Nat → ByteArray} {n cap : Nat} (h : TxtsK w a f n) (hn : n ≤ 1000) (s : ByteArray) :
   Calls Tryz.prog 159 #[.slice a n cap, .string s] w fun e w' => e = .returned (.bool ((List.range n).any fun j => (f j).toList == s.toList)) ∧ w = w' := by
 obtain ⟨V, hV⟩ := exHid ((List.range n).any fun j => (f j).toList == s.toList);rw [hV];replace h := Lib.hid h;go_enter Tryz.func159, Tryz.ntmps159
 go_wp2
 go_loop [5] (fun t5 => ∃ i : Nat, i ≤ n ∧ t5 = .int .i64 i ∧ Hid (∀ j, j < i → ((f j).toList == s.toList) = false)) (fun t5 => n - (intOf t5).toNat)
 case atStart => exact ⟨0, by omega, rfl, fun j hj => by omega⟩
 case round =>
   obtain ⟨i, hi, rfl, hall⟩ := hrel;rcases Nat.lt_or_ge i n with hlt | hge
   · obtain ⟨b, off, rfl, _, hc⟩ := h.out (by omega)
     have x := hc i hlt;have hlti : (i : Int) < (n : Int) := by omega
     cases hq : ((f i).toList == s.toList) with
     | false =>
       have hnx : Hid (∀ j, j < i + 1 → ((f j).toList == s.toList) = false) := by
         intro j hj;rcases Nat.lt_or_ge j i with h1 | h1
         · exact hall j h1
         · obtain rfl : j = i := by omega
           exact hq
       generalize f i = S at *;clear hc;go_wp2
       go_round
       case rel => exact ⟨i + 1, by omega, by go_num, hnx⟩
       case measure => simp [intOf]; omega
     | true =>
       have hv : V = true := by rw [← hV.out]; exact any_hitK hlt hq
       replace hv := Lib.hid hv;generalize f i = S at *;clear hc;go_wp2
       go_ret
       exact ⟨ret_bool (by rw [hv.out]), rfl⟩
   · obtain rfl : i = n := by omega
     have hlti : ¬ ((i : Int) < (i : Int)) := by omega
     have hv : V = false := by rw [← hV.out]; exact any_rangeK _ _ hall
     replace hv := Lib.hid hv;go_wp2
     go_ret
     exact ⟨ret_bool (by rw [hv.out]), rfl⟩
theorem txts_words (w : World) (cs : Array Value) (t : TypeId) (h : cs = ((List.range 28).map fun j => Value.string (kwAt j)).toArray) : TxtsK (w.alloc (.cells cs t)) (some ⟨w.heap.size, 0, none⟩) kwAt 28 := by
 subst h;refine fun _ => ⟨_, 0, rfl, by simp, fun j hj => ?_⟩
 rw [Nat.zero_add];simp only [World.cell?, heap_alloc_new];simp [List.getElem?_range hj]
set_option maxRecDepth 20000 in
theorem words_any (w : World) :
   Calls Tryz.prog 160 #[] w fun e w' => ∃ b, e = .returned (.slice (some ⟨b, 0, none⟩) 28 28) ∧ TxtsK w' (some ⟨b, 0, none⟩) kwAt 28 ∧ Below w.heap.size w w' := by
 go_enter Tryz.func160, Tryz.ntmps160
 go_wp2
 go_ret
 exact ⟨_, rfl, txts_words w _ _ (by rfl), (Below.refl _ w).alloc (Nat.le_refl _) _⟩
theorem kw_range (l : ByteArray) : ((List.range 28).any fun j => (kwAt j).toList == l.toList) = kwB l.toList := by
 have h : kwL = (List.range 28).map fun j => (kwAt j).toList := by decide +kernel
 unfold kwB;rw [h, List.any_map]
 congr 1
 funext j
 simp only [Function.comp];exact Bool.eq_iff_iff.2 ⟨fun h => beq_iff_eq.2 (beq_iff_eq.1 h).symm, fun h => beq_iff_eq.2 (beq_iff_eq.1 h).symm⟩
theorem refKeyword_any (s : ByteArray) (w : World) :
   Calls Tryz.prog 143 #[.string s] w fun e w' => e = .returned (.bool (kwB s.toList)) ∧ Below w.heap.size w w' := by
 go_enter Tryz.func143, Tryz.ntmps143
 go_wp2_with fail
 refine (words_any w).mono ?_;rintro e w1 ⟨b, rfl, hT, hb⟩;go_wp2_with fail
 refine (among_anyK hT (by omega) s).mono ?_;rintro e w2 ⟨rfl, rfl⟩;rw [kw_range];go_wp2
 go_ret
 exact ⟨rfl, hb⟩
end Go.Proofs.YtngbekhegnmfaaaGreatDoor
namespace Go.Proofs.YtngbekhegnmfaaaGreatDoor
open Go.RowKit Tok
def mineB (ks : List Tk) (p : Nat) (bd : Bool) : Bool := !bd && (decide ((tkAt ks p).kind = 1) && !kwB (tkAt ks p).text)
theorem mineB_lt {ks : List Tk} {p : Nat} {bd : Bool} (h : mineB ks p bd = true) : p < ks.length ∧ bd = false ∧ ownT ks p = .ok (tkAt ks p).text (p + 1) := by
 unfold mineB at h;rw [Bool.and_eq_true, Bool.and_eq_true] at h;obtain ⟨h1, h2, h3⟩ := h;have h4 := of_decide_eq_true h2;have hb : bd = false := by cases bd; rfl; exact absurd h1 (by decide)
 have hl : p < ks.length := by
   rcases Nat.lt_or_ge p ks.length with hl | hl
   · exact hl
   · unfold tkAt at h4
     rw [List.getD_eq_getElem?_getD, List.getElem?_eq_none hl] at h4;exact absurd h4 (by decide)
 refine ⟨hl, hb, ?_⟩;unfold ownT;rw [List.getElem?_eq_getElem hl, ← tkAt_get hl];dsimp only;rw [if_pos ⟨h4, by simpa using h3⟩]
theorem mineB_not {ks : List Tk} {p : Nat} (h : mineB ks p false = false) : ownT ks p = .bad p := by
 unfold mineB at h;unfold ownT;rcases Nat.lt_or_ge p ks.length with hl | hl
 · rw [List.getElem?_eq_getElem hl, ← tkAt_get hl]
   dsimp only;rw [if_neg];rintro ⟨h1, h2⟩;rw [h1, h2] at h;exact absurd h (by decide)
 · rw [List.getElem?_eq_none hl]
set_option maxRecDepth 20000 in
set_option maxHeartbeats 2000000 in
theorem mine_any {w : World} {R cap p : Nat} {bd lg : Bool} {a : Option Addr} {ks : List Tk} (h : SR w R a cap ks p bd lg) :
   Calls Tryz.prog 117 #[.pointer (some ⟨R, 0, none⟩)] w fun e w' => e = .returned (.bool (mineB ks p bd)) ∧ Below w.heap.size w w' := by
 have c0 := h.c0;have c1 := h.c1;have c2 := h.c2;have le := h.le;have kl := h.kl;have hRl := h.lt;obtain ⟨a', cap', e, lc, cm, hx⟩ := h.tk;injection e with e1 _ e2;subst e1 e2;have hb0 := fun m => Lib.hid (below_dn (Below.refl w.heap.size w) m)
 unfold mineB;clear h;cases bd with
 | true =>
   clear hx;simp only [Bool.not_true, Bool.false_and];go_enter Tryz.func117, Tryz.ntmps117
   go_wp2_with fail
   go_quiet (fail)
   go_wp2_with fail
   go_ret
   exact ⟨rfl, (hb0 _).out⟩
 | false =>
   simp only [Bool.not_false, Bool.true_and];by_cases hp : p = ks.length
   · subst hp
     have ht : tkAt ks ks.length = tok0 := by unfold tkAt; rw [List.getD_eq_getElem?_getD, List.getElem?_eq_none (Nat.le_refl _)]; rfl
     have hpi : ¬ ((ks.length : Int) < (ks.length : Int)) := by omega
     have hr : (decide ((tkAt ks ks.length).kind = 1) && !kwB (tkAt ks ks.length).text) = false := by rw [ht]; rfl
     rw [hr];clear hx ht hr;go_enter Tryz.func117, Tryz.ntmps117
     go_wp2_with fail
     go_quiet (fail)
     go_wp2_with fail
     go_ret
     exact ⟨rfl, (hb0 _).out⟩
   · have hlt : p < ks.length := by omega
     have hlti : (p : Int) < (ks.length : Int) := by omega
     obtain ⟨g, off, rfl, hg, hc⟩ := hx (by omega);have y0 := hc p hlt 0 (by omega); have y1 := hc p hlt 1 (by omega);rw [tkAt_get hlt];simp only [tkC, List.getElem?_cons_succ, List.getElem?_cons_zero, Nat.add_zero] at y0 y1;clear hx hc;generalize ks[p] = t at *;obtain ⟨kd, tx, nu, at_⟩ := t;dsimp only at y0 y1 ⊢;generalize ks.length = N at *;by_cases h1 : kd = 1
     · subst h1
       simp only [decide_true, Bool.true_and];have hkb : kwB (⟨tx.toArray⟩ : ByteArray).toList = kwB tx := by simp
       have kK := fun (W : World) => refKeyword_any ⟨tx.toArray⟩ W
       rw [hkb] at kK;replace kK := Lib.hid kK;clear hkb;generalize kwB tx = B at *;have y0' : w.cell? ⟨g, off + p * 4, none⟩ = some (.int .u8 1) := y0;clear y0;go_enter Tryz.func117, Tryz.ntmps117
       go_wp2_with fail
       go_region_held3 (fun w' => w'.cell? ⟨R, 0, none⟩ = some (.slice (some ⟨g, off, none⟩) N cap) ∧ w'.cell? ⟨R, 1, none⟩ = some (.int .i64 (p : Int)) ∧ w'.cell? ⟨R, 2, none⟩ = some (.bool false) ∧ w'.cell? ⟨g, off + p * 4, none⟩ = some (.int .u8 1) ∧ w'.cell? ⟨g, off + p * 4 + 1, none⟩ = some (.string ⟨tx.toArray⟩))
         (first
           | exact ⟨c0, c1, c2, y0', y1⟩
           | exact hold)
         ((go_at_call 143; refine (kK.out _).mono ?_; rintro e w' ⟨rfl, hb⟩; have hold : w'.cell? ⟨R, 0, none⟩ = some (.slice (some ⟨g, off, none⟩) N cap) ∧ w'.cell? ⟨R, 1, none⟩ = some (.int .i64 (p : Int)) ∧ w'.cell? ⟨R, 2, none⟩ = some (.bool false) ∧ w'.cell? ⟨g, off + p * 4, none⟩ = some (.int .u8 1) ∧ w'.cell? ⟨g, off + p * 4 + 1, none⟩ = some (.string ⟨tx.toArray⟩) := (by refine ⟨?_, ?_, ?_, ?_, ?_⟩ <;> exact Below.keeps hb (by assumption))))
       go_wp2_with fail
       go_ret
       exact ⟨rfl, below_drew hb⟩
     · have q1 : ((kd : Int) == 1) = false := beq_eq_false_iff_ne.2 (by omega)
       have hr : (decide (kd = 1) && !kwB tx) = false := by rw [decide_eq_false h1]; rfl
       rw [hr];clear hr;go_enter Tryz.func117, Tryz.ntmps117
       go_wp2_with fail
       go_quiet (fail)
       go_wp2_with fail
       go_ret
       exact ⟨rfl, (hb0 _).out⟩
end Go.Proofs.YtngbekhegnmfaaaGreatDoor
