/- A part of the proof: RTws, DTop, DRel, DSign, DOne. No condition. -/
import Derived.Maps.AppendAt
import Derived.OwnWalk
import Derived.Test.YtngbekhegnmfaaaGreatDoorQ03
import Derived.Test.YtngbekhegnmfaaaGreatDoorQ05
import Derived.Test.YtngbekhegnmfaaaGreatDoorQ06
import Derived.Test.YtngbekhegnmfaaaGreatDoorQ07
set_option linter.unusedVariables false
set_option linter.unusedSimpArgs false
namespace Go.Proofs.YtngbekhegnmfaaaGreatDoor
open Go.RowKit Go.Shelf
theorem twC_len (t : Tw) : (twC t).length = 4 := rfl
theorem twC_one (t : Tw) : ∀ u ∈ twC t, u.oneCell' = true := by
 intro u hu;simp only [twC, List.mem_cons, List.not_mem_nil, or_false] at hu;rcases hu with rfl | rfl | rfl | rfl <;> rfl
theorem tws_one : ∀ (ts : List Tw), ∀ u ∈ rowOf twC ts, u.oneCell' = true
 | [], u, h => by cases h
 | x :: r, u, h => by
   rcases List.mem_append.1 (show u ∈ twC x ++ rowOf twC r from h) with h | h
   · exact twC_one x u h
   · exact tws_one r u h
theorem tw_info : (Tryz.prog.info? 29).map (fun i => (i.zero, i.size, i.bytes)) = some (some (.agg #[.int .u8 0, .int .i64 0, .int .i64 0, .string ⟨#[]⟩]), 4, 40) := by kernel_rfl
theorem tw_parts : ∃ i0, Tryz.prog.info? 29 = some i0 ∧ i0.zero = some (.agg #[.int .u8 0, .int .i64 0, .int .i64 0, .string ⟨#[]⟩]) ∧ i0.size = 4 ∧ i0.bytes = 40 := by
 have h := tw_info;cases hi : Tryz.prog.info? 29 with
 | none => rw [hi] at h; simp at h
 | some i0 =>
   rw [hi] at h;simp at h
   exact ⟨i0, rfl, h.1, h.2.1, h.2.2⟩
def TwsAt (w : World) (base : Nat) (v : Value) (ts : List Tw) : Prop := w.ownsRow base 29 4 v ts.length (rowOf twC ts)
section
variable {w W : World} {base : Nat} {v : Value} {ts : List Tw}
theorem TwsAt.below (h : TwsAt w base v ts) (hb : Below w.heap.size w W) : TwsAt W base v ts := ownsRow_only (F := fun _ => False) h (Only.of_below hb) (fun _ _ h => h)
theorem TwsAt.shape (h : TwsAt w base v ts) : ∃ a cap, v = .slice a ts.length cap ∧ ts.length ≤ cap ∧ cap ≤ 9223372036854775807 := ownsRow_shape h
theorem TwsAt.twIn (h : TwsAt w base v ts) : TwIn w v ts := by
 rcases h.2 with ⟨hv, h0⟩ | ⟨g, cap, cur, hv, hb, hg, hnc, hcm, hsz, ht⟩
 · exact ⟨none, 0, by rw [hv, h0], by omega, by omega, fun h => by omega⟩
 · refine ⟨_, cap, hv, hnc, by unfold maxLen at hcm; omega, fun h0 => ⟨g, 0, rfl, (Array.getElem?_eq_some_iff.1 hg).1, fun i hi c hc => ?_⟩⟩
   have hh := h;unfold TwsAt at hh;rw [hv] at hh;have := World.ownsRow.cellAt (g := g) (cap := cap) hh (i * 4 + c) (by omega);rw [Nat.zero_add, this];exact rowOf_get twC_len ts i c hi hc
end
set_option maxRecDepth 20000 in
theorem wpList_append_tws {w : World} {base : Nat} {v : Value} {ts us : List Tw} {ops : Array Oper} {rest : List Oper} {o : Oper} {a : Act} {Q : Exit → Act → World → Prop} (hgd : o.guard = none) (s x : Operand)
   (ho : o.op = .call { callee := .builtin .append, args := #[s, x], argTypes := #[23, 23] })
   (hs : a.eval s = v) (hown : TwsAt w base v ts) {ad : Addr} {c : Nat} (hx : a.eval x = .slice (some ad) us.length c) (hu : TwIn w (.slice (some ad) us.length c) us)
   (hk : ts.length ≤ 1000000000) (hk2 : us.length ≤ 1000000000) (hbase : base ≤ w.heap.size)
   (h : ∀ a' cap w', TwsAt w' base (.slice a' (ts.length + us.length) cap) (ts ++ us) → Below base w w' → wpList Tryz.prog ops Q rest (a.put o.dst (.slice a' (ts.length + us.length) cap)) w') : wpList Tryz.prog ops Q (o :: rest) a w := by
 obtain ⟨i0, hi, hz0, hz1, hz2⟩ := tw_parts;refine wpList_append_own_at _ hgd s x 23 ho base 29 i0 (.agg #[.int .u8 0, .int .i64 0, .int .i64 0, .string ⟨#[]⟩]) 4 40 Tryz.underlying23 hi hz0 hz1 hz2 rfl (by decide) v ts.length (rowOf twC ts) hs hown ad us.length c (rowOf twC us) hx (rowOf_length twC_len us) ?_ (tws_one us) (by unfold maxLen; omega) (by omega) hbase ?_
 · intro j u hj
   obtain ⟨a0, cap, e, _, _, h3⟩ := hu;have hjl : j < us.length * 4 := by rw [← rowOf_length twC_len us]; exact (List.getElem?_eq_some_iff.1 hj).1
   obtain ⟨g, off, e2, hg, hc⟩ := h3 (by omega);rw [e2] at e;cases e
   have hd : j / 4 < us.length := by omega
   have := hc (j / 4) hd (j % 4) (Nat.mod_lt _ (by decide));rw [← rowOf_get twC_len us (j / 4) (j % 4) hd (Nat.mod_lt _ (by decide)), show j / 4 * 4 + j % 4 = j by omega, hj] at this;rw [← this, show off + j / 4 * 4 + j % 4 = off + j by omega]
   congr 1
   show (⟨g, off, none⟩ : Addr).add j = ⟨g, off + j, none⟩
   simp [Addr.add]
 · intro v' w' h2 h3 _ _
   rw [← rowOf_append] at h2;have h2' : TwsAt w' base v' (ts ++ us) := by
     unfold TwsAt;rw [List.length_append];exact h2
   obtain ⟨a', cap, e, _⟩ := h2'.shape;rw [List.length_append] at e;subst e;exact h a' cap w' h2' ((Below.refl base _).grown h3 hbase (fun k hk => (World.ownsRow.lt hown k hk).1))
end Go.Proofs.YtngbekhegnmfaaaGreatDoor
namespace Go.Proofs.YtngbekhegnmfaaaGreatDoor
open Go.RowKit Go.Shelf Tok
set_option maxRecDepth 20000 in
set_option maxHeartbeats 1000000 in
theorem refOwn9_any {w : World} {R cap p : Nat} {bd lg : Bool} {a : Option Addr} {ks : List Tk} (h : SR w R a cap ks p bd lg) :
   Calls Tryz.prog 85 #[.pointer (some ⟨R, 0, none⟩)] w fun e w' => e = .returned (.string ⟨(if mineB ks p bd then (tkAt ks p).text else []).toArray⟩) ∧ SR w' R a cap ks (if mineB ks p bd then p + 1 else p) (if mineB ks p bd then bd else true) lg ∧ Only (fun k => k = R) w w' := by
 have c := Lib.hid (mine_any h);have hh := Lib.hid h;have hl := fun h => mineB_lt (p := p) (ks := ks) (bd := bd) h
 generalize mineB ks p bd = B at *;have kl := h.kl;clear h;cases B with
 | false =>
   simp only [Bool.false_eq_true, ↓reduceIte];clear hl;go_enter Tryz.func85, Tryz.ntmps85
   go_wp2_with fail
   refine c.out.mono ?_;rintro e w1 ⟨rfl, hb1⟩;have h1 := hh.out.below hb1;have d2 := h1.c2;have f2 := h1.fz 2;have hmv := Lib.hid h1.bad;have ho := Lib.hid ((Only.of_below (F := fun k => k = R) hb1).then (setOnly w1 R 2 (.bool true)));clear h1;go_wp2_with fail
   go_ret
   exact ⟨rfl, hmv.out, ho.out⟩
 | true =>
   obtain ⟨hpl, rfl, _⟩ := hl rfl;simp only [↓reduceIte];rw [tkAt_get hpl];obtain ⟨tx, htx⟩ := exHid (ks[p].text);rw [htx.out];clear hl;go_enter Tryz.func85, Tryz.ntmps85
   go_wp2_with fail
   refine c.out.mono ?_;rintro e w1 ⟨rfl, hb1⟩;have h1 := hh.out.below hb1;have d1 := h1.c1;have f1 := h1.fz 1;have hm1 : SR (w1.setCell ⟨R, 1, none⟩ (.int .i64 ((p : Int) + 1))) R a cap ks (p + 1) false lg := h1.moved (q := p + 1) (by omega);have x0 := hm1.c0;have x1 : (w1.setCell ⟨R, 1, none⟩ (.int .i64 ((p : Int) + 1))).cell? ⟨R, 1, none⟩ = some (.int .i64 ((p : Int) + 1)) := hm1.c1;obtain ⟨a', cap', e, lc, cm, hx⟩ := hm1.tk;injection e with e1 _ e2;subst e1 e2;obtain ⟨g, off, rfl, hg, hc⟩ := hx (by omega);have y1 := hc p hpl 1 (by omega);simp only [tkC, List.getElem?_cons_succ, List.getElem?_cons_zero] at y1;rw [htx.out] at y1;have ho := Lib.hid ((Only.of_below (F := fun k => k = R) hb1).then (setOnly w1 R 1 (.int .i64 ((p : Int) + 1))));have hmv := Lib.hid hm1;have hlti : (p : Int) < (ks.length : Int) := by omega
   clear h1 hm1 hx hc hb1 hh c;clear htx;go_wp2_with fail
   go_quiet (fail)
   have hB := below_dn (Below.refl (w1.setCell ⟨R, 1, none⟩ (.int .i64 ((p : Int) + 1))).heap.size (w1.setCell ⟨R, 1, none⟩ (.int .i64 ((p : Int) + 1)))) nq;go_wp2_with fail
   go_ret
   exact ⟨rfl, hmv.out.below hB, ho.out.then (Only.of_below hB)⟩
theorem wpList_append_twx {w : World} {base b2 : Nat} {v vx : Value} {ts us : List Tw} {ops : Array Oper} {rest : List Oper} {o : Oper} {a : Act} {Q : Exit → Act → World → Prop} (hgd : o.guard = none) (s x : Operand)
   (ho : o.op = .call { callee := .builtin .append, args := #[s, x], argTypes := #[23, 23] })
   (hs : a.eval s = v) (hown : TwsAt w base v ts) (hx : a.eval x = vx) (hu : TwsAt w b2 vx us)
   (hk : ts.length ≤ 1000000) (hk2 : us.length ≤ 1000000) (hbase : base ≤ w.heap.size)
   (h : ∀ v' w', TwsAt w' base v' (ts ++ us) → Below base w w' → wpList Tryz.prog ops Q rest (a.put o.dst v') w') : wpList Tryz.prog ops Q (o :: rest) a w := by
 obtain ⟨i0, hi, hz0, hz1, hz2⟩ := tw_parts;obtain ⟨ad, cap, rfl, h1, h2⟩ := hu.shape;rcases ad with _ | ad
 · have h0 : us = [] := List.eq_nil_of_length_eq_zero (by
     obtain ⟨_, _, e, _, _, h3⟩ := hu.twIn;rcases Nat.eq_zero_or_pos us.length with c | c
     · exact c
     · obtain ⟨_, _, e', _⟩ := h3 c
       cases e
       cases e')
   subst h0;obtain rfl : cap = 0 := by
     rcases hu.2 with ⟨hv, _⟩ | ⟨g, cap', cur, hv, _⟩
     · injection hv
     · cases hv
   refine wpList_append_own_none hgd s x 23 ho base 29 i0 4 Tryz.underlying23 hi v ts.length (rowOf twC ts) hs hown hx ?_;exact h v w (by rw [List.append_nil]; exact hown) (Below.refl _ _)
 · exact wpList_append_tws hgd s x ho hs hown hx hu.twIn (by omega) (by omega) hbase (fun a' cap' w' hA hB => h _ w' hA hB)
theorem tws_head (w : World) (x : Tw) (cs : Array Value) (hcs : cs = (twC x).toArray) : TwsAt (w.alloc (.cells cs 29)) w.heap.size (.slice (some ⟨w.heap.size, 0, none⟩) 1 1) [x] := by
 subst hcs;refine ⟨by simp [rowOf, twC_len], .inr ⟨w.heap.size, 1, _, rfl, Nat.le_refl _, heap_alloc_new w _, Nat.le_refl _, by unfold maxLen; omega, by simp [twC], by simp [rowOf, twC]⟩⟩
theorem cellQ {W : World} {b : Nat} {cs : Array Value} {t : TypeId} (h : W.heap[b]? = some (.cells cs t (0, 0))) (j : Nat) : W.cell? ⟨b, j, none⟩ = cs[j]? := by simp [World.cell?, h]
theorem SR.far {w : World} {R cap p : Nat} {bd lg : Bool} {a : Option Addr} {ks : List Tk} (h : SR w R a cap ks p bd lg) : ∀ q, a = some q → 0 < ks.length → q.block < w.heap.size := by
 intro q hq h0;obtain ⟨a', c', e, _, _, h3⟩ := h.tk;injection e with e _ _;obtain ⟨g, off, e2, hg, _⟩ := h3 h0;rw [hq] at e;rw [← e] at e2;injection e2 with e2;rw [e2];exact hg
theorem only_low {b : Nat} {w w' : World} (hb : Below b w w') : Only (fun k => b ≤ k) w w' := ⟨hb.os, hb.tape, hb.output, hb.size, fun k _ hF => hb.block k (by omega)⟩
theorem onlyB {F : Nat → Prop} {b : Nat} {w W w' : World} (h : Only F w W) (hb : Below b W w') (hwb : w.heap.size ≤ b) : Only F w w' := h.trans (only_low hb) (fun _ _ e => e) (fun k hk e => by omega)
theorem SR.low {b : Nat} {w w' : World} {R cap p : Nat} {bd lg : Bool} {a : Option Addr} {ks : List Tk} (h : SR w R a cap ks p bd lg) (hb : Below b w w') (hR : R < b) (hf : ∀ q, a = some q → 0 < ks.length → q.block < b) : SR w' R a cap ks p bd lg :=
 h.kept (only_low hb) (by omega) (fun q hq h0 e => by have := hf q hq h0; omega)
theorem TwsAt.low9 {W : World} {base b : Nat} {v : Value} {ts : List Tw} (h : TwsAt W base v ts) (hb : b ≤ base) : TwsAt W b v ts := by
 refine ownsRow_base h (fun k hk => ?_);rcases h.2 with ⟨hv, _⟩ | ⟨g, cap', cur, hv, hg, _⟩
 · rw [hv] at hk
   simp [Value.ownBlock] at hk
 · rw [hv] at hk
   simp [Value.ownBlock] at hk
   omega
def topL (x : Tw) (ts : List Tw) : List Tw := if 2048 ≤ ts.length then [x] else x :: ts
set_option maxRecDepth 20000 in
set_option maxHeartbeats 1000000 in
theorem top_any {w : World} {R cap p b : Nat} {bd lg : Bool} {a : Option Addr} {ks : List Tk} (h : SR w R a cap ks p bd lg) (op : Nat) (k0 n num : Int) (tx : List UInt8) {v : Value} {ts : List Tw} (hv : TwsAt w b v ts) (hl : ts.length ≤ 100000) :
   Calls Tryz.prog 88 #[.pointer (some ⟨R, 0, none⟩), .agg #[.int .u8 (op : Int), .int .i64 k0, .int .i64 num, .string ⟨tx.toArray⟩], .int .i64 n, v] w fun e w' =>
     ∃ v', e = .returned v' ∧ TwsAt w' w.heap.size v' (topL ⟨op, n, num, tx⟩ ts) ∧ SR w' R a cap ks p bd (lg || decide (2048 ≤ ts.length)) ∧ Only (fun k => k = R) w w' := by
 have hRl := h.lt;have hal : Below w.heap.size w (w.alloc (.cells #[.int .u8 (op : Int), .int .i64 n, .int .i64 num, .string ⟨tx.toArray⟩] 29)) := (Below.refl _ w).alloc (Nat.le_refl _) _;have hc := heap_alloc_new w (.cells #[.int .u8 (op : Int), .int .i64 n, .int .i64 num, .string ⟨tx.toArray⟩] 29);have h1 := h.below hal;have hv1 := hv.below hal;have hs1 : (w.alloc (.cells #[.int .u8 (op : Int), .int .i64 n, .int .i64 num, .string ⟨tx.toArray⟩] 29)).heap.size = w.heap.size + 1 := by simp
 obtain ⟨va, vc, rfl, hvl, hvm⟩ := id hv.shape;unfold topL;rcases Nat.lt_or_ge ts.length 2048 with hlt | hge
 · have hi : ¬ (2048 : Int) ≤ (ts.length : Int) := by omega
   rw [if_neg (by omega), decide_eq_false (by omega), Bool.or_false];have hal2 := (Below.refl (w.alloc (.cells #[.int .u8 (op : Int), .int .i64 n, .int .i64 num, .string ⟨tx.toArray⟩] 29)).heap.size (w.alloc (.cells #[.int .u8 (op : Int), .int .i64 n, .int .i64 num, .string ⟨tx.toArray⟩] 29))).alloc (Nat.le_refl _) (.cells #[.int .u8 (op : Int), .int .i64 n, .int .i64 num, .string ⟨tx.toArray⟩] 29);have h2 := Lib.hid (h1.below hal2);have hv2 := Lib.hid (hv1.below hal2);have hb2 := Lib.hid (hal.trans (hal2.mono hal.size));have A0 := tws_head (w.alloc (.cells #[.int .u8 (op : Int), .int .i64 n, .int .i64 num, .string ⟨tx.toArray⟩] 29)) ⟨op, n, num, tx⟩ #[.int .u8 (op : Int), .int .i64 n, .int .i64 num, .string ⟨tx.toArray⟩] rfl;rw [hs1] at A0;have hs2 : ((w.alloc (.cells #[.int .u8 (op : Int), .int .i64 n, .int .i64 num, .string ⟨tx.toArray⟩] 29)).alloc (.cells #[.int .u8 (op : Int), .int .i64 n, .int .i64 num, .string ⟨tx.toArray⟩] 29)).heap.size = w.heap.size + 2 := by simp
   replace A0 := Lib.hid A0;have hfar := h.far;replace hfar := Lib.hid hfar;clear h h1 hv hv1 hal hc hal2 hs1;go_enter Tryz.func88, Tryz.ntmps88
   go_wp2_with (at_builtin; (refine wpList_append_twx (base := w.heap.size + 1) (b2 := b) (ts := [⟨op, n, num, tx⟩]) (us := ts) rfl _ _ rfl rfl A0.out rfl hv2.out (by simp) (by omega) (by rw [hs2]; omega) ?_; intro v' w3 hA hB))
   obtain ⟨va', vc', rfl, _, _⟩ := id hA.shape;go_ret
   exact ⟨_, rfl, TwsAt.low9 hA (by omega), h2.out.low hB (by omega) (fun q hq h0 => by have := hfar.out q hq h0; omega), onlyB (Only.of_below hb2.out) hB (by omega)⟩
 · have hi : (2048 : Int) ≤ (ts.length : Int) := by omega
   rw [if_pos hge, decide_eq_true hge, Bool.or_true];have f3 := h.fz 3;have e3 := h.c3;have f4 := h1.fz 3;have e4 := h1.c3;have h2 := h.long;have ho := setOnly w R 3 (.bool true);have hsL : (w.setCell ⟨R, 3, none⟩ (.bool true)).heap.size = w.heap.size := by simp
   generalize hWL : w.setCell ⟨R, 3, none⟩ (.bool true) = WL at h2 ho hsL;have hal1 := (Below.refl WL.heap.size WL).alloc (Nat.le_refl _) (.cells #[.int .u8 (op : Int), .int .i64 n, .int .i64 num, .string ⟨tx.toArray⟩] 29);have hal2 := (Below.refl (WL.alloc (.cells #[.int .u8 (op : Int), .int .i64 n, .int .i64 num, .string ⟨tx.toArray⟩] 29)).heap.size (WL.alloc (.cells #[.int .u8 (op : Int), .int .i64 n, .int .i64 num, .string ⟨tx.toArray⟩] 29))).alloc (Nat.le_refl _) (.cells #[.int .u8 (op : Int), .int .i64 n, .int .i64 num, .string ⟨tx.toArray⟩] 29);have hs2 : (WL.alloc (.cells #[.int .u8 (op : Int), .int .i64 n, .int .i64 num, .string ⟨tx.toArray⟩] 29)).heap.size = w.heap.size + 1 := by simp [hsL]
   have h3 := Lib.hid ((h2.below hal1).below hal2);have A0 := tws_head (WL.alloc (.cells #[.int .u8 (op : Int), .int .i64 n, .int .i64 num, .string ⟨tx.toArray⟩] 29)) ⟨op, n, num, tx⟩ #[.int .u8 (op : Int), .int .i64 n, .int .i64 num, .string ⟨tx.toArray⟩] rfl;rw [hs2] at A0;have ho2 := Lib.hid ((ho.then (Only.of_below hal1)).then (Only.of_below hal2));subst hWL;replace A0 := Lib.hid A0;clear h h1 hv hv1 hal hc hal1 hal2 hs1 h2 ho hs2 hsL;go_enter Tryz.func88, Tryz.ntmps88
   go_wp2_with fail
   go_ret
   exact ⟨_, rfl, TwsAt.low9 A0.out (by omega), h3.out, ho2.out⟩
end Go.Proofs.YtngbekhegnmfaaaGreatDoor
namespace Go.Proofs.YtngbekhegnmfaaaGreatDoor
open Go.RowKit Tok
def QX (x : Tw) : Prop := x.op < 256 ∧ x.text.length ≤ 9223372036854775807
theorem QX.leaf {op num : Nat} {tx : List UInt8} (h : op < 256 ∧ tx.length ≤ 9223372036854775807) : ∀ x ∈ (Ch.none.under op num tx).ts, QX x := by
 intro x hx;have hx2 : x = ⟨op, ((0 : Nat) : Int), (num : Int), tx⟩ := List.mem_singleton.1 hx;rw [hx2];exact h
theorem opOfT_256 (m : List UInt8) : opOfT m < 256 := by
 have h : ∀ l : List (List UInt8 × Nat), (∀ x ∈ l, x.2 < 256) → opGo l m < 256 := by
   intro l
   induction l with
   | nil => intro _; exact Nat.succ_pos _
   | cons x r ih =>
     intro h;unfold opGo;split
     · exact h x List.mem_cons_self
     · exact ih (fun y hy => h y (List.mem_cons_of_mem _ hy))
 exact h makesL (by decide)
def DP (s : St Ch) (i : Nat) (bd lg : Bool) (ts : List Tw) (n : Int) (i' : Nat) (bd' lg' : Bool) : Prop :=
 ((lg = true → lg' = true) ∧ ∀ x ∈ ts, QX x) ∧ (bd = true → i' = i ∧ bd' = true) ∧
 (bd = false → match s with
   | .ok c j => i' = j ∧ bd' = false ∧ n = (c.n : Int) ∧ (lg' = false → ts = c.ts ∨ (2048 < ts.length ∧ 2048 < c.ts.length)) ∧ (lg' = true → lg = true ∨ 2048 < c.ts.length)
   | .bad j => i' = j ∧ bd' = true
   | .out => True)
section
variable {s : St Ch} {i i1 i2 : Nat} {bd lg bd1 lg1 bd2 lg2 : Bool} {ts us : List Tw} {n m : Int} {ks : List Tk}
theorem topL_len (x : Tw) (ts : List Tw) (h : ts.length ≤ 100000) : (topL x ts).length ≤ 2048 := by
 unfold topL;split
 · simp
 · simp; omega
theorem DP.top (h : DP s i bd lg ts n i1 bd1 lg1) (op num : Nat) (tx : List UInt8) (hq : op < 256 ∧ tx.length ≤ 9223372036854775807 := by decide) : DP (s.and fun c j => .ok (c.under op num tx) j) i bd lg (topL ⟨op, n, (num : Int), tx⟩ ts) 1 i1 bd1 (lg1 || decide (2048 ≤ ts.length)) := by
 obtain ⟨h1, h2, h3⟩ := h;refine ⟨⟨fun e => by rw [h1.1 e]; rfl, fun x hx => ?_⟩, h2, fun e => ?_⟩
 · unfold topL at hx
   split at hx
   · rw [List.mem_singleton] at hx
     rw [hx];exact hq
   · rcases List.mem_cons.1 hx with rfl | hx
     · exact hq
     · exact h1.2 x hx
 have h4 := h3 e;cases s with
 | out => exact trivial
 | bad j => exact h4
 | ok c j =>
   obtain ⟨a1, a2, a3, a4, a5⟩ := h4;refine ⟨a1, a2, rfl, fun e => ?_, fun e => ?_⟩
   · rw [Bool.or_eq_false_iff] at e
     have hlt := of_decide_eq_false e.2;rcases a4 e.1 with a6 | ⟨a6, _⟩
     · left
       unfold topL;rw [if_neg hlt, a6, a3];rfl
     · omega
   · have hl : (c.under op num tx).ts.length = c.ts.length + 1 := by simp [Ch.under]
     rw [hl];rw [Bool.or_eq_true] at e;rcases e with e | e
     · rcases a5 e with a6 | a6
       · exact .inl a6
       · exact .inr (by omega)
     · have hge := of_decide_eq_true e
       cases hl1 : lg1 with
       | false =>
         rcases a4 hl1 with a6 | ⟨_, a6⟩
         · rw [a6] at hge; exact .inr (by omega)
         · exact .inr (by omega)
       | true =>
         rcases a5 hl1 with a6 | a6
         · exact .inl a6
         · exact .inr (by omega)
theorem DP.then {G : Nat → St Ch} (h : DP s i bd lg ts n i1 bd1 lg1) (h' : DP (G i1) i1 bd1 lg1 us m i2 bd2 lg2) : DP (s.and fun c j => (G j).and fun d k => .ok (c.then d) k) i bd lg (ts ++ us) (n + m) i2 bd2 lg2 := by
 obtain ⟨h1, h2, h3⟩ := h;obtain ⟨g1, g2, g3⟩ := h';refine ⟨⟨fun e => g1.1 (h1.1 e), fun x hx => (List.mem_append.1 hx).elim (h1.2 x) (g1.2 x)⟩, fun e => ?_, fun e => ?_⟩
 · obtain ⟨a1, a2⟩ := h2 e
   obtain ⟨b1, b2⟩ := g2 a2;exact ⟨by omega, b2⟩
 · have h4 := h3 e
   cases s with
   | out => exact trivial
   | bad j =>
     obtain ⟨a1, a2⟩ := h4;obtain ⟨b1, b2⟩ := g2 a2;exact ⟨by omega, b2⟩
   | ok c j =>
     obtain ⟨rfl, a2, a3, a4, a5⟩ := h4;have g4 := g3 a2;show match (G i1).and fun d k => St.ok (c.then d) k with
       | .ok c j => i2 = j ∧ bd2 = false ∧ n + m = (c.n : Int) ∧ (lg2 = false → ts ++ us = c.ts ∨ (2048 < (ts ++ us).length ∧ 2048 < c.ts.length)) ∧ (lg2 = true → lg = true ∨ 2048 < c.ts.length)
       | .bad j => i2 = j ∧ bd2 = true
       | .out => True
     cases hG : G i1 with
     | out => exact trivial
     | bad k => rw [hG] at g4; exact g4
     | ok d k =>
       rw [hG] at g4;obtain ⟨b1, b2, b3, b4, b5⟩ := g4;have hlen : (c.then d).ts.length = c.ts.length + d.ts.length := by simp [Ch.then]
       refine ⟨b1, b2, by rw [a3, b3]; simp [Ch.then], fun e => ?_, fun e => ?_⟩
       · have hl1 : lg1 = false := by
           cases hl : lg1 with
           | false => rfl
           | true => rw [g1.1 hl] at e; cases e
         rw [hlen, List.length_append];rcases a4 hl1 with a6 | ⟨a6, a7⟩
         · rcases b4 e with b6 | ⟨b6, b7⟩
           · left; rw [a6, b6]; rfl
           · right; omega
         · right; omega
       · rw [hlen]
         rcases b5 e with b6 | b6
         · rcases a5 b6 with a6 | a6
           · exact .inl a6
           · exact .inr (by omega)
         · exact .inr (by omega)
theorem DP.must_ahead {G : Nat → St Ch} {w : List UInt8} (h : DP (G (if isB ks i bd w then i + 1 else i)) (if isB ks i bd w then i + 1 else i) (if isB ks i bd w then bd else true) lg ts n i2 bd2 lg2) : DP ((wantT ks w i).and fun _ j => G j) i bd lg ts n i2 bd2 lg2 := by
 cases bd with
 | true =>
   have hB : isB ks i true w = false := rfl;rw [hB] at h;obtain ⟨h1, h2, h3⟩ := h;exact ⟨h1, fun _ => h2 rfl, fun e => by cases e⟩
 | false =>
   by_cases hq : markT ks i = w
   · have hB : isB ks i false w = true := by unfold isB; rw [decide_eq_true hq]; rfl
     simp only [hB, ↓reduceIte] at h;unfold wantT;rw [if_pos hq];exact ⟨h.1, fun e => (by cases e), h.2.2⟩
   · have hB : isB ks i false w = false := by unfold isB; rw [decide_eq_false hq]; rfl
     simp only [hB, Bool.false_eq_true, ↓reduceIte] at h;obtain ⟨h1, h2, h3⟩ := h;unfold wantT;rw [if_neg hq];exact ⟨h1, fun e => (by cases e), fun _ => h2 rfl⟩
theorem DP.must_behind {w : List UInt8} (h : DP s i bd lg ts n i1 bd1 lg1) : DP (s.and fun c j => (wantT ks w j).and fun _ k => .ok c k) i bd lg ts n (if isB ks i1 bd1 w then i1 + 1 else i1) (if isB ks i1 bd1 w then bd1 else true) lg1 := by
 obtain ⟨h1, h2, h3⟩ := h;refine ⟨h1, fun e => ?_, fun e => ?_⟩
 · obtain ⟨a1, a2⟩ := h2 e
   subst a2;have hB : isB ks i1 true w = false := rfl;rw [hB];exact ⟨a1, rfl⟩
 · have h4 := h3 e
   cases s with
   | out => exact trivial
   | bad j =>
     obtain ⟨a1, a2⟩ := h4;subst a2;have hB : isB ks i1 true w = false := rfl;rw [hB];exact ⟨a1, rfl⟩
   | ok c j =>
     obtain ⟨rfl, a2, a3, a4, a5⟩ := h4;subst a2;by_cases hq : markT ks i1 = w
     · have hB : isB ks i1 false w = true := by unfold isB; rw [decide_eq_true hq]; rfl
       rw [hB];show match (wantT ks w i1).and fun _ k => St.ok c k with | .ok c j => _ | .bad j => _ | .out => True
       unfold wantT;rw [if_pos hq];exact ⟨rfl, rfl, a3, a4, a5⟩
     · have hB : isB ks i1 false w = false := by unfold isB; rw [decide_eq_false hq]; rfl
       rw [hB];show match (wantT ks w i1).and fun _ k => St.ok c k with | .ok c j => _ | .bad j => _ | .out => True
       unfold wantT;rw [if_neg hq];exact ⟨rfl, rfl⟩
theorem DP.own_ahead {G : List UInt8 → Nat → St Ch} (h : DP (G (if mineB ks i bd then (tkAt ks i).text else []) (if mineB ks i bd then i + 1 else i)) (if mineB ks i bd then i + 1 else i) (if mineB ks i bd then bd else true) lg ts n i2 bd2 lg2) : DP ((ownT ks i).and G) i bd lg ts n i2 bd2 lg2 := by
 cases hB : mineB ks i bd with
 | true =>
   obtain ⟨hl, rfl, ho⟩ := mineB_lt hB;simp only [hB, ↓reduceIte] at h;rw [ho];exact ⟨h.1, fun e => (by cases e), h.2.2⟩
 | false =>
   rw [hB] at h;obtain ⟨h1, h2, h3⟩ := h;obtain ⟨a1, a2⟩ := h2 rfl;refine ⟨h1, fun _ => ⟨a1, a2⟩, fun e => ?_⟩;subst e;rw [mineB_not hB];exact ⟨a1, a2⟩
theorem DP.none {j : Nat} (hs : bd = false → s = .bad i) (hq : ∀ x ∈ ts, QX x := by simp) : DP s i bd lg ts n i true lg := by
 refine ⟨⟨fun e => e, hq⟩, fun _ => ⟨rfl, rfl⟩, fun e => ?_⟩;rw [hs e];exact ⟨rfl, rfl⟩
theorem DP.ok {c : Ch} (hts : ts = c.ts) (hn : n = (c.n : Int)) (hq : ∀ x ∈ ts, QX x := by simp [QX, Ch.none, Ch.under]) : DP (.ok c i) i bd lg ts n i bd lg := by
 refine ⟨⟨fun e => e, hq⟩, fun e => ⟨rfl, e⟩, fun e => ?_⟩;exact ⟨rfl, e, hn, fun _ => .inl hts, fun e => .inl e⟩
theorem DP.of_eq {s' : St Ch} (h : DP s i bd lg ts n i1 bd1 lg1) (hs : bd = false → s = s') : DP s' i bd lg ts n i1 bd1 lg1 := by
 obtain ⟨h1, h2, h3⟩ := h;refine ⟨h1, h2, fun e => ?_⟩;rw [← hs e];exact h3 e
end
end Go.Proofs.YtngbekhegnmfaaaGreatDoor
namespace Go.Proofs.YtngbekhegnmfaaaGreatDoor
open Go.RowKit Tok
def sgn (m : List UInt8) : Nat × Nat := if m = B.or then (30, 1) else if m = B.and then (31, 2) else if m = B.eqq then (32, 4) else if m = B.neq then (33, 4) else if m = B.les then (34, 4) else if m = B.leq then (35, 4) else if m = B.add then (36, 5) else if m = B.sub then (37, 5) else if m = B.mul then (38, 6) else if m = B.div then (39, 6) else if m = B.rem then (40, 6) else (0, 0)
def plainT (m : List UInt8) : Nat := if m = B.none then 20 else if m = B.tru then 21 else if m = B.fls then 22 else if m = B.version then 57 else 0
def aroundT (m : List UInt8) : Nat := if m = B.len then 45 else if m = B.re then 46 else if m = B.im then 47 else if m = B.conj then 48 else if m = B.timer then 52 else 0
set_option maxRecDepth 20000 in
set_option maxHeartbeats 1000000 in
theorem plain_any (m : List UInt8) (w : World) : Calls Tryz.prog 161 #[.string ⟨m.toArray⟩] w fun e w' => e = .returned (.int .u8 (plainT m : Int)) ∧ w' = w := by
 by_cases h0 : m = B.none
 · subst h0
   have hr : plainT B.none = 20 := by decide
   rw [hr];unfold B.none;clear hr;go_enter Tryz.func161, Tryz.ntmps161
   go_wp2
   go_ret
   exact ⟨rfl, rfl⟩
 by_cases h1 : m = B.tru
 · subst h1
   have hr : plainT B.tru = 21 := by decide
   rw [hr];unfold B.tru;clear hr;go_enter Tryz.func161, Tryz.ntmps161
   go_wp2
   go_ret
   exact ⟨rfl, rfl⟩
 by_cases h2 : m = B.fls
 · subst h2
   have hr : plainT B.fls = 22 := by decide
   rw [hr];unfold B.fls;clear hr;go_enter Tryz.func161, Tryz.ntmps161
   go_wp2
   go_ret
   exact ⟨rfl, rfl⟩
 by_cases h3 : m = B.version
 · subst h3
   have hr : plainT B.version = 57 := by decide
   rw [hr];unfold B.version;clear hr;go_enter Tryz.func161, Tryz.ntmps161
   go_wp2
   go_ret
   exact ⟨rfl, rfl⟩
 have hr : plainT m = 0 := by unfold plainT; rw [if_neg h0, if_neg h1, if_neg h2, if_neg h3]
 rw [hr];clear hr;have e0 : (m == [110, 111, 110, 101]) = false := beq_eq_false_iff_ne.2 h0;have e1 : (m == [116, 114, 117, 101]) = false := beq_eq_false_iff_ne.2 h1;have e2 : (m == [102, 97, 108, 115, 101]) = false := beq_eq_false_iff_ne.2 h2;have e3 : (m == [118, 101, 114, 115, 105, 111, 110]) = false := beq_eq_false_iff_ne.2 h3;clear h0 h1 h2 h3;go_enter Tryz.func161, Tryz.ntmps161
 go_wp2
 go_ret
 exact ⟨rfl, rfl⟩
set_option maxRecDepth 20000 in
set_option maxHeartbeats 1000000 in
theorem around_any (m : List UInt8) (w : World) : Calls Tryz.prog 162 #[.string ⟨m.toArray⟩] w fun e w' => e = .returned (.int .u8 (aroundT m : Int)) ∧ w' = w := by
 by_cases h0 : m = B.len
 · subst h0
   have hr : aroundT B.len = 45 := by decide
   rw [hr];unfold B.len;clear hr;go_enter Tryz.func162, Tryz.ntmps162
   go_wp2
   go_ret
   exact ⟨rfl, rfl⟩
 by_cases h1 : m = B.re
 · subst h1
   have hr : aroundT B.re = 46 := by decide
   rw [hr];unfold B.re;clear hr;go_enter Tryz.func162, Tryz.ntmps162
   go_wp2
   go_ret
   exact ⟨rfl, rfl⟩
 by_cases h2 : m = B.im
 · subst h2
   have hr : aroundT B.im = 47 := by decide
   rw [hr];unfold B.im;clear hr;go_enter Tryz.func162, Tryz.ntmps162
   go_wp2
   go_ret
   exact ⟨rfl, rfl⟩
 by_cases h3 : m = B.conj
 · subst h3
   have hr : aroundT B.conj = 48 := by decide
   rw [hr];unfold B.conj;clear hr;go_enter Tryz.func162, Tryz.ntmps162
   go_wp2
   go_ret
   exact ⟨rfl, rfl⟩
 by_cases h4 : m = B.timer
 · subst h4
   have hr : aroundT B.timer = 52 := by decide
   rw [hr];unfold B.timer;clear hr;go_enter Tryz.func162, Tryz.ntmps162
   go_wp2
   go_ret
   exact ⟨rfl, rfl⟩
 have hr : aroundT m = 0 := by unfold aroundT; rw [if_neg h0, if_neg h1, if_neg h2, if_neg h3, if_neg h4]
 rw [hr];clear hr;have e0 : (m == [108, 101, 110]) = false := beq_eq_false_iff_ne.2 h0;have e1 : (m == [114, 101]) = false := beq_eq_false_iff_ne.2 h1;have e2 : (m == [105, 109]) = false := beq_eq_false_iff_ne.2 h2;have e3 : (m == [99, 111, 110, 106]) = false := beq_eq_false_iff_ne.2 h3;have e4 : (m == [116, 105, 109, 101, 114]) = false := beq_eq_false_iff_ne.2 h4;clear h0 h1 h2 h3 h4;go_enter Tryz.func162, Tryz.ntmps162
 go_wp2
 go_ret
 exact ⟨rfl, rfl⟩
set_option maxRecDepth 20000 in
set_option maxHeartbeats 2000000 in
theorem sign_word (kd : Nat) (hk : kd = 1 ∨ kd = 4) (m : List UInt8) (nu at_ : Nat) (w : World) : Calls Tryz.prog 121 #[.agg #[.int .u8 (kd : Int), .string ⟨m.toArray⟩, .int .i64 (nu : Int), .int .i64 (at_ : Int)]] w fun e w' => e = .returned (.tuple #[.int .u8 ((sgn m).1 : Int), .int .i64 ((sgn m).2 : Int)]) ∧ Below w.heap.size w w' := by
 have hal := Lib.hid ((Below.refl w.heap.size w).alloc (Nat.le_refl _) (.cells #[.int .u8 (kd : Int), .string ⟨m.toArray⟩, .int .i64 (nu : Int), .int .i64 (at_ : Int)] 60));by_cases h0 : m = B.or
 · subst h0
   have hr : sgn B.or = (30, 1) := by decide
   rw [hr];unfold B.or;clear hr;rcases hk with rfl | rfl
   all_goals
     go_enter Tryz.func121, Tryz.ntmps121
     go_wp2
     go_ret2
     exact ⟨rfl, hal.out⟩
 by_cases h1 : m = B.and
 · subst h1
   have hr : sgn B.and = (31, 2) := by decide
   rw [hr];unfold B.and;clear hr;rcases hk with rfl | rfl
   all_goals
     go_enter Tryz.func121, Tryz.ntmps121
     go_wp2
     go_ret2
     exact ⟨rfl, hal.out⟩
 by_cases h2 : m = B.eqq
 · subst h2
   have hr : sgn B.eqq = (32, 4) := by decide
   rw [hr];unfold B.eqq;clear hr;rcases hk with rfl | rfl
   all_goals
     go_enter Tryz.func121, Tryz.ntmps121
     go_wp2
     go_ret2
     exact ⟨rfl, hal.out⟩
 by_cases h3 : m = B.neq
 · subst h3
   have hr : sgn B.neq = (33, 4) := by decide
   rw [hr];unfold B.neq;clear hr;rcases hk with rfl | rfl
   all_goals
     go_enter Tryz.func121, Tryz.ntmps121
     go_wp2
     go_ret2
     exact ⟨rfl, hal.out⟩
 by_cases h4 : m = B.les
 · subst h4
   have hr : sgn B.les = (34, 4) := by decide
   rw [hr];unfold B.les;clear hr;rcases hk with rfl | rfl
   all_goals
     go_enter Tryz.func121, Tryz.ntmps121
     go_wp2
     go_ret2
     exact ⟨rfl, hal.out⟩
 by_cases h5 : m = B.leq
 · subst h5
   have hr : sgn B.leq = (35, 4) := by decide
   rw [hr];unfold B.leq;clear hr;rcases hk with rfl | rfl
   all_goals
     go_enter Tryz.func121, Tryz.ntmps121
     go_wp2
     go_ret2
     exact ⟨rfl, hal.out⟩
 by_cases h6 : m = B.add
 · subst h6
   have hr : sgn B.add = (36, 5) := by decide
   rw [hr];unfold B.add;clear hr;rcases hk with rfl | rfl
   all_goals
     go_enter Tryz.func121, Tryz.ntmps121
     go_wp2
     go_ret2
     exact ⟨rfl, hal.out⟩
 by_cases h7 : m = B.sub
 · subst h7
   have hr : sgn B.sub = (37, 5) := by decide
   rw [hr];unfold B.sub;clear hr;rcases hk with rfl | rfl
   all_goals
     go_enter Tryz.func121, Tryz.ntmps121
     go_wp2
     go_ret2
     exact ⟨rfl, hal.out⟩
 by_cases h8 : m = B.mul
 · subst h8
   have hr : sgn B.mul = (38, 6) := by decide
   rw [hr];unfold B.mul;clear hr;rcases hk with rfl | rfl
   all_goals
     go_enter Tryz.func121, Tryz.ntmps121
     go_wp2
     go_ret2
     exact ⟨rfl, hal.out⟩
 by_cases h9 : m = B.div
 · subst h9
   have hr : sgn B.div = (39, 6) := by decide
   rw [hr];unfold B.div;clear hr;rcases hk with rfl | rfl
   all_goals
     go_enter Tryz.func121, Tryz.ntmps121
     go_wp2
     go_ret2
     exact ⟨rfl, hal.out⟩
 by_cases h10 : m = B.rem
 · subst h10
   have hr : sgn B.rem = (40, 6) := by decide
   rw [hr];unfold B.rem;clear hr;rcases hk with rfl | rfl
   all_goals
     go_enter Tryz.func121, Tryz.ntmps121
     go_wp2
     go_ret2
     exact ⟨rfl, hal.out⟩
 have hr : sgn m = (0, 0) := by unfold sgn; rw [if_neg h0, if_neg h1, if_neg h2, if_neg h3, if_neg h4, if_neg h5, if_neg h6, if_neg h7, if_neg h8, if_neg h9, if_neg h10]
 rw [hr];clear hr;have e0 : (m == [111, 114]) = false := beq_eq_false_iff_ne.2 h0;have e1 : (m == [97, 110, 100]) = false := beq_eq_false_iff_ne.2 h1;have e2 : (m == [61, 61]) = false := beq_eq_false_iff_ne.2 h2;have e3 : (m == [33, 61]) = false := beq_eq_false_iff_ne.2 h3;have e4 : (m == [60]) = false := beq_eq_false_iff_ne.2 h4;have e5 : (m == [60, 61]) = false := beq_eq_false_iff_ne.2 h5;have e6 : (m == [43]) = false := beq_eq_false_iff_ne.2 h6;have e7 : (m == [45]) = false := beq_eq_false_iff_ne.2 h7;have e8 : (m == [42]) = false := beq_eq_false_iff_ne.2 h8;have e9 : (m == [47]) = false := beq_eq_false_iff_ne.2 h9;have e10 : (m == [37]) = false := beq_eq_false_iff_ne.2 h10;clear h0 h1 h2 h3 h4 h5 h6 h7 h8 h9 h10;rcases hk with rfl | rfl
 all_goals
   go_enter Tryz.func121, Tryz.ntmps121
   go_wp2
   go_ret2
   exact ⟨rfl, hal.out⟩
set_option maxRecDepth 20000 in
theorem sign_none (kd : Nat) (h1 : kd ≠ 1) (h4 : kd ≠ 4) (m : List UInt8) (nu at_ : Nat) (w : World) : Calls Tryz.prog 121 #[.agg #[.int .u8 (kd : Int), .string ⟨m.toArray⟩, .int .i64 (nu : Int), .int .i64 (at_ : Int)]] w fun e w' => e = .returned (.tuple #[.int .u8 0, .int .i64 0]) ∧ Below w.heap.size w w' := by
 have hal := Lib.hid ((Below.refl w.heap.size w).alloc (Nat.le_refl _) (.cells #[.int .u8 (kd : Int), .string ⟨m.toArray⟩, .int .i64 (nu : Int), .int .i64 (at_ : Int)] 60));have q1 : ((kd : Int) != 1) = true := bne_iff_ne.2 (by omega);have q4 : ((kd : Int) != 4) = true := bne_iff_ne.2 (by omega);go_enter Tryz.func121, Tryz.ntmps121
 go_wp2
 go_ret2
 exact ⟨rfl, hal.out⟩
theorem sign_any (ks : List Tk) {p : Nat} (hp : p < ks.length) (w : World) : Calls Tryz.prog 121 #[tkV (tkAt ks p)] w fun e w' => e = .returned (.tuple #[.int .u8 ((sgn (markT ks p)).1 : Int), .int .i64 ((sgn (markT ks p)).2 : Int)]) ∧ Below w.heap.size w w' := by
 rw [markT_at];generalize tkAt ks p = t;obtain ⟨kd, tx, nu, at_⟩ := t;unfold tkV;dsimp only;by_cases h : kd = 1 ∨ kd = 4
 · rw [if_pos h]
   exact sign_word kd h tx nu at_ w
 · rw [if_neg h]
   exact sign_none kd (fun e => h (.inl e)) (fun e => h (.inr e)) tx nu at_ w
end Go.Proofs.YtngbekhegnmfaaaGreatDoor
namespace Go.Proofs.YtngbekhegnmfaaaGreatDoor
open Go.RowKit Go.Shelf Tok
def DDone (s : St Ch) (i : Nat) (bd lg : Bool) (R : Nat) (a : Option Addr) (cap : Nat) (ks : List Tk) (W : World) (e : Ending) (w' : World) : Prop :=
 ∃ v ts i' bd' lg', e = .returned v ∧ TwsAt w' W.heap.size v ts ∧ ts.length ≤ 2048 ∧ DP s i bd lg ts 1 i' bd' lg' ∧ SR w' R a cap ks i' bd' lg' ∧ Only (fun k => k = R) W w'
def DDoes (N : Nat) (args : Array Value) (G : Nat → St Ch) (R : Nat) (a : Option Addr) (cap : Nat) (ks : List Tk) : Prop :=
 ∀ W i bd lg, SR W R a cap ks i bd lg → (bd = false → G i ≠ .out) → Calls Tryz.prog N args W (DDone (G i) i bd lg R a cap ks W)
def DDoesF (N : Nat) (args : Array Value) (G : Nat → St Ch) (R : Nat) (a : Option Addr) (cap : Nat) (ks : List Tk) : Prop :=
 ∀ W i lg, SR W R a cap ks i false lg → G i ≠ .out → Calls Tryz.prog N args W (DDone (G i) i false lg R a cap ks W)
theorem DDoes.f {N : Nat} {args : Array Value} {G : Nat → St Ch} {R : Nat} {a : Option Addr} {cap : Nat} {ks : List Tk} (h : DDoes N args G R a cap ks) : DDoesF N args G R a cap ks := fun W i lg hs hn => h W i false lg hs (fun _ => hn)
theorem DP.next {s : St Ch} {i i1 : Nat} {bd lg bd1 lg1 : Bool} {ts : List Tw} {n : Int} (h : DP s i bd lg ts n i1 bd1 lg1) (hb : bd1 = false) : bd = false ∧ (s = .out ∨ ∃ c, s = .ok c i1) := by
 obtain ⟨_, h2, h3⟩ := h;have hbd : bd = false := by
   cases bd with
   | false => rfl
   | true => rw [(h2 rfl).2] at hb; cases hb
 refine ⟨hbd, ?_⟩;have h4 := h3 hbd;cases s with
 | out => exact .inl rfl
 | bad j => rw [h4.2] at hb; cases hb
 | ok c j => exact .inr ⟨c, by rw [h4.1]⟩
theorem and_out {α β : Type} {s : St α} {f : α → Nat → St β} (h : s.and f ≠ .out) : s ≠ .out := fun e => h (by rw [e]; rfl)
theorem TwsAt.step {W W' : World} {R base : Nat} {v : Value} {ts : List Tw} (h : TwsAt W base v ts) (hR : R < base) (ho : Only (fun k => k = R) W W') : TwsAt W' base v ts := by
 refine ownsRow_only h ho (fun k hk e => ?_);rcases h.2 with ⟨hv, _⟩ | ⟨g, cap', cur, hv, hg, _⟩
 · rw [hv] at hk
   simp [Value.ownBlock] at hk
 · rw [hv] at hk
   simp [Value.ownBlock] at hk
   omega
theorem box_cells {W : World} {b : Nat} {op : Nat} {k0 num : Int} {tx : List UInt8} {t : TypeId} (h : W.heap[b]? = some (.cells #[.int .u8 (op : Int), .int .i64 k0, .int .i64 num, .string ⟨tx.toArray⟩] t (0, 0))) :
   W.cell? ⟨b, 0, none⟩ = some (.int .u8 (op : Int)) ∧ W.cell? ⟨b, 1, none⟩ = some (.int .i64 k0) ∧ W.cell? ⟨b, 2, none⟩ = some (.int .i64 num) ∧ W.cell? ⟨b, 3, none⟩ = some (.string ⟨tx.toArray⟩) := by
 refine ⟨?_, ?_, ?_, ?_⟩ <;> simp [World.cell?, h]
set_option maxRecDepth 20000 in
set_option maxHeartbeats 1000000 in
theorem one_any {G : Nat → St Ch} {R cap : Nat} {a : Option Addr} {ks : List Tk} (hP : DDoes 45 #[.pointer (some ⟨R, 0, none⟩)] G R a cap ks) (op num : Nat) (k0 : Int) (tx : List UInt8) (hq : op < 256 ∧ tx.length ≤ 9223372036854775807) :
   DDoes 144 #[.pointer (some ⟨R, 0, none⟩), .agg #[.int .u8 (op : Int), .int .i64 k0, .int .i64 (num : Int), .string ⟨tx.toArray⟩]] (fun i => (G i).and fun c j => .ok (c.under op num tx) j) R a cap ks := by
 intro w i bd lg h hne;have hRl := h.lt;have hal := (Below.refl w.heap.size w).alloc (Nat.le_refl _) (.cells #[.int .u8 (op : Int), .int .i64 k0, .int .i64 (num : Int), .string ⟨tx.toArray⟩] 29);have c1 := Lib.hid (hP _ i bd lg (h.below hal) (fun e => and_out (hne e)));have hb := heap_alloc_new w (.cells #[.int .u8 (op : Int), .int .i64 k0, .int .i64 (num : Int), .string ⟨tx.toArray⟩] 29);replace hb := Lib.hid hb;have ho0 := Lib.hid (Only.of_below (F := fun k => k = R) hal);have hs0 : (w.alloc (.cells #[.int .u8 (op : Int), .int .i64 k0, .int .i64 (num : Int), .string ⟨tx.toArray⟩] 29)).heap.size = w.heap.size + 1 := by simp
 replace hs0 := Lib.hid hs0;replace hq := Lib.hid hq;clear h hne hP hal;go_enter Tryz.func144, Tryz.ntmps144
 go_wp2_with fail
 refine c1.out.mono ?_;rintro e' w1 ⟨v, ts, i1, bd1, lg1, rfl, hv, hl, hd, hs, ho⟩;obtain ⟨va, vc, rfl, _, _⟩ := id hv.shape;have hb1 := (ho.block w.heap.size (by rw [hs0.out]; omega) (by omega)).trans hb.out;obtain ⟨g0, g1, g2, g3⟩ := box_cells hb1;have hz := ho.size;rw [hs0.out] at hz;have c2 := Lib.hid (top_any hs op k0 1 (num : Int) tx hv (by omega));have ho1 := Lib.hid (ho0.out.then ho);clear c1 hb hb1 hv hs ho;go_wp2_with fail
 refine c2.out.mono ?_;rintro e' w2 ⟨v2, rfl, hv2, hs2, ho2⟩;go_wp2_with fail
 go_ret
 exact ⟨_, _, _, _, _, rfl, hv2.low9 (by omega), topL_len _ _ (by omega), hd.top op num tx hq.out, hs2, ho1.out.then ho2⟩
end Go.Proofs.YtngbekhegnmfaaaGreatDoor
