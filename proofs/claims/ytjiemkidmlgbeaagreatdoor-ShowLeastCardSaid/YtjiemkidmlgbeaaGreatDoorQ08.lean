/- A part of the proof: RTws, PChn, PChn2, PTree, POp. No condition. -/
import Derived.Maps.AppendAt
import Derived.LoopTactic
import Derived.RegionTactic
import Derived.Laws.Rows
import Derived.OwnWalk
import Derived.Deep.MidRow
import Derived.Test.YtjiemkidmlgbeaaGreatDoorQ01
import Derived.Test.YtjiemkidmlgbeaaGreatDoorQ03
import Derived.Test.YtjiemkidmlgbeaaGreatDoorQ07
set_option linter.unusedVariables false
set_option linter.unusedSimpArgs false
namespace Go.Proofs.YtjiemkidmlgbeaaGreatDoor
open Go.RowKit Go.Shelf
theorem twC_len (t : Tw) : (twC t).length = 4 := rfl
theorem twC_one (t : Tw) : ∀ u ∈ twC t, u.oneCell' = true := by
 intro u hu;simp only [twC, List.mem_cons, List.not_mem_nil, or_false] at hu;rcases hu with rfl | rfl | rfl | rfl <;> rfl
theorem tws_one : ∀ (ts : List Tw), ∀ u ∈ rowOf twC ts, u.oneCell' = true
 | [], u, h => by cases h
 | x :: r, u, h => by
   rcases List.mem_append.1 (show u ∈ twC x ++ rowOf twC r from h) with h | h
   · exact twC_one x u h
   · exact tws_one r u h
theorem tw_info : (Tryz.prog.info? 31).map (fun i => (i.zero, i.size, i.bytes)) = some (some (.agg #[.int .u8 0, .int .i64 0, .int .i64 0, .string ⟨#[]⟩]), 4, 40) := by kernel_rfl
theorem tw_parts : ∃ i0, Tryz.prog.info? 31 = some i0 ∧ i0.zero = some (.agg #[.int .u8 0, .int .i64 0, .int .i64 0, .string ⟨#[]⟩]) ∧ i0.size = 4 ∧ i0.bytes = 40 := by
 have h := tw_info;cases hi : Tryz.prog.info? 31 with
 | none => rw [hi] at h; simp at h
 | some i0 =>
   rw [hi] at h;simp at h
   exact ⟨i0, rfl, h.1, h.2.1, h.2.2⟩
def TwsAt (w : World) (base : Nat) (v : Value) (ts : List Tw) : Prop := w.ownsRow base 31 4 v ts.length (rowOf twC ts)
section
variable {w W : World} {base : Nat} {v : Value} {ts : List Tw}
theorem TwsAt.below (h : TwsAt w base v ts) (hb : Below w.heap.size w W) : TwsAt W base v ts := ownsRow_only (F := fun _ => False) h (Only.of_below hb) (fun _ _ h => h)
theorem TwsAt.shape (h : TwsAt w base v ts) : ∃ a cap, v = .slice a ts.length cap ∧ ts.length ≤ cap ∧ cap ≤ 9223372036854775807 := ownsRow_shape h
theorem TwsAt.twIn (h : TwsAt w base v ts) : TwIn w v ts := by
 rcases h.2 with ⟨hv, h0⟩ | ⟨g, cap, cur, hv, hb, hg, hnc, hcm, hsz, ht⟩
 · exact ⟨none, 0, by rw [hv, h0], by omega, by omega, fun h => by omega⟩
 · refine ⟨_, cap, hv, hnc, by unfold maxLen at hcm; omega, fun h0 => ⟨g, 0, rfl, (Array.getElem?_eq_some_iff.1 hg).1, fun i hi c hc => ?_⟩⟩
   have hh := h;unfold TwsAt at hh;rw [hv] at hh;have := World.ownsRow.cellAt (g := g) (cap := cap) hh (i * 4 + c) (by omega);rw [Nat.zero_add, this];exact rowOf_get twC_len ts i c hi hc
end
set_option maxRecDepth 20000 in
theorem wpList_append_tws {w : World} {base : Nat} {v : Value} {ts us : List Tw} {ops : Array Oper} {rest : List Oper} {o : Oper} {a : Act} {Q : Exit → Act → World → Prop} (hgd : o.guard = none) (s x : Operand)
   (ho : o.op = .call { callee := .builtin .append, args := #[s, x], argTypes := #[23, 23] })
   (hs : a.eval s = v) (hown : TwsAt w base v ts) {ad : Addr} {c : Nat} (hx : a.eval x = .slice (some ad) us.length c) (hu : TwIn w (.slice (some ad) us.length c) us)
   (hk : ts.length ≤ 1000000000) (hk2 : us.length ≤ 1000000000) (hbase : base ≤ w.heap.size)
   (h : ∀ a' cap w', TwsAt w' base (.slice a' (ts.length + us.length) cap) (ts ++ us) → Below base w w' → wpList Tryz.prog ops Q rest (a.put o.dst (.slice a' (ts.length + us.length) cap)) w') : wpList Tryz.prog ops Q (o :: rest) a w := by
 obtain ⟨i0, hi, hz0, hz1, hz2⟩ := tw_parts;refine wpList_append_own_at _ hgd s x 23 ho base 31 i0 (.agg #[.int .u8 0, .int .i64 0, .int .i64 0, .string ⟨#[]⟩]) 4 40 Tryz.underlying23 hi hz0 hz1 hz2 rfl (by decide) v ts.length (rowOf twC ts) hs hown ad us.length c (rowOf twC us) hx (rowOf_length twC_len us) ?_ (tws_one us) (by unfold maxLen; omega) (by omega) hbase ?_
 · intro j u hj
   obtain ⟨a0, cap, e, _, _, h3⟩ := hu;have hjl : j < us.length * 4 := by rw [← rowOf_length twC_len us]; exact (List.getElem?_eq_some_iff.1 hj).1
   obtain ⟨g, off, e2, hg, hc⟩ := h3 (by omega);rw [e2] at e;cases e
   have hd : j / 4 < us.length := by omega
   have := hc (j / 4) hd (j % 4) (Nat.mod_lt _ (by decide));rw [← rowOf_get twC_len us (j / 4) (j % 4) hd (Nat.mod_lt _ (by decide)), show j / 4 * 4 + j % 4 = j by omega, hj] at this;rw [← this, show off + j / 4 * 4 + j % 4 = off + j by omega]
   congr 1
   show (⟨g, off, none⟩ : Addr).add j = ⟨g, off + j, none⟩
   simp [Addr.add]
 · intro v' w' h2 h3 _ _
   rw [← rowOf_append] at h2;have h2' : TwsAt w' base v' (ts ++ us) := by
     unfold TwsAt;rw [List.length_append];exact h2
   obtain ⟨a', cap, e, _⟩ := h2'.shape;rw [List.length_append] at e;subst e;exact h a' cap w' h2' ((Below.refl base _).grown h3 hbase (fun k hk => (World.ownsRow.lt hown k hk).1))
end Go.Proofs.YtjiemkidmlgbeaaGreatDoor
namespace Go.Proofs.YtjiemkidmlgbeaaGreatDoor
open Go.RowKit Go.Shelf
def ptr (o : Option Nat) : Value := .pointer (o.map fun b => ⟨b, 0, none⟩)
theorem ptr_none : ptr none = .pointer none := rfl
theorem ptr_some (b : Nat) : ptr (some b) = .pointer (some ⟨b, 0, none⟩) := rfl
def linkC (x : Tw) (e : Option Nat) : Array Value := #[.int .u8 x.op, .int .i64 x.kids, .int .i64 x.num, .string ⟨x.text.toArray⟩, ptr e]
def LinkAt (w : World) (b : Nat) (x : Tw) (e : Option Nat) : Prop := w.heap[b]? = some (.cells (linkC x e) 105 (0, 0))
abbrev Lk := List (Nat × Tw)
def headB : Lk → Option Nat → Option Nat
 | [], e => e
 | x :: _, _ => some x.1
def lastB : Lk → Option Nat
 | [] => none
 | [x] => some x.1
 | _ :: r => lastB r
def Linked (w : World) : Lk → Option Nat → Prop
 | [], _ => True
 | x :: r, e => LinkAt w x.1 x.2 (headB r e) ∧ Linked w r e
theorem Linked.append {w : World} : ∀ {l m : Lk} {e : Option Nat}, Linked w l (headB m e) → Linked w m e → Linked w (l ++ m) e
 | [], m, e, _, h2 => h2
 | x :: r, m, e, h1, h2 => by
   refine ⟨?_, Linked.append h1.2 h2⟩;have : headB (r ++ m) e = headB r (headB m e) := by cases r <;> rfl
   have h3 : LinkAt w x.1 x.2 (headB (r ++ m) e) := by rw [this]; exact h1.1
   exact h3
theorem Linked.only {w W : World} {F : Nat → Prop} (ho : Only F w W) : ∀ {l : Lk} {e : Option Nat}, Linked w l e → (∀ x ∈ l, ¬ F x.1) → Linked W l e
 | [], _, _, _ => trivial
 | x :: r, e, h, hF => by
   refine ⟨?_, Linked.only ho h.2 (fun y hy => hF y (List.mem_cons_of_mem _ hy))⟩;have hl : x.1 < w.heap.size := (Array.getElem?_eq_some_iff.1 h.1).1;exact (ho.block x.1 hl (hF x (by simp))).trans h.1
theorem Linked.lt {w : World} : ∀ {l : Lk} {e : Option Nat}, Linked w l e → ∀ x ∈ l, x.1 < w.heap.size
 | y :: r, e, h, x, hx => by
   rcases List.mem_cons.1 hx with rfl | hx
   · exact (Array.getElem?_eq_some_iff.1 h.1).1
   · exact Linked.lt h.2 x hx
theorem lastB_cons (x y : Nat × Tw) (r : Lk) : lastB (x :: y :: r) = lastB (y :: r) := rfl
theorem lastB_mem : ∀ {l : Lk} {b : Nat}, lastB l = some b → ∃ x ∈ l, x.1 = b
 | [x], b, h => ⟨x, by simp, by simpa [lastB] using h⟩
 | x :: y :: r, b, h => by
   rw [lastB_cons] at h;obtain ⟨z, hz, e⟩ := lastB_mem h;exact ⟨z, List.mem_cons_of_mem _ hz, e⟩
theorem lastB_some {l : Lk} (h : l ≠ []) : ∃ b, lastB l = some b := by
 induction l with
 | nil => exact absurd rfl h
 | cons x r ih =>
   cases r with
   | nil => exact ⟨x.1, rfl⟩
   | cons y s => exact ih (by simp)
theorem lastB_append : ∀ (l : Lk) {m : Lk}, m ≠ [] → lastB (l ++ m) = lastB m
 | [], _, _ => rfl
 | [x], m, h => by
   cases m with
   | nil => exact absurd rfl h
   | cons y s => rfl
 | x :: y :: r, m, h => by
   have := lastB_append (y :: r) h;rw [← this];rfl
theorem Linked.hang {w : World} {f : Option Nat} : ∀ {l : Lk} {e : Option Nat} {b : Nat}, Linked w l e → (l.map Prod.fst).Nodup → lastB l = some b → Linked (w.setCell ⟨b, 4, none⟩ (ptr f)) l f
 | [x], e, b, h, _, hl => by
   have hb : x.1 = b := by simpa [lastB] using hl
   subst hb;refine ⟨?_, trivial⟩;have h1 : w.heap[x.1]? = some (.cells (linkC x.2 e) 105 (0, 0)) := h.1;have := heap_setCell_same w x.1 4 _ _ (ptr f) h1;unfold LinkAt;rw [this];rfl
 | x :: y :: r, e, b, h, hn, hl => by
   rw [lastB_cons] at hl;rw [List.map_cons, List.nodup_cons] at hn;refine ⟨?_, Linked.hang h.2 hn.2 hl⟩;obtain ⟨z, hz, ez⟩ := lastB_mem hl;have hne : x.1 ≠ b := fun c => hn.1 (by rw [c, ← ez]; exact List.mem_map_of_mem hz)
   have ho : Only (fun k => k = b) w (w.setCell ⟨b, 4, none⟩ (ptr f)) := (Only.refl (fun k => k = b) w).setCell (p := ⟨b, 4, none⟩) (.inl rfl) _;have hlt : x.1 < w.heap.size := (Array.getElem?_eq_some_iff.1 h.1).1;have h2 := (ho.block x.1 hlt hne).trans h.1;exact h2
def ChV (w : World) (F : Nat → Prop) (v : Value) (c : Ch) : Prop :=
 ∃ l : Lk, c.ts = l.map Prod.snd ∧ (l.map Prod.fst).Nodup ∧ (∀ x ∈ l, F x.1) ∧ Linked w l none ∧ v = .agg #[ptr (headB l none), ptr (lastB l), .int .i64 c.n] ∧ (c.n = 0 ↔ l = [])
theorem ChV.only {w W : World} {F G : Nat → Prop} {v : Value} {c : Ch} (h : ChV w F v c) (ho : Only G w W) (hF : ∀ k, F k → ¬ G k) : ChV W F v c := by
 obtain ⟨l, h1, h2, h3, h4, h5, h6⟩ := h;exact ⟨l, h1, h2, h3, h4.only ho (fun x hx => hF _ (h3 x hx)), h5, h6⟩
theorem ChV.below {w W : World} {F : Nat → Prop} {v : Value} {c : Ch} (h : ChV w F v c) (hb : Below w.heap.size w W) : ChV W F v c := h.only (Only.of_below (F := fun _ => False) hb) (fun _ _ h => h)
theorem ChV.mono {w : World} {F G : Nat → Prop} {v : Value} {c : Ch} (h : ChV w F v c) (hF : ∀ k, k < w.heap.size → F k → G k) : ChV w G v c := by
 obtain ⟨l, h1, h2, h3, h4, h5, h6⟩ := h;exact ⟨l, h1, h2, fun x hx => hF _ (h4.lt x hx) (h3 x hx), h4, h5, h6⟩
theorem ChV.nil (w : World) (F : Nat → Prop) : ChV w F (.agg #[.pointer none, .pointer none, .int .i64 0]) Ch.none := ⟨[], rfl, by simp, fun x hx => (by cases hx), trivial, rfl, by simp [Ch.none]⟩
theorem ret_ch {fn : Func} {t : Tmp} (hr : fn.results = #[.cell t 83]) {W : World} {b : Nat} {tmps : Array Value} {cs : Array Value} {ty : TypeId} (h2 : tmps.getD t undef = .pointer (some ⟨b, 0, none⟩)) (hc : W.heap[b]? = some (.cells cs ty (0, 0))) (h3 : cs.size = 3) : (results fn tmps).run Tryz.prog W = .ok (.agg cs) W :=
 results_cell_row hr tmps W b ty cs (0, 0) _ h2 hc Tryz.underlying83 rfl (by rw [h3]; kernel_rfl)
theorem stored3 {W : World} {b : Nat} {x0 x1 x2 : Value} {t : TypeId} (h : W.heap[b]? = some (.cells #[x0, x1, x2] t (0, 0))) (a c d : Value) :
   (((W.setCell ⟨b, 0, none⟩ a).setCell ⟨b, 1, none⟩ c).setCell ⟨b, 2, none⟩ d).heap[b]? = some (.cells #[a, c, d] t (0, 0)) ∧ Only (fun k => k = b) W (((W.setCell ⟨b, 0, none⟩ a).setCell ⟨b, 1, none⟩ c).setCell ⟨b, 2, none⟩ d) := by
 constructor
 · have a1 := heap_setCell_same W b 0 _ _ a h
   have a2 := heap_setCell_same _ b 1 _ _ c a1;have a3 := heap_setCell_same _ b 2 _ _ d a2
   simpa using a3
 · exact (((Only.refl (fun k => k = b) W).setCell (p := ⟨b, 0, none⟩) (.inl rfl) a).setCell (p := ⟨b, 1, none⟩) (.inl rfl) c).setCell (p := ⟨b, 2, none⟩) (.inl rfl) d
theorem heap3 (w : World) (a b c : Obj) : (((w.alloc a).alloc b).alloc c).heap[w.heap.size + 1 + 1]? = some c := by
 have h := heap_alloc_new ((w.alloc a).alloc b) c;rw [World.size_alloc, World.size_alloc] at h;exact h
theorem below3 (w : World) (a b c : Obj) : Below w.heap.size w (((w.alloc a).alloc b).alloc c) := by
 refine (((Below.refl _ w).alloc ?_ _).alloc ?_ _).alloc ?_ _ <;> (simp; try omega)
theorem last_link : ∀ {w : World} {l : Lk} {e : Option Nat} {b : Nat}, Linked w l e → lastB l = some b → ∃ x, LinkAt w b x e
 | w, [x], e, b, h, hl => by
   have hb : x.1 = b := by simpa [lastB] using hl
   subst hb;exact ⟨x.2, h.1⟩
 | w, x :: y :: r, e, b, h, hl => last_link h.2 (by rw [lastB_cons] at hl; exact hl)
set_option maxRecDepth 20000 in
set_option maxHeartbeats 1000000 in
theorem then_any {w : World} {F G : Nat → Prop} {v u : Value} {c d : Ch} (hc : ChV w F v c) (hd : ChV w G u d) (hFG : ∀ k, F k → ¬ G k) (hn : c.n + d.n ≤ 1000000000) :
   Calls Tryz.prog 56 #[v, u] w fun e w' => ∃ z, e = .returned z ∧ ChV w' (fun k => F k ∨ G k) z (c.then d) ∧ Only F w w' := by
 obtain ⟨l, c1, c2, c3, c4, rfl, c6⟩ := hc;obtain ⟨m, d1, d2, d3, d4, rfl, d6⟩ := hd;have hA : ∀ W, Below w.heap.size w W → Only F w W := fun W h => Only.of_below h
 obtain ⟨cn, hcn⟩ := exHid c.n;obtain ⟨dn, hdn⟩ := exHid d.n;rw [hcn.out] at hn c6 ⊢;rw [hdn.out] at hn d6 ⊢;by_cases h0 : cn = 0
 · have hl := c6.1 h0
   subst hl h0;have hthen : c.then d = d := by
     obtain ⟨ct, cc⟩ := c;obtain ⟨dt, dd⟩ := d;have e1 : cc = 0 := hcn.out;subst e1;have e2 : ct = [] := c1;subst e2;simp [Ch.then]
   rw [hthen];have hres : ∀ W, Below w.heap.size w W → ChV W (fun k => F k ∨ G k) (.agg #[ptr (headB m none), ptr (lastB m), .int .i64 (dn : Int)]) d := by
     intro W hb;refine ⟨m, d1, d2, fun x hx => .inr (d3 x hx), d4.only (Only.of_below (F := fun _ => False) hb) (fun _ _ h => h), by rw [hdn.out], by rw [hdn.out]; exact d6⟩
   unfold ptr at hres ⊢;generalize (headB m none).map (fun b => (⟨b, 0, none⟩ : Addr)) = p1 at *;generalize (lastB m).map (fun b => (⟨b, 0, none⟩ : Addr)) = p2 at *;clear c1 c2 c3 c4 c6 d1 d2 d3 d4 d6;replace hres := Lib.hid hres; replace hA := Lib.hid hA;go_enter Tryz.func56, Tryz.ntmps56
   go_wp2_with fail
   refine bodyPost_ret (ret_ch rfl rfl (heap3 _ _ _ _) rfl) rfl ⟨_, rfl, hres.out _ (below3 _ _ _ _), hA.out _ (below3 _ _ _ _)⟩
 · have hl0 : l ≠ [] := fun e => h0 (c6.2 e)
   have h0i : ((cn : Int) == 0) = false := beq_eq_false_iff_ne.2 (by omega);by_cases k0 : dn = 0
   · have hm := d6.1 k0
     subst hm k0;have hthen : c.then d = c := by
       obtain ⟨ct, cc⟩ := c;obtain ⟨dt, dd⟩ := d;have e1 : dd = 0 := hdn.out;subst e1;have e2 : dt = [] := d1;subst e2;simp [Ch.then]
     rw [hthen];have hres : ∀ W, Below w.heap.size w W → ChV W (fun k => F k ∨ G k) (.agg #[ptr (headB l none), ptr (lastB l), .int .i64 (cn : Int)]) c := by
       intro W hb;refine ⟨l, c1, c2, fun x hx => .inl (c3 x hx), c4.only (Only.of_below (F := fun _ => False) hb) (fun _ _ h => h), by rw [hcn.out], by rw [hcn.out]; exact c6⟩
     unfold ptr at hres ⊢;generalize (headB l none).map (fun b => (⟨b, 0, none⟩ : Addr)) = p1 at *;generalize (lastB l).map (fun b => (⟨b, 0, none⟩ : Addr)) = p2 at *;clear c1 c2 c3 c4 c6 d1 d2 d3 d4 d6 hl0 h0;replace hres := Lib.hid hres; replace hA := Lib.hid hA;go_enter Tryz.func56, Tryz.ntmps56
     go_wp2_with fail
     refine bodyPost_ret (ret_ch rfl rfl (heap3 _ _ _ _) rfl) rfl ⟨_, rfl, hres.out _ (below3 _ _ _ _), hA.out _ (below3 _ _ _ _)⟩
   · have hm0 : m ≠ [] := fun e => k0 (d6.2 e)
     have k0i : ((dn : Int) == 0) = false := beq_eq_false_iff_ne.2 (by omega);obtain ⟨bl, hbl⟩ := lastB_some hl0;obtain ⟨xl, hxl⟩ := last_link c4 hbl;obtain ⟨hd, md, rfl⟩ : ∃ hd md, m = hd :: md := by cases m with | nil => exact absurd rfl hm0 | cons x r => exact ⟨x, r, rfl⟩
     obtain ⟨hc, lc, rfl⟩ : ∃ hc lc, l = hc :: lc := by cases l with | nil => exact absurd rfl hl0 | cons x r => exact ⟨x, r, rfl⟩
     obtain ⟨bm, hbm⟩ := lastB_some hm0;have hFb : F bl := by
       obtain ⟨z, hz, e⟩ := lastB_mem hbl;rw [← e];exact c3 z hz
     have hbw : bl < w.heap.size := (Array.getElem?_eq_some_iff.1 hxl).1;have q4 : w.cell? ⟨bl, 4, none⟩ = some (ptr none) := by simp [World.cell?, (show w.heap[bl]? = _ from hxl), linkC]
     have qf : w.frozen? ⟨bl, 4, none⟩ = false := by simp [World.frozen?, (show w.heap[bl]? = _ from hxl)]
     have hres : ∀ W0, Below w.heap.size w W0 → ∀ (B : Nat) W2, w.heap.size ≤ B → Only (fun k => k = B) (W0.setCell ⟨bl, 4, none⟩ (ptr (some hd.1))) W2 → Only F w W2 ∧ ChV W2 (fun k => F k ∨ G k) (.agg #[ptr (some hc.1), ptr (some bm), .int .i64 ((cn : Int) + (dn : Int))]) (c.then d) := by
       intro W0 hb B W2 hB hoB;have ho : Only F w (W0.setCell ⟨bl, 4, none⟩ (ptr (some hd.1))) := (Only.of_below hb).setCell (p := ⟨bl, 4, none⟩) (.inl hFb) _;have hob : Only (fun k => k = bl) W0 (W0.setCell ⟨bl, 4, none⟩ (ptr (some hd.1))) := (Only.refl (fun k => k = bl) W0).setCell (p := ⟨bl, 4, none⟩) (.inl rfl) _;refine ⟨ho.trans hoB (fun _ _ e => e) (fun k hk e => by omega), (hc :: lc) ++ (hd :: md), by unfold Ch.then; rw [List.map_append, ← c1, ← d1], ?_, ?_, ?_, ?_, ?_⟩
       · rw [List.map_append, List.nodup_append]
         refine ⟨c2, d2, fun x hx y hy e => ?_⟩;obtain ⟨z, hz, rfl⟩ := List.mem_map.1 hx;obtain ⟨z2, hz2, rfl⟩ := List.mem_map.1 hy;exact hFG _ (c3 z hz) (by rw [e]; exact d3 z2 hz2)
       · intro x hx
         rcases List.mem_append.1 hx with hx | hx
         · exact .inl (c3 x hx)
         · exact .inr (d3 x hx)
       · have g1 : Linked (W0.setCell ⟨bl, 4, none⟩ (ptr (some hd.1))) (hc :: lc) (headB (hd :: md) none) := Linked.hang (f := some hd.1) (c4.only (Only.of_below (F := fun _ => False) hb) (fun _ _ h => h)) c2 hbl
         have g2 : Linked (W0.setCell ⟨bl, 4, none⟩ (ptr (some hd.1))) (hd :: md) none := (d4.only (Only.of_below (F := fun _ => False) hb) (fun _ _ h => h)).only hob (fun x hx e => hFG _ hFb (by rw [← e]; exact d3 x hx));refine (Linked.append g1 g2).only hoB (fun x hx e => ?_)
         · rcases List.mem_append.1 hx with hx | hx
           · have := c4.lt x hx; omega
           · have := d4.lt x hx; omega
       · rw [lastB_append _ hm0, hbm]
         unfold Ch.then;rw [hcn.out, hdn.out];simp [headB]
       · unfold Ch.then
         dsimp only;rw [hcn.out, hdn.out];simp
         omega
     rw [hbl, hbm];have e1 : headB (hc :: lc) none = some hc.1 := rfl;have e2 : headB (hd :: md) none = some hd.1 := rfl;rw [e1, e2];generalize hc.1 = b1 at *;generalize hd.1 = b2 at *;rw [ptr_some, ptr_some, ptr_some, ptr_some];rw [ptr_none] at q4;rw [ptr_some, ptr_some, ptr_some] at hres;have B3 := fun a b c => below3 w a b c
     have q4' := fun a b c => Below.keeps (B3 a b c) q4
     have qf' := fun a b c => ((B3 a b c).frozen (p := ⟨bl, 4, none⟩) hbw).trans qf
     clear c1 c2 c3 c4 c6 d1 d2 d3 d4 d6 hl0 h0 hm0 k0 e1 e2 hxl hbl hbm;replace hres := Lib.hid hres; replace hA := Lib.hid hA;go_enter Tryz.func56, Tryz.ntmps56
     go_wp2_with fail
     have hz := fun A B C => heap3 w A B C
     have S := fun (W : World) (h : W.heap[w.heap.size + 1 + 1]? = some (.cells #[.pointer none, .pointer none, .int .i64 0] 83 (0, 0))) => stored3 h (.pointer (some ⟨b1, 0, none⟩)) (.pointer (some ⟨bm, 0, none⟩)) (.int .i64 ((cn : Int) + (dn : Int)))
     have key := fun (a b : Obj) => (show _ ∧ _ from by
       obtain ⟨s1, s2⟩ := S ((((w.alloc a).alloc b).alloc (.cells #[.pointer none, .pointer none, .int .i64 0] 83)).setCell ⟨bl, 4, none⟩ (.pointer (some ⟨b2, 0, none⟩))) (by
         rw [Below.heap_setCell _ (⟨bl, 4, none⟩ : Addr) _ _ (show w.heap.size + 1 + 1 ≠ bl by omega)];exact hz _ _ _)
       exact ⟨s1, hres.out _ (B3 a b _) _ _ (show w.heap.size ≤ w.heap.size + 1 + 1 by omega) s2⟩)
     exact bodyPost_ret (ret_ch rfl rfl (key _ _).1 rfl) rfl ⟨_, rfl, (key _ _).2.2, (key _ _).2.1⟩
end Go.Proofs.YtjiemkidmlgbeaaGreatDoor
namespace Go.Proofs.YtjiemkidmlgbeaaGreatDoor
open Go.RowKit Go.Shelf
theorem below4 (w : World) (a b c d : Obj) : Below w.heap.size w ((((w.alloc a).alloc b).alloc c).alloc d) := by
 refine ((((Below.refl _ w).alloc ?_ _).alloc ?_ _).alloc ?_ _).alloc ?_ _ <;> (simp; try omega)
theorem new_link (w : World) (a b c : Obj) (x : Tw) : ChV ((((w.alloc a).alloc b).alloc c).alloc (.cells #[.int .u8 x.op, .int .i64 x.kids, .int .i64 x.num, .string ⟨x.text.toArray⟩, .pointer none] 105)) (fun k => k = w.heap.size + 1 + 1 + 1) (.agg #[.pointer (some ⟨w.heap.size + 1 + 1 + 1, 0, none⟩), .pointer (some ⟨w.heap.size + 1 + 1 + 1, 0, none⟩), .int .i64 1]) ⟨[x], 1⟩ := by
 refine ⟨[(w.heap.size + 1 + 1 + 1, x)], rfl, by simp, fun y hy => by simp at hy; rw [hy], ⟨?_, trivial⟩, rfl, by simp⟩;have h := heap_alloc_new (((w.alloc a).alloc b).alloc c) (.cells #[.int .u8 x.op, .int .i64 x.kids, .int .i64 x.num, .string ⟨x.text.toArray⟩, .pointer none] 105);rw [World.size_alloc, World.size_alloc, World.size_alloc] at h;exact h
theorem ChV.agg {w : World} {F : Nat → Prop} {z : Value} {c : Ch} (h : ChV w F z c) : ∃ p q : Option Addr, z = .agg #[.pointer p, .pointer q, .int .i64 (c.n : Int)] := by
 obtain ⟨l, h1, h2, h3, h4, h5, h6⟩ := h;exact ⟨_, _, h5⟩
theorem below2 (w : World) (a b : Obj) : Below w.heap.size w ((w.alloc a).alloc b) := by
 refine ((Below.refl _ w).alloc ?_ _).alloc ?_ _ <;> (simp; try omega)
theorem heap2 (w : World) (a b : Obj) : ((w.alloc a).alloc b).heap[w.heap.size + 1]? = some b := by
 have h := heap_alloc_new (w.alloc a) b;rw [World.size_alloc] at h;exact h
set_option maxRecDepth 20000 in
set_option maxHeartbeats 1000000 in
theorem under_any {w : World} {F : Nat → Prop} {v : Value} {c : Ch} (hc : ChV w F v c) (hn : c.n ≤ 100000000) (op : Nat) (kids : Int) (num : Nat) (text : List UInt8) :
   Calls Tryz.prog 58 #[v, twV ⟨op, kids, (num : Int), text⟩] w fun e w' => ∃ z, e = .returned z ∧ ChV w' (fun k => F k ∨ w.heap.size ≤ k) z (c.under op num text) ∧ Below w.heap.size w w' := by
 have hcF : ChV w (fun k => F k ∧ k < w.heap.size) v c := hc.mono (fun k hk h => ⟨h, hk⟩);replace hcF := Lib.hid hcF;obtain ⟨l, c1, c2, c3, c4, rfl, c6⟩ := hc;obtain ⟨cn, hcn⟩ := exHid c.n;rw [hcn.out] at hn hcF ⊢;clear c1 c2 c3 c4 c6;unfold ptr at hcF ⊢;generalize (headB l none).map (fun b => (⟨b, 0, none⟩ : Addr)) = p1 at *;generalize (lastB l).map (fun b => (⟨b, 0, none⟩ : Addr)) = p2 at *;unfold twV;dsimp only;go_enter Tryz.func58, Tryz.ntmps58
 go_wp2_with fail
 have T := then_any (new_link w (.cells #[.pointer p1, .pointer p2, .int .i64 (cn : Int)] 83) (.cells #[.int .u8 (op : Int), .int .i64 (cn : Int), .int .i64 (num : Int), .string ⟨text.toArray⟩] 31) (.cells #[.pointer none, .pointer none, .int .i64 0] 83) ⟨op, (cn : Int), (num : Int), text⟩) (hcF.out.below (below4 w _ _ _ _)) (fun k hk h => by omega) (by rw [hcn.out]; show 1 + cn ≤ _; omega);refine T.mono ?_;rintro e w5 ⟨z, rfl, hz, hO⟩;have hb5 : Below w.heap.size w w5 := (below4 w _ _ _ _).trans (hO.below (show w.heap.size ≤ _ by simp; omega) (fun k hk e => by omega));have hblk : w5.heap[w.heap.size + 1 + 1]? = some (.cells #[.pointer none, .pointer none, .int .i64 0] 83 (0, 0)) := by
   rw [hO.block (w.heap.size + 1 + 1) (by simp) (by omega), Below.heap_alloc _ _ _ (by simp)];exact heap3 _ _ _ _
 have hsz5 : w.heap.size + 1 + 1 + 1 < w5.heap.size := by
   have := hO.size;simp at this
   omega
 have y0 := fun o => Below.keeps ((Below.refl w5.heap.size w5).alloc (Nat.le_refl _) o) (show w5.cell? ⟨w.heap.size + 1 + 1, 0, none⟩ = some (.pointer none) by simp [World.cell?, hblk])
 have y1 := fun o => Below.keeps ((Below.refl w5.heap.size w5).alloc (Nat.le_refl _) o) (show w5.cell? ⟨w.heap.size + 1 + 1, 1, none⟩ = some (.pointer none) by simp [World.cell?, hblk])
 have y2 := fun o => Below.keeps ((Below.refl w5.heap.size w5).alloc (Nat.le_refl _) o) (show w5.cell? ⟨w.heap.size + 1 + 1, 2, none⟩ = some (.int .i64 0) by simp [World.cell?, hblk])
 have yf := fun o j => (((Below.refl w5.heap.size w5).alloc (Nat.le_refl _) o).frozen (p := ⟨w.heap.size + 1 + 1, j, none⟩) (by show w.heap.size + 1 + 1 < _; omega)).trans (show w5.frozen? ⟨w.heap.size + 1 + 1, j, none⟩ = false by simp [World.frozen?, hblk])
 have f0 := fun o => yf o 0; have f1 := fun o => yf o 1; have f2 := fun o => yf o 2
 have hblk2 := Lib.hid (fun o => (show (w5.alloc o).heap[w.heap.size + 1 + 1]? = _ from (Below.heap_alloc _ _ _ (by omega)).trans hblk));obtain ⟨l5, e1, e2, e3, e4, rfl, e6⟩ := hz;have hl5 : l5 ≠ [] := fun e => by
   have := e6.2 e;unfold Ch.then at this;dsimp only at this;omega
 have hres := Lib.hid (fun (o : Obj) (W : World) (ho : Only (fun k => k = w.heap.size + 1 + 1) (w5.alloc o) W) => (show ChV W (fun k => F k ∨ w.heap.size ≤ k) (.agg #[ptr (headB l5 none), ptr (lastB l5), .int .i64 1]) (c.under op num text) ∧ Below w.heap.size w W from by
   refine ⟨⟨l5, ?_, e2, fun x hx => ?_, ?_, rfl, ?_⟩, hb5.trans ((((Below.refl _ w5).alloc (Nat.le_refl _) o).mono hb5.size).trans (ho.below (by simp; omega) (fun k hk e => by omega)))⟩
   · rw [← e1]
     unfold Ch.under Ch.then;rw [hcn.out];rfl
   · rcases e3 x hx with h | h
     · exact .inr (by omega)
     · exact .inl h.1
   · refine (e4.only (Only.of_below (F := fun _ => False) ((Below.refl _ w5).alloc (Nat.le_refl _) o)) (fun _ _ h => h)).only ho (fun x hx e => ?_)
     rcases e3 x hx with h | h <;> omega
   · unfold Ch.under
     constructor
     · intro h; exact absurd h (by simp)
     · intro h; exact absurd h hl5))
 unfold ptr at hres ⊢;generalize (headB l5 none).map (fun b => (⟨b, 0, none⟩ : Addr)) = q1 at *;generalize (lastB l5).map (fun b => (⟨b, 0, none⟩ : Addr)) = q2 at *;clear e1 e2 e3 e4 e6 hl5 hO hblk yf T hcF;go_wp2_with fail
 have key := fun o => (show _ ∧ _ from by
   obtain ⟨s1, s2⟩ := stored3 (hblk2.out o) (.pointer q1) (.pointer q2) (.int .i64 1);exact ⟨s1, hres.out o _ s2⟩)
 exact bodyPost_ret (ret_ch rfl rfl (key _).1 rfl) rfl ⟨_, rfl, (key _).2.1, (key _).2.2⟩
set_option maxRecDepth 20000 in
set_option maxHeartbeats 1000000 in
theorem leaf_any {w : World} (op : Nat) (kids : Int) (num : Nat) (text : List UInt8) :
   Calls Tryz.prog 79 #[twV ⟨op, kids, (num : Int), text⟩] w fun e w' => ∃ z, e = .returned z ∧ ChV w' (fun k => w.heap.size ≤ k) z (Ch.none.under op num text) ∧ Below w.heap.size w w' := by
 have U := Lib.hid (fun W => under_any (ChV.nil W (fun _ => False)) (by simp [Ch.none]) op kids num text);unfold twV at U ⊢;dsimp only at U ⊢;go_enter Tryz.func79, Tryz.ntmps79
 go_wp2_with fail
 refine (U.out _).mono ?_;rintro e w5 ⟨z, rfl, hz, hb⟩;obtain ⟨p, q, rfl⟩ := hz.agg;have hb2 := (below2 w (.cells #[.int .u8 (op : Int), .int .i64 kids, .int .i64 (num : Int), .string ⟨text.toArray⟩] 31) (.cells #[.pointer none, .pointer none, .int .i64 0] 83));have hblk : w5.heap[w.heap.size + 1]? = some (.cells #[.pointer none, .pointer none, .int .i64 0] 83 (0, 0)) := by
   rw [hb.block (w.heap.size + 1) (by simp)];exact heap2 _ _ _
 have hz' := Lib.hid (hz.mono (G := fun k => w.heap.size + 1 + 1 ≤ k) (fun k _ h => by rcases h with h | h; exact h.elim; simpa using h));have hB := Lib.hid (hb2.trans (hb.mono hb2.size));have y0 : w5.cell? ⟨w.heap.size + 1, 0, none⟩ = some (.pointer none) := by simp [World.cell?, hblk]
 have y1 : w5.cell? ⟨w.heap.size + 1, 1, none⟩ = some (.pointer none) := by simp [World.cell?, hblk]
 have y2 : w5.cell? ⟨w.heap.size + 1, 2, none⟩ = some (.int .i64 0) := by simp [World.cell?, hblk]
 have yf : ∀ j, w5.frozen? ⟨w.heap.size + 1, j, none⟩ = false := fun j => by simp [World.frozen?, hblk]
 have f0 := yf 0; have f1 := yf 1; have f2 := yf 2;obtain ⟨s1, s2⟩ := stored3 hblk (.pointer p) (.pointer q) (.int .i64 ((Ch.none.under op num text).n : Int));replace hblk := Lib.hid hblk; replace s1 := Lib.hid s1; replace s2 := Lib.hid s2;clear yf hb hz hb2 U;go_wp2_with fail
 refine bodyPost_ret (ret_ch rfl rfl s1.out rfl) rfl ⟨_, rfl, (hz'.out.only s2.out (fun k hk e => by omega)).mono (fun k _ h => by omega), hB.out.trans (s2.out.below hB.out.size (fun k hk e => by omega))⟩
end Go.Proofs.YtjiemkidmlgbeaaGreatDoor
namespace Go.Proofs.YtjiemkidmlgbeaaGreatDoor
open Go.RowKit Go.Shelf
theorem Linked.split {w : World} : ∀ {l m : Lk} {e : Option Nat}, Linked w (l ++ m) e → Linked w m e
 | [], m, e, h => h
 | x :: r, m, e, h => Linked.split (l := r) h.2
def lenW : Value → Nat
 | .slice _ n _ => n
 | _ => 0
theorem one_twig (w : World) (x : Tw) : TwIn (w.alloc (.cells #[.int .u8 x.op, .int .i64 x.kids, .int .i64 x.num, .string ⟨x.text.toArray⟩] 31)) (.slice (some ⟨w.heap.size, 0, none⟩) 1 1) [x] := by
 refine ⟨_, 1, rfl, Nat.le_refl _, by omega, fun _ => ⟨w.heap.size, 0, rfl, by simp, fun i hi c hc => ?_⟩⟩;simp only [List.length_cons, List.length_nil] at hi;obtain rfl : i = 0 := by omega
 have h := heap_alloc_new w (.cells #[.int .u8 x.op, .int .i64 x.kids, .int .i64 x.num, .string ⟨x.text.toArray⟩] 31);simp only [World.cell?, h];rcases (show c = 0 ∨ c = 1 ∨ c = 2 ∨ c = 3 by omega) with rfl | rfl | rfl | rfl <;> rfl
set_option maxRecDepth 20000 in
set_option maxHeartbeats 1000000 in
theorem tree_any {w : World} {F : Nat → Prop} {v : Value} {c : Ch} (hc : ChV w F v c) (hl : c.ts.length ≤ 100000000) :
   Calls Tryz.prog 51 #[v] w fun e w' => ∃ u, e = .returned u ∧ TwsAt w' w.heap.size u c.ts ∧ Below w.heap.size w w' := by
 obtain ⟨l, c1, c2, c3, c4, rfl, c6⟩ := hc;obtain ⟨N, hN⟩ := exHid l.length;have hNl : N ≤ 100000000 := by rw [← hN.out, ← List.length_map (f := Prod.snd), ← c1]; exact hl
 rw [c1];replace c4 := Lib.hid c4;clear c1 c2 c3 c6 hl;obtain ⟨p1, hp1⟩ := exHid (headB l none);obtain ⟨p2, hp2⟩ := exHid (lastB l);rw [hp1.out, hp2.out];unfold ptr;generalize hq : p1.map (fun b => (⟨b, 0, none⟩ : Addr)) = q1 at *;generalize p2.map (fun b => (⟨b, 0, none⟩ : Addr)) = q2 at *;have hstart : (Value.pointer q1) = ptr (headB l none) := by rw [hp1.out, ← hq]; rfl
 replace hstart := Lib.hid hstart;clear hp1 hp2 hq;have hal := Lib.hid (fun o => (Below.refl w.heap.size w).alloc (Nat.le_refl _) o);go_enter Tryz.func51, Tryz.ntmps51
 go_wp2_with fail
 go_loopw [2, 3] (fun t2 t3 wr => ∃ (done rest : Lk), Hid (l = done ++ rest) ∧ Hid (TwsAt wr w.heap.size t2 (done.map Prod.snd)) ∧ Hid (t3 = ptr (headB rest none)) ∧ Hid (Below w.heap.size w wr)) (fun t2 _ _ => N - lenW t2)
 case atStart => exact ⟨[], l, Lib.hid rfl, Lib.hid ⟨rfl, .inl ⟨rfl, rfl⟩⟩, hstart, hal.out _⟩
 case round =>
   clear hstart hal;obtain ⟨done, rest, hlr, hT, h3, hB⟩ := hrel;have hlen : done.length + rest.length = N := by rw [← hN.out, hlr.out, List.length_append]
   obtain ⟨a2, k2, e2, _, _⟩ := hT.out.shape;rw [List.length_map] at e2;subst e2;cases rest with
   | nil =>
     have e3 := h3.out;unfold ptr headB at e3;dsimp only [Option.map] at e3;subst e3;have hd : l = done := by rw [hlr.out, List.append_nil]
     subst hd;go_wp2_with fail
     go_ret
     exact ⟨_, rfl, hT.out, hB.out⟩
   | cons x r =>
     have e3 := h3.out;unfold ptr headB at e3;dsimp only [Option.map] at e3;subst e3;obtain ⟨b, op, kids, num, text⟩ := x;have hlk := (Linked.split (by rw [← hlr.out]; exact c4.out) : Linked w ((b, (⟨op, kids, num, text⟩ : Tw)) :: r) none).1;have hbl : b < w.heap.size := (Array.getElem?_eq_some_iff.1 hlk).1;have hblk : wr.heap[b]? = some (.cells (linkC ⟨op, kids, num, text⟩ (headB r none)) 105 (0, 0)) := (hB.out.block b hbl).trans hlk;obtain ⟨pn, hpn⟩ := exHid ((headB r none).map (fun b => (⟨b, 0, none⟩ : Addr)));have hpt : ptr (headB r none) = .pointer pn := by unfold ptr; rw [hpn.out]
     unfold linkC at hblk;rw [hpt] at hblk;dsimp only at hblk;have y0 : wr.cell? ⟨b, 0, none⟩ = some (.int .u8 (op : Int)) := by simp [World.cell?, hblk]
     have y1 : wr.cell? ⟨b, 1, none⟩ = some (.int .i64 kids) := by simp [World.cell?, hblk]
     have y2 : wr.cell? ⟨b, 2, none⟩ = some (.int .i64 num) := by simp [World.cell?, hblk]
     have y3 : wr.cell? ⟨b, 3, none⟩ = some (.string ⟨text.toArray⟩) := by simp [World.cell?, hblk]
     have y4 : wr.cell? ⟨b, 4, none⟩ = some (.pointer pn) := by simp [World.cell?, hblk]
     have hal := (Below.refl wr.heap.size wr).alloc (Nat.le_refl _) (.cells #[.int .u8 (op : Int), .int .i64 kids, .int .i64 num, .string ⟨text.toArray⟩] 31);have hT2 := Lib.hid (hT.out.below hal);have hB2 := Lib.hid (hB.out.trans (hal.mono hB.out.size));have h1 := Lib.hid (one_twig wr ⟨op, kids, num, text⟩);have hdl : (done.map Prod.snd).length ≤ 1000000000 := by rw [List.length_map]; rw [List.length_cons] at hlen; omega
     have hdl2 : (done.map Prod.snd).length = done.length := List.length_map _;have hblk2 := Lib.hid hblk;have hpt' := Lib.hid hpt;rw [List.length_cons] at hlen;clear hblk hpt hlk hT hal;go_wp2_with (at_builtin; (refine wpList_append_tws (base := w.heap.size) (us := [⟨op, kids, num, text⟩]) rfl _ _ rfl rfl hT2.out rfl h1.out hdl (by simp) hB2.out.size ?_; intro a6 c6 w5 hT5 hB5; have z4 := (show w5.cell? ⟨b, 4, none⟩ = some (.pointer pn) from by
       have hlt : b < wr.heap.size := (Array.getElem?_eq_some_iff.1 hblk2.out).1;exact ((hB5.cell (p := ⟨b, 4, none⟩) hbl).trans (((Below.refl wr.heap.size wr).alloc (Nat.le_refl _) _).cell (p := ⟨b, 4, none⟩) hlt)).trans y4)))
     have hT6 := hT5;rw [hdl2] at hT6;go_roundw
     case rel =>
       refine ⟨done ++ [(b, ⟨op, kids, num, text⟩)], r, Lib.hid (by rw [hlr.out, List.append_assoc]; rfl), ?_, Lib.hid hpt'.out.symm, Lib.hid (hB2.out.trans hB5)⟩;rw [List.map_append];exact Lib.hid hT6
     case measure => simp [lenW]; omega
end Go.Proofs.YtjiemkidmlgbeaaGreatDoor
namespace Go.Proofs.YtjiemkidmlgbeaaGreatDoor
open Go.RowKit
def makesC : List Value := makesL.flatMap fun x => [.string ⟨x.1.toArray⟩, .int .u8 (x.2 : Int)]
def makesV : Value := .agg makesC.toArray
def MakesOK (w : World) : Prop := w.rangeAt 2 0 makesC
def mkAt (j : Nat) : List UInt8 × Nat := makesL.getD j ([], 0)
theorem index_makes : ∀ j : Nat, j < 28 → ∀ W : World, (Instr.index 124 makesV (.int .i64 (j : Int))).run Tryz.prog W = .ok (.agg #[.string ⟨(mkAt j).1.toArray⟩, .int .u8 ((mkAt j).2 : Int)]) W := by
 intro j hj W;rcases (show j = 0 ∨ j = 1 ∨ j = 2 ∨ j = 3 ∨ j = 4 ∨ j = 5 ∨ j = 6 ∨ j = 7 ∨ j = 8 ∨ j = 9 ∨ j = 10 ∨ j = 11 ∨ j = 12 ∨ j = 13 ∨ j = 14 ∨ j = 15 ∨ j = 16 ∨ j = 17 ∨ j = 18 ∨ j = 19 ∨ j = 20 ∨ j = 21 ∨ j = 22 ∨ j = 23 ∨ j = 24 ∨ j = 25 ∨ j = 26 ∨ j = 27 by omega) with rfl | rfl | rfl | rfl | rfl | rfl | rfl | rfl | rfl | rfl | rfl | rfl | rfl | rfl | rfl | rfl | rfl | rfl | rfl | rfl | rfl | rfl | rfl | rfl | rfl | rfl | rfl | rfl
 all_goals kernel_rfl
theorem MakesOK.below {w W : World} (h : MakesOK w) (hg : 2 < w.heap.size) (hb : Below w.heap.size w W) : MakesOK W := fun j v hv => (hb.cell (p := ⟨2, 0 + j, none⟩) hg).trans (h j v hv)
theorem op_step {j : Nat} (hj : j < 28) (m : List UInt8) : opGo (makesL.drop j) m = if (mkAt j).1 = m then (mkAt j).2 else opGo (makesL.drop (j + 1)) m := by
 have hl : j < makesL.length := hj;have e : mkAt j = makesL[j] := by unfold mkAt; rw [List.getD_eq_getElem?_getD, List.getElem?_eq_getElem hl]; rfl
 rw [List.drop_eq_getElem_cons hl, e];rfl
set_option maxRecDepth 20000 in
set_option maxHeartbeats 1000000 in
theorem opOf_any {w : World} (m : List UInt8) (h : MakesOK w) :
   Calls Tryz.prog 83 #[.string ⟨m.toArray⟩] w fun e w' => e = .returned (.int .u8 (opOfT m : Int)) ∧ Below w.heap.size w w' := by
 obtain ⟨R, hR⟩ := exHid (opOfT m);rw [hR.out];have hm := Lib.hid h;have hlt : 2 < w.heap.size := World.block_lt_of_cell? w ⟨2, 0 + 0, none⟩ (h 0 _ rfl);clear h;go_enter Tryz.func83, Tryz.ntmps83
 go_wp2_with (refine wpList_load_mid rfl 124 _ rfl 2 0 rfl makesC _ hm.out Tryz.underlying124 rfl (by kernel_rfl) ?_)
 have hmv : (.agg makesC.toArray : Value) = makesV := rfl;rw [hmv];have hix := fun (j : Nat) (hj : j < 28) (W : World) => index_makes j hj W
 generalize makesV = MV at *;clear hmv hm;replace hix := Lib.hid hix;go_loopw [6] (fun t6 wr => ∃ j : Nat, j ≤ 28 ∧ t6 = .int .i64 j ∧ Hid (opGo (makesL.drop j) m = R) ∧ Hid (Below w.heap.size w wr)) (fun t6 _ => 28 - (intOf t6).toNat)
 case atStart => exact ⟨0, by omega, rfl, hR, Lib.hid (Below.refl _ _)⟩
 case round =>
   obtain ⟨j, hj, rfl, hg, hB⟩ := hrel;rcases Nat.lt_or_ge j 28 with hjl | hjg
   · have hjli : (j : Int) < 28 := by omega
     have hi := fun W => hix.out j hjl W
     have hst := op_step hjl m;rw [hg.out] at hst;generalize mkAt j = x at *;obtain ⟨T, op⟩ := x;dsimp only at hst hi;by_cases hq : T = m
     · subst hq
       rw [if_pos rfl] at hst;subst hst;have e1 : (T == T) = true := beq_self_eq_true _;replace hg := Lib.hid hg.out;go_wp2_with fail
       go_ret
       exact ⟨rfl, hB.out.alloc hB.out.size _⟩
     · have e1 : (T == m) = false := beq_eq_false_iff_ne.2 hq
       rw [if_neg hq] at hst;replace hst := Lib.hid hst.symm;replace hq := Lib.hid hq;go_wp2_with fail
       go_roundw
       case rel => exact ⟨j + 1, by omega, by go_num, hst, Lib.hid (hB.out.alloc hB.out.size _)⟩
       case measure => simp [intOf]; omega
   · obtain rfl : j = 28 := by omega
     have hR0 : R = 0 := by rw [← hg.out]; rfl
     subst hR0;go_wp2_with fail
     go_ret
     exact ⟨rfl, hB.out⟩
end Go.Proofs.YtjiemkidmlgbeaaGreatDoor
