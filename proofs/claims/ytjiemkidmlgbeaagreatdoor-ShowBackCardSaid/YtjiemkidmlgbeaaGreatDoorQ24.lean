/- A part of the proof: ShW, ShX. No condition. -/
import Derived.Defers
import Derived.Deep.MidRow
import Derived.Test.YtjiemkidmlgbeaaGreatDoorQ05
import Derived.Test.YtjiemkidmlgbeaaGreatDoorQ23
set_option linter.unusedVariables false
set_option linter.unusedSimpArgs false
namespace Go.Proofs.YtjiemkidmlgbeaaGreatDoor
open Go.RowKit Go.Shelf
theorem heldW {F : Nat → Prop} {W W' : World} (ho : Only F W W') {B : Nat} {o : Obj} (h : W.heap[B]? = some o) (hB : ¬ F B) : W'.heap[B]? = some o := (ho.block B (Array.getElem?_eq_some_iff.1 h).1 hB).trans h
theorem cellW {W : World} {b : Nat} {cs : Array Value} {t : TypeId} (h : W.heap[b]? = some (.cells cs t (0, 0))) (j : Nat) : W.cell? ⟨b, j, none⟩ = cs[j]? := by simp [World.cell?, h]
theorem fzW {W : World} {b : Nat} {cs : Array Value} {t : TypeId} (h : W.heap[b]? = some (.cells cs t (0, 0))) (j : Nat) : W.frozen? ⟨b, j, none⟩ = false := by simp [World.frozen?, h]
theorem TgsAt.block {w : World} {base : Nat} {v : Value} {ts : List Tg} (h : TgsAt w base v ts) {g : Nat} (hg : v.ownBlock = some g) : base ≤ g ∧ g < w.heap.size ∧ ∃ cur, w.heap[g]? = some (.cells cur 54 (0, 0)) := by
 rcases h.2 with ⟨hv, _⟩ | ⟨g', cap, cur, hv, hb, hgg, _⟩
 · rw [hv] at hg; cases hg
 · rw [hv] at hg
   have e1 : g = g' := by simpa [Value.ownBlock] using hg.symm
   subst e1;exact ⟨hb, (Array.getElem?_eq_some_iff.1 hgg).1, _, hgg⟩
def Fw (base b : Nat) (W : World) (k : Nat) : Prop := k = b ∨ (base ≤ k ∧ ∃ cur fr, W.heap[k]? = some (.cells cur 54 fr))
theorem Fw.then {base b : Nat} {W W1 W2 : World} (h : Only (Fw base b W) W W1) (g : Only (Fw base b W1) W1 W2) : Only (Fw base b W) W W2 := by
 refine h.trans g (fun k _ e => e) (fun k hk e => ?_);rcases e with e | ⟨e1, cur, fr, e2⟩
 · exact .inl e
 · by_cases hF : Fw base b W k
   · exact hF
   · rw [h.block k hk hF] at e2
     exact .inr ⟨e1, cur, fr, e2⟩
theorem not_Fw {base b k : Nat} {W : World} {cs : Array Value} {t : TypeId} {fr : Nat × Nat} (h : W.heap[k]? = some (.cells cs t fr)) (ht : t ≠ 54) (hb : k ≠ b) : ¬ Fw base b W k := by
 rintro (e | ⟨_, cur, fr', e⟩)
 · exact hb e
 · rw [h] at e
   injection e with e;injection e with _ e _;exact ht e
theorem Fw.held {base b k : Nat} {W W' : World} {cs : Array Value} {t : TypeId} {fr : Nat × Nat} (ho : Only (Fw base b W) W W') (h : W.heap[k]? = some (.cells cs t fr)) (ht : t ≠ 54) (hb : k ≠ b) : W'.heap[k]? = some (.cells cs t fr) := heldW ho h (not_Fw h ht hb)
structure Wr (w0 w : World) (b : Nat) (R : List Tw) (L : List Tg) : Prop where
 ge : w0.heap.size ≤ b
 below : Below w0.heap.size w0 w
 mem : ∃ rv tv, w.heap[b]? = some (.cells #[rv, tv] 52 (0, 0)) ∧ TwIn w0 rv R ∧ TgsAt w w0.heap.size tv L
theorem Wr.lt {w0 w : World} {b : Nat} {R : List Tw} {L : List Tg} (h : Wr w0 w b R L) : b < w.heap.size := by
 obtain ⟨rv, tv, h1, _⟩ := h.mem;exact (Array.getElem?_eq_some_iff.1 h1).1
theorem Wr.keep {w0 w W : World} {b : Nat} {R : List Tw} {L : List Tg} (h : Wr w0 w b R L) (hb : Below w.heap.size w W) : Wr w0 W b R L := by
 obtain ⟨rv, tv, h1, h2, h3⟩ := h.mem;refine ⟨h.ge, below_next h.below hb, rv, tv, ?_, h2, h3.below hb⟩;rw [hb.block b (Array.getElem?_eq_some_iff.1 h1).1];exact h1
theorem Wr.apart {w0 w : World} {b : Nat} {rv tv tv' : Value} {L : List Tg} (h1 : w.heap[b]? = some (.cells #[rv, tv'] 52 (0, 0))) (h3 : TgsAt w w0.heap.size tv L) : ∀ g, tv.ownBlock = some g → ¬ g = b := by
 intro g hg e;obtain ⟨_, _, cur, h⟩ := h3.block hg;rw [e, h1] at h;injection h with h;injection h with _ h _;exact absurd h (by decide)
theorem Wr.rest {w0 w : World} {b : Nat} {R R' : List Tw} {L : List Tg} (h : Wr w0 w b R L) {v : Value} (hv : TwIn w0 v R') : Wr w0 (w.setCell ⟨b, 0, none⟩ v) b R' L ∧ Only (fun k => k = b) w (w.setCell ⟨b, 0, none⟩ v) := by
 obtain ⟨rv, tv, h1, h2, h3⟩ := h.mem;have ho : Only (fun k => k = b) w (w.setCell ⟨b, 0, none⟩ v) := (Only.refl (fun k => k = b) w).setCell (p := ⟨b, 0, none⟩) (.inl rfl) v;have hge := h.ge;refine ⟨⟨h.ge, ?_, v, tv, ?_, hv, ownsRow_only h3 ho (fun g hg => Wr.apart h1 h3 g hg)⟩, ho⟩
 · exact h.below.trans (ho.below h.below.size (fun k hk e => by omega))
 · have a1 := heap_setCell_same w b 0 _ _ v h1
   simpa using a1
theorem Wr.more {w0 w : World} {b : Nat} {R : List Tw} {L' : List Tg} {rv tv : Value} (hge : w0.heap.size ≤ b) (hb : Below w0.heap.size w0 w) (h1 : w.heap[b]? = some (.cells #[rv, tv] 52 (0, 0))) (hR : TwIn w0 rv R) {v : Value} (hT : TgsAt w w0.heap.size v L') : Wr w0 (w.setCell ⟨b, 1, none⟩ v) b R L' ∧ Only (fun k => k = b) w (w.setCell ⟨b, 1, none⟩ v) := by
 have ho : Only (fun k => k = b) w (w.setCell ⟨b, 1, none⟩ v) := (Only.refl (fun k => k = b) w).setCell (p := ⟨b, 1, none⟩) (.inl rfl) v;refine ⟨⟨hge, ?_, rv, v, ?_, hR, ownsRow_only hT ho (fun g hg => Wr.apart h1 hT g hg)⟩, ho⟩
 · exact hb.trans (ho.below hb.size (fun k hk e => by omega))
 · have a1 := heap_setCell_same w b 1 _ _ v h1
   simpa using a1
theorem TwIn.rest {w : World} {g off n cap : Nat} {x : Tw} {R : List Tw} (hn : R.length = n) (hg : g < w.heap.size) (hl : n + 1 ≤ cap) (hm : cap ≤ 9223372036854775807) (hc : ∀ i (hi : i < (x :: R).length) (c : Nat), c < 4 → w.cell? ⟨g, off + i * 4 + c, none⟩ = (twC (x :: R)[i])[c]?) : TwIn w (.slice (some ⟨g, off + 4, none⟩) n (cap - 1)) R := by
 subst hn;refine ⟨_, _, rfl, by omega, by omega, fun h0 => ⟨g, off + 4, rfl, hg, fun i hi c hc' => ?_⟩⟩;have := hc (i + 1) (by simpa using hi) c hc';rw [List.getElem_cons_succ] at this;rw [← this]
 congr 2
 omega
theorem TwIn.last {w : World} {a : Option Addr} {cap : Nat} (hm : cap ≤ 9223372036854775807) : TwIn w (.slice a 0 cap) [] := ⟨a, cap, rfl, Nat.zero_le _, hm, fun h => absurd h (by decide)⟩
theorem results_next {W : World} {b : Nat} {x : Tw} {tmps : Array Value} (h : tmps.getD 2 undef = .pointer (some ⟨b, 0, none⟩)) (hc : W.heap[b]? = some (.cells (twC x).toArray 31 (0, 0))) :
   (results Tryz.f36 tmps).run Tryz.prog W = .ok (twV x) W := by
 have c0 := cellW hc 0; have c1 := cellW hc 1; have c2 := cellW hc 2; have c3 := cellW hc 3;simp only [twC, List.getElem?_toArray, List.getElem?_cons_succ, List.getElem?_cons_zero] at c0 c1 c2 c3;have h' : tmps[2]?.getD undef = .pointer (some ⟨b, 0, none⟩) := by simpa using h
 unfold twV;simp [results, Tryz.results36, go_sem, h', c0, c1, c2, c3]
set_option maxRecDepth 20000 in
set_option maxHeartbeats 2000000 in
theorem next_any {w0 w : World} {b : Nat} {x : Tw} {R : List Tw} {L : List Tg} (h : Wr w0 w b (x :: R) L) :
   Calls Tryz.prog 36 #[.pointer (some ⟨b, 0, none⟩)] w fun e w' => e = .returned (twV x) ∧ Wr w0 w' b R L ∧ Only (fun k => k = b) w w' := by
 obtain ⟨rv, tv, h1, ⟨a, cap, rfl, hlc, hcm, h2⟩, h3⟩ := h.mem;obtain ⟨g, off, rfl, hg, hc⟩ := h2 (by simp);have hbl := h.lt;have hge := h.ge;have hgw := h.below.size;have hg1 : g < w.heap.size := by omega
 have hne : b ≠ g := by omega
 obtain ⟨op, kids, num, text⟩ := x;have x0 := (h.below.cell (p := ⟨g, off + 0 * 4 + 0, none⟩) hg).trans (hc 0 (by simp) 0 (by decide));have x1 := (h.below.cell (p := ⟨g, off + 0 * 4 + 1, none⟩) hg).trans (hc 0 (by simp) 1 (by decide));have x2 := (h.below.cell (p := ⟨g, off + 0 * 4 + 2, none⟩) hg).trans (hc 0 (by simp) 2 (by decide));have x3 := (h.below.cell (p := ⟨g, off + 0 * 4 + 3, none⟩) hg).trans (hc 0 (by simp) 3 (by decide));simp only [List.getElem_cons_zero, twC, List.getElem?_cons_zero, List.getElem?_cons_succ, Nat.zero_mul, Nat.add_zero] at x0 x1 x2 x3;have y0 := cellW h1 0;have y1 := cellW h1 1;have f0 := fzW h1 0;simp only [List.getElem?_toArray, List.getElem?_cons_succ, List.getElem?_cons_zero] at y0 y1;have hlen : (((⟨op, kids, num, text⟩ : Tw) :: R).length : Int) = (R.length : Int) + 1 := by simp
 have hlen2 : ((⟨op, kids, num, text⟩ : Tw) :: R).length = R.length + 1 := by simp
 rw [hlen2] at y0 hlc;replace hc := Lib.hid hc;replace h1 := Lib.hid h1;replace h3 := Lib.hid h3;replace h := Lib.hid h;clear h2 hlen hlen2;obtain ⟨n, hn⟩ := exHid R.length;rw [hn.out] at y0 hlc;by_cases hcap : cap = 1
 · subst hcap
   obtain rfl : n = 0 := by omega
   obtain rfl : R = [] := List.eq_nil_of_length_eq_zero hn.out;obtain ⟨m1, m2⟩ := h.out.rest (v := .slice (some ⟨g, off, none⟩) 0 0) (TwIn.last (by decide));replace m1 := Lib.hid m1;replace m2 := Lib.hid m2;go_enter Tryz.func36, Tryz.ntmps36
   go_wp2_with fail
   have hz : (w.setCell ⟨b, 0, none⟩ (.slice (some ⟨g, off, none⟩) 0 0)).heap.size = w.heap.size := by simp [World.setCell]
   rw [← hz];have hB := (Below.refl (w.setCell ⟨b, 0, none⟩ (.slice (some ⟨g, off, none⟩) 0 0)).heap.size (w.setCell ⟨b, 0, none⟩ (.slice (some ⟨g, off, none⟩) 0 0))).alloc (Nat.le_refl _) (.cells (twC ⟨op, kids, num, text⟩).toArray 31);have hB2 := hB.alloc (by simp) (.cells (twC ⟨op, kids, num, text⟩).toArray 31);have hN := heap_alloc_new (w.setCell ⟨b, 0, none⟩ (.slice (some ⟨g, off, none⟩) 0 0)) (.cells (twC ⟨op, kids, num, text⟩).toArray 31 (0, 0));refine bodyPost_ret (results_next (x := ⟨op, kids, num, text⟩) rfl ((Below.heap_alloc _ _ _ (by simp)).trans hN)) rfl ⟨rfl, m1.out.keep hB2, m2.out.then (Only.of_below hB2)⟩
 · have hc2 := Lib.hid (TwIn.rest (w := w0) hn.out hg hlc hcm hc.out)
   obtain ⟨m1, m2⟩ := h.out.rest hc2.out;replace m1 := Lib.hid m1;replace m2 := Lib.hid m2;go_enter Tryz.func36, Tryz.ntmps36
   go_wp2_with fail
   have hz : (w.setCell ⟨b, 0, none⟩ (.slice (some ⟨g, off + 4, none⟩) n (cap - 1))).heap.size = w.heap.size := by simp [World.setCell]
   rw [← hz];have hB := (Below.refl (w.setCell ⟨b, 0, none⟩ (.slice (some ⟨g, off + 4, none⟩) n (cap - 1))).heap.size (w.setCell ⟨b, 0, none⟩ (.slice (some ⟨g, off + 4, none⟩) n (cap - 1)))).alloc (Nat.le_refl _) (.cells (twC ⟨op, kids, num, text⟩).toArray 31);have hB2 := hB.alloc (by simp) (.cells (twC ⟨op, kids, num, text⟩).toArray 31);have hN := heap_alloc_new (w.setCell ⟨b, 0, none⟩ (.slice (some ⟨g, off + 4, none⟩) n (cap - 1))) (.cells (twC ⟨op, kids, num, text⟩).toArray 31 (0, 0));refine bodyPost_ret (results_next (x := ⟨op, kids, num, text⟩) rfl ((Below.heap_alloc _ _ _ (by simp)).trans hN)) rfl ⟨rfl, m1.out.keep hB2, m2.out.then (Only.of_below hB2)⟩
def Strs (base b : Nat) (w : World) (v : Value) (ss : List (List UInt8)) : Prop := ∃ g cs c, v = .slice (some ⟨g, 0, none⟩) ss.length c ∧ g ≠ b ∧ w.heap[g]? = some (.cells cs 9 (0, 0)) ∧ ∀ i (h : i < ss.length), cs[i]? = some (.string ⟨(ss[i]).toArray⟩)
theorem Strs.held {base b : Nat} {w W : World} {v : Value} {ss : List (List UInt8)} (h : Strs base b w v ss) (ho : Only (Fw base b w) w W) : Strs base b W v ss := by
 obtain ⟨g, cs, c, e, h1, h2, h3⟩ := h;exact ⟨g, cs, c, e, h1, Fw.held ho h2 (by decide) h1, h3⟩
theorem Strs.below {base b : Nat} {w W : World} {v : Value} {ss : List (List UInt8)} (h : Strs base b w v ss) (hb : Below w.heap.size w W) : Strs base b W v ss := by
 obtain ⟨g, cs, c, e, h1, h2, h3⟩ := h;exact ⟨g, cs, c, e, h1, (hb.block g (Array.getElem?_eq_some_iff.1 h2).1).trans h2, h3⟩
def tkT (kd : Nat) (s : List UInt8) : Tg := ⟨kd, s, 0, 0⟩
theorem Wr.put {w0 w W : World} {b : Nat} {R : List Tw} {L L' : List Tg} (h : Wr w0 w b R L) {rv tv : Value} (h1 : w.heap[b]? = some (.cells #[rv, tv] 52 (0, 0))) (h2 : TwIn w0 rv R) (h3 : TgsAt w w0.heap.size tv L) {v : Value} (hT : TgsAt W w0.heap.size v L') (ho : Only (fun k => tv.ownBlock = some k) w W) :
   Wr w0 (W.setCell ⟨b, 1, none⟩ v) b R L' ∧ Only (Fw w0.heap.size b w) w (W.setCell ⟨b, 1, none⟩ v) := by
 have hne := Wr.apart h1 h3;have h1' : W.heap[b]? = some (.cells #[rv, tv] 52 (0, 0)) := heldW ho h1 (fun e => hne b e rfl);have hB : Below w0.heap.size w0 W := h.below.trans (ho.below h.below.size (fun k hk e => by
   have := (h3.block e).1;omega))
 have hm := Wr.more h.ge hB h1' h2 hT;refine ⟨hm.1, ho.trans hm.2 (fun k hk e => ?_) (fun k hk e => .inl e)⟩;obtain ⟨e1, e2, cur, e3⟩ := h3.block e;exact .inr ⟨e1, cur, _, e3⟩
theorem wpList_append_tgo {w : World} {base : Nat} {v : Value} {ts : List Tg} {ops : Array Oper} {rest : List Oper} {o : Oper} {a : Act} {Q : Exit → Act → World → Prop} (hgd : o.guard = none) (s x : Operand)
   (ho : o.op = .call { callee := .builtin .append, args := #[s, x], argTypes := #[37, 37] })
   (hs : a.eval s = v) (hown : TgsAt w base v ts) (t : Tg) {w2 : World} (hw : w = w2.alloc (.cells (tgC t).toArray 54)) {q : Nat} (hx : a.eval x = .slice (some ⟨q, 0, none⟩) 1 1) (hq : q = w2.heap.size)
   (hk : ts.length ≤ 1000000000) (hbase : base ≤ w.heap.size)
   (h : ∀ a' cap w', TgsAt w' base (.slice a' (ts.length + 1) cap) (ts ++ [t]) → Only (fun k => v.ownBlock = some k) w w' → wpList Tryz.prog ops Q rest (a.put o.dst (.slice a' (ts.length + 1) cap)) w') : wpList Tryz.prog ops Q (o :: rest) a w := by
 obtain ⟨i0, hi, hz0, hz1, hz2⟩ := tk_parts;subst hw;subst hq;refine wpList_append_own_at _ hgd s x 37 ho base 54 i0 (.agg #[.int .u8 0, .string ⟨#[]⟩, .int .i64 0, .int .i64 0]) 4 40 Tryz.underlying37 hi hz0 hz1 hz2 rfl (by decide) v ts.length (rowOf tgC ts) hs hown ⟨w2.heap.size, 0, none⟩ 1 1 (tgC t) hx rfl (fun j u hj => cells_new w2 (tgC t) _ j u hj) (tgC_one t) (by unfold maxLen; omega) (by omega) hbase ?_;intro v' w' h2 h3 _ _;obtain ⟨a', cap, rfl, _⟩ := ownsRow_shape h2;refine h a' cap w' ?_ (Only.of_grown h3 (fun k hk => hk));unfold TgsAt;rw [rowOf_snoc, List.length_append];exact h2
set_option maxRecDepth 20000 in
set_option maxHeartbeats 2000000 in
theorem tell_any {w0 w : World} {b : Nat} {R : List Tw} {L : List Tg} (h : Wr w0 w b R L) {kd : Nat} {sv : Value} {ss : List (List UInt8)} (hs : Strs w0.heap.size b w sv ss) (hL : L.length + ss.length ≤ 2000000) :
   Calls Tryz.prog 61 #[.pointer (some ⟨b, 0, none⟩), .int .u8 kd, sv] w fun e w' => e = .returned (.tuple #[]) ∧ Wr w0 w' b R (L ++ ss.map (tkT kd)) ∧ Only (Fw w0.heap.size b w) w w' := by
 obtain ⟨sg, scs, sc, rfl, hsg, _⟩ := id hs;obtain ⟨n, hn⟩ := exHid ss.length;rw [hn.out] at hL ⊢;replace hs := Lib.hid hs;have h0 := Lib.hid h;clear h;go_enter Tryz.func61, Tryz.ntmps61
 go_wp2_with fail
 go_loopw [7, 10] (fun _ t10 wr => ∃ i : Nat, i ≤ n ∧ t10 = .int .i64 i ∧ Hid (Wr w0 wr b R (L ++ (ss.take i).map (tkT kd))) ∧ Hid (Only (Fw w0.heap.size b w) w wr)) (fun _ t10 _ => n - (intOf t10).toNat)
 case atStart => exact ⟨0, by omega, rfl, by simpa using h0, Lib.hid (Only.refl _ _)⟩
 case round =>
   obtain ⟨i, hi, rfl, hW, hO⟩ := hrel;rcases Nat.lt_or_ge i n with hlt | hge
   · have hlti : (i : Int) < (n : Int) := by omega
     obtain ⟨sg', scs', sc', e, hsb, hsh, hsc⟩ := hs.out.held hO.out;simp only [Value.slice.injEq, Option.some.injEq, Addr.mk.injEq, and_true, true_and] at e;obtain ⟨rfl, _, _⟩ := e;have hil : i < ss.length := by rw [hn.out]; exact hlt
     have s0 := (cellW hsh i).trans (hsc i hil);obtain ⟨rv, tv, h1, h2, h3⟩ := hW.out.mem;have hll : (L ++ (ss.take i).map (tkT kd)).length ≤ 2000000 := by
       rw [List.length_append, List.length_map, List.length_take];omega
     have hnx : L ++ (ss.take (i + 1)).map (tkT kd) = (L ++ (ss.take i).map (tkT kd)) ++ [tkT kd ss[i]] := by
       rw [List.take_succ_eq_append_getElem hil, List.map_append, List.append_assoc];rfl
     generalize ss[i] = tx at *;generalize L ++ (ss.take i).map (tkT kd) = LL at *;obtain ⟨ta, tcap, rfl, _, _⟩ := id h3.shape;have y1 := cellW h1 1;simp only [List.getElem?_toArray, List.getElem?_cons_succ, List.getElem?_cons_zero] at y1;have hal := (Below.refl wr.heap.size wr).alloc (Nat.le_refl _) (.cells (tgC (tkT kd tx)).toArray 54);have hTA := Lib.hid (h3.below hal);have hWA := Lib.hid (hW.out.keep hal);have hA1 : Hid ((wr.alloc (.cells (tgC (tkT kd tx)).toArray 54)).heap[b]? = some (.cells #[rv, .slice ta LL.length tcap] 52 (0, 0))) := Lib.hid ((hal.block b hW.out.lt).trans h1);have hOA := Lib.hid (Fw.then hO.out (Only.of_below hal));have hbs : w0.heap.size ≤ (wr.alloc (.cells (tgC (tkT kd tx)).toArray 54)).heap.size := by have := hW.out.below.size; simp; omega
     have hbl := hW.out.lt;replace h2 := Lib.hid h2;replace h1 := Lib.hid h1;replace h3 := Lib.hid h3;replace hnx := Lib.hid hnx;clear hsh hsc hW hO;go_wp2_with (at_builtin; (refine wpList_append_tgo rfl _ _ rfl rfl hTA.out (tkT kd tx) rfl rfl (by simp) (by omega) hbs ?_; intro a' cap' w3 hB3 hO3; have hO4 : Only (fun k => (Value.slice ta LL.length tcap).ownBlock = some k) (wr.alloc (.cells (tgC (tkT kd tx)).toArray 54)) w3 := hO3; have hw3 := heldW hO4 hA1.out (fun e => Wr.apart hA1.out hTA.out b e rfl); have z1 := cellW hw3 1; have zf := fzW hw3 1; simp only [List.getElem?_toArray, List.getElem?_cons_succ, List.getElem?_cons_zero] at z1; have hP := Lib.hid (Wr.put hWA.out hA1.out h2.out hTA.out hB3 hO4); clear hO3 hO4 hB3 hw3))
     have hW4 := hP.out.1;have hO4 := Fw.then hOA.out hP.out.2;go_roundw
     case rel => exact ⟨i + 1, by omega, by go_num, by rw [hnx.out]; exact Lib.hid hW4, Lib.hid hO4⟩
     case measure => simp [intOf]; omega
   · obtain rfl : i = n := by omega
     have hlti : ¬ ((i : Int) < (i : Int)) := by omega
     rw [← hn.out, List.take_length] at hW;go_wp2_with fail
     exact bodyPost_end (results_none rfl _ _ _) rfl ⟨rfl, hW.out, hO.out⟩
end Go.Proofs.YtjiemkidmlgbeaaGreatDoor
namespace Go.Proofs.YtjiemkidmlgbeaaGreatDoor
open Go.RowKit Go.Shelf
theorem strsS_new {base b : Nat} (w : World) (s : List UInt8) (hb : b < w.heap.size) {q : Nat} (hq : q = w.heap.size) : Strs base b (w.alloc (.cells #[.string ⟨s.toArray⟩] 9)) (.slice (some ⟨q, 0, none⟩) 1 1) [s] :=
 ⟨q, _, 1, rfl, by omega, by rw [hq]; exact heap_alloc_new w _, fun i h => by
   obtain rfl : i = 0 := by simpa using h
   rfl⟩
theorem strs_two {base b : Nat} (w : World) (s t : List UInt8) (hb : b < w.heap.size) {q : Nat} (hq : q = w.heap.size) : Strs base b (w.alloc (.cells #[.string ⟨s.toArray⟩, .string ⟨t.toArray⟩] 9)) (.slice (some ⟨q, 0, none⟩) 2 2) [s, t] :=
 ⟨q, _, 2, rfl, by omega, by rw [hq]; exact heap_alloc_new w _, fun i h => by
   rcases (show i = 0 ∨ i = 1 by have : i < 2 := by simpa using h
                                 omega) with rfl | rfl <;> rfl⟩
section
variable {w0 w : World} {b : Nat} {R : List Tw} {L : List Tg} {sv : Value} {ss : List (List UInt8)}
set_option maxHeartbeats 400000 in
theorem wordsS_any (h : Wr w0 w b R L) (hs : Strs w0.heap.size b w sv ss) (hL : L.length + ss.length ≤ 2000000) :
   Calls Tryz.prog 37 #[.pointer (some ⟨b, 0, none⟩), sv] w fun e w' => e = .returned (.tuple #[]) ∧ Wr w0 w' b R (L ++ ss.map wordTg) ∧ Only (Fw w0.heap.size b w) w w' := by
 have k := Lib.hid (tell_any h (kd := 1) hs hL);clear h hs hL;go_enter Tryz.func37, Tryz.ntmps37
 go_wp2_with fail
 refine k.out.mono ?_;rintro e w1 ⟨rfl, hW, hO⟩;go_wp2_with fail
 exact bodyPost_end (results_none rfl _ _ _) rfl ⟨rfl, hW, hO⟩
set_option maxHeartbeats 400000 in
theorem signs_any (h : Wr w0 w b R L) (hs : Strs w0.heap.size b w sv ss) (hL : L.length + ss.length ≤ 2000000) :
   Calls Tryz.prog 62 #[.pointer (some ⟨b, 0, none⟩), sv] w fun e w' => e = .returned (.tuple #[]) ∧ Wr w0 w' b R (L ++ ss.map signTg) ∧ Only (Fw w0.heap.size b w) w w' := by
 have k := Lib.hid (tell_any h (kd := 4) hs hL);clear h hs hL;go_enter Tryz.func62, Tryz.ntmps62
 go_wp2_with fail
 refine k.out.mono ?_;rintro e w1 ⟨rfl, hW, hO⟩;go_wp2_with fail
 exact bodyPost_end (results_none rfl _ _ _) rfl ⟨rfl, hW, hO⟩
set_option maxHeartbeats 400000 in
theorem signs_d (h : Wr w0 w b R L) (hs : Strs w0.heap.size b w sv ss) (hL : L.length + ss.length ≤ 2000000) (u : FrameMode) :
   CallsD Tryz.prog 62 #[.pointer (some ⟨b, 0, none⟩), sv] u w fun e u' w' => u' = u ∧ (e = .returned (.tuple #[]) ∧ Wr w0 w' b R (L ++ ss.map signTg) ∧ Only (Fw w0.heap.size b w) w w') := by
 have k := Lib.hid (tell_any h (kd := 4) hs hL);clear h hs hL;go_enter_d Tryz.func62, Tryz.ntmps62
 go_wp2_with fail
 refine k.out.mono ?_;rintro e w1 ⟨rfl, hW, hO⟩;go_wp2_with fail
 exact bodyPost_end (results_none rfl _ _ _) rfl ⟨rfl, hW, hO⟩
set_option maxRecDepth 20000 in
set_option maxHeartbeats 1000000 in
theorem numberS_any (h : Wr w0 w b R L) (n : Int) (hL : L.length ≤ 2000000) :
   Calls Tryz.prog 86 #[.pointer (some ⟨b, 0, none⟩), .int .i64 n] w fun e w' => e = .returned (.tuple #[]) ∧ Wr w0 w' b R (L ++ [⟨2, [], n, 0⟩]) ∧ Only (Fw w0.heap.size b w) w w' := by
 obtain ⟨rv, tv, h1, h2, h3⟩ := h.mem;obtain ⟨ta, tcap, rfl, _, _⟩ := id h3.shape;have y1 := cellW h1 1;simp only [List.getElem?_toArray, List.getElem?_cons_succ, List.getElem?_cons_zero] at y1;have hal := (Below.refl w.heap.size w).alloc (Nat.le_refl _) (.cells (tgC ⟨2, [], n, 0⟩).toArray 54);have hTA := Lib.hid (h3.below hal);have hWA := Lib.hid (h.keep hal);have hA1 : Hid ((w.alloc (.cells (tgC ⟨2, [], n, 0⟩).toArray 54)).heap[b]? = some (.cells #[rv, .slice ta L.length tcap] 52 (0, 0))) := Lib.hid ((hal.block b h.lt).trans h1);have hOA : Hid (Only (Fw w0.heap.size b w) w (w.alloc (.cells (tgC ⟨2, [], n, 0⟩).toArray 54))) := Lib.hid (Only.of_below hal);have hbs : w0.heap.size ≤ (w.alloc (.cells (tgC ⟨2, [], n, 0⟩).toArray 54)).heap.size := by have := h.below.size; simp; omega
 have hbl := h.lt;replace h2 := Lib.hid h2;clear h h1 h3;go_enter Tryz.func86, Tryz.ntmps86
 go_wp2_with (at_builtin; (refine wpList_append_tgo rfl _ _ rfl rfl hTA.out ⟨2, [], n, 0⟩ rfl rfl (by simp) (by omega) hbs ?_; intro a' cap' w3 hB3 hO3; have hO4 : Only (fun k => (Value.slice ta L.length tcap).ownBlock = some k) (w.alloc (.cells (tgC ⟨2, [], n, 0⟩).toArray 54)) w3 := hO3; have hw3 := heldW hO4 hA1.out (fun e => Wr.apart hA1.out hTA.out b e rfl); have z1 := cellW hw3 1; have zf := fzW hw3 1; simp only [List.getElem?_toArray, List.getElem?_cons_succ, List.getElem?_cons_zero] at z1; have hP := Lib.hid (Wr.put hWA.out hA1.out h2.out hTA.out hB3 hO4); clear hO3 hO4 hB3 hw3))
 exact bodyPost_end (results_none rfl _ _ _) rfl ⟨rfl, hP.out.1, Fw.then hOA.out hP.out.2⟩
end
def marksC : List Value := marksL.flatMap fun x => [.int .u8 (x.1 : Int), .int .u8 (x.2.1 : Int), .string ⟨x.2.2.toArray⟩]
def marksV : Value := .agg marksC.toArray
def MarksOK (w : World) : Prop := w.rangeAt 1 0 marksC
theorem MarksOK.lt {w : World} (h : MarksOK w) : 1 < w.heap.size := World.block_lt_of_cell? w ⟨1, 0 + 0, none⟩ (h 0 _ rfl)
theorem MarksOK.below {w W : World} {B : Nat} (h : MarksOK w) (hg : 1 < B) (hb : Below B w W) : MarksOK W := fun j v hv => (hb.cell (p := ⟨1, 0 + j, none⟩) hg).trans (h j v hv)
def mkS (j : Nat) : Nat × Nat × List UInt8 := marksL.getD j (0, 0, [])
theorem index_marks : ∀ j : Nat, j < 32 → ∀ W : World, (Instr.index 110 marksV (.int .i64 (j : Int))).run Tryz.prog W = .ok (.agg #[.int .u8 ((mkS j).1 : Int), .int .u8 ((mkS j).2.1 : Int), .string ⟨(mkS j).2.2.toArray⟩]) W := by
 intro j hj W;rcases (show j = 0 ∨ j = 1 ∨ j = 2 ∨ j = 3 ∨ j = 4 ∨ j = 5 ∨ j = 6 ∨ j = 7 ∨ j = 8 ∨ j = 9 ∨ j = 10 ∨ j = 11 ∨ j = 12 ∨ j = 13 ∨ j = 14 ∨ j = 15 ∨ j = 16 ∨ j = 17 ∨ j = 18 ∨ j = 19 ∨ j = 20 ∨ j = 21 ∨ j = 22 ∨ j = 23 ∨ j = 24 ∨ j = 25 ∨ j = 26 ∨ j = 27 ∨ j = 28 ∨ j = 29 ∨ j = 30 ∨ j = 31 by omega) with rfl | rfl | rfl | rfl | rfl | rfl | rfl | rfl | rfl | rfl | rfl | rfl | rfl | rfl | rfl | rfl | rfl | rfl | rfl | rfl | rfl | rfl | rfl | rfl | rfl | rfl | rfl | rfl | rfl | rfl | rfl | rfl
 all_goals kernel_rfl
theorem mark_step {j : Nat} (hj : j < 32) (op : Nat) : markGo op (marksL.drop j) = if (mkS j).1 = op then ⟨(mkS j).2.1, (mkS j).2.2, 0, 0⟩ :: markGo op (marksL.drop (j + 1)) else markGo op (marksL.drop (j + 1)) := by
 have hl : j < marksL.length := hj;have e : mkS j = marksL[j] := by unfold mkS; rw [List.getD_eq_getElem?_getD, List.getElem?_eq_getElem hl]; rfl
 rw [List.drop_eq_getElem_cons hl, e];rfl
theorem mark_len (op : Nat) : (markTg op).length ≤ 32 := by
 have h : ∀ L : List (Nat × Nat × List UInt8), (markGo op L).length ≤ L.length := by
   intro L
   induction L with
   | nil => exact Nat.le_refl _
   | cons m r ih =>
     unfold markGo;split
     · simp only [List.length_cons]; omega
     · simp only [List.length_cons]; omega
 exact h marksL
theorem markGo_len (op j : Nat) : (markGo op (marksL.drop j)).length ≤ 32 := by
 have h : ∀ L : List (Nat × Nat × List UInt8), (markGo op L).length ≤ L.length := by
   intro L
   induction L with
   | nil => exact Nat.le_refl _
   | cons m r ih =>
     unfold markGo;split
     · simp only [List.length_cons]; omega
     · simp only [List.length_cons]; omega
 have h1 := h (marksL.drop j);rw [List.length_drop] at h1;have : marksL.length = 32 := rfl;omega
set_option maxRecDepth 20000 in
set_option maxHeartbeats 2000000 in
theorem markS_any {w0 w : World} {b : Nat} {R : List Tw} {L : List Tg} (h : Wr w0 w b R L) (hM : MarksOK w0) (op : Nat) (hL : L.length + 64 ≤ 2000000) :
   Calls Tryz.prog 65 #[.pointer (some ⟨b, 0, none⟩), .int .u8 (op : Int)] w fun e w' => e = .returned (.tuple #[]) ∧ Wr w0 w' b R (L ++ markTg op) ∧ Only (Fw w0.heap.size b w) w w' := by
 have hm := Lib.hid (hM.below hM.lt h.below);have hml := markGo_len op;have h0 := Lib.hid h;have hlt := hm.out.lt;clear h hM;go_enter Tryz.func65, Tryz.ntmps65
 go_wp2_with (refine wpList_load_mid rfl 110 _ rfl 1 0 rfl marksC _ hm.out Tryz.underlying110 rfl (by kernel_rfl) ?_)
 have hmv : (.agg marksC.toArray : Value) = marksV := rfl;rw [hmv];have hix := fun (j : Nat) (hj : j < 32) (W : World) => index_marks j hj W
 generalize marksV = MV at *;clear hmv hm;replace hix := Lib.hid hix;go_loopw [5, 7] (fun _ t7 wr => ∃ (j : Nat) (A : List Tg), j ≤ 32 ∧ t7 = .int .i64 j ∧ Hid (A ++ markGo op (marksL.drop j) = markTg op) ∧ Hid (Wr w0 wr b R (L ++ A)) ∧ Hid (Only (Fw w0.heap.size b w) w wr)) (fun _ t7 _ => 32 - (intOf t7).toNat)
 case atStart => exact ⟨0, [], by omega, rfl, Lib.hid rfl, by simpa using h0, Lib.hid (Only.refl _ _)⟩
 case round =>
   obtain ⟨j, A, hj, rfl, hA, hW, hO⟩ := hrel;rcases Nat.lt_or_ge j 32 with hjl | hjg
   · have hjli : (j : Int) < 32 := by omega
     have hi := fun W => hix.out j hjl W
     have hst := mark_step hjl op;have hlen : A.length ≤ 32 := by
       have := congrArg List.length hA.out;have h2 := mark_len op;rw [List.length_append] at this;omega
     generalize mkS j = x at *;obtain ⟨mop, mk, mt⟩ := x;dsimp only at hst hi;have hal := (Below.refl wr.heap.size wr).alloc (Nat.le_refl _) (.cells #[.int .u8 (mop : Int), .int .u8 (mk : Int), .string ⟨mt.toArray⟩] 109);have hWA := Lib.hid (hW.out.keep hal);have hOA := Lib.hid (Fw.then hO.out (Only.of_below hal));have hbl := hW.out.lt;by_cases hq : mop = op
     · subst hq
       rw [if_pos rfl] at hst;have e1 : ((mop : Int) == (mop : Int)) = true := beq_self_eq_true _;have hal2 := (Below.refl (wr.alloc (.cells #[.int .u8 (mop : Int), .int .u8 (mk : Int), .string ⟨mt.toArray⟩] 109)).heap.size (wr.alloc (.cells #[.int .u8 (mop : Int), .int .u8 (mk : Int), .string ⟨mt.toArray⟩] 109))).alloc (Nat.le_refl _) (.cells #[.string ⟨mt.toArray⟩] 9);have hS := strsS_new (base := w0.heap.size) (b := b) (wr.alloc (.cells #[.int .u8 (mop : Int), .int .u8 (mk : Int), .string ⟨mt.toArray⟩] 109)) mt hWA.out.lt (q := wr.heap.size + 1) (by simp);have kT := Lib.hid (tell_any (hWA.out.keep hal2) (kd := mk) hS (by rw [List.length_append]; simp only [List.length_singleton]; omega));have hOB := Lib.hid (Fw.then hOA.out (Only.of_below hal2));rw [hst, ← List.singleton_append, ← List.append_assoc] at hA;replace hA := Lib.hid hA.out;clear hst hS hal hal2;go_wp2_with fail
       with_reducible refine kT.out.mono ?_
       rintro e w3 ⟨rfl, hW3, hO3⟩;have hO4 := Fw.then hOB.out hO3;rw [List.append_assoc] at hW3;go_wp2_with fail
       go_roundw
       case rel => exact ⟨j + 1, A ++ [⟨mk, mt, 0, 0⟩], by omega, by go_num, hA, Lib.hid hW3, Lib.hid hO4⟩
       case measure => simp [intOf]; omega
     · rw [if_neg hq] at hst
       have e1 : ((mop : Int) == (op : Int)) = false := beq_eq_false_iff_ne.2 (by omega);rw [hst] at hA;replace hA := Lib.hid hA.out;clear hst hal;go_wp2_with fail
       go_roundw
       case rel => exact ⟨j + 1, A, by omega, by go_num, hA, hWA, hOA⟩
       case measure => simp [intOf]; omega
   · obtain rfl : j = 32 := by omega
     have hjli : ¬ ((32 : Int) < 32) := by omega
     have e : A = markTg op := by
       rw [← hA.out];exact (List.append_nil A).symm
     subst e;go_wp2_with fail
     exact bodyPost_end (results_none rfl _ _ _) rfl ⟨rfl, hW.out, hO.out⟩
end Go.Proofs.YtjiemkidmlgbeaaGreatDoor
