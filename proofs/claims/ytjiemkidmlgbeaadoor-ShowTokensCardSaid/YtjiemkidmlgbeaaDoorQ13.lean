/- A part of the proof: SdC, REndL, RDEnd, RTws, Offs, CkKids, SdD. No condition. -/
import Derived.Maps.AppendAt
import Derived.Test.YtjiemkidmlgbeaaDoorQ04
import Derived.Test.YtjiemkidmlgbeaaDoorQ05
import Derived.Test.YtjiemkidmlgbeaaDoorQ12
set_option linter.unusedVariables false
set_option linter.unusedSimpArgs false
namespace Go.Proofs.YtjiemkidmlgbeaaDoor
open Go.RowKit Go.Shelf
theorem stored4D {W : World} {b : Nat} {x0 x1 x2 x3 : Value} {t : TypeId} (h : W.heap[b]? = some (.cells #[x0, x1, x2, x3] t (0, 0))) (a c d e : Value) :
   ((((W.setCell ⟨b, 0, none⟩ a).setCell ⟨b, 1, none⟩ c).setCell ⟨b, 2, none⟩ d).setCell ⟨b, 3, none⟩ e).heap[b]? = some (.cells #[a, c, d, e] t (0, 0)) ∧ Only (fun k => k = b) W ((((W.setCell ⟨b, 0, none⟩ a).setCell ⟨b, 1, none⟩ c).setCell ⟨b, 2, none⟩ d).setCell ⟨b, 3, none⟩ e) := by
 constructor
 · have a1 := heap_setCell_same W b 0 _ _ a h
   have a2 := heap_setCell_same _ b 1 _ _ c a1;have a3 := heap_setCell_same _ b 2 _ _ d a2;have a4 := heap_setCell_same _ b 3 _ _ e a3
   simpa using a4
 · exact ((((Only.refl (fun k => k = b) W).setCell (p := ⟨b, 0, none⟩) (.inl rfl) a).setCell (p := ⟨b, 1, none⟩) (.inl rfl) c).setCell (p := ⟨b, 2, none⟩) (.inl rfl) d).setCell (p := ⟨b, 3, none⟩) (.inl rfl) e
theorem fzD {W : World} {b : Nat} {cs : Array Value} {t : TypeId} (h : W.heap[b]? = some (.cells cs t (0, 0))) (j : Nat) : W.frozen? ⟨b, j, none⟩ = false := by simp [World.frozen?, h]
def firstB (s : List UInt8) : Nat := (s.headD 0).toNat
set_option maxRecDepth 20000 in
theorem index_first {op : Nat} {s : List UInt8} (hp : (op, s) ∈ docM) : ∀ W : World, (Instr.index 9 (.string ⟨s.toArray⟩) (.int .i64 0)).run Tryd.prog W = .ok (.int .u8 (firstB s : Int)) W := by
 intro W;have hall : ∀ p ∈ docM, ∀ W : World, (Instr.index 9 (.string ⟨p.2.toArray⟩) (.int .i64 0)).run Tryd.prog W = .ok (.int .u8 (firstB p.2 : Int)) W := by
   intro p hp W;have e : docM = [(8, B.ret), (9, B.fail), (10, B.sleep), (11, B.doW), (20, B.none), (21, B.tru), (22, B.fls), (57, B.version), (30, B.or), (31, B.and), (43, B.not), (32, B.eqq), (33, B.neq), (34, B.les), (35, B.leq), (36, B.add), (37, B.sub), (38, B.mul), (39, B.div), (40, B.rem), (44, B.sub), (54, B.await), (55, B.settle), (41, B.num), (45, B.len), (46, B.re), (47, B.im), (48, B.conj), (52, B.timer), (50, B.call), (51, B.child)] := rfl;rw [e] at hp;simp only [List.mem_cons, List.not_mem_nil, or_false] at hp;rcases hp with rfl | rfl | rfl | rfl | rfl | rfl | rfl | rfl | rfl | rfl | rfl | rfl | rfl | rfl | rfl | rfl | rfl | rfl | rfl | rfl | rfl | rfl | rfl | rfl | rfl | rfl | rfl | rfl | rfl | rfl | rfl
   all_goals rfl
 exact hall (op, s) hp W
set_option maxRecDepth 20000 in
set_option maxHeartbeats 2000000 in
theorem markD_word {op : Nat} {s : List UInt8} (hp : (op, s) ∈ docM) (h1 : 97 ≤ firstB s) (h2 : firstB s ≤ 122) (w : World) :
   Calls Tryd.prog 86 #[.int .u8 (op : Int)] w fun e w' => e = .returned (tgV (wordTg s)) ∧ Below w.heap.size w w' := by
 have kN := Lib.hid (nameD_any (op, s) hp);dsimp only at kN;have hix := index_first hp;have g1 : (97 : Int) ≤ (firstB s : Int) := by omega
 have g2 : (firstB s : Int) ≤ 122 := by omega
 have hz := heap_alloc_new w (.cells #[.int .u8 0, .string ⟨#[]⟩, .int .i64 0, .int .i64 0] 35 (0, 0));have hal := (Below.refl w.heap.size w).alloc (Nat.le_refl _) (.cells #[.int .u8 0, .string ⟨#[]⟩, .int .i64 0, .int .i64 0] 35);have kW := Lib.hid (wordD_any s (w.alloc (.cells #[.int .u8 0, .string ⟨#[]⟩, .int .i64 0, .int .i64 0] 35)));generalize firstB s = c at *;clear hp h1 h2;go_enter Tryd.func86, Tryd.ntmps86
 go_wp2_with fail
 with_reducible refine (kN.out _).mono ?_
 rintro e w1 ⟨rfl, rfl⟩;go_wp2_with fail
 with_reducible refine kW.out.mono ?_
 rintro e w2 ⟨rfl, hb2⟩;have hz2 := (hb2.block _ (by simp)).trans hz;have hb3 := below_next hal hb2;have c0 := cellD hz2 0; have c1 := cellD hz2 1; have c2 := cellD hz2 2; have c3 := cellD hz2 3;have f0 := fzD hz2 0; have f1 := fzD hz2 1; have f2 := fzD hz2 2; have f3 := fzD hz2 3;simp only [List.getElem?_toArray, List.getElem?_cons_zero, List.getElem?_cons_succ] at c0 c1 c2 c3;obtain ⟨s1, s2⟩ := stored4D hz2 (.int .u8 1) (.string ⟨s.toArray⟩) (.int .i64 0) (.int .i64 0);have hb4 : Below w.heap.size w _ := hb3.trans (s2.below (Nat.le_of_lt (Array.getElem?_eq_some_iff.1 hz2).1) (fun k hk e => by omega));replace s1 := Lib.hid s1;replace hb4 := Lib.hid hb4;unfold tgV wordTg;clear hz hz2 hal hb2 hb3 s2 kN kW;go_wp2_with fail
 exact bodyPost_ret (results_mark (t := wordTg s) rfl s1.out) rfl ⟨rfl, hb4.out⟩
set_option maxRecDepth 20000 in
set_option maxHeartbeats 2000000 in
theorem markD_sign {op : Nat} {s : List UInt8} (hp : (op, s) ∈ docM) (h1 : firstB s < 97) (w : World) :
   Calls Tryd.prog 86 #[.int .u8 (op : Int)] w fun e w' => e = .returned (tgV (signTg s)) ∧ Below w.heap.size w w' := by
 have kN := Lib.hid (nameD_any (op, s) hp);dsimp only at kN;have hix := index_first hp;have g1 : ¬ (97 : Int) ≤ (firstB s : Int) := by omega
 have hz := heap_alloc_new w (.cells #[.int .u8 0, .string ⟨#[]⟩, .int .i64 0, .int .i64 0] 35 (0, 0));have hal := (Below.refl w.heap.size w).alloc (Nat.le_refl _) (.cells #[.int .u8 0, .string ⟨#[]⟩, .int .i64 0, .int .i64 0] 35);have kW := Lib.hid (signD_any s (w.alloc (.cells #[.int .u8 0, .string ⟨#[]⟩, .int .i64 0, .int .i64 0] 35)));generalize firstB s = c at *;clear hp h1;go_enter Tryd.func86, Tryd.ntmps86
 go_wp2_with fail
 with_reducible refine (kN.out _).mono ?_
 rintro e w1 ⟨rfl, rfl⟩;go_wp2_with fail
 with_reducible refine kW.out.mono ?_
 rintro e w2 ⟨rfl, hb2⟩;have hz2 := (hb2.block _ (by simp)).trans hz;have hb3 := below_next hal hb2;have c0 := cellD hz2 0; have c1 := cellD hz2 1; have c2 := cellD hz2 2; have c3 := cellD hz2 3;have f0 := fzD hz2 0; have f1 := fzD hz2 1; have f2 := fzD hz2 2; have f3 := fzD hz2 3;simp only [List.getElem?_toArray, List.getElem?_cons_zero, List.getElem?_cons_succ] at c0 c1 c2 c3;obtain ⟨s1, s2⟩ := stored4D hz2 (.int .u8 4) (.string ⟨s.toArray⟩) (.int .i64 0) (.int .i64 0);have hb4 : Below w.heap.size w _ := hb3.trans (s2.below (Nat.le_of_lt (Array.getElem?_eq_some_iff.1 hz2).1) (fun k hk e => by omega));replace s1 := Lib.hid s1;replace hb4 := Lib.hid hb4;unfold tgV signTg;clear hz hz2 hal hb2 hb3 s2 kN kW;go_wp2_with fail
 exact bodyPost_ret (results_mark (t := signTg s) rfl s1.out) rfl ⟨rfl, hb4.out⟩
set_option maxRecDepth 20000 in
theorem markD_any {op : Nat} {t : Tg} (ht : markTg op = [t]) (h56 : op ≠ 56) (w : World) : Calls Tryd.prog 86 #[.int .u8 (op : Int)] w fun e w' => e = .returned (tgV t) ∧ Below w.heap.size w w' := by
 have hall : ∀ m ∈ marksL, m.1 ≠ 56 → markTg m.1 = [⟨m.2.1, m.2.2, 0, 0⟩] ∧ (m.1, m.2.2) ∈ docM ∧ ((m.2.1 = 1 ∧ 97 ≤ firstB m.2.2 ∧ firstB m.2.2 ≤ 122) ∨ (m.2.1 = 4 ∧ firstB m.2.2 < 97)) := by decide
 have hin : ∃ m ∈ marksL, m.1 = op := by
   have h : ∀ L : List (Nat × Nat × List UInt8), markGo op L ≠ [] → ∃ m ∈ L, m.1 = op := by
     intro L
     induction L with
     | nil => intro h; exact absurd rfl h
     | cons m r ih =>
       intro h;unfold markGo at h;split at h
       · rename_i e; exact ⟨m, List.mem_cons_self, e⟩
       · obtain ⟨m', h1, h2⟩ := ih h
         exact ⟨m', List.mem_cons_of_mem _ h1, h2⟩
   exact h marksL (by rw [show markGo op marksL = markTg op from rfl, ht]; simp)
 obtain ⟨m, hm, rfl⟩ := hin;obtain ⟨a1, a2, a3⟩ := hall m hm h56;rw [a1] at ht;injection ht with ht;subst ht;rcases a3 with ⟨e, b1, b2⟩ | ⟨e, b1⟩
 · rw [e]; exact markD_word a2 b1 b2 w
 · rw [e]; exact markD_sign a2 b1 w
end Go.Proofs.YtjiemkidmlgbeaaDoor
namespace Go.Proofs.YtjiemkidmlgbeaaDoor
open Go.RowKit Go.Shelf
def endL : List Tw → Nat → Option Nat
 | _, 0 => some 0
 | [], _ + 1 => none
 | x :: r, m + 1 => (endL r (m + x.kids.toNat)).map (· + 1)
theorem endL_zero (ts : List Tw) : endL ts 0 = some 0 := by cases ts <;> rfl
theorem endL_le : ∀ (ts : List Tw) (m n : Nat), endL ts m = some n → n ≤ ts.length
 | ts, 0, n, h => by rw [endL_zero] at h; cases h; exact Nat.zero_le _
 | [], m + 1, n, h => by cases h
 | x :: r, m + 1, n, h => by
   unfold endL at h;rcases he : endL r (m + x.kids.toNat) with _ | k
   · rw [he] at h; cases h
   · rw [he] at h
     cases h
     have := endL_le r _ _ he;simp only [List.length_cons];omega
end Go.Proofs.YtjiemkidmlgbeaaDoor
namespace Go.Proofs.YtjiemkidmlgbeaaDoor
open Go.RowKit Go.Shelf
theorem endL_split : ∀ (L : List Tw) (m k r : Nat), endL L (m + k) = some r → ∃ a b, endL L m = some a ∧ endL (L.drop a) k = some b ∧ a + b = r
 | L, 0, k, r, h => ⟨0, r, endL_zero L, by simpa using h, by omega⟩
 | [], m + 1, k, r, h => by rw [show m + 1 + k = (m + k) + 1 by omega] at h; cases h
 | x :: t, m + 1, k, r, h => by
   rw [show m + 1 + k = (m + k) + 1 by omega] at h;unfold endL at h;rcases hq : endL t (m + k + x.kids.toNat) with _ | q
   · rw [hq] at h; cases h
   · rw [hq] at h
     cases h
     obtain ⟨a, b, h1, h2, h3⟩ := endL_split t (m + x.kids.toNat) k q (by rw [← hq]; congr 1; omega);refine ⟨a + 1, b, ?_, ?_, by show a + 1 + b = q + 1; omega⟩
     · unfold endL
       rw [h1];rfl
     · simpa using h2
set_option maxRecDepth 20000 in
set_option maxHeartbeats 1000000 in
theorem refEnd_any {v : Value} {ts : List Tw} (w : World) (hT : TwIn w v ts) (hk : ∀ x ∈ ts, 0 ≤ x.kids ∧ x.kids ≤ 2048) (hl : ts.length ≤ 5000) : ∀ (fuel at_ n : Nat), ts.length - at_ ≤ fuel → at_ ≤ ts.length → endL (ts.drop at_) 1 = some n →
   Calls Tryd.prog 72 #[v, .int .i64 at_] w fun e w' => e = .returned (.int .i64 ((at_ + n : Nat) : Int)) ∧ w' = w := by
 intro fuel;obtain ⟨a, cap, rfl, hlc, hcm, k1⟩ := hT;replace k1 := Lib.hid k1;replace hk := Lib.hid hk
 induction fuel with
 | zero =>
   intro at_ n h1 h2 h3;rw [List.drop_eq_nil_of_le (by omega)] at h3;cases h3
 | succ fuel ih =>
   intro at_ n h1 h2 h3;rcases Nat.lt_or_ge at_ ts.length with hlt | hge
   · obtain ⟨b1, o1, rfl, hl1, hc1⟩ := k1.out (by omega)
     have hlti : (at_ : Int) < (ts.length : Int) := by omega
     have p1 := hc1 at_ hlt 1 (by omega);have hk2 := hk.out ts[at_] (List.getElem_mem hlt);rw [List.drop_eq_getElem_cons hlt] at h3;unfold endL at h3;rcases htw : ts[at_] with ⟨op, kids, num, text⟩
     rw [htw] at p1 hk2 h3;dsimp only at hk2 h3;obtain ⟨kn, rfl⟩ : ∃ kn : Nat, kids = kn := ⟨kids.toNat, by omega⟩;simp only [twC, List.getElem?_cons_succ, List.getElem?_cons_zero] at p1;have hkn : kn ≤ 2048 := by omega
     obtain ⟨r0, hr0, hr1⟩ : ∃ r, endL (ts.drop (at_ + 1)) kn = some r ∧ r + 1 = n := by
       rcases hq : endL (ts.drop (at_ + 1)) kn with _ | k
       · simp [hq] at h3
       · simp [hq] at h3
         exact ⟨k, rfl, h3⟩
     have hi1 : IntKind.i64.wrap ((at_ : Int) + 1) = (at_ : Int) + 1 := IntWalk.i64_in _ (by omega);replace hr0 := Lib.hid hr0;replace hr1 := Lib.hid hr1;replace ih := Lib.hid ih;clear h3 hc1 htw hk2;go_enter Tryd.func72, Tryd.ntmps72
     go_wp2_with fail
     go_loopw [1, 6] (fun t1 ti wr => ∃ i p : Nat, i ≤ kn ∧ p ≤ ts.length ∧ at_ + 1 ≤ p ∧ t1 = .int .i64 p ∧ ti = .int .i64 i ∧ wr = w ∧ Hid (∃ r, endL (ts.drop p) (kn - i) = some r ∧ p + r = at_ + n)) (fun _ ti _ => kn - (intOf ti).toNat)
     case atStart => exact ⟨0, at_ + 1, by omega, by omega, by omega, by go_num, rfl, rfl, Lib.hid ⟨r0, hr0.out, by have := hr1.out; omega⟩⟩
     case round =>
       obtain ⟨i, p, hi, hp, hp2, rfl, rfl, rfl, hr⟩ := hrel;rcases Nat.lt_or_ge i kn with hik | hik
       · have hiki : (i : Int) < (kn : Int) := by omega
         obtain ⟨r, e1, e2⟩ := hr.out;rw [show kn - i = 1 + (kn - (i + 1)) by omega] at e1;obtain ⟨x, y, f1, f2, f3⟩ := endL_split _ _ _ _ e1;have f4 := endL_le _ _ _ f1;rw [List.length_drop] at f4;rw [List.drop_drop] at f2;have c := Lib.hid (ih.out p x (by omega) hp f1);have hnew := Lib.hid (show ∃ r, endL (ts.drop (p + x)) (kn - (i + 1)) = some r ∧ p + x + r = at_ + n from ⟨y, f2, by omega⟩);have hpx : p + x ≤ ts.length := by omega
         clear e1 f1 f2 e2 hr;go_wp2_with fail
         refine c.out.mono ?_;rintro e w2 ⟨rfl, rfl⟩;go_wp2_with fail
         go_roundw
         case rel => exact ⟨i + 1, p + x, by omega, hpx, by omega, by go_num, by go_num, trivial, hnew⟩
         case measure => simp [intOf]; omega
       · have hiki : ¬ (i : Int) < (kn : Int) := by omega
         obtain ⟨r, e1, e2⟩ := hr.out;rw [show kn - i = 0 by omega, endL_zero] at e1;cases e1
         have e3 := Lib.hid (show (p : Int) = (at_ : Int) + (n : Int) by omega);clear hr e2 hik;go_wp2_with fail
         go_ret
         exact ⟨by rw [← e3.out]; rfl, rfl⟩
   · rw [List.drop_eq_nil_of_le hge] at h3
     cases h3
end Go.Proofs.YtjiemkidmlgbeaaDoor
namespace Go.Proofs.YtjiemkidmlgbeaaDoor
open Go.RowKit Go.Shelf
theorem twC_len (t : Tw) : (twC t).length = 4 := rfl
theorem twC_one (t : Tw) : ∀ u ∈ twC t, u.oneCell' = true := by
 intro u hu;simp only [twC, List.mem_cons, List.not_mem_nil, or_false] at hu;rcases hu with rfl | rfl | rfl | rfl <;> rfl
theorem tws_one : ∀ (ts : List Tw), ∀ u ∈ rowOf twC ts, u.oneCell' = true
 | [], u, h => by cases h
 | x :: r, u, h => by
   rcases List.mem_append.1 (show u ∈ twC x ++ rowOf twC r from h) with h | h
   · exact twC_one x u h
   · exact tws_one r u h
theorem tw_info : (Tryd.prog.info? 37).map (fun i => (i.zero, i.size, i.bytes)) = some (some (.agg #[.int .u8 0, .int .i64 0, .int .i64 0, .string ⟨#[]⟩]), 4, 40) := by kernel_rfl
theorem tw_parts : ∃ i0, Tryd.prog.info? 37 = some i0 ∧ i0.zero = some (.agg #[.int .u8 0, .int .i64 0, .int .i64 0, .string ⟨#[]⟩]) ∧ i0.size = 4 ∧ i0.bytes = 40 := by
 have h := tw_info;cases hi : Tryd.prog.info? 37 with
 | none => rw [hi] at h; simp at h
 | some i0 =>
   rw [hi] at h;simp at h
   exact ⟨i0, rfl, h.1, h.2.1, h.2.2⟩
def TwsAt (w : World) (base : Nat) (v : Value) (ts : List Tw) : Prop := w.ownsRow base 37 4 v ts.length (rowOf twC ts)
section
variable {w W : World} {base : Nat} {v : Value} {ts : List Tw}
theorem TwsAt.shape (h : TwsAt w base v ts) : ∃ a cap, v = .slice a ts.length cap ∧ ts.length ≤ cap ∧ cap ≤ 9223372036854775807 := ownsRow_shape h
theorem TwsAt.twIn (h : TwsAt w base v ts) : TwIn w v ts := by
 rcases h.2 with ⟨hv, h0⟩ | ⟨g, cap, cur, hv, hb, hg, hnc, hcm, hsz, ht⟩
 · exact ⟨none, 0, by rw [hv, h0], by omega, by omega, fun h => by omega⟩
 · refine ⟨_, cap, hv, hnc, by unfold maxLen at hcm; omega, fun h0 => ⟨g, 0, rfl, (Array.getElem?_eq_some_iff.1 hg).1, fun i hi c hc => ?_⟩⟩
   have hh := h;unfold TwsAt at hh;rw [hv] at hh;have := World.ownsRow.cellAt (g := g) (cap := cap) hh (i * 4 + c) (by omega);rw [Nat.zero_add, this];exact rowOf_get twC_len ts i c hi hc
end
set_option maxRecDepth 20000 in
theorem wpList_append_tws {w : World} {base : Nat} {v : Value} {ts us : List Tw} {ops : Array Oper} {rest : List Oper} {o : Oper} {a : Act} {Q : Exit → Act → World → Prop} (hgd : o.guard = none) (s x : Operand)
   (ho : o.op = .call { callee := .builtin .append, args := #[s, x], argTypes := #[23, 23] })
   (hs : a.eval s = v) (hown : TwsAt w base v ts) {ad : Addr} {c : Nat} (hx : a.eval x = .slice (some ad) us.length c) (hu : TwIn w (.slice (some ad) us.length c) us)
   (hk : ts.length ≤ 1000000000) (hk2 : us.length ≤ 1000000000) (hbase : base ≤ w.heap.size)
   (h : ∀ a' cap w', TwsAt w' base (.slice a' (ts.length + us.length) cap) (ts ++ us) → Below base w w' → wpList Tryd.prog ops Q rest (a.put o.dst (.slice a' (ts.length + us.length) cap)) w') : wpList Tryd.prog ops Q (o :: rest) a w := by
 obtain ⟨i0, hi, hz0, hz1, hz2⟩ := tw_parts;refine wpList_append_own_at _ hgd s x 23 ho base 37 i0 (.agg #[.int .u8 0, .int .i64 0, .int .i64 0, .string ⟨#[]⟩]) 4 40 Tryd.underlying23 hi hz0 hz1 hz2 rfl (by decide) v ts.length (rowOf twC ts) hs hown ad us.length c (rowOf twC us) hx (rowOf_length twC_len us) ?_ (tws_one us) (by unfold maxLen; omega) (by omega) hbase ?_
 · intro j u hj
   obtain ⟨a0, cap, e, _, _, h3⟩ := hu;have hjl : j < us.length * 4 := by rw [← rowOf_length twC_len us]; exact (List.getElem?_eq_some_iff.1 hj).1
   obtain ⟨g, off, e2, hg, hc⟩ := h3 (by omega);rw [e2] at e;cases e
   have hd : j / 4 < us.length := by omega
   have := hc (j / 4) hd (j % 4) (Nat.mod_lt _ (by decide));rw [← rowOf_get twC_len us (j / 4) (j % 4) hd (Nat.mod_lt _ (by decide)), show j / 4 * 4 + j % 4 = j by omega, hj] at this;rw [← this, show off + j / 4 * 4 + j % 4 = off + j by omega]
   congr 1
   show (⟨g, off, none⟩ : Addr).add j = ⟨g, off + j, none⟩
   simp [Addr.add]
 · intro v' w' h2 h3 _ _
   rw [← rowOf_append] at h2;have h2' : TwsAt w' base v' (ts ++ us) := by
     unfold TwsAt;rw [List.length_append];exact h2
   obtain ⟨a', cap, e, _⟩ := h2'.shape;rw [List.length_append] at e;subst e;exact h a' cap w' h2' ((Below.refl base _).grown h3 hbase (fun k hk => (World.ownsRow.lt hown k hk).1))
end Go.Proofs.YtjiemkidmlgbeaaDoor
namespace Go.Proofs.YtjiemkidmlgbeaaDoor
open Go.RowKit Go.Shelf
theorem in_info : (Tryd.prog.info? 3).map (fun i => (i.zero, i.size, i.bytes)) = some (some (.int .i64 0), 1, 8) := by kernel_rfl
theorem in_parts : ∃ i0, Tryd.prog.info? 3 = some i0 ∧ i0.zero = some (.int .i64 0) ∧ i0.size = 1 ∧ i0.bytes = 8 := by
 have h := in_info;cases hi : Tryd.prog.info? 3 with
 | none => rw [hi] at h; simp at h
 | some i0 =>
   rw [hi] at h;simp at h
   exact ⟨i0, rfl, h.1, h.2.1, h.2.2⟩
def natV (n : Nat) : Value := .int .i64 (n : Int)
def OffsAt (w : World) (base : Nat) (v : Value) (ns : List Nat) : Prop := w.ownsRow base 3 1 v ns.length (ns.map natV)
theorem OffsAt.below {w W : World} {base : Nat} {v : Value} {ns : List Nat} (h : OffsAt w base v ns) (hb : Below w.heap.size w W) : OffsAt W base v ns := ownsRow_only (F := fun _ => False) h (Only.of_below hb) (fun _ _ h => h)
theorem OffsAt.shape {w : World} {base : Nat} {v : Value} {ns : List Nat} (h : OffsAt w base v ns) : ∃ a cap, v = .slice a ns.length cap ∧ ns.length ≤ cap ∧ cap ≤ 9223372036854775807 := ownsRow_shape h
theorem OffsAt.owned {w : World} {base : Nat} {v : Value} {ns : List Nat} (h : OffsAt w base v ns) (h0 : 0 < ns.length) : ∃ g cap, v = .slice (some ⟨g, 0, none⟩) ns.length cap ∧ base ≤ g ∧ g < w.heap.size ∧ ∀ i (hi : i < ns.length), w.cell? ⟨g, i, none⟩ = some (natV ns[i]) := by
 obtain ⟨g, cap, e, h1, h2, h3, h4, _⟩ := ownsRow_head h h0;refine ⟨g, cap, e, h1, h2, fun i hi => ?_⟩;have hh := h;unfold OffsAt at hh;rw [e] at hh;rw [World.ownsRow.cellAt (g := g) (cap := cap) hh i (by omega), List.getElem?_map, List.getElem?_eq_getElem hi];rfl
theorem wpList_append_nat {w : World} {base : Nat} {v : Value} {ns : List Nat} {n : Nat} {ops : Array Oper} {rest : List Oper} {o : Oper} {a : Act} {Q : Exit → Act → World → Prop} (hgd : o.guard = none) (s x : Operand)
   (ho : o.op = .call { callee := .builtin .append, args := #[s, x], argTypes := #[67, 67] })
   (hs : a.eval s = v) (hown : OffsAt w base v ns) {G : Nat} (hx : a.eval x = .slice (some ⟨G, 0, none⟩) 1 1) (hc : w.cell? ⟨G, 0, none⟩ = some (natV n))
   (hk : ns.length ≤ 1000000000) (hbase : base ≤ w.heap.size)
   (h : ∀ a' cap w', OffsAt w' base (.slice a' (ns.length + 1) cap) (ns ++ [n]) → Below base w w' → wpList Tryd.prog ops Q rest (a.put o.dst (.slice a' (ns.length + 1) cap)) w') : wpList Tryd.prog ops Q (o :: rest) a w := by
 obtain ⟨i0, hi, hz0, hz1, hz2⟩ := in_parts;refine wpList_append_own_at _ hgd s x 67 ho base 3 i0 (.int .i64 0) 1 8 Tryd.underlying67 hi hz0 hz1 hz2 rfl (by decide) v ns.length (ns.map natV) hs hown ⟨G, 0, none⟩ 1 1 [natV n] hx rfl ?_ (fun y hy => by simp at hy; subst hy; rfl) (by unfold maxLen; omega) (by omega) hbase ?_
 · intro j y hj
   match j, hj with
   | 0, hj =>
     simp at hj
     subst hj
     simpa [Addr.add] using hc
 · intro v' w' h2 h3 _ _
   have hT : OffsAt w' base v' (ns ++ [n]) := by
     unfold OffsAt;rw [List.length_append, List.length_singleton, List.map_append];exact h2
   obtain ⟨a', cap, e, _⟩ := hT.shape;rw [List.length_append, List.length_singleton] at e;subst e;exact h a' cap w' hT ((Below.refl base _).grown h3 hbase (fun k hk => (World.ownsRow.lt hown k hk).1))
end Go.Proofs.YtjiemkidmlgbeaaDoor
namespace Go.Proofs.YtjiemkidmlgbeaaDoor
open Go.RowKit Go.Shelf
def offsF : Fs → Nat → List Nat
 | .nil, _ => []
 | .cons _ k r, i => i :: offsF r (i + 1 + k.flat.length)
theorem offsF_len : ∀ (F : Fs) (i : Nat), (offsF F i).length = F.count
 | .nil, _ => rfl
 | .cons _ k r, i => by show (offsF r _).length + 1 = r.count + 1; rw [offsF_len r]
theorem forest_end (rest : List Tw) : ∀ (F : Fs) (m n : Nat), F.ok → endL rest m = some n → endL (F.flat ++ rest) (F.count + m) = some (F.flat.length + n)
 | .nil, m, n, _, h => by
   show endL rest (0 + m) = some (0 + n)
   rw [Nat.zero_add, Nat.zero_add];exact h
 | .cons x k r, m, n, ⟨_, hn, hk, hr⟩, h => by
   have hrr := forest_end rest r m n hr h;have hkk := forest_end (r.flat ++ rest) k (r.count + m) (r.flat.length + n) hk hrr;show endL ((x :: (k.flat ++ r.flat)) ++ rest) (r.count + 1 + m) = some ((x :: (k.flat ++ r.flat)).length + n)
   rw [show r.count + 1 + m = (r.count + m) + 1 by omega, List.cons_append, List.append_assoc];show (endL (k.flat ++ (r.flat ++ rest)) (r.count + m + x.kids.toNat)).map (· + 1) = _
   rw [hn, Int.toNat_natCast, Nat.add_comm (r.count + m), hkk];show some (k.flat.length + (r.flat.length + n) + 1) = _
   congr 1
   rw [List.length_cons, List.length_append];omega
theorem tree_end {x : Tw} {k : Fs} (h : k.ok) (hn : x.kids = (k.count : Int)) (rest : List Tw) : endL (x :: (k.flat ++ rest)) 1 = some (1 + k.flat.length) := by
 have h1 := forest_end rest k 0 0 h (endL_zero rest);show (endL (k.flat ++ rest) (0 + x.kids.toNat)).map (· + 1) = _
 rw [hn, Int.toNat_natCast, Nat.zero_add];rw [Nat.add_zero, Nat.add_zero] at h1;rw [h1];show some (k.flat.length + 1) = _
 congr 1
 omega
theorem fs_lens : ∀ (F : Fs), F.count ≤ F.flat.length
 | .nil => Nat.le_refl _
 | .cons x k r => by
   have := fs_lens r;show r.count + 1 ≤ (x :: (k.flat ++ r.flat)).length
   rw [List.length_cons, List.length_append];omega
set_option maxRecDepth 20000 in
set_option maxHeartbeats 2000000 in
theorem KidsAt_any {v : Value} {ts : List Tw} (w : World) (hT : TwIn w v ts) (hk : ∀ x ∈ ts, 0 ≤ x.kids ∧ x.kids ≤ 2048) (hl : ts.length ≤ 2048) {x : Tw} {K : Fs} {rest : List Tw} {i : Nat} (hd : ts.drop i = x :: (K.flat ++ rest)) (hx : x.kids = (K.count : Int)) (hok : K.ok) :
   Calls Tryd.prog 39 #[v, .int .i64 (i : Nat)] w fun e w' => ∃ v', e = .returned v' ∧ OffsAt w' w.heap.size v' (offsF K (i + 1)) ∧ Below w.heap.size w w' := by
 have hE := fun W (hTW : TwIn W v ts) o n ho hn => refEnd_any W hTW hk (Nat.le_trans hl (by omega)) (ts.length - o) o n (Nat.le_refl _) ho hn
 have hTT := Lib.hid hT;have hil : i < ts.length := by
   rcases Nat.lt_or_ge i ts.length with h | h
   · exact h
   · rw [List.drop_eq_nil_of_le h] at hd; cases hd
 obtain ⟨a, cap, rfl, hlc, hcm, h3⟩ := hT;obtain ⟨g, off, rfl, hg, hcell⟩ := h3 (by omega);have p1 := hcell i hil 1 (by omega);have hxi : ts[i] = x := by
   have := List.drop_eq_getElem_cons hil;rw [hd] at this;injection this with h _;exact h.symm
 rw [hxi] at p1;rcases x with ⟨op, kids, num, text⟩
 dsimp only at hx;subst hx;simp only [twC, List.getElem?_cons_succ, List.getElem?_cons_zero] at p1;have hd1 : ts.drop (i + 1) = K.flat ++ rest := by
   rw [← List.drop_drop, hd];rfl
 have hcnt : K.count ≤ 2048 := by
   have h1 := fs_lens K;have h2 := congrArg List.length hd1;rw [List.length_drop, List.length_append] at h2;omega
 obtain ⟨N, hN⟩ := exHid ts.length;rw [hN.out] at hTT hE ⊢;rw [hN.out] at hil hl;replace hE := Lib.hid hE;obtain ⟨n, hn⟩ := exHid K.count;rw [hn.out] at p1 hcnt;replace hd1 := Lib.hid hd1;replace hok := Lib.hid hok;clear h3 hcell hk hlc hd hxi;have hili : (i : Int) < (N : Int) := by omega
 go_enter Tryd.func39, Tryd.ntmps39
 go_wp2_with fail
 go_loopw [5, 6, 7] (fun t5 t6 t7 wr => ∃ (j o : Nat) (A : List Nat) (G : Fs), t7 = .int .i64 j ∧ t6 = .int .i64 o ∧ o ≤ N ∧ Hid (A.length = j) ∧ j + G.count = n ∧ Hid (offsF K (i + 1) = A ++ offsF G o) ∧ Hid (ts.drop o = G.flat ++ rest) ∧ Hid G.ok ∧ Hid (OffsAt wr w.heap.size t5 A) ∧ Hid (Below w.heap.size w wr)) (fun _ _ t7 _ => n - (intOf t7).toNat)
 case atStart => exact ⟨0, i + 1, [], K, rfl, by go_num, by omega, Lib.hid rfl, by rw [hn.out]; omega, Lib.hid rfl, hd1, hok, Lib.hid ⟨rfl, .inl ⟨rfl, rfl⟩⟩, Lib.hid (Below.refl _ _)⟩
 case round =>
   obtain ⟨j, o, A, G, rfl, rfl, ho, hA, hj, hoo, hdo, hGo, hO, hB⟩ := hrel;have q1 := cell_on p1 hB.out;cases G with
   | nil =>
     have hj2 : j = n := by have e : Fs.nil.count = 0 := rfl; omega
     subst hj2;have hlti : ¬ ((j : Int) < (j : Int)) := by omega
     have hAK : A = offsF K (i + 1) := by
       rw [hoo.out];exact (List.append_nil A).symm
     have hO2 := hO.out;rw [hAK] at hO2;replace hO2 := Lib.hid hO2;clear hAK;clear hoo hO hj hA hdo hGo;go_wp2_with fail
     go_ret
     exact ⟨_, rfl, hO2.out, hB.out⟩
   | cons x k r =>
     obtain ⟨_, hxn, hko, hro⟩ := hGo.out;have hcc : (Fs.cons x k r).count = r.count + 1 := rfl;have hlt : j < n := by omega
     have hlti : (j : Int) < (n : Int) := by omega
     have hdd : ts.drop o = x :: (k.flat ++ (r.flat ++ rest)) := by
       rw [hdo.out];show (x :: (k.flat ++ r.flat)) ++ rest = _
       rw [List.cons_append, List.append_assoc]
     have hend := tree_end hko hxn (r.flat ++ rest);rw [← hdd] at hend;have hlen := congrArg List.length hdd;rw [List.length_drop, hN.out, List.length_cons, List.length_append] at hlen;have hdr : ts.drop (o + (1 + k.flat.length)) = r.flat ++ rest := by
       rw [← List.drop_drop, hdd, Nat.add_comm 1, List.drop_succ_cons, List.drop_left]
     have hon : offsF K (i + 1) = (A ++ [o]) ++ offsF r (o + (1 + k.flat.length)) := by
       rw [hoo.out, List.append_assoc];show A ++ (o :: offsF r (o + 1 + k.flat.length)) = _
       rw [Nat.add_assoc];rfl
     have cE := Lib.hid (fun W (hb : Below w.heap.size w W) => hE.out W (hTT.out.below hb) o _ ho hend);have hal := (Below.refl wr.heap.size wr).alloc (Nat.le_refl _) (.cells #[.int .i64 (o : Int)] 3);have hO' := Lib.hid (hO.out.below hal);have hB' := Lib.hid (hB.out.trans (hal.mono hB.out.size));have hcl := (one_cell wr #[.int .i64 (o : Int)] 3 0).trans (show _ = some (natV o) from rfl);have hlr2 : A.length ≤ 1000000000 := by rw [hA.out]; omega
     obtain ⟨a5, c5, e5, _, _⟩ := hO.out.shape;rw [hA.out] at e5;subst e5;have hol : o + (1 + k.flat.length) ≤ N := by omega
     have hjr : j + 1 + r.count = n := by omega
     generalize 1 + k.flat.length = pl at *;replace hon := Lib.hid hon;replace hdr := Lib.hid hdr;replace hro := Lib.hid hro;clear hO hB hal hoo hdo hGo hdd hend hlen hko hxn hcc hj;go_wp2_with (at_builtin; (refine wpList_append_nat (base := w.heap.size) (n := o) rfl _ _ rfl rfl hO'.out rfl hcl hlr2 hB'.out.size ?_; intro a6 c6 w5 hO5 hB5))
     have hB6 := Lib.hid (hB'.out.trans hB5);have hA6 : Hid ((A ++ [o]).length = j + 1) := Lib.hid (by rw [List.length_append, hA.out]; rfl);replace hO5 := Lib.hid hO5;clear hO' hB' hcl hB5 hA hlr2;go_wp2_with fail
     refine (cE.out _ hB6.out).mono ?_;rintro e w6 ⟨rfl, rfl⟩;go_wp2_with fail
     go_roundw
     case rel => exact ⟨j + 1, o + pl, A ++ [o], r, by go_num, by go_num, hol, hA6, hjr, hon, hdr, hro, hO5, hB6⟩
     case measure => simp [intOf]; omega
end Go.Proofs.YtjiemkidmlgbeaaDoor
namespace Go.Proofs.YtjiemkidmlgbeaaDoor
open Go.RowKit Go.Shelf
theorem signE_any (a : Array UInt8) (w : World) : Calls Tryd.prog 38 #[.string ⟨a⟩] w fun e w' => e = .returned (.agg #[.int .u8 4, .string ⟨a⟩, .int .i64 0, .int .i64 0]) ∧ Below w.heap.size w w' := signD_any a.toList w
theorem wordE_any (a : Array UInt8) (w : World) : Calls Tryd.prog 37 #[.string ⟨a⟩] w fun e w' => e = .returned (.agg #[.int .u8 1, .string ⟨a⟩, .int .i64 0, .int .i64 0]) ∧ Below w.heap.size w w' := wordD_any a.toList w
def SayD (w0 : World) (tv : Value) (ts : List Tw) (f : Nat) (args : List Value) (x : Tw) (k : Fs) (T : List Tg) : Prop :=
 ∀ (W : World) (i : Nat) (rest : List Tw), Below w0.heap.size w0 W → ts.drop i = x :: (k.flat ++ rest) →
   Calls Tryd.prog f (tv :: .int .i64 (i : Int) :: args).toArray W fun e w' => ∃ v', e = .returned v' ∧ TgsAt w' W.heap.size v' T ∧ Below W.heap.size W w'
theorem drop_facts {ts : List Tw} {i : Nat} {x : Tw} {l : List Tw} (h : ts.drop i = x :: l) : ∃ hi : i < ts.length, ts[i] = x ∧ l.length + i + 1 = ts.length := by
 have hi : i < ts.length := by
   rcases Nat.lt_or_ge i ts.length with h' | h'
   · exact h'
   · rw [List.drop_eq_nil_of_le h'] at h; cases h
 refine ⟨hi, ?_, ?_⟩
 · have := List.drop_eq_getElem_cons hi
   rw [h] at this;injection this with h _;exact h.symm
 · have := congrArg List.length h
   rw [List.length_drop, List.length_cons] at this;omega
theorem tw_at {w0 W : World} {tv : Value} {ts : List Tw} (h : TwIn w0 tv ts) (hb : Below w0.heap.size w0 W) {i : Nat} (hi : i < ts.length) {op : Nat} {kids num : Int} {text : List UInt8} (hx : ts[i] = ⟨op, kids, num, text⟩) : ∃ g off cap, tv = .slice (some ⟨g, off, none⟩) ts.length cap ∧ g < W.heap.size ∧ W.cell? ⟨g, off + i * 4, none⟩ = some (.int .u8 (op : Int)) ∧ W.cell? ⟨g, off + i * 4 + 1, none⟩ = some (.int .i64 kids) ∧ W.cell? ⟨g, off + i * 4 + 2, none⟩ = some (.int .i64 num) ∧ W.cell? ⟨g, off + i * 4 + 3, none⟩ = some (.string ⟨text.toArray⟩) := by
 obtain ⟨a, cap, rfl, _, _, h3⟩ := h;obtain ⟨g, off, rfl, hg, hc⟩ := h3 (by omega);have c := fun c (h4 : c < 4) => (hb.cell (p := ⟨g, off + i * 4 + c, none⟩) hg).trans (hc i hi c h4)
 have c0 := c 0 (by decide); have c1 := c 1 (by decide); have c2 := c 2 (by decide); have c3 := c 3 (by decide);rw [hx] at c0 c1 c2 c3;exact ⟨g, off, cap, rfl, Nat.lt_of_lt_of_le hg hb.size, c0, c1, c2, c3⟩
section
variable {w0 : World} {tv : Value} {ts : List Tw}
set_option maxRecDepth 20000 in
set_option maxHeartbeats 2000000 in
theorem atD_any (hT : TwIn w0 tv ts) (hts : ts.length ≤ 5000) {x : Tw} {k : Fs} (hB : SayD w0 tv ts 70 [] x k (bareS x k)) (hne : bareS x k ≠ []) {asks : Int} (h1 : 1 ≤ asks) (h9 : asks ≤ 9) : SayD w0 tv ts 36 [.int .i64 asks] x k (atS asks.toNat x k) := by
 intro W i rest hb hd;obtain ⟨hi, hxi, hlen⟩ := drop_facts hd;have hbl := bare_len x k;rw [List.length_append] at hlen;have hll : (bareS x k).length ≤ 1000000 := by omega
 have kB := Lib.hid (hB W i rest hb hd);obtain ⟨op, kids, num, text⟩ := x;have kW := Lib.hid (fun W => WidthD_any op W);obtain ⟨g, off, cap, rfl, -⟩ := tw_at hT hb hi hxi;have hTw := Lib.hid (fun (W' : World) (hb' : Below w0.heap.size w0 W') => tw_at hT hb' hi hxi);have hii : (i : Int) < (ts.length : Int) := by omega
 clear hd hxi hT hbl hB hi;generalize ts.length = n at *;by_cases hw : asks.toNat ≤ widthN op
 · rw [atS_wide hw]
   have hge : asks ≤ (widthN op : Int) := by omega
   generalize bareS ⟨op, kids, num, text⟩ k = T at *;generalize widthN op = wn at *;show Calls Tryd.prog _ #[.slice (some ⟨g, off, none⟩) n cap, .int .i64 (i : Int), .int .i64 asks] W _
   go_enter Tryd.func36, Tryd.ntmps36
   go_wp2_with fail
   with_reducible refine kB.out.mono ?_
   rintro e w1 ⟨v1, rfl, ht1, hb1⟩;obtain ⟨g', off', cap', e1, hg1, x0, -⟩ := hTw.out w1 (hb.trans (hb1.mono hb.size));simp only [Value.slice.injEq, Option.some.injEq, Addr.mk.injEq, and_true, true_and] at e1;obtain ⟨⟨rfl, rfl⟩, rfl⟩ := e1;replace ht1 := Lib.hid ht1;replace hb1 := Lib.hid hb1;clear kB hTw hb;go_wp2_with fail
   with_reducible refine (kW.out _).mono ?_
   rintro e w2 ⟨rfl, rfl⟩;go_wp2_with fail
   go_ret
   exact ⟨_, rfl, ht1.out, hb1.out⟩
 · rw [atS_narrow (show widthN op < asks.toNat by omega)]
   have hge : ¬ asks ≤ (widthN op : Int) := by omega
   generalize bareS ⟨op, kids, num, text⟩ k = T at *;generalize widthN op = wn at *;show Calls Tryd.prog _ #[.slice (some ⟨g, off, none⟩) n cap, .int .i64 (i : Int), .int .i64 asks] W _
   go_enter Tryd.func36, Tryd.ntmps36
   go_wp2_with fail
   with_reducible refine kB.out.mono ?_
   rintro e w1 ⟨v1, rfl, ht1, hb1⟩;obtain ⟨g', off', cap', e1, hg1, x0, -⟩ := hTw.out w1 (hb.trans (hb1.mono hb.size));simp only [Value.slice.injEq, Option.some.injEq, Addr.mk.injEq, and_true, true_and] at e1;obtain ⟨⟨rfl, rfl⟩, rfl⟩ := e1;obtain ⟨a1, cp1, rfl, _, _⟩ := id ht1.shape;replace ht1 := Lib.hid ht1;replace hb1 := Lib.hid hb1;clear kB hTw hb;go_wp2_with fail
   with_reducible refine (kW.out _).mono ?_
   rintro e w2 ⟨rfl, rfl⟩;have kS := Lib.hid (signE_any #[40] w2);go_wp2_with fail
   with_reducible refine kS.out.mono ?_
   rintro e w3 ⟨rfl, hb3⟩;have ht3 := ht1.out.below hb3;have hb4 := below_next hb1.out hb3;have hN := (tgs_new w3 [signTg B.opn] (cs := #[.int .u8 4, .string ⟨#[40]⟩, .int .i64 0, .int .i64 0]) rfl (n := 1) rfl (q := w3.heap.size) rfl (by decide)).low (b := W.heap.size) hb4.size;have hal := (Below.refl w3.heap.size w3).alloc (Nat.le_refl _) (.cells #[.int .u8 4, .string ⟨#[40]⟩, .int .i64 0, .int .i64 0] 35);have ht5 := Lib.hid (ht3.below hal);have hb5 := Lib.hid (below_next hb4 hal);replace hN := Lib.hid hN;clear ht3 hb4 hal hb3 kS ht1 hb1;have hsz := hb5.out.size;go_wp2_with (at_builtin; (refine wpList_append_tgr rfl _ _ rfl rfl hN.out rfl ht5.out hne (by decide) (by omega) hsz ?_; intro v6 w6 h6 hb6))
   have ht6 := Lib.hid h6;have hb7 := Lib.hid (hb5.out.trans hb6);have kS2 := Lib.hid (signE_any #[41] w6);clear h6 hb6 hN ht5 hb5 hsz;go_wp2_with fail
   with_reducible refine kS2.out.mono ?_
   rintro e w8 ⟨rfl, hb8⟩;have hb9 := below_next hb7.out hb8;have hal := (Below.refl w8.heap.size w8).alloc (Nat.le_refl _) (.cells #[.int .u8 4, .string ⟨#[41]⟩, .int .i64 0, .int .i64 0] 35);have hN := Lib.hid (tgs_new w8 [signTg B.cls] (cs := #[.int .u8 4, .string ⟨#[41]⟩, .int .i64 0, .int .i64 0]) rfl (n := 1) rfl (q := w8.heap.size) rfl (by decide));have ht9 := Lib.hid ((ht6.out.below hb8).below hal);have hb10 := Lib.hid (below_next hb9 hal);have hsz := hb10.out.size;clear hb8 hb9 hal ht6 kS2;go_wp2_with (at_builtin; (refine wpList_append_tgr rfl _ _ rfl rfl ht9.out rfl hN.out (by decide) (by rw [List.length_append]; simp only [List.length_singleton]; omega) (by decide) hsz ?_; intro v11 w11 h11 hb11))
   go_ret
   exact ⟨_, rfl, h11, hb10.out.trans hb11⟩
end
end Go.Proofs.YtjiemkidmlgbeaaDoor
