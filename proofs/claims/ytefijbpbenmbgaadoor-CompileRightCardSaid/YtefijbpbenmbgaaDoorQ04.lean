/- A part of the proof: RPass. No condition. -/
import Derived.LoopTactic
import Derived.IntWalk
import Derived.StillTailTactics
import Derived.BigQuiet
import Derived.Deep.RegionWith
import Derived.Deep.RegionHeld
import Derived.Test.YtefijbpbenmbgaaDoorQ03
set_option linter.unusedVariables false
set_option linter.unusedSimpArgs false
namespace Go.Proofs.YtefijbpbenmbgaaDoor
open Go.RowKit Go.Shelf
structure PSt where
 gone : Nat
 deepest : Nat
 tooDeep : Nat
 deriving DecidableEq
def twAt (ts : List Tw) (i : Nat) : Tw := ts.getD i ⟨0, 0, 0, []⟩
def kidsF (f : PSt → Bool × PSt) (ts : List Tw) (k : Kind) (kids : Int) : Nat → Nat → PSt → Bool × PSt
 | 0, _, st => (true, st)
 | n + 1, place, st => if st.gone = ts.length then (false, st) else if partOK k.part (twAt ts st.gone).op place kids = false then (false, st) else
   if (f st).1 = false then (false, (f st).2) else kidsF f ts k kids n (place + 1) (f st).2
def nextS (st : PSt) (lies : Nat) : PSt :=
 ⟨st.gone + 1, if (40 < lies ∧ st.tooDeep = 0) ∨ st.deepest < lies then lies else st.deepest, if 40 < lies ∧ st.tooDeep = 0 then st.gone else st.tooDeep⟩
def passF : Nat → List Tw → Nat → PSt → Bool × PSt
 | 0, _, _, st => (false, st)
 | fuel + 1, ts, lies, st => match kindOf (twAt ts st.gone).op with
   | none => (false, st)
   | some k => if allowsB k (twAt ts st.gone) = false then (false, st) else kidsF (passF fuel ts (lies + 1)) ts k (twAt ts st.gone).kids (twAt ts st.gone).kids.toNat 0 (nextS st lies)
def TwIn (w : World) (v : Value) (ts : List Tw) : Prop :=
 ∃ a cap, v = .slice a ts.length cap ∧ ts.length ≤ cap ∧ cap ≤ 9223372036854775807 ∧ (0 < ts.length → ∃ g off, a = some ⟨g, off, none⟩ ∧ g < w.heap.size ∧ ∀ i (hi : i < ts.length) (c : Nat), c < 4 → w.cell? ⟨g, off + i * 4 + c, none⟩ = (twC ts[i])[c]?)
def FitT (x : Tw) : Prop := x.text.length ≤ 9223372036854775807 ∧ I64 x.kids ∧ I64 x.num ∧ x.op < 256
structure PMem (w : World) (gt gm gg gd gx gp : Nat) (v : Value) (ts : List Tw) (st : PSt) : Prop where
 t : w.cell? ⟨gt, 0, none⟩ = some v
 m : ∃ b, w.cell? ⟨gm, 0, none⟩ = some (.map (some b)) ∧ KMap w b tabL
 g : w.cell? ⟨gg, 0, none⟩ = some (.int .i64 st.gone) ∧ w.frozen? ⟨gg, 0, none⟩ = false
 d : w.cell? ⟨gd, 0, none⟩ = some (.int .i64 st.deepest) ∧ w.frozen? ⟨gd, 0, none⟩ = false
 x : w.cell? ⟨gx, 0, none⟩ = some (.int .i64 st.tooDeep) ∧ w.frozen? ⟨gx, 0, none⟩ = false
 p : w.cell? ⟨gp, 0, none⟩ = some (.func (.func 59) #[] #[.pointer (some ⟨gt, 0, none⟩), .pointer (some ⟨gg, 0, none⟩), .pointer (some ⟨gm, 0, none⟩), .pointer (some ⟨gx, 0, none⟩), .pointer (some ⟨gd, 0, none⟩), .pointer (some ⟨gp, 0, none⟩)])
 tw : TwIn w v ts
structure PNe (gt gm gg gd gx gp : Nat) (v : Value) : Prop where
 h1 : gg ≠ gd
 h2 : gg ≠ gx
 h3 : gd ≠ gx
 h4 : gt ≠ gg ∧ gt ≠ gd ∧ gt ≠ gx
 h5 : gm ≠ gg ∧ gm ≠ gd ∧ gm ≠ gx
 h6 : gp ≠ gg ∧ gp ≠ gd ∧ gp ≠ gx
 h7 : ∀ g off l c, v = .slice (some ⟨g, off, none⟩) l c → g ≠ gg ∧ g ≠ gd ∧ g ≠ gx
theorem TwIn.below {w W : World} {v : Value} {ts : List Tw} (h : TwIn w v ts) (hb : Below w.heap.size w W) : TwIn W v ts := by
 obtain ⟨a, cap, rfl, h1, h2, h3⟩ := h;refine ⟨a, cap, rfl, h1, h2, fun h0 => ?_⟩;obtain ⟨g, off, rfl, hg, hc⟩ := h3 h0;exact ⟨g, off, rfl, Nat.lt_of_lt_of_le hg hb.size, fun i hi c hc' => (hb.cell (p := ⟨g, off + i * 4 + c, none⟩) hg).trans (hc i hi c hc')⟩
theorem cell_on {w W : World} {p : Addr} {v : Value} (h : w.cell? p = some v) (hb : Below w.heap.size w W) : W.cell? p = some v := (hb.cell (World.block_lt_of_cell? w _ h)).trans h
theorem frozen_on {w W : World} {p : Addr} {v : Value} (h : w.cell? p = some v) (hf : w.frozen? p = false) (hb : Below w.heap.size w W) : W.frozen? p = false := by
 have hl := World.block_lt_of_cell? w _ h;have e := hb.block p.block hl;unfold World.frozen? at hf ⊢;rw [e];exact hf
theorem PMem.below {w W : World} {gt gm gg gd gx gp : Nat} {v : Value} {ts : List Tw} {st : PSt} (h : PMem w gt gm gg gd gx gp v ts st) (hb : Below w.heap.size w W) : PMem W gt gm gg gd gx gp v ts st := by
 obtain ⟨t, ⟨b, m, hK⟩, ⟨g, fg⟩, ⟨d, fd⟩, ⟨x, fx⟩, p, tw⟩ := h;exact ⟨cell_on t hb, ⟨b, cell_on m hb, hK.below hb hK.lt⟩, ⟨cell_on g hb, frozen_on g fg hb⟩, ⟨cell_on d hb, frozen_on d fd hb⟩, ⟨cell_on x hb, frozen_on x fx hb⟩, cell_on p hb, tw.below hb⟩
theorem cells_of {w : World} {p : Addr} {v : Value} (h : w.cell? p = some v) : ∃ c t f, w.heap[p.block]? = some (.cells c t f) := by
 unfold World.cell? at h;split at h
 · exact ⟨_, _, _, by assumption⟩
 · cases h
theorem PMem.only {w W : World} {gt gm gg gd gx gp : Nat} {v : Value} {ts : List Tw} {st st' : PSt} (h : PMem w gt gm gg gd gx gp v ts st) (hne : PNe gt gm gg gd gx gp v) (ho : Only (fun k => k = gg ∨ k = gd ∨ k = gx) w W)
   (hg : W.cell? ⟨gg, 0, none⟩ = some (.int .i64 st'.gone) ∧ W.frozen? ⟨gg, 0, none⟩ = false) (hd : W.cell? ⟨gd, 0, none⟩ = some (.int .i64 st'.deepest) ∧ W.frozen? ⟨gd, 0, none⟩ = false) (hx : W.cell? ⟨gx, 0, none⟩ = some (.int .i64 st'.tooDeep) ∧ W.frozen? ⟨gx, 0, none⟩ = false) : PMem W gt gm gg gd gx gp v ts st' := by
 obtain ⟨t, ⟨b, m, hK⟩, ⟨g, fg⟩, ⟨d, fd⟩, ⟨x, fx⟩, p, tw⟩ := h;have on : ∀ q u, w.cell? q = some u → (q.block ≠ gg ∧ q.block ≠ gd ∧ q.block ≠ gx) → W.cell? q = some u := fun q u hq hn => (ho.cell (World.block_lt_of_cell? w _ hq) (by rintro (e | e | e); exact hn.1 e; exact hn.2.1 e; exact hn.2.2 e)).trans hq;refine ⟨on _ _ t hne.h4, ⟨b, on _ _ m hne.h5, hK.only ho ?_⟩, hg, hd, hx, on _ _ p hne.h6, ?_⟩
 · obtain ⟨es, cl, hb, _⟩ := hK
   obtain ⟨_, _, _, e1⟩ := cells_of g;obtain ⟨_, _, _, e2⟩ := cells_of d;obtain ⟨_, _, _, e3⟩ := cells_of x;rintro (e | e | e)
   · subst e; rw [hb] at e1; cases e1
   · subst e; rw [hb] at e2; cases e2
   · subst e; rw [hb] at e3; cases e3
 · obtain ⟨a, cap, rfl, h1, h2, h3⟩ := tw
   refine ⟨a, cap, rfl, h1, h2, fun h0 => ?_⟩;obtain ⟨g', off, rfl, hg', hc⟩ := h3 h0;have hn := hne.h7 _ _ _ _ rfl;refine ⟨g', off, rfl, Nat.lt_of_lt_of_le hg' ho.size, fun i hi c hc' => ?_⟩;exact (ho.cell (p := ⟨g', off + i * 4 + c, none⟩) hg' (by rintro (e | e | e); exact hn.1 e; exact hn.2.1 e; exact hn.2.2 e)).trans (hc i hi c hc')
theorem two_cells (w : World) (cs : Array Value) (t : TypeId) (o : Obj) (j : Nat) : ((w.alloc (.cells cs t)).alloc o).cell? ⟨w.heap.size, j, none⟩ = cs[j]? := by
 have h := ((Below.refl (w.alloc (.cells cs t)).heap.size (w.alloc (.cells cs t))).alloc (Nat.le_refl _) o).block w.heap.size (by simp);rw [heap_alloc_new] at h;simp [World.cell?, h]
theorem one_cell (w : World) (cs : Array Value) (t : TypeId) (j : Nat) : (w.alloc (.cells cs t)).cell? ⟨w.heap.size, j, none⟩ = cs[j]? := by
 have h := heap_alloc_new w (Obj.cells cs t);simp only [World.cell?, h];rfl
theorem allows_kids {k : Kind} {x : Tw} (h : allowsB k x = true) : 0 ≤ x.kids ∧ x.kids ≤ (k.most : Int) := by
 unfold allowsB at h;simp only [Bool.and_eq_true, decide_eq_true_eq] at h;exact ⟨by have := h.1.1.2; omega, h.1.2⟩
theorem lookK_mem : ∀ {L : List (Nat × Kind)} {op : Nat} {k : Kind}, lookK L op = some k → ∃ p ∈ L, p.2 = k
 | [], _, _, h => by cases h
 | p :: r, op, k, h => by
   unfold lookK at h;split at h
   · cases h; exact ⟨p, by simp, rfl⟩
   · obtain ⟨q, hq, he⟩ := lookK_mem h
     exact ⟨q, by simp [hq], he⟩
theorem kind_most {op : Nat} {k : Kind} (h : kindOf op = some k) : k.most ≤ 2048 ∧ k.part ≤ 5 ∧ (k.part = 0 → k.most = 0) := by
 obtain ⟨p, hp, rfl⟩ := lookK_mem h;have : ∀ p ∈ kindsL, p.2.most ≤ 2048 ∧ p.2.part ≤ 5 ∧ (p.2.part = 0 → p.2.most = 0) := by decide
 exact this p hp
theorem part_call (k op : Nat) (h0 : k ≠ 0) (p n : Int) (hn : -1000000 ≤ n) (hn2 : n ≤ 1000000) {b : Bool} (h : partOK k op p n = b) : ∃ F, partF k = .func (.func F) #[] #[] ∧ (∀ args w, (callFunc F args).run Tryd.prog w = .ok (.enter F args) w) ∧ ∀ W, Calls Tryd.prog F #[.int .u8 (op : Int), .int .i64 p, .int .i64 n] W fun e w' => e = .returned (.bool b) ∧ w' = W := by
 subst h;by_cases h1 : k = 1
 · subst h1; exact ⟨_, rfl, enters_of Tryd.func53 (by kernel_rfl) rfl, fun W => ofExpressions_any op p n W⟩
 · by_cases h2 : k = 2
   · subst h2; exact ⟨_, rfl, enters_of Tryd.func54 (by kernel_rfl) rfl, fun W => ofFlow_any op p n W hn hn2⟩
   · by_cases h3 : k = 3
     · subst h3; exact ⟨_, rfl, enters_of Tryd.func55 (by kernel_rfl) rfl, fun W => ofStatements_any op p n W⟩
     · by_cases h4 : k = 4
       · subst h4; exact ⟨_, rfl, enters_of Tryd.func56 (by kernel_rfl) rfl, fun W => ofCondition_any op p n W⟩
       · refine ⟨58, by unfold partF; rw [if_neg h0, if_neg h1, if_neg h2, if_neg h3, if_neg h4], enters_of Tryd.func58 (by kernel_rfl) rfl, fun W => ?_⟩
         have e : partOK k (op : Int) p n = partOK 5 (op : Int) p n := by unfold partOK; rw [if_neg h1, if_neg h2, if_neg h3, if_neg h4]; rfl
         rw [e];exact ofFork_any op p n W
theorem next_deep {st : PSt} {lies : Nat} (h : st.deepest ≤ 1000000) (h2 : lies ≤ 1000000) : (nextS st lies).deepest ≤ 1000000 := by
 unfold nextS;dsimp only;split <;> omega
theorem pass_only {F : Nat → Prop} {w w3 W : World} (hb : Below w.heap.size w w3) (ho : Only F w3 W) : Only F w W := (Only.of_below hb).then ho
theorem Only.drewN' {F : Nat → Prop} {w W : World} (h : Only F w W) (n : Nat) : Only F w (W.drewN n) := ⟨h.os, h.tape, h.output, h.size, h.block⟩
theorem PMem.drewN {w : World} {gt gm gg gd gx gp : Nat} {v : Value} {ts : List Tw} {st : PSt} (h : PMem w gt gm gg gd gx gp v ts st) (n : Nat) : PMem (w.drewN n) gt gm gg gd gx gp v ts st := ⟨h.t, h.m, h.g, h.d, h.x, h.p, h.tw⟩
theorem below_cell {w : World} {p : Addr} {v : Value} {n : Nat} (h : w.cell? p = some v) : (w.drewN n).cell? p = some v := h
theorem zero_kind (w : World) : (zeroValue 99).run Tryd.prog w = .ok (.agg #[.nilFunc, .int .i64 0, .int .i64 0, .nilFunc]) w := by
 have h : Tryd.t99.zero = some (.agg #[.nilFunc, .int .i64 0, .int .i64 0, .nilFunc]) := by kernel_rfl
 simp [zeroValue, h]
theorem sv_any {v : Value} (hv : v.oneCell' = true) (a : Addr) (m : Mode) (w : World) : (store a v m).run Tryd.prog w = stored Tryd.prog w a v m := run_store _ _ _ _ _ hv
theorem partF_one (k : Nat) : (partF k).oneCell' = true := by
 unfold partF;split <;> rfl
theorem kids_mono (ts : List Tw) (k : Kind) (kids : Int) (D : Nat) (f : PSt → Bool × PSt) (hf : ∀ s, s.gone < ts.length → s.deepest ≤ D → s.gone ≤ (f s).2.gone ∧ (f s).2.gone ≤ ts.length ∧ (f s).2.deepest ≤ D) : ∀ (n p : Nat) (s : PSt), s.gone ≤ ts.length → s.deepest ≤ D → s.gone ≤ (kidsF f ts k kids n p s).2.gone ∧ (kidsF f ts k kids n p s).2.gone ≤ ts.length ∧ (kidsF f ts k kids n p s).2.deepest ≤ D
 | 0, _, s, h1, h2 => ⟨Nat.le_refl _, h1, h2⟩
 | n + 1, p, s, h1, h2 => by
   unfold kidsF;split
   · exact ⟨Nat.le_refl _, h1, h2⟩
   · have h3 := hf s (by omega) h2
     split
     · exact ⟨Nat.le_refl _, h1, h2⟩
     · split
       · exact h3
       · have h4 := kids_mono ts k kids D f hf n (p + 1) (f s).2 h3.2.1 h3.2.2
         exact ⟨by omega, h4.2.1, h4.2.2⟩
theorem pass_mono_at (ts : List Tw) : ∀ (fuel lies D : Nat) (st : PSt), st.gone < ts.length → st.deepest ≤ D → lies + fuel ≤ D → st.gone ≤ (passF fuel ts lies st).2.gone ∧ (passF fuel ts lies st).2.gone ≤ ts.length ∧ (passF fuel ts lies st).2.deepest ≤ D
 | 0, _, _, st, h1, h2, _ => ⟨Nat.le_refl _, by show st.gone ≤ _; omega, h2⟩
 | fuel + 1, lies, D, st, h1, h2, h3 => by
   unfold passF;split
   · exact ⟨Nat.le_refl _, by show st.gone ≤ _; omega, h2⟩
   · split
     · exact ⟨Nat.le_refl _, by show st.gone ≤ _; omega, h2⟩
     · rename_i k _ _
       have h5 : (nextS st lies).deepest ≤ D := by unfold nextS; dsimp only; split <;> omega
       have h4 := kids_mono ts k (twAt ts st.gone).kids D (passF fuel ts (lies + 1)) (fun s a b => pass_mono_at ts fuel (lies + 1) D s a b (by omega)) (twAt ts st.gone).kids.toNat 0 (nextS st lies) h1 h5;exact ⟨Nat.le_trans (Nat.le_succ _) h4.1, h4.2.1, h4.2.2⟩
set_option maxRecDepth 20000 in
set_option maxHeartbeats 4000000 in
theorem pass_any {gt gm gg gd gx gp : Nat} {v : Value} {ts : List Tw} (hne : PNe gt gm gg gd gx gp v) (hf : ∀ x ∈ ts, FitT x) (hn : ts.length ≤ 2048) : ∀ (fuel lies : Nat) (st : PSt) (w : World), st.gone < ts.length → ts.length - st.gone ≤ fuel → lies + fuel ≤ 1000000 → st.deepest ≤ 1000000 → PMem w gt gm gg gd gx gp v ts st →
   Calls Tryd.prog 59 #[.int .i64 lies, .pointer (some ⟨gt, 0, none⟩), .pointer (some ⟨gg, 0, none⟩), .pointer (some ⟨gm, 0, none⟩), .pointer (some ⟨gx, 0, none⟩), .pointer (some ⟨gd, 0, none⟩), .pointer (some ⟨gp, 0, none⟩)] w fun e w' => e = .returned (.bool (passF fuel ts lies st).1) ∧ PMem w' gt gm gg gd gx gp v ts (passF fuel ts lies st).2 ∧ Only (fun k => k = gg ∨ k = gd ∨ k = gx) w w' := by
 intro fuel
 induction fuel with
 | zero => intro lies st w h1 h2; omega
 | succ fuel ih =>
   intro lies st w h1 h2 h3 h4 hP;obtain ⟨Z, hZ⟩ := exHid (passF (fuel + 1) ts lies st);rw [hZ.out];obtain ⟨a, cap, rfl, htc, htm, hcells⟩ := id hP.tw;obtain ⟨g, off, rfl, hg, hc⟩ := hcells (by omega);have pt := hP.t;have pg := hP.g.1;obtain ⟨b, pm, hK⟩ := hP.m;have c0 := hc st.gone h1 0 (by omega);have c1 := hc st.gone h1 1 (by omega);have c2 := hc st.gone h1 2 (by omega);have c3 := hc st.gone h1 3 (by omega);have hx : twAt ts st.gone = ts[st.gone] := by simp [twAt, List.getD_eq_getElem?_getD, List.getElem?_eq_getElem h1]
   have hfit := hf ts[st.gone] (List.getElem_mem h1);have hz := hZ.out;unfold passF at hz;rw [hx] at hz;rcases htw : ts[st.gone] with ⟨op, kids, num, text⟩
   rw [htw] at c0 c1 c2 c3 hz hfit;simp only [twC, List.getElem?_cons_zero, List.getElem?_cons_succ, Nat.add_zero] at c0 c1 c2 c3;dsimp only at hz;clear hc hcells hZ;have hgi : (st.gone : Int) < (ts.length : Int) := by omega
   have hb1 := (Below.refl w.heap.size w).alloc (Nat.le_refl _) (.cells #[.int .u8 op, .int .i64 kids, .int .i64 num, .string ⟨text.toArray⟩] 34);have hP1 := hP.below hb1;have qm := cell_on pm hb1;have hK1 := hK.below ((Below.refl _ w).alloc (Nat.le_refl _) (.cells #[.int .u8 op, .int .i64 kids, .int .i64 num, .string ⟨text.toArray⟩] 34)) hK.lt;have hlook := hK1.look Tryd.underlying5 Tryd.underlying69 (zero_kind _) op;rw [look_tab] at hlook;rcases hk : kindOf op with _ | k
   · rw [hk] at hlook hz
     simp only [Option.map_none, Option.getD_none, Option.isSome_none] at hlook hz;have hzz := Lib.hid hz;clear hz;have hsn := sn_any;replace hP1 := Lib.hid hP1;replace hP := Lib.hid hP;go_enter Tryd.func59, Tryd.ntmps59
     go_wp2_with fail
     go_ret
     rw [← hzz.out];exact ⟨rfl, hP.out.below (hb1.alloc (by simp) _), Only.of_below (hb1.alloc (by simp) _)⟩
   · rw [hk] at hlook hz
     simp only [Option.map_some, Option.getD_some, Option.isSome_some] at hlook hz;have hs1 := sv_any (v := textF k.text) rfl;have hs2 := sv_any (v := partF k.part) (partF_one k.part);have kA := Lib.hid (fun W => allows_any k ⟨op, kids, num, text⟩ W hfit.1);unfold kindV twV at kA;unfold kindV at hlook;dsimp only at kA;rcases hal : allowsB k ⟨op, kids, num, text⟩ with _ | _
     · rw [hal] at hz kA
       rw [if_pos rfl] at hz;have hzz := Lib.hid hz;replace hP1 := Lib.hid hP1;replace hP := Lib.hid hP;clear hz hal;go_enter Tryd.func59, Tryd.ntmps59
       go_wp2_with fail
       refine (kA.out _).mono ?_;rintro e w3 ⟨rfl, hb3⟩;have hb4 := ((hb1.alloc (by simp) (.cells #[textF k.text, .int .i64 k.least, .int .i64 k.most, partF k.part] 99))).trans (hb3.mono (by simp; omega));go_wp2_with fail
       go_ret
       rw [← hzz.out];exact ⟨rfl, hP.out.below hb4, Only.of_below hb4⟩
     · rw [hal] at hz kA
       rw [if_neg (by simp)] at hz;obtain ⟨hk0, hkm⟩ := allows_kids hal;dsimp only at hk0 hkm;have hkk := kind_most hk;have hzz := Lib.hid hz;replace hP1 := Lib.hid hP1;replace hP := Lib.hid hP;clear hz hal;go_enter Tryd.func59, Tryd.ntmps59
       go_wp2_with fail
       refine (kA.out _).mono ?_;rintro e w3 ⟨rfl, hb3⟩;have hb4 := ((hb1.alloc (by simp) (.cells #[textF k.text, .int .i64 k.least, .int .i64 k.most, partF k.part] 99))).trans (hb3.mono (by simp; omega));have hP3 := hP.out.below hb4;obtain ⟨x3, y3⟩ := hP3.x;obtain ⟨d3, e3⟩ := hP3.d;obtain ⟨g3, f3⟩ := hP3.g;have n1 := hne.h1;have n2 := hne.h2;have n3 := hne.h3;have hgw : gg < w.heap.size := World.block_lt_of_cell? w _ hP.out.g.1;have hdw : gd < w.heap.size := World.block_lt_of_cell? w _ hP.out.d.1;have hxw : gx < w.heap.size := World.block_lt_of_cell? w _ hP.out.x.1;have k3 : w3.cell? ⟨w.heap.size, 1, none⟩ = some (.int .i64 kids) := (hb3.cell (p := ⟨w.heap.size, 1, none⟩) (by simp; omega)).trans (two_cells w _ _ _ 1);have k4 : w3.cell? ⟨w.heap.size + 1, 3, none⟩ = some (partF k.part) := by
         have h0 := one_cell (w.alloc (.cells #[.int .u8 op, .int .i64 kids, .int .i64 num, .string ⟨text.toArray⟩] 34)) #[textF k.text, .int .i64 k.least, .int .i64 k.most, partF k.part] 99 3;rw [show (w.alloc (.cells #[.int .u8 op, .int .i64 kids, .int .i64 num, .string ⟨text.toArray⟩] 34)).heap.size = w.heap.size + 1 by simp] at h0;exact (hb3.cell (p := ⟨w.heap.size + 1, 3, none⟩) (by simp)).trans h0
       replace hP3 := Lib.hid hP3;by_cases cA : 40 < lies
       · have cAi : (40 : Int) < (lies : Int) := by omega
         by_cases cB : st.tooDeep = 0
         · have cBi : ((st.tooDeep : Int) == 0) = true := by rw [cB]; rfl
           replace cB := Lib.hid cB;have hO1 : Only (fun k => k = gg ∨ k = gd ∨ k = gx) w3 (((w3.setCell ⟨gx, 0, none⟩ (.int .i64 (st.gone : Int))).setCell ⟨gd, 0, none⟩ (.int .i64 (lies : Int))).setCell ⟨gg, 0, none⟩ (.int .i64 ((st.gone : Int) + 1))) := ((((Only.refl (fun k => k = gg ∨ k = gd ∨ k = gx) w3).setCell (p := ⟨gx, 0, none⟩) (.inl (.inr (.inr rfl))) (.int .i64 (st.gone : Int))).setCell (p := ⟨gd, 0, none⟩) (.inl (.inr (.inl rfl))) (.int .i64 (lies : Int))).setCell (p := ⟨gg, 0, none⟩) (.inl (.inl rfl)) (.int .i64 ((st.gone : Int) + 1)));have hnx : nextS st lies = ⟨st.gone + 1, lies, st.gone⟩ := by unfold nextS; rw [if_pos (.inl ⟨cA, cB.out⟩), if_pos ⟨cA, cB.out⟩]
           have hP4 : PMem (((w3.setCell ⟨gx, 0, none⟩ (.int .i64 (st.gone : Int))).setCell ⟨gd, 0, none⟩ (.int .i64 (lies : Int))).setCell ⟨gg, 0, none⟩ (.int .i64 ((st.gone : Int) + 1))) gt gm gg gd gx gp (.slice (some ⟨g, off, none⟩) ts.length cap) ts (nextS st lies) := by
             rw [hnx];exact hP3.out.only hne hO1 ⟨World.cell?_setCell_same' _ _ _ (by rw [show _ = some (Value.int .i64 (st.gone : Int)) from ((World.cell?_setCell_far _ ⟨gd, 0, none⟩ ⟨gg, 0, none⟩ _ (by simp; omega)).trans ((World.cell?_setCell_far _ ⟨gx, 0, none⟩ ⟨gg, 0, none⟩ _ (by simp; omega)).trans g3))]; rfl), by simp only [World.frozen?_setCell]; exact f3⟩ ⟨(World.cell?_setCell_far _ ⟨gg, 0, none⟩ ⟨gd, 0, none⟩ _ (by simp; omega)).trans (World.cell?_setCell_same' _ _ _ (by rw [show _ = some (Value.int .i64 (st.deepest : Int)) from ((World.cell?_setCell_far _ ⟨gx, 0, none⟩ ⟨gd, 0, none⟩ _ (by simp; omega)).trans d3)]; rfl)), by simp only [World.frozen?_setCell]; exact e3⟩ ⟨(World.cell?_setCell_far _ ⟨gg, 0, none⟩ ⟨gx, 0, none⟩ _ (by simp; omega)).trans ((World.cell?_setCell_far _ ⟨gd, 0, none⟩ ⟨gx, 0, none⟩ _ (by simp; omega)).trans (World.cell?_setCell_same' _ _ _ (by rw [show _ = some (Value.int .i64 (st.tooDeep : Int)) from x3]; rfl))), by simp only [World.frozen?_setCell]; exact y3⟩
           have xk : (((w3.setCell ⟨gx, 0, none⟩ (.int .i64 (st.gone : Int))).setCell ⟨gd, 0, none⟩ (.int .i64 (lies : Int))).setCell ⟨gg, 0, none⟩ (.int .i64 ((st.gone : Int) + 1))).cell? ⟨w.heap.size, 1, none⟩ = _ := (((World.cell?_setCell_far _ ⟨gg, 0, none⟩ ⟨w.heap.size, 1, none⟩ _ (by simp; omega)).trans (World.cell?_setCell_far _ ⟨gd, 0, none⟩ ⟨w.heap.size, 1, none⟩ _ (by simp; omega))).trans (World.cell?_setCell_far _ ⟨gx, 0, none⟩ ⟨w.heap.size, 1, none⟩ _ (by simp; omega))).trans k3;have kp : (((w3.setCell ⟨gx, 0, none⟩ (.int .i64 (st.gone : Int))).setCell ⟨gd, 0, none⟩ (.int .i64 (lies : Int))).setCell ⟨gg, 0, none⟩ (.int .i64 ((st.gone : Int) + 1))).cell? ⟨w.heap.size + 1, 3, none⟩ = _ := (((World.cell?_setCell_far _ ⟨gg, 0, none⟩ ⟨w.heap.size + 1, 3, none⟩ _ (by simp; omega)).trans (World.cell?_setCell_far _ ⟨gd, 0, none⟩ ⟨w.heap.size + 1, 3, none⟩ _ (by simp; omega))).trans (World.cell?_setCell_far _ ⟨gx, 0, none⟩ ⟨w.heap.size + 1, 3, none⟩ _ (by simp; omega))).trans k4;replace hP4 := Lib.hid hP4;replace hO1 := Lib.hid hO1;clear hnx;go_wp2_with fail
           generalize (((w3.setCell ⟨gx, 0, none⟩ (.int .i64 (st.gone : Int))).setCell ⟨gd, 0, none⟩ (.int .i64 (lies : Int))).setCell ⟨gg, 0, none⟩ (.int .i64 ((st.gone : Int) + 1))) = W4 at *;have hwl : w.heap.size + 1 < W4.heap.size := World.block_lt_of_cell? W4 _ kp;go_loopw [12, 50] (fun _ t50 wr => ∃ (p : Nat) (s4 : PSt), (p : Int) ≤ kids ∧ t50 = .int .i64 p ∧ st.gone + 1 ≤ s4.gone ∧ s4.gone ≤ ts.length ∧ s4.deepest ≤ 1000000 ∧ Hid (PMem wr gt gm gg gd gx gp (.slice (some ⟨g, off, none⟩) ts.length cap) ts s4) ∧ Hid (Only (fun k => k = gg ∨ k = gd ∨ k = gx) W4 wr) ∧ Hid (kidsF (passF fuel ts (lies + 1)) ts k kids (kids.toNat - p) p s4 = Z)) (fun _ t50 _ => kids.toNat - (intOf t50).toNat)
           case atStart => exact ⟨0, nextS st lies, by omega, rfl, Nat.le_refl _, h1, next_deep h4 (by omega), hP4, Only.refl _ _, hzz⟩
           case round =>
             obtain ⟨p, s4, hpk, rfl, hg1, hg2, hdp, hP5, hO5, hz5⟩ := hrel;have xk5 : wr.cell? ⟨w.heap.size, 1, none⟩ = some (.int .i64 kids) := (hO5.out.cell (p := ⟨w.heap.size, 1, none⟩) (by simp; omega) (by simp; omega)).trans xk;have kp5 : wr.cell? ⟨w.heap.size + 1, 3, none⟩ = some (partF k.part) := (hO5.out.cell (p := ⟨w.heap.size + 1, 3, none⟩) (by simp; omega) (by simp; omega)).trans kp;by_cases hlt : (p : Int) < kids
             · have hp0 : k.part ≠ 0 := fun h => by have := hkk.2.2 h; omega
               have hz6 := hz5.out;rw [show kids.toNat - p = (kids.toNat - (p + 1)) + 1 by omega] at hz6;unfold kidsF at hz6;have pg5 := hP5.out.g.1;have pt5 := hP5.out.t;have pp5 := hP5.out.p;by_cases hend : s4.gone = ts.length
               · rw [if_pos hend] at hz6
                 have q : ((s4.gone : Int) == (ts.length : Int)) = true := beq_iff_eq.2 (by omega);replace hend := Lib.hid hend;replace hz6 := Lib.hid hz6;have d1 := fun n => below_cell (n := n) pg5
                 have d2 := fun n => below_cell (n := n) pt5
                 go_wp2_with fail
                 go_quiet (fail)
                 go_wp2_with fail
                 go_ret
                 rw [← hz6.out];exact ⟨rfl, hP5.out.drewN nq, (pass_only hb4 (hO1.out.then hO5.out)).drewN' nq⟩
               · rw [if_neg hend] at hz6
                 have hgl : s4.gone < ts.length := by omega
                 have hgi5 : (s4.gone : Int) < (ts.length : Int) := by omega
                 have q : ((s4.gone : Int) == (ts.length : Int)) = false := beq_eq_false_iff_ne.2 (by omega);obtain ⟨a5, cap5, e5, _, _, hcc5⟩ := hP5.out.tw;cases e5
                 obtain ⟨g5, off5, e5, hg5, hc5⟩ := hcc5 (by omega);cases e5
                 have c5 := hc5 s4.gone hgl 0 (by omega);have hx5 : twAt ts s4.gone = ts[s4.gone] := by simp [twAt, List.getD_eq_getElem?_getD, List.getElem?_eq_getElem hgl]
                 rw [hx5] at hz6;generalize ts[s4.gone] = x5 at c5 hz6;obtain ⟨op5, kids5, num5, text5⟩ := x5;simp only [twC, List.getElem?_cons_zero, Nat.add_zero] at c5;dsimp only at hz6;clear hcc5 hc5 hx5 hP4 hzz;rcases hpo : partOK k.part op5 p kids with _ | _
                 · rw [hpo, if_pos rfl] at hz6
                   obtain ⟨F, hF, hE, kF⟩ := part_call k.part op5 hp0 p kids (by omega) (by omega) hpo;rw [hF] at kp5;replace kF := Lib.hid kF;replace hz6 := Lib.hid hz6;replace hend := Lib.hid hend;clear hpo hF;go_wp2_with fail
                   go_quiet (exact Calls.quiet_of_same (kF.out _))
                   go_wp2_with fail
                   go_ret
                   rw [← hz6.out];exact ⟨rfl, hP5.out.drewN nq, (pass_only hb4 (hO1.out.then hO5.out)).drewN' nq⟩
                 · rw [hpo, if_neg (by simp)] at hz6
                   obtain ⟨F, hF, hE, kF⟩ := part_call k.part op5 hp0 p kids (by omega) (by omega) hpo;rw [hF] at kp5;have hPd : PMem wr.drew gt gm gg gd gx gp (.slice (some ⟨g, off, none⟩) ts.length cap) ts s4 := hP5.out.drewN 1;have kP := ih (lies + 1) s4 wr.drew hgl (by omega) (by omega) hdp hPd;have mono := pass_mono_at ts fuel (lies + 1) 1000000 s4 hgl hdp (by omega);have hOd : Only (fun k => k = gg ∨ k = gd ∨ k = gx) W4 wr.drew := hO5.out.drewN' 1;generalize passF fuel ts (lies + 1) s4 = R at kP mono hz6;obtain ⟨rb, s5⟩ := R;dsimp only at kP mono hz6;have e1 : wr.drew.cell? ⟨gg, 0, none⟩ = _ := pg5;have e2 : wr.drew.cell? ⟨gt, 0, none⟩ = _ := pt5;have e3 : wr.drew.cell? ⟨gp, 0, none⟩ = _ := pp5;have e4 : wr.drew.cell? ⟨w.heap.size, 1, none⟩ = _ := xk5;have e5 : wr.drew.cell? ⟨w.heap.size + 1, 3, none⟩ = _ := kp5;have e6 : wr.drew.cell? ⟨g, off + s4.gone * 4, none⟩ = _ := c5;have hli : ((lies + 1 : Nat) : Int) = (lies : Int) + 1 := by omega
                   rw [hli] at kP;clear hli;replace kP := Lib.hid kP;replace kF := Lib.hid kF;replace hend := Lib.hid hend;replace hOd := Lib.hid hOd;replace mono := Lib.hid mono;clear hpo hF hPd hP5;go_wp2_with fail
                   refine wp_region_still_tail 22 (by kernel_rfl) (by kernel_rfl) ?_;simp only [List.take_succ_cons, List.take_zero, List.drop_succ_cons, List.drop_zero]
                   repeat still_step
                   still_call (kF.out _)
                   repeat still_step
                   refine wpStill_nil ?_;go_wp2_with fail
                   refine (kP.out).mono ?_;rintro e w5 ⟨rfl, hP6, hO6⟩;replace hP6 := Lib.hid hP6;replace hO6 := Lib.hid hO6;rcases rb with _ | _
                   · rw [if_pos rfl] at hz6
                     replace hz6 := Lib.hid hz6;go_wp2_with fail
                     go_ret
                     rw [← hz6.out];exact ⟨rfl, hP6.out, pass_only hb4 (hO1.out.then (hOd.out.then hO6.out))⟩
                   · rw [if_neg (by simp)] at hz6
                     replace hz6 := Lib.hid hz6;have hz7 : kidsF (passF fuel ts (lies + 1)) ts k kids (kids.toNat - (p + 1)) (p + 1) s5 = Z := hz6;have hw1 : IntKind.i64.wrap ((p : Int) + 1) = (p : Int) + 1 := IntWalk.i64_in _ (by omega);replace hz7 := Lib.hid hz7;clear hz6;go_wp2_with fail
                     go_round
                     · refine ⟨p + 1, s5, by omega, by push_cast; rfl, by have := mono.out.1; omega, mono.out.2.1, mono.out.2.2, hP6, Lib.hid ((hOd.out).then hO6.out), hz7⟩
                     · simp [intOf]; omega
             · have hlast : kids.toNat - p = 0 := by omega
               have hz6 := hz5.out;rw [hlast] at hz6;unfold kidsF at hz6;replace hz6 := Lib.hid hz6;go_wp2_with fail
               go_ret
               rw [← hz6.out];exact ⟨rfl, hP5.out, pass_only hb4 (hO1.out.then hO5.out)⟩
         · have cBi : ((st.tooDeep : Int) == 0) = false := beq_eq_false_iff_ne.2 (by omega)
           replace cB := Lib.hid cB;by_cases cD : st.deepest < lies
           · have cDi : (st.deepest : Int) < (lies : Int) := by omega
             have hO1 : Only (fun k => k = gg ∨ k = gd ∨ k = gx) w3 ((w3.setCell ⟨gd, 0, none⟩ (.int .i64 (lies : Int))).setCell ⟨gg, 0, none⟩ (.int .i64 ((st.gone : Int) + 1))) := (((Only.refl (fun k => k = gg ∨ k = gd ∨ k = gx) w3).setCell (p := ⟨gd, 0, none⟩) (.inl (.inr (.inl rfl))) (.int .i64 (lies : Int))).setCell (p := ⟨gg, 0, none⟩) (.inl (.inl rfl)) (.int .i64 ((st.gone : Int) + 1)));have hnx : nextS st lies = ⟨st.gone + 1, lies, st.tooDeep⟩ := by unfold nextS; rw [if_pos (.inr cD), if_neg (fun h => cB.out h.2)]
             have hP4 : PMem ((w3.setCell ⟨gd, 0, none⟩ (.int .i64 (lies : Int))).setCell ⟨gg, 0, none⟩ (.int .i64 ((st.gone : Int) + 1))) gt gm gg gd gx gp (.slice (some ⟨g, off, none⟩) ts.length cap) ts (nextS st lies) := by
               rw [hnx];exact hP3.out.only hne hO1 ⟨World.cell?_setCell_same' _ _ _ (by rw [show _ = some (Value.int .i64 (st.gone : Int)) from ((World.cell?_setCell_far _ ⟨gd, 0, none⟩ ⟨gg, 0, none⟩ _ (by simp; omega)).trans g3)]; rfl), by simp only [World.frozen?_setCell]; exact f3⟩ ⟨(World.cell?_setCell_far _ ⟨gg, 0, none⟩ ⟨gd, 0, none⟩ _ (by simp; omega)).trans (World.cell?_setCell_same' _ _ _ (by rw [show _ = some (Value.int .i64 (st.deepest : Int)) from d3]; rfl)), by simp only [World.frozen?_setCell]; exact e3⟩ ⟨(World.cell?_setCell_far _ ⟨gg, 0, none⟩ ⟨gx, 0, none⟩ _ (by simp; omega)).trans ((World.cell?_setCell_far _ ⟨gd, 0, none⟩ ⟨gx, 0, none⟩ _ (by simp; omega)).trans x3), by simp only [World.frozen?_setCell]; exact y3⟩
             have xk : ((w3.setCell ⟨gd, 0, none⟩ (.int .i64 (lies : Int))).setCell ⟨gg, 0, none⟩ (.int .i64 ((st.gone : Int) + 1))).cell? ⟨w.heap.size, 1, none⟩ = _ := ((World.cell?_setCell_far _ ⟨gg, 0, none⟩ ⟨w.heap.size, 1, none⟩ _ (by simp; omega)).trans (World.cell?_setCell_far _ ⟨gd, 0, none⟩ ⟨w.heap.size, 1, none⟩ _ (by simp; omega))).trans k3;have kp : ((w3.setCell ⟨gd, 0, none⟩ (.int .i64 (lies : Int))).setCell ⟨gg, 0, none⟩ (.int .i64 ((st.gone : Int) + 1))).cell? ⟨w.heap.size + 1, 3, none⟩ = _ := ((World.cell?_setCell_far _ ⟨gg, 0, none⟩ ⟨w.heap.size + 1, 3, none⟩ _ (by simp; omega)).trans (World.cell?_setCell_far _ ⟨gd, 0, none⟩ ⟨w.heap.size + 1, 3, none⟩ _ (by simp; omega))).trans k4;replace hP4 := Lib.hid hP4;replace hO1 := Lib.hid hO1;clear hnx;go_wp2_with fail
             generalize ((w3.setCell ⟨gd, 0, none⟩ (.int .i64 (lies : Int))).setCell ⟨gg, 0, none⟩ (.int .i64 ((st.gone : Int) + 1))) = W4 at *;have hwl : w.heap.size + 1 < W4.heap.size := World.block_lt_of_cell? W4 _ kp;go_loopw [12, 50] (fun _ t50 wr => ∃ (p : Nat) (s4 : PSt), (p : Int) ≤ kids ∧ t50 = .int .i64 p ∧ st.gone + 1 ≤ s4.gone ∧ s4.gone ≤ ts.length ∧ s4.deepest ≤ 1000000 ∧ Hid (PMem wr gt gm gg gd gx gp (.slice (some ⟨g, off, none⟩) ts.length cap) ts s4) ∧ Hid (Only (fun k => k = gg ∨ k = gd ∨ k = gx) W4 wr) ∧ Hid (kidsF (passF fuel ts (lies + 1)) ts k kids (kids.toNat - p) p s4 = Z)) (fun _ t50 _ => kids.toNat - (intOf t50).toNat)
             case atStart => exact ⟨0, nextS st lies, by omega, rfl, Nat.le_refl _, h1, next_deep h4 (by omega), hP4, Only.refl _ _, hzz⟩
             case round =>
               obtain ⟨p, s4, hpk, rfl, hg1, hg2, hdp, hP5, hO5, hz5⟩ := hrel;have xk5 : wr.cell? ⟨w.heap.size, 1, none⟩ = some (.int .i64 kids) := (hO5.out.cell (p := ⟨w.heap.size, 1, none⟩) (by simp; omega) (by simp; omega)).trans xk;have kp5 : wr.cell? ⟨w.heap.size + 1, 3, none⟩ = some (partF k.part) := (hO5.out.cell (p := ⟨w.heap.size + 1, 3, none⟩) (by simp; omega) (by simp; omega)).trans kp;by_cases hlt : (p : Int) < kids
               · have hp0 : k.part ≠ 0 := fun h => by have := hkk.2.2 h; omega
                 have hz6 := hz5.out;rw [show kids.toNat - p = (kids.toNat - (p + 1)) + 1 by omega] at hz6;unfold kidsF at hz6;have pg5 := hP5.out.g.1;have pt5 := hP5.out.t;have pp5 := hP5.out.p;by_cases hend : s4.gone = ts.length
                 · rw [if_pos hend] at hz6
                   have q : ((s4.gone : Int) == (ts.length : Int)) = true := beq_iff_eq.2 (by omega);replace hend := Lib.hid hend;replace hz6 := Lib.hid hz6;have d1 := fun n => below_cell (n := n) pg5
                   have d2 := fun n => below_cell (n := n) pt5
                   go_wp2_with fail
                   go_quiet (fail)
                   go_wp2_with fail
                   go_ret
                   rw [← hz6.out];exact ⟨rfl, hP5.out.drewN nq, (pass_only hb4 (hO1.out.then hO5.out)).drewN' nq⟩
                 · rw [if_neg hend] at hz6
                   have hgl : s4.gone < ts.length := by omega
                   have hgi5 : (s4.gone : Int) < (ts.length : Int) := by omega
                   have q : ((s4.gone : Int) == (ts.length : Int)) = false := beq_eq_false_iff_ne.2 (by omega);obtain ⟨a5, cap5, e5, _, _, hcc5⟩ := hP5.out.tw;cases e5
                   obtain ⟨g5, off5, e5, hg5, hc5⟩ := hcc5 (by omega);cases e5
                   have c5 := hc5 s4.gone hgl 0 (by omega);have hx5 : twAt ts s4.gone = ts[s4.gone] := by simp [twAt, List.getD_eq_getElem?_getD, List.getElem?_eq_getElem hgl]
                   rw [hx5] at hz6;generalize ts[s4.gone] = x5 at c5 hz6;obtain ⟨op5, kids5, num5, text5⟩ := x5;simp only [twC, List.getElem?_cons_zero, Nat.add_zero] at c5;dsimp only at hz6;clear hcc5 hc5 hx5 hP4 hzz;rcases hpo : partOK k.part op5 p kids with _ | _
                   · rw [hpo, if_pos rfl] at hz6
                     obtain ⟨F, hF, hE, kF⟩ := part_call k.part op5 hp0 p kids (by omega) (by omega) hpo;rw [hF] at kp5;replace kF := Lib.hid kF;replace hz6 := Lib.hid hz6;replace hend := Lib.hid hend;clear hpo hF;go_wp2_with fail
                     go_quiet (exact Calls.quiet_of_same (kF.out _))
                     go_wp2_with fail
                     go_ret
                     rw [← hz6.out];exact ⟨rfl, hP5.out.drewN nq, (pass_only hb4 (hO1.out.then hO5.out)).drewN' nq⟩
                   · rw [hpo, if_neg (by simp)] at hz6
                     obtain ⟨F, hF, hE, kF⟩ := part_call k.part op5 hp0 p kids (by omega) (by omega) hpo;rw [hF] at kp5;have hPd : PMem wr.drew gt gm gg gd gx gp (.slice (some ⟨g, off, none⟩) ts.length cap) ts s4 := hP5.out.drewN 1;have kP := ih (lies + 1) s4 wr.drew hgl (by omega) (by omega) hdp hPd;have mono := pass_mono_at ts fuel (lies + 1) 1000000 s4 hgl hdp (by omega);have hOd : Only (fun k => k = gg ∨ k = gd ∨ k = gx) W4 wr.drew := hO5.out.drewN' 1;generalize passF fuel ts (lies + 1) s4 = R at kP mono hz6;obtain ⟨rb, s5⟩ := R;dsimp only at kP mono hz6;have e1 : wr.drew.cell? ⟨gg, 0, none⟩ = _ := pg5;have e2 : wr.drew.cell? ⟨gt, 0, none⟩ = _ := pt5;have e3 : wr.drew.cell? ⟨gp, 0, none⟩ = _ := pp5;have e4 : wr.drew.cell? ⟨w.heap.size, 1, none⟩ = _ := xk5;have e5 : wr.drew.cell? ⟨w.heap.size + 1, 3, none⟩ = _ := kp5;have e6 : wr.drew.cell? ⟨g, off + s4.gone * 4, none⟩ = _ := c5;have hli : ((lies + 1 : Nat) : Int) = (lies : Int) + 1 := by omega
                     rw [hli] at kP;clear hli;replace kP := Lib.hid kP;replace kF := Lib.hid kF;replace hend := Lib.hid hend;replace hOd := Lib.hid hOd;replace mono := Lib.hid mono;clear hpo hF hPd hP5;go_wp2_with fail
                     refine wp_region_still_tail 22 (by kernel_rfl) (by kernel_rfl) ?_;simp only [List.take_succ_cons, List.take_zero, List.drop_succ_cons, List.drop_zero]
                     repeat still_step
                     still_call (kF.out _)
                     repeat still_step
                     refine wpStill_nil ?_;go_wp2_with fail
                     refine (kP.out).mono ?_;rintro e w5 ⟨rfl, hP6, hO6⟩;replace hP6 := Lib.hid hP6;replace hO6 := Lib.hid hO6;rcases rb with _ | _
                     · rw [if_pos rfl] at hz6
                       replace hz6 := Lib.hid hz6;go_wp2_with fail
                       go_ret
                       rw [← hz6.out];exact ⟨rfl, hP6.out, pass_only hb4 (hO1.out.then (hOd.out.then hO6.out))⟩
                     · rw [if_neg (by simp)] at hz6
                       replace hz6 := Lib.hid hz6;have hz7 : kidsF (passF fuel ts (lies + 1)) ts k kids (kids.toNat - (p + 1)) (p + 1) s5 = Z := hz6;have hw1 : IntKind.i64.wrap ((p : Int) + 1) = (p : Int) + 1 := IntWalk.i64_in _ (by omega);replace hz7 := Lib.hid hz7;clear hz6;go_wp2_with fail
                       go_round
                       · refine ⟨p + 1, s5, by omega, by push_cast; rfl, by have := mono.out.1; omega, mono.out.2.1, mono.out.2.2, hP6, Lib.hid ((hOd.out).then hO6.out), hz7⟩
                       · simp [intOf]; omega
               · have hlast : kids.toNat - p = 0 := by omega
                 have hz6 := hz5.out;rw [hlast] at hz6;unfold kidsF at hz6;replace hz6 := Lib.hid hz6;go_wp2_with fail
                 go_ret
                 rw [← hz6.out];exact ⟨rfl, hP5.out, pass_only hb4 (hO1.out.then hO5.out)⟩
           · have cDi : ¬ (st.deepest : Int) < (lies : Int) := by omega
             have hO1 : Only (fun k => k = gg ∨ k = gd ∨ k = gx) w3 (w3.setCell ⟨gg, 0, none⟩ (.int .i64 ((st.gone : Int) + 1))) := ((Only.refl (fun k => k = gg ∨ k = gd ∨ k = gx) w3).setCell (p := ⟨gg, 0, none⟩) (.inl (.inl rfl)) (.int .i64 ((st.gone : Int) + 1)));have hnx : nextS st lies = ⟨st.gone + 1, st.deepest, st.tooDeep⟩ := by unfold nextS; rw [if_neg (fun h => h.elim (fun h => cB.out h.2) cD), if_neg (fun h => cB.out h.2)]
             have hP4 : PMem (w3.setCell ⟨gg, 0, none⟩ (.int .i64 ((st.gone : Int) + 1))) gt gm gg gd gx gp (.slice (some ⟨g, off, none⟩) ts.length cap) ts (nextS st lies) := by
               rw [hnx];exact hP3.out.only hne hO1 ⟨World.cell?_setCell_same' _ _ _ (by rw [show _ = some (Value.int .i64 (st.gone : Int)) from g3]; rfl), by simp only [World.frozen?_setCell]; exact f3⟩ ⟨(World.cell?_setCell_far _ ⟨gg, 0, none⟩ ⟨gd, 0, none⟩ _ (by simp; omega)).trans d3, by simp only [World.frozen?_setCell]; exact e3⟩ ⟨(World.cell?_setCell_far _ ⟨gg, 0, none⟩ ⟨gx, 0, none⟩ _ (by simp; omega)).trans x3, by simp only [World.frozen?_setCell]; exact y3⟩
             have xk : (w3.setCell ⟨gg, 0, none⟩ (.int .i64 ((st.gone : Int) + 1))).cell? ⟨w.heap.size, 1, none⟩ = _ := (World.cell?_setCell_far _ ⟨gg, 0, none⟩ ⟨w.heap.size, 1, none⟩ _ (by simp; omega)).trans k3;have kp : (w3.setCell ⟨gg, 0, none⟩ (.int .i64 ((st.gone : Int) + 1))).cell? ⟨w.heap.size + 1, 3, none⟩ = _ := (World.cell?_setCell_far _ ⟨gg, 0, none⟩ ⟨w.heap.size + 1, 3, none⟩ _ (by simp; omega)).trans k4;replace hP4 := Lib.hid hP4;replace hO1 := Lib.hid hO1;clear hnx;go_wp2_with fail
             generalize (w3.setCell ⟨gg, 0, none⟩ (.int .i64 ((st.gone : Int) + 1))) = W4 at *;have hwl : w.heap.size + 1 < W4.heap.size := World.block_lt_of_cell? W4 _ kp;go_loopw [12, 50] (fun _ t50 wr => ∃ (p : Nat) (s4 : PSt), (p : Int) ≤ kids ∧ t50 = .int .i64 p ∧ st.gone + 1 ≤ s4.gone ∧ s4.gone ≤ ts.length ∧ s4.deepest ≤ 1000000 ∧ Hid (PMem wr gt gm gg gd gx gp (.slice (some ⟨g, off, none⟩) ts.length cap) ts s4) ∧ Hid (Only (fun k => k = gg ∨ k = gd ∨ k = gx) W4 wr) ∧ Hid (kidsF (passF fuel ts (lies + 1)) ts k kids (kids.toNat - p) p s4 = Z)) (fun _ t50 _ => kids.toNat - (intOf t50).toNat)
             case atStart => exact ⟨0, nextS st lies, by omega, rfl, Nat.le_refl _, h1, next_deep h4 (by omega), hP4, Only.refl _ _, hzz⟩
             case round =>
               obtain ⟨p, s4, hpk, rfl, hg1, hg2, hdp, hP5, hO5, hz5⟩ := hrel;have xk5 : wr.cell? ⟨w.heap.size, 1, none⟩ = some (.int .i64 kids) := (hO5.out.cell (p := ⟨w.heap.size, 1, none⟩) (by simp; omega) (by simp; omega)).trans xk;have kp5 : wr.cell? ⟨w.heap.size + 1, 3, none⟩ = some (partF k.part) := (hO5.out.cell (p := ⟨w.heap.size + 1, 3, none⟩) (by simp; omega) (by simp; omega)).trans kp;by_cases hlt : (p : Int) < kids
               · have hp0 : k.part ≠ 0 := fun h => by have := hkk.2.2 h; omega
                 have hz6 := hz5.out;rw [show kids.toNat - p = (kids.toNat - (p + 1)) + 1 by omega] at hz6;unfold kidsF at hz6;have pg5 := hP5.out.g.1;have pt5 := hP5.out.t;have pp5 := hP5.out.p;by_cases hend : s4.gone = ts.length
                 · rw [if_pos hend] at hz6
                   have q : ((s4.gone : Int) == (ts.length : Int)) = true := beq_iff_eq.2 (by omega);replace hend := Lib.hid hend;replace hz6 := Lib.hid hz6;have d1 := fun n => below_cell (n := n) pg5
                   have d2 := fun n => below_cell (n := n) pt5
                   go_wp2_with fail
                   go_quiet (fail)
                   go_wp2_with fail
                   go_ret
                   rw [← hz6.out];exact ⟨rfl, hP5.out.drewN nq, (pass_only hb4 (hO1.out.then hO5.out)).drewN' nq⟩
                 · rw [if_neg hend] at hz6
                   have hgl : s4.gone < ts.length := by omega
                   have hgi5 : (s4.gone : Int) < (ts.length : Int) := by omega
                   have q : ((s4.gone : Int) == (ts.length : Int)) = false := beq_eq_false_iff_ne.2 (by omega);obtain ⟨a5, cap5, e5, _, _, hcc5⟩ := hP5.out.tw;cases e5
                   obtain ⟨g5, off5, e5, hg5, hc5⟩ := hcc5 (by omega);cases e5
                   have c5 := hc5 s4.gone hgl 0 (by omega);have hx5 : twAt ts s4.gone = ts[s4.gone] := by simp [twAt, List.getD_eq_getElem?_getD, List.getElem?_eq_getElem hgl]
                   rw [hx5] at hz6;generalize ts[s4.gone] = x5 at c5 hz6;obtain ⟨op5, kids5, num5, text5⟩ := x5;simp only [twC, List.getElem?_cons_zero, Nat.add_zero] at c5;dsimp only at hz6;clear hcc5 hc5 hx5 hP4 hzz;rcases hpo : partOK k.part op5 p kids with _ | _
                   · rw [hpo, if_pos rfl] at hz6
                     obtain ⟨F, hF, hE, kF⟩ := part_call k.part op5 hp0 p kids (by omega) (by omega) hpo;rw [hF] at kp5;replace kF := Lib.hid kF;replace hz6 := Lib.hid hz6;replace hend := Lib.hid hend;clear hpo hF;go_wp2_with fail
                     go_quiet (exact Calls.quiet_of_same (kF.out _))
                     go_wp2_with fail
                     go_ret
                     rw [← hz6.out];exact ⟨rfl, hP5.out.drewN nq, (pass_only hb4 (hO1.out.then hO5.out)).drewN' nq⟩
                   · rw [hpo, if_neg (by simp)] at hz6
                     obtain ⟨F, hF, hE, kF⟩ := part_call k.part op5 hp0 p kids (by omega) (by omega) hpo;rw [hF] at kp5;have hPd : PMem wr.drew gt gm gg gd gx gp (.slice (some ⟨g, off, none⟩) ts.length cap) ts s4 := hP5.out.drewN 1;have kP := ih (lies + 1) s4 wr.drew hgl (by omega) (by omega) hdp hPd;have mono := pass_mono_at ts fuel (lies + 1) 1000000 s4 hgl hdp (by omega);have hOd : Only (fun k => k = gg ∨ k = gd ∨ k = gx) W4 wr.drew := hO5.out.drewN' 1;generalize passF fuel ts (lies + 1) s4 = R at kP mono hz6;obtain ⟨rb, s5⟩ := R;dsimp only at kP mono hz6;have e1 : wr.drew.cell? ⟨gg, 0, none⟩ = _ := pg5;have e2 : wr.drew.cell? ⟨gt, 0, none⟩ = _ := pt5;have e3 : wr.drew.cell? ⟨gp, 0, none⟩ = _ := pp5;have e4 : wr.drew.cell? ⟨w.heap.size, 1, none⟩ = _ := xk5;have e5 : wr.drew.cell? ⟨w.heap.size + 1, 3, none⟩ = _ := kp5;have e6 : wr.drew.cell? ⟨g, off + s4.gone * 4, none⟩ = _ := c5;have hli : ((lies + 1 : Nat) : Int) = (lies : Int) + 1 := by omega
                     rw [hli] at kP;clear hli;replace kP := Lib.hid kP;replace kF := Lib.hid kF;replace hend := Lib.hid hend;replace hOd := Lib.hid hOd;replace mono := Lib.hid mono;clear hpo hF hPd hP5;go_wp2_with fail
                     refine wp_region_still_tail 22 (by kernel_rfl) (by kernel_rfl) ?_;simp only [List.take_succ_cons, List.take_zero, List.drop_succ_cons, List.drop_zero]
                     repeat still_step
                     still_call (kF.out _)
                     repeat still_step
                     refine wpStill_nil ?_;go_wp2_with fail
                     refine (kP.out).mono ?_;rintro e w5 ⟨rfl, hP6, hO6⟩;replace hP6 := Lib.hid hP6;replace hO6 := Lib.hid hO6;rcases rb with _ | _
                     · rw [if_pos rfl] at hz6
                       replace hz6 := Lib.hid hz6;go_wp2_with fail
                       go_ret
                       rw [← hz6.out];exact ⟨rfl, hP6.out, pass_only hb4 (hO1.out.then (hOd.out.then hO6.out))⟩
                     · rw [if_neg (by simp)] at hz6
                       replace hz6 := Lib.hid hz6;have hz7 : kidsF (passF fuel ts (lies + 1)) ts k kids (kids.toNat - (p + 1)) (p + 1) s5 = Z := hz6;have hw1 : IntKind.i64.wrap ((p : Int) + 1) = (p : Int) + 1 := IntWalk.i64_in _ (by omega);replace hz7 := Lib.hid hz7;clear hz6;go_wp2_with fail
                       go_round
                       · refine ⟨p + 1, s5, by omega, by push_cast; rfl, by have := mono.out.1; omega, mono.out.2.1, mono.out.2.2, hP6, Lib.hid ((hOd.out).then hO6.out), hz7⟩
                       · simp [intOf]; omega
               · have hlast : kids.toNat - p = 0 := by omega
                 have hz6 := hz5.out;rw [hlast] at hz6;unfold kidsF at hz6;replace hz6 := Lib.hid hz6;go_wp2_with fail
                 go_ret
                 rw [← hz6.out];exact ⟨rfl, hP5.out, pass_only hb4 (hO1.out.then hO5.out)⟩
       · have cAi : ¬ (40 : Int) < (lies : Int) := by omega
         by_cases cD : st.deepest < lies
         · have cDi : (st.deepest : Int) < (lies : Int) := by omega
           have hO1 : Only (fun k => k = gg ∨ k = gd ∨ k = gx) w3 ((w3.setCell ⟨gd, 0, none⟩ (.int .i64 (lies : Int))).setCell ⟨gg, 0, none⟩ (.int .i64 ((st.gone : Int) + 1))) := (((Only.refl (fun k => k = gg ∨ k = gd ∨ k = gx) w3).setCell (p := ⟨gd, 0, none⟩) (.inl (.inr (.inl rfl))) (.int .i64 (lies : Int))).setCell (p := ⟨gg, 0, none⟩) (.inl (.inl rfl)) (.int .i64 ((st.gone : Int) + 1)));have hnx : nextS st lies = ⟨st.gone + 1, lies, st.tooDeep⟩ := by unfold nextS; rw [if_pos (.inr cD), if_neg (fun h => cA h.1)]
           have hP4 : PMem ((w3.setCell ⟨gd, 0, none⟩ (.int .i64 (lies : Int))).setCell ⟨gg, 0, none⟩ (.int .i64 ((st.gone : Int) + 1))) gt gm gg gd gx gp (.slice (some ⟨g, off, none⟩) ts.length cap) ts (nextS st lies) := by
             rw [hnx];exact hP3.out.only hne hO1 ⟨World.cell?_setCell_same' _ _ _ (by rw [show _ = some (Value.int .i64 (st.gone : Int)) from ((World.cell?_setCell_far _ ⟨gd, 0, none⟩ ⟨gg, 0, none⟩ _ (by simp; omega)).trans g3)]; rfl), by simp only [World.frozen?_setCell]; exact f3⟩ ⟨(World.cell?_setCell_far _ ⟨gg, 0, none⟩ ⟨gd, 0, none⟩ _ (by simp; omega)).trans (World.cell?_setCell_same' _ _ _ (by rw [show _ = some (Value.int .i64 (st.deepest : Int)) from d3]; rfl)), by simp only [World.frozen?_setCell]; exact e3⟩ ⟨(World.cell?_setCell_far _ ⟨gg, 0, none⟩ ⟨gx, 0, none⟩ _ (by simp; omega)).trans ((World.cell?_setCell_far _ ⟨gd, 0, none⟩ ⟨gx, 0, none⟩ _ (by simp; omega)).trans x3), by simp only [World.frozen?_setCell]; exact y3⟩
           have xk : ((w3.setCell ⟨gd, 0, none⟩ (.int .i64 (lies : Int))).setCell ⟨gg, 0, none⟩ (.int .i64 ((st.gone : Int) + 1))).cell? ⟨w.heap.size, 1, none⟩ = _ := ((World.cell?_setCell_far _ ⟨gg, 0, none⟩ ⟨w.heap.size, 1, none⟩ _ (by simp; omega)).trans (World.cell?_setCell_far _ ⟨gd, 0, none⟩ ⟨w.heap.size, 1, none⟩ _ (by simp; omega))).trans k3;have kp : ((w3.setCell ⟨gd, 0, none⟩ (.int .i64 (lies : Int))).setCell ⟨gg, 0, none⟩ (.int .i64 ((st.gone : Int) + 1))).cell? ⟨w.heap.size + 1, 3, none⟩ = _ := ((World.cell?_setCell_far _ ⟨gg, 0, none⟩ ⟨w.heap.size + 1, 3, none⟩ _ (by simp; omega)).trans (World.cell?_setCell_far _ ⟨gd, 0, none⟩ ⟨w.heap.size + 1, 3, none⟩ _ (by simp; omega))).trans k4;replace hP4 := Lib.hid hP4;replace hO1 := Lib.hid hO1;clear hnx;go_wp2_with fail
           generalize ((w3.setCell ⟨gd, 0, none⟩ (.int .i64 (lies : Int))).setCell ⟨gg, 0, none⟩ (.int .i64 ((st.gone : Int) + 1))) = W4 at *;have hwl : w.heap.size + 1 < W4.heap.size := World.block_lt_of_cell? W4 _ kp;go_loopw [12, 50] (fun _ t50 wr => ∃ (p : Nat) (s4 : PSt), (p : Int) ≤ kids ∧ t50 = .int .i64 p ∧ st.gone + 1 ≤ s4.gone ∧ s4.gone ≤ ts.length ∧ s4.deepest ≤ 1000000 ∧ Hid (PMem wr gt gm gg gd gx gp (.slice (some ⟨g, off, none⟩) ts.length cap) ts s4) ∧ Hid (Only (fun k => k = gg ∨ k = gd ∨ k = gx) W4 wr) ∧ Hid (kidsF (passF fuel ts (lies + 1)) ts k kids (kids.toNat - p) p s4 = Z)) (fun _ t50 _ => kids.toNat - (intOf t50).toNat)
           case atStart => exact ⟨0, nextS st lies, by omega, rfl, Nat.le_refl _, h1, next_deep h4 (by omega), hP4, Only.refl _ _, hzz⟩
           case round =>
             obtain ⟨p, s4, hpk, rfl, hg1, hg2, hdp, hP5, hO5, hz5⟩ := hrel;have xk5 : wr.cell? ⟨w.heap.size, 1, none⟩ = some (.int .i64 kids) := (hO5.out.cell (p := ⟨w.heap.size, 1, none⟩) (by simp; omega) (by simp; omega)).trans xk;have kp5 : wr.cell? ⟨w.heap.size + 1, 3, none⟩ = some (partF k.part) := (hO5.out.cell (p := ⟨w.heap.size + 1, 3, none⟩) (by simp; omega) (by simp; omega)).trans kp;by_cases hlt : (p : Int) < kids
             · have hp0 : k.part ≠ 0 := fun h => by have := hkk.2.2 h; omega
               have hz6 := hz5.out;rw [show kids.toNat - p = (kids.toNat - (p + 1)) + 1 by omega] at hz6;unfold kidsF at hz6;have pg5 := hP5.out.g.1;have pt5 := hP5.out.t;have pp5 := hP5.out.p;by_cases hend : s4.gone = ts.length
               · rw [if_pos hend] at hz6
                 have q : ((s4.gone : Int) == (ts.length : Int)) = true := beq_iff_eq.2 (by omega);replace hend := Lib.hid hend;replace hz6 := Lib.hid hz6;have d1 := fun n => below_cell (n := n) pg5
                 have d2 := fun n => below_cell (n := n) pt5
                 go_wp2_with fail
                 go_quiet (fail)
                 go_wp2_with fail
                 go_ret
                 rw [← hz6.out];exact ⟨rfl, hP5.out.drewN nq, (pass_only hb4 (hO1.out.then hO5.out)).drewN' nq⟩
               · rw [if_neg hend] at hz6
                 have hgl : s4.gone < ts.length := by omega
                 have hgi5 : (s4.gone : Int) < (ts.length : Int) := by omega
                 have q : ((s4.gone : Int) == (ts.length : Int)) = false := beq_eq_false_iff_ne.2 (by omega);obtain ⟨a5, cap5, e5, _, _, hcc5⟩ := hP5.out.tw;cases e5
                 obtain ⟨g5, off5, e5, hg5, hc5⟩ := hcc5 (by omega);cases e5
                 have c5 := hc5 s4.gone hgl 0 (by omega);have hx5 : twAt ts s4.gone = ts[s4.gone] := by simp [twAt, List.getD_eq_getElem?_getD, List.getElem?_eq_getElem hgl]
                 rw [hx5] at hz6;generalize ts[s4.gone] = x5 at c5 hz6;obtain ⟨op5, kids5, num5, text5⟩ := x5;simp only [twC, List.getElem?_cons_zero, Nat.add_zero] at c5;dsimp only at hz6;clear hcc5 hc5 hx5 hP4 hzz;rcases hpo : partOK k.part op5 p kids with _ | _
                 · rw [hpo, if_pos rfl] at hz6
                   obtain ⟨F, hF, hE, kF⟩ := part_call k.part op5 hp0 p kids (by omega) (by omega) hpo;rw [hF] at kp5;replace kF := Lib.hid kF;replace hz6 := Lib.hid hz6;replace hend := Lib.hid hend;clear hpo hF;go_wp2_with fail
                   go_quiet (exact Calls.quiet_of_same (kF.out _))
                   go_wp2_with fail
                   go_ret
                   rw [← hz6.out];exact ⟨rfl, hP5.out.drewN nq, (pass_only hb4 (hO1.out.then hO5.out)).drewN' nq⟩
                 · rw [hpo, if_neg (by simp)] at hz6
                   obtain ⟨F, hF, hE, kF⟩ := part_call k.part op5 hp0 p kids (by omega) (by omega) hpo;rw [hF] at kp5;have hPd : PMem wr.drew gt gm gg gd gx gp (.slice (some ⟨g, off, none⟩) ts.length cap) ts s4 := hP5.out.drewN 1;have kP := ih (lies + 1) s4 wr.drew hgl (by omega) (by omega) hdp hPd;have mono := pass_mono_at ts fuel (lies + 1) 1000000 s4 hgl hdp (by omega);have hOd : Only (fun k => k = gg ∨ k = gd ∨ k = gx) W4 wr.drew := hO5.out.drewN' 1;generalize passF fuel ts (lies + 1) s4 = R at kP mono hz6;obtain ⟨rb, s5⟩ := R;dsimp only at kP mono hz6;have e1 : wr.drew.cell? ⟨gg, 0, none⟩ = _ := pg5;have e2 : wr.drew.cell? ⟨gt, 0, none⟩ = _ := pt5;have e3 : wr.drew.cell? ⟨gp, 0, none⟩ = _ := pp5;have e4 : wr.drew.cell? ⟨w.heap.size, 1, none⟩ = _ := xk5;have e5 : wr.drew.cell? ⟨w.heap.size + 1, 3, none⟩ = _ := kp5;have e6 : wr.drew.cell? ⟨g, off + s4.gone * 4, none⟩ = _ := c5;have hli : ((lies + 1 : Nat) : Int) = (lies : Int) + 1 := by omega
                   rw [hli] at kP;clear hli;replace kP := Lib.hid kP;replace kF := Lib.hid kF;replace hend := Lib.hid hend;replace hOd := Lib.hid hOd;replace mono := Lib.hid mono;clear hpo hF hPd hP5;go_wp2_with fail
                   refine wp_region_still_tail 22 (by kernel_rfl) (by kernel_rfl) ?_;simp only [List.take_succ_cons, List.take_zero, List.drop_succ_cons, List.drop_zero]
                   repeat still_step
                   still_call (kF.out _)
                   repeat still_step
                   refine wpStill_nil ?_;go_wp2_with fail
                   refine (kP.out).mono ?_;rintro e w5 ⟨rfl, hP6, hO6⟩;replace hP6 := Lib.hid hP6;replace hO6 := Lib.hid hO6;rcases rb with _ | _
                   · rw [if_pos rfl] at hz6
                     replace hz6 := Lib.hid hz6;go_wp2_with fail
                     go_ret
                     rw [← hz6.out];exact ⟨rfl, hP6.out, pass_only hb4 (hO1.out.then (hOd.out.then hO6.out))⟩
                   · rw [if_neg (by simp)] at hz6
                     replace hz6 := Lib.hid hz6;have hz7 : kidsF (passF fuel ts (lies + 1)) ts k kids (kids.toNat - (p + 1)) (p + 1) s5 = Z := hz6;have hw1 : IntKind.i64.wrap ((p : Int) + 1) = (p : Int) + 1 := IntWalk.i64_in _ (by omega);replace hz7 := Lib.hid hz7;clear hz6;go_wp2_with fail
                     go_round
                     · refine ⟨p + 1, s5, by omega, by push_cast; rfl, by have := mono.out.1; omega, mono.out.2.1, mono.out.2.2, hP6, Lib.hid ((hOd.out).then hO6.out), hz7⟩
                     · simp [intOf]; omega
             · have hlast : kids.toNat - p = 0 := by omega
               have hz6 := hz5.out;rw [hlast] at hz6;unfold kidsF at hz6;replace hz6 := Lib.hid hz6;go_wp2_with fail
               go_ret
               rw [← hz6.out];exact ⟨rfl, hP5.out, pass_only hb4 (hO1.out.then hO5.out)⟩
         · have cDi : ¬ (st.deepest : Int) < (lies : Int) := by omega
           have hO1 : Only (fun k => k = gg ∨ k = gd ∨ k = gx) w3 (w3.setCell ⟨gg, 0, none⟩ (.int .i64 ((st.gone : Int) + 1))) := ((Only.refl (fun k => k = gg ∨ k = gd ∨ k = gx) w3).setCell (p := ⟨gg, 0, none⟩) (.inl (.inl rfl)) (.int .i64 ((st.gone : Int) + 1)));have hnx : nextS st lies = ⟨st.gone + 1, st.deepest, st.tooDeep⟩ := by unfold nextS; rw [if_neg (fun h => h.elim (fun h => cA h.1) cD), if_neg (fun h => cA h.1)]
           have hP4 : PMem (w3.setCell ⟨gg, 0, none⟩ (.int .i64 ((st.gone : Int) + 1))) gt gm gg gd gx gp (.slice (some ⟨g, off, none⟩) ts.length cap) ts (nextS st lies) := by
             rw [hnx];exact hP3.out.only hne hO1 ⟨World.cell?_setCell_same' _ _ _ (by rw [show _ = some (Value.int .i64 (st.gone : Int)) from g3]; rfl), by simp only [World.frozen?_setCell]; exact f3⟩ ⟨(World.cell?_setCell_far _ ⟨gg, 0, none⟩ ⟨gd, 0, none⟩ _ (by simp; omega)).trans d3, by simp only [World.frozen?_setCell]; exact e3⟩ ⟨(World.cell?_setCell_far _ ⟨gg, 0, none⟩ ⟨gx, 0, none⟩ _ (by simp; omega)).trans x3, by simp only [World.frozen?_setCell]; exact y3⟩
           have xk : (w3.setCell ⟨gg, 0, none⟩ (.int .i64 ((st.gone : Int) + 1))).cell? ⟨w.heap.size, 1, none⟩ = _ := (World.cell?_setCell_far _ ⟨gg, 0, none⟩ ⟨w.heap.size, 1, none⟩ _ (by simp; omega)).trans k3;have kp : (w3.setCell ⟨gg, 0, none⟩ (.int .i64 ((st.gone : Int) + 1))).cell? ⟨w.heap.size + 1, 3, none⟩ = _ := (World.cell?_setCell_far _ ⟨gg, 0, none⟩ ⟨w.heap.size + 1, 3, none⟩ _ (by simp; omega)).trans k4;replace hP4 := Lib.hid hP4;replace hO1 := Lib.hid hO1;clear hnx;go_wp2_with fail
           generalize (w3.setCell ⟨gg, 0, none⟩ (.int .i64 ((st.gone : Int) + 1))) = W4 at *;have hwl : w.heap.size + 1 < W4.heap.size := World.block_lt_of_cell? W4 _ kp;go_loopw [12, 50] (fun _ t50 wr => ∃ (p : Nat) (s4 : PSt), (p : Int) ≤ kids ∧ t50 = .int .i64 p ∧ st.gone + 1 ≤ s4.gone ∧ s4.gone ≤ ts.length ∧ s4.deepest ≤ 1000000 ∧ Hid (PMem wr gt gm gg gd gx gp (.slice (some ⟨g, off, none⟩) ts.length cap) ts s4) ∧ Hid (Only (fun k => k = gg ∨ k = gd ∨ k = gx) W4 wr) ∧ Hid (kidsF (passF fuel ts (lies + 1)) ts k kids (kids.toNat - p) p s4 = Z)) (fun _ t50 _ => kids.toNat - (intOf t50).toNat)
           case atStart => exact ⟨0, nextS st lies, by omega, rfl, Nat.le_refl _, h1, next_deep h4 (by omega), hP4, Only.refl _ _, hzz⟩
           case round =>
             obtain ⟨p, s4, hpk, rfl, hg1, hg2, hdp, hP5, hO5, hz5⟩ := hrel;have xk5 : wr.cell? ⟨w.heap.size, 1, none⟩ = some (.int .i64 kids) := (hO5.out.cell (p := ⟨w.heap.size, 1, none⟩) (by simp; omega) (by simp; omega)).trans xk;have kp5 : wr.cell? ⟨w.heap.size + 1, 3, none⟩ = some (partF k.part) := (hO5.out.cell (p := ⟨w.heap.size + 1, 3, none⟩) (by simp; omega) (by simp; omega)).trans kp;by_cases hlt : (p : Int) < kids
             · have hp0 : k.part ≠ 0 := fun h => by have := hkk.2.2 h; omega
               have hz6 := hz5.out;rw [show kids.toNat - p = (kids.toNat - (p + 1)) + 1 by omega] at hz6;unfold kidsF at hz6;have pg5 := hP5.out.g.1;have pt5 := hP5.out.t;have pp5 := hP5.out.p;by_cases hend : s4.gone = ts.length
               · rw [if_pos hend] at hz6
                 have q : ((s4.gone : Int) == (ts.length : Int)) = true := beq_iff_eq.2 (by omega);replace hend := Lib.hid hend;replace hz6 := Lib.hid hz6;have d1 := fun n => below_cell (n := n) pg5
                 have d2 := fun n => below_cell (n := n) pt5
                 go_wp2_with fail
                 go_quiet (fail)
                 go_wp2_with fail
                 go_ret
                 rw [← hz6.out];exact ⟨rfl, hP5.out.drewN nq, (pass_only hb4 (hO1.out.then hO5.out)).drewN' nq⟩
               · rw [if_neg hend] at hz6
                 have hgl : s4.gone < ts.length := by omega
                 have hgi5 : (s4.gone : Int) < (ts.length : Int) := by omega
                 have q : ((s4.gone : Int) == (ts.length : Int)) = false := beq_eq_false_iff_ne.2 (by omega);obtain ⟨a5, cap5, e5, _, _, hcc5⟩ := hP5.out.tw;cases e5
                 obtain ⟨g5, off5, e5, hg5, hc5⟩ := hcc5 (by omega);cases e5
                 have c5 := hc5 s4.gone hgl 0 (by omega);have hx5 : twAt ts s4.gone = ts[s4.gone] := by simp [twAt, List.getD_eq_getElem?_getD, List.getElem?_eq_getElem hgl]
                 rw [hx5] at hz6;generalize ts[s4.gone] = x5 at c5 hz6;obtain ⟨op5, kids5, num5, text5⟩ := x5;simp only [twC, List.getElem?_cons_zero, Nat.add_zero] at c5;dsimp only at hz6;clear hcc5 hc5 hx5 hP4 hzz;rcases hpo : partOK k.part op5 p kids with _ | _
                 · rw [hpo, if_pos rfl] at hz6
                   obtain ⟨F, hF, hE, kF⟩ := part_call k.part op5 hp0 p kids (by omega) (by omega) hpo;rw [hF] at kp5;replace kF := Lib.hid kF;replace hz6 := Lib.hid hz6;replace hend := Lib.hid hend;clear hpo hF;go_wp2_with fail
                   go_quiet (exact Calls.quiet_of_same (kF.out _))
                   go_wp2_with fail
                   go_ret
                   rw [← hz6.out];exact ⟨rfl, hP5.out.drewN nq, (pass_only hb4 (hO1.out.then hO5.out)).drewN' nq⟩
                 · rw [hpo, if_neg (by simp)] at hz6
                   obtain ⟨F, hF, hE, kF⟩ := part_call k.part op5 hp0 p kids (by omega) (by omega) hpo;rw [hF] at kp5;have hPd : PMem wr.drew gt gm gg gd gx gp (.slice (some ⟨g, off, none⟩) ts.length cap) ts s4 := hP5.out.drewN 1;have kP := ih (lies + 1) s4 wr.drew hgl (by omega) (by omega) hdp hPd;have mono := pass_mono_at ts fuel (lies + 1) 1000000 s4 hgl hdp (by omega);have hOd : Only (fun k => k = gg ∨ k = gd ∨ k = gx) W4 wr.drew := hO5.out.drewN' 1;generalize passF fuel ts (lies + 1) s4 = R at kP mono hz6;obtain ⟨rb, s5⟩ := R;dsimp only at kP mono hz6;have e1 : wr.drew.cell? ⟨gg, 0, none⟩ = _ := pg5;have e2 : wr.drew.cell? ⟨gt, 0, none⟩ = _ := pt5;have e3 : wr.drew.cell? ⟨gp, 0, none⟩ = _ := pp5;have e4 : wr.drew.cell? ⟨w.heap.size, 1, none⟩ = _ := xk5;have e5 : wr.drew.cell? ⟨w.heap.size + 1, 3, none⟩ = _ := kp5;have e6 : wr.drew.cell? ⟨g, off + s4.gone * 4, none⟩ = _ := c5;have hli : ((lies + 1 : Nat) : Int) = (lies : Int) + 1 := by omega
                   rw [hli] at kP;clear hli;replace kP := Lib.hid kP;replace kF := Lib.hid kF;replace hend := Lib.hid hend;replace hOd := Lib.hid hOd;replace mono := Lib.hid mono;clear hpo hF hPd hP5;go_wp2_with fail
                   refine wp_region_still_tail 22 (by kernel_rfl) (by kernel_rfl) ?_;simp only [List.take_succ_cons, List.take_zero, List.drop_succ_cons, List.drop_zero]
                   repeat still_step
                   still_call (kF.out _)
                   repeat still_step
                   refine wpStill_nil ?_;go_wp2_with fail
                   refine (kP.out).mono ?_;rintro e w5 ⟨rfl, hP6, hO6⟩;replace hP6 := Lib.hid hP6;replace hO6 := Lib.hid hO6;rcases rb with _ | _
                   · rw [if_pos rfl] at hz6
                     replace hz6 := Lib.hid hz6;go_wp2_with fail
                     go_ret
                     rw [← hz6.out];exact ⟨rfl, hP6.out, pass_only hb4 (hO1.out.then (hOd.out.then hO6.out))⟩
                   · rw [if_neg (by simp)] at hz6
                     replace hz6 := Lib.hid hz6;have hz7 : kidsF (passF fuel ts (lies + 1)) ts k kids (kids.toNat - (p + 1)) (p + 1) s5 = Z := hz6;have hw1 : IntKind.i64.wrap ((p : Int) + 1) = (p : Int) + 1 := IntWalk.i64_in _ (by omega);replace hz7 := Lib.hid hz7;clear hz6;go_wp2_with fail
                     go_round
                     · refine ⟨p + 1, s5, by omega, by push_cast; rfl, by have := mono.out.1; omega, mono.out.2.1, mono.out.2.2, hP6, Lib.hid ((hOd.out).then hO6.out), hz7⟩
                     · simp [intOf]; omega
             · have hlast : kids.toNat - p = 0 := by omega
               have hz6 := hz5.out;rw [hlast] at hz6;unfold kidsF at hz6;replace hz6 := Lib.hid hz6;go_wp2_with fail
               go_ret
               rw [← hz6.out];exact ⟨rfl, hP5.out, pass_only hb4 (hO1.out.then hO5.out)⟩
end Go.Proofs.YtefijbpbenmbgaaDoor
