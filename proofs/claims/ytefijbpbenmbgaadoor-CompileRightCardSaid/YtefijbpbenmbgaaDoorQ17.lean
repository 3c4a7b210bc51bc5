/- A part of the proof: JHPush, JHHp, ITrav, IFld, IMv, IThr. No condition. -/
import Derived.Maps.AppendAt
import Derived.LoopTactic
import Derived.IntWalk
import Derived.StillTailTactics
import Derived.BigQuiet
import Derived.Deep.RegionWith
import Derived.Deep.RegionHeld
import Derived.Laws.Rows
import Derived.Test.YtefijbpbenmbgaaDoorQ02
import Derived.Test.YtefijbpbenmbgaaDoorQ05
import Derived.Test.YtefijbpbenmbgaaDoorQ12
import Derived.Test.YtefijbpbenmbgaaDoorQ14
import Derived.Test.YtefijbpbenmbgaaDoorQ16
set_option linter.unusedVariables false
set_option linter.unusedSimpArgs false
namespace Go.Proofs.YtefijbpbenmbgaaDoor.HI
open Go.RowKit
theorem infoT : (Tryd.prog.info? 123).map (fun i => (i.zero, i.size, i.bytes)) = some (some (.agg #[.int .i64 0, .int .i64 0, .int .i64 0]), 3, 24) := by kernel_rfl
set_option maxHeartbeats 400000 in
theorem new_any (w : World) :
   Calls Tryd.prog 45 #[] w fun e w' => e = .returned (.pointer (some ⟨w.heap.size + 1, 0, none⟩)) ∧ HeapAt w' (w.heap.size + 1) w.heap.size (.slice none 0 0) [] 0 ∧ Below w.heap.size w w' := by
 have hmm := @run_makeMap Tryd.prog;go_enter Tryd.func45, Tryd.ntmps45
 go_wp2
 go_ret
 refine ⟨by simp, ?_, by go_grown⟩;have M : MapIs Tryd.prog 3 3 (w.alloc (.map #[] 0)) w.heap.size (fun _ => none) 0 := MapIs.made w;refine ⟨?_, World.ownsRow_nil _ _ _ _, ⟨fun _ => none, ?_, Pl.nil⟩, fun i hi => by simp at hi, by simp, by omega⟩
 · have := heap_alloc_new (w.alloc (.map #[] 0)) (.cells #[.slice none 0 0, .map (some w.heap.size), .int .i64 0] 110)
   simpa using this
 · exact M.kept (F := fun _ => False) ((Only.refl _ _).alloc _) (fun h => h)
def OwnNext (w : World) (sv sv' : Value) : Prop := ∀ k, sv'.ownBlock = some k → sv.ownBlock = some k ∨ w.heap.size ≤ k
theorem push_fin {b bm p n cap : Nat} {oa : Option Addr} {d : List T} {w w1 w3 : World} {sv' : Value} (h : HeapAt w b bm (.slice oa n cap) d p) (hn : n = d.length) (hlim : p < 1099511627776) (x : T) (hx : x.num = p)
   (hg : ((w.setCell ⟨b, 2, none⟩ (.int .i64 ((p : Int) + 1))).alloc (.cells #[.int .i64 x.key, .int .i64 x.num, .int .i64 x.v] 123)).grownBy w1 (Value.slice oa n cap).ownBlock)
   (hown : w1.ownsRow 0 123 3 sv' (n + 1) (rowOf enc d ++ enc x))
   (hloc : sv'.ownBlock = (Value.slice oa n cap).ownBlock ∨ sv'.ownBlock = some ((w.setCell ⟨b, 2, none⟩ (.int .i64 ((p : Int) + 1))).alloc (.cells #[.int .i64 x.key, .int .i64 x.num, .int .i64 x.v] 123)).heap.size)
   {f : Int → Option Nat} (hpl : Pl T.num f d)
   (hM : MapIs Tryd.prog 3 3 w3 bm (fun y => if y = (p : Int) then some n else f y) (if (f p).isSome then n else n + 1)) (hg3 : (w1.setCell ⟨b, 0, none⟩ sv').grownBy w3 (some bm)) :
   HeapAt w3 b bm sv' (d ++ [x]) (p + 1) ∧ Only (Foot b bm (.slice oa n cap)) w w3 ∧ OwnNext w (.slice oa n cap) sv' := by
 have hb := h.lt;have hbm := h.bm_ne;have hbml := h.ltm;have hA : Only (fun k => k = b) w ((w.setCell ⟨b, 2, none⟩ (.int .i64 ((p : Int) + 1))).alloc (.cells #[.int .i64 x.key, .int .i64 x.num, .int .i64 x.v] 123)) :=
   ((Only.refl (fun k => k = b) w).setCell (p := ⟨b, 2, none⟩) (.inl rfl) _).alloc _
 have stA : ((w.setCell ⟨b, 2, none⟩ (.int .i64 ((p : Int) + 1))).alloc (.cells #[.int .i64 x.key, .int .i64 x.num, .int .i64 x.v] 123)).heap[b]? = some (.cells #[.slice oa n cap, .map (some bm), .int .i64 ((p : Int) + 1)] 110 (0, 0)) := by
   rw [Below.heap_alloc _ _ _ (by simpa [World.setCell] using hb)];have := heap_setCell_same w b 2 _ _ (.int .i64 ((p : Int) + 1)) h.st
   simpa using this
 have hsA : w.heap.size ≤ ((w.setCell ⟨b, 2, none⟩ (.int .i64 ((p : Int) + 1))).alloc (.cells #[.int .i64 x.key, .int .i64 x.num, .int .i64 x.v] 123)).heap.size := hA.size;generalize hW : (w.setCell ⟨b, 2, none⟩ (.int .i64 ((p : Int) + 1))).alloc (.cells #[.int .i64 x.key, .int .i64 x.num, .int .i64 x.v] 123) = wA at *;have hgne : ∀ g, (Value.slice oa n cap).ownBlock = some g → g ≠ b ∧ g ≠ bm := fun g hg => h.g_ne hg;have O1 : Only (fun k => (Value.slice oa n cap).ownBlock = some k) wA w1 := Only.of_grown hg (fun k e => e);have hb1 : b < w1.heap.size := Nat.lt_of_lt_of_le hb (Nat.le_trans hsA hg.size);have st1 := (O1.block b (Nat.lt_of_lt_of_le hb hsA) (fun e => (hgne b e).1 rfl)).trans stA;have st2 : (w1.setCell ⟨b, 0, none⟩ sv').heap[b]? = some (.cells #[sv', .map (some bm), .int .i64 ((p : Int) + 1)] 110 (0, 0)) := by
   have := heap_setCell_same w1 b 0 _ _ sv' st1
   simpa using this
 have O3 : Only (fun k => k = bm) (w1.setCell ⟨b, 0, none⟩ sv') w3 := Only.of_grown hg3 (fun k e => by injection e with e; exact e.symm);have hb2 : b < (w1.setCell ⟨b, 0, none⟩ sv').heap.size := by simpa [World.setCell] using hb1
 have st3 := (O3.block b hb2 (fun e => hbm e.symm)).trans st2;have hsv : ∀ g, sv'.ownBlock = some g → g ≠ b ∧ g ≠ bm := by
   intro g hg';rcases hloc with e | e
   · rw [e] at hg'; exact hgne g hg'
   · rw [e] at hg'; injection hg' with hg'; subst hg'; exact ⟨by omega, by omega⟩
 have hlen : (d ++ [x]).length = n + 1 := by simp [hn]
 have hfp : f (p : Int) = none := by
   cases hf : f (p : Int) with
   | none => rfl
   | some v =>
     obtain ⟨hv, he⟩ := hpl.2 _ _ hf;have := h.num v hv;omega
 refine ⟨⟨?_, ?_, ⟨_, ?_, hpl.snoc (x := x) (by rw [hx]; exact hfp)⟩, ?_, ?_, by omega⟩, ?_, ?_⟩
 · rw [st3]; simp
 · rw [hlen, rowOf_snoc]
   exact ownsRow_only (ownsRow_only hown ((Only.refl (fun k => k = b) w1).setCell (p := ⟨b, 0, none⟩) (.inl rfl) _) (fun g hg' e => (hsv g hg').1 e)) O3 (fun g hg' e => (hsv g hg').2 e)
 · rw [hfp] at hM
   rw [hx, hlen, ← hn];exact hM
 · intro i hi
   rw [hlen] at hi;by_cases e : i < d.length
   · rw [at_snoc _ _ _ e]; have := h.num i e; omega
   · have : i = d.length := by omega
     rw [this, at_last, hx]; omega
 · rw [hlen, hn]; have := h.len; omega
 · have a1 := hA.trans O1 (K := Foot b bm (.slice oa n cap)) (fun k _ e => .inl e) (fun k _ e => .inr (.inr e))
   exact (a1.setCell (p := ⟨b, 0, none⟩) (.inl (.inl rfl)) _).trans O3 (fun k _ e => e) (fun k _ e => .inr (.inl e))
 · intro k hk
   rcases hloc with e | e
   · rw [e] at hk; exact .inl hk
   · rw [e] at hk; injection hk with hk; right; omega
theorem one_three {a b c : Int} : ∀ u ∈ [Value.int .i64 a, Value.int .i64 b, Value.int .i64 c], u.oneCell' = true := by
 intro u hu; simp at hu; rcases hu with rfl | rfl | rfl <;> rfl
theorem push_news {W : World} {g : Nat} {a b c : Value} (h0 : W.cell? ⟨g, 0, none⟩ = some a) (h1 : W.cell? ⟨g, 1, none⟩ = some b) (h2 : W.cell? ⟨g, 2, none⟩ = some c) : ∀ j u, [a, b, c][j]? = some u → W.cell? ((⟨g, 0, none⟩ : Addr).add j) = some u := by
 intro j u hj
 match j, hj with
 | 0, hj => simp at hj; subst hj; simpa [Addr.add] using h0
 | 1, hj => simp at hj; subst hj; simpa [Addr.add] using h1
 | 2, hj => simp at hj; subst hj; simpa [Addr.add] using h2
 | j + 3, hj => simp at hj
theorem push_mid {wA w1 : World} {b bm n cap : Nat} {oa : Option Addr} {f : Int → Option Nat} {u : Value} (st : wA.heap[b]? = some (.cells #[.slice oa n cap, .map (some bm), u] 110 (0, 0))) (hg : wA.grownBy w1 (Value.slice oa n cap).ownBlock) (hbm : bm ≠ b) (MA : MapIs Tryd.prog 3 3 wA bm f n)
   (hne : ∀ g, (Value.slice oa n cap).ownBlock = some g → g ≠ b ∧ g ≠ bm) :
   w1.cell? ⟨b, 0, none⟩ = some (.slice oa n cap) ∧ w1.cell? ⟨b, 1, none⟩ = some (.map (some bm)) ∧ w1.frozen? ⟨b, 0, none⟩ = false ∧ ∀ v', MapIs Tryd.prog 3 3 (w1.setCell ⟨b, 0, none⟩ v') bm f n := by
 have O1 : Only (fun k => (Value.slice oa n cap).ownBlock = some k) wA w1 := Only.of_grown hg (fun k e => e);have st1 := (O1.block b (Array.getElem?_eq_some_iff.1 st).1 (fun e => (hne b e).1 rfl)).trans st;refine ⟨by simp [World.cell?, st1], by simp [World.cell?, st1], by simp [World.frozen?, st1], fun v' => ?_⟩;have M1 := MA.kept O1 (fun e => (hne bm e).2 rfl);exact M1.kept ((Only.refl (fun k => k = b) w1).setCell (p := ⟨b, 0, none⟩) (.inl rfl) v') hbm
set_option maxRecDepth 100000 in
set_option maxHeartbeats 2000000 in
theorem push_any {b bm p : Nat} {sv : Value} {d : List T} {w : World} (h : HeapAt w b bm sv d p) (hH : Heapy T.key T.num d) (hlim : p < 1099511627776) (key v : Int) :
   Calls Tryd.prog 65 #[.pointer (some ⟨b, 0, none⟩), .int .i64 key, .int .i64 v] w fun e w' => e = .returned (.int .i64 p) ∧ ∃ d' sv', HeapAt w' b bm sv' d' (p + 1) ∧ d'.Perm (d ++ [⟨key, p, v⟩]) ∧ Heapy T.key T.num d' ∧ OwnNext w sv sv' ∧ Only (Foot b bm sv) w w' := by
 obtain ⟨oa, cap, rfl, hnc, hcm⟩ := ownsRow_shape h.row;obtain ⟨n, hn⟩ : ∃ n, n = d.length := ⟨_, rfl⟩;have hpn := h.len;rw [← hn] at h ⊢ hnc hpn;have Md := Lib.hid (made_any h);have c0 := h.c0;have c2 := h.c2;have hE := Lib.hid (ex_push hH (⟨key, p, v⟩ : T));replace hn := Lib.hid hn;replace h := Lib.hid h;obtain ⟨i0, hi, hz0, hz1, hz2⟩ := info_parts infoT;clear hH;go_enter Tryd.func65, Tryd.ntmps65
 go_wp2_with (go_at_call 78; refine Md.out.mono ?_; rintro e w' ⟨rfl, rfl⟩)
 go_quiet (fail)
 rename_i nq
 have h1 : HeapAt (w.drewN nq) b bm (.slice oa n cap) d p := h.out.drewN nq;have hsz := Lib.hid (show (w.drewN nq).heap.size = w.heap.size from rfl);have back := Lib.hid (fun F w' => (only_drewN : Only F (w.drewN nq) w' → Only F w w'));clear c0 c2;generalize w.drewN nq = wq at h1 hsz back ⊢;have c0 := h1.c0;have c1 := h1.c1;have c2 := h1.c2;have f0 := h1.f 0;have f2 := h1.f 2;obtain ⟨f, M, hpl⟩ := h1.map;have hrow := h1.row;rw [← hn.out] at hrow M;have hb := h1.lt;have hbm := h1.bm_ne;have PF := Lib.hid (fun w1 w3 sv' => push_fin (w1 := w1) (w3 := w3) (sv' := sv') h1 hn.out hlim ⟨key, p, v⟩ rfl);have hg := fun g hg => (h1.g_ne (g := g) hg)
 replace hg := Lib.hid hg;replace hpl := Lib.hid hpl;have hA : Only (fun k => k = b) wq ((wq.setCell ⟨b, 2, none⟩ (.int .i64 ((p : Int) + 1))).alloc (.cells #[.int .i64 key, .int .i64 p, .int .i64 v] 123)) :=
   ((Only.refl (fun k => k = b) wq).setCell (p := ⟨b, 2, none⟩) (.inl rfl) _).alloc _
 have hrowA := ownsRow_only hrow hA (fun g hg' e => (hg.out g hg').1 e);have MA := M.kept hA (fun e => hbm e);have cA0 : ((wq.setCell ⟨b, 2, none⟩ (.int .i64 ((p : Int) + 1))).alloc (.cells #[.int .i64 key, .int .i64 p, .int .i64 v] 123)).cell? ⟨wq.heap.size, 0, none⟩ = some (.int .i64 key) := cell_top (by simp) rfl;have cA1 : ((wq.setCell ⟨b, 2, none⟩ (.int .i64 ((p : Int) + 1))).alloc (.cells #[.int .i64 key, .int .i64 p, .int .i64 v] 123)).cell? ⟨wq.heap.size, 1, none⟩ = some (.int .i64 p) := cell_top (by simp) rfl;have cA2 : ((wq.setCell ⟨b, 2, none⟩ (.int .i64 ((p : Int) + 1))).alloc (.cells #[.int .i64 key, .int .i64 p, .int .i64 v] 123)).cell? ⟨wq.heap.size, 2, none⟩ = some (.int .i64 v) := cell_top (by simp) rfl;have stA : ((wq.setCell ⟨b, 2, none⟩ (.int .i64 ((p : Int) + 1))).alloc (.cells #[.int .i64 key, .int .i64 p, .int .i64 v] 123)).heap[b]? = some (.cells #[.slice oa n cap, .map (some bm), .int .i64 ((p : Int) + 1)] 110 (0, 0)) := by
   rw [Below.heap_alloc _ _ _ (by simpa [World.setCell] using hb)];have := heap_setCell_same wq b 2 _ _ (.int .i64 ((p : Int) + 1)) h1.st
   simpa using this
 replace stA := Lib.hid stA;replace hrowA := Lib.hid hrowA;replace MA := Lib.hid MA;replace hA := Lib.hid hA;replace cA0 := Lib.hid cA0;replace cA1 := Lib.hid cA1;replace cA2 := Lib.hid cA2;clear hrow M h1;have hE' : Ex_ T.key T.num (d ++ [(⟨key, p, v⟩ : T)]) n := by rw [hn.out]; exact hE.out
 replace hE' := Lib.hid hE';have hp64 : I64 (p : Int) := ⟨by omega, by omega⟩;have hn64 : n < 9223372036854775807 := by omega
 have hnl : n < (d ++ [(⟨key, p, v⟩ : T)]).length := by have := hn.out; simp; omega
 clear hE;go_wp2_with (first
   | (at_builtin; (refine wpList_append_own_at _ rfl _ _ 108 rfl 0 123 i0 (.agg #[.int .i64 0, .int .i64 0, .int .i64 0]) 3 24 Tryd.underlying108 hi hz0 hz1 hz2 rfl (by decide) (.slice oa n cap) n (rowOf enc d) rfl hrowA.out ⟨wq.heap.size, 0, none⟩ 1 1 [.int .i64 key, .int .i64 p, .int .i64 v] rfl rfl (push_news cA0.out cA1.out cA2.out) one_three (by unfold maxLen; omega) (by omega) (Nat.zero_le _) ?_; intro v' w1 hown hgrow _ hloc; obtain ⟨g', cap', rfl, _, _, _, _, _⟩ := ownsRow_head hown (by omega); obtain ⟨k0, k1, k2, MM⟩ := push_mid stA.out hgrow hbm MA.out hg.out; have MB := Lib.hid (MM (.slice (some ⟨g', 0, none⟩) (n + 1) cap')); clear MM))
   | (at_mapUpdate; refine wpList_put_f rfl _ _ _ 107 3 3 rfl Tryd.underlying3 Tryd.underlying3 Tryd.underlying107 bm n f MB.out p n rfl rfl rfl hp64 (by omega) hn64 ?_; intro w3 M3 hg3; obtain ⟨F1, F2, F3⟩ := PF.out w1 w3 _ hgrow hown hloc hpl.out M3 hg3)
   | (go_at_call 79; refine (rise_any F1 (s := n) hnl hE'.out).mono ?_; rintro e w4 ⟨rfl, d4, hH4, hp4, hD4, ho4⟩))
 go_ret
 refine ⟨rfl, d4, _, hH4, hp4, heap_of_down_last (p := n) ?_ hD4, ?_, ?_⟩
 · rw [hp4.length_eq]; have := hn.out; simp; omega
 · intro k hk
   rcases F3 k hk with e | e
   · exact .inl e
   · right; rw [← hsz.out]; exact e
 · refine (back.out _ _ F2).trans ho4 (fun k _ e => e) (fun k hk e => ?_)
   rcases e with e | e
   · exact .inr (.inl e)
   · rcases F3 k e with e | e
     · exact .inr (.inr e)
     · exfalso; have := hsz.out; omega
end Go.Proofs.YtefijbpbenmbgaaDoor.HI
namespace Go.Proofs.YtefijbpbenmbgaaDoor.HI
open Go.RowKit
def Hp (F : Nat → Prop) (w : World) (b : Nat) (L : List T) (p : Nat) : Prop :=
 ∃ bm sv d, HeapAt w b bm sv d p ∧ Heapy T.key T.num d ∧ d.Perm L ∧ ∀ k, Foot b bm sv k → F k
section
variable {F : Nat → Prop} {w : World} {b p : Nat} {L : List T}
theorem Hp.kept {G : Nat → Prop} {w' : World} (h : Hp F w b L p) (ho : Only G w w') (hd : ∀ k, k < w.heap.size → F k → ¬ G k) : Hp F w' b L p := by
 obtain ⟨bm, sv, d, h1, h2, h3, h4⟩ := h;refine ⟨bm, sv, d, h1.kept (F := fun k => k < w.heap.size → G k) ⟨ho.os, ho.tape, ho.output, ho.size, fun k hk hn => ho.block k hk (fun e => hn (fun _ => e))⟩ (fun k hk hn => ?_), h2, h3, h4⟩;have hlt : k < w.heap.size := by
   rcases hk with e | e | e
   · rw [e]; exact h1.lt
   · rw [e]; exact h1.ltm
   · exact h1.ltg e
 exact hd k hlt (h4 k hk) (hn hlt)
theorem Hp.below {w' : World} (h : Hp F w b L p) (ho : Below w.heap.size w w') : Hp F w' b L p := h.kept (G := fun _ => False) (Only.of_below ho) (fun _ _ _ h => h)
theorem Hp.mono {G : Nat → Prop} (h : Hp F w b L p) (hG : ∀ k, F k → G k) : Hp G w b L p := by
 obtain ⟨bm, sv, d, h1, h2, h3, h4⟩ := h;exact ⟨bm, sv, d, h1, h2, h3, fun k hk => hG k (h4 k hk)⟩
theorem mem_at {d : List T} {x : T} (h : x ∈ d) : ∃ i, i < d.length ∧ at_ d i = x := by
 obtain ⟨i, hi, e⟩ := List.getElem_of_mem h;exact ⟨i, hi, by rw [at_eq d i hi]; exact e⟩
end
theorem hp_new (w : World) :
   Calls Tryd.prog 45 #[] w fun e w' => ∃ b, e = .returned (.pointer (some ⟨b, 0, none⟩)) ∧ Hp (fun k => w.heap.size ≤ k) w' b [] 0 ∧ Below w.heap.size w w' :=
 (new_any w).mono fun e w' ⟨he, hH, hb⟩ => ⟨_, he, ⟨_, _, _, hH, fun i h1 h2 => by simp at h2, List.Perm.refl _, fun k hk => by
   rcases hk with e | e | e
   · omega
   · omega
   · simp [Value.ownBlock] at e⟩, hb⟩
section
variable {F : Nat → Prop} {w : World} {b p : Nat} {L : List T}
theorem hp_push (h : Hp F w b L p) (hlim : p < 1099511627776) (hF : ∀ k, w.heap.size ≤ k → F k) (key v : Int) :
   Calls Tryd.prog 65 #[.pointer (some ⟨b, 0, none⟩), .int .i64 key, .int .i64 v] w fun e w' => e = .returned (.int .i64 p) ∧ Hp F w' b (L ++ [⟨key, p, v⟩]) (p + 1) ∧ Only F w w' := by
 obtain ⟨bm, sv, d, h1, h2, h3, h4⟩ := h;refine (push_any h1 h2 hlim key v).mono fun e w' ⟨he, d', sv', g1, g2, g3, g4, g5⟩ => ⟨he, ⟨bm, sv', d', g1, g3, g2.trans (h3.append_right _), fun k hk => ?_⟩, g5.mono (fun k _ hk => h4 k hk)⟩;rcases hk with e | e | e
 · exact h4 k (.inl e)
 · exact h4 k (.inr (.inl e))
 · rcases g4 k e with e | e
   · exact h4 k (.inr (.inr e))
   · exact hF k e
theorem hp_pop_none (h : Hp F w b [] p) :
   Calls Tryd.prog 47 #[.pointer (some ⟨b, 0, none⟩)] w fun e w' => e = .returned (.tuple #[.int .i64 0, .int .i64 0, .int .i64 0, .bool false]) ∧ w = w' := by
 obtain ⟨bm, sv, d, h1, h2, h3, h4⟩ := h;exact pop_none h1 (by rw [h3.length_eq]; rfl)
def IsFirst (x : T) (L : List T) : Prop := x ∈ L ∧ ∀ y ∈ L, le_ T.key T.num x y
theorem first_of {d : List T} (h : Heapy T.key T.num d) (h0 : 0 < d.length) (hp : d.Perm L) : IsFirst (at_ d 0) L :=
 ⟨hp.mem_iff.1 (at_mem d 0 h0), fun y hy => by
   obtain ⟨i, hi, rfl⟩ := mem_at (hp.mem_iff.2 hy);exact heap_first h i hi⟩
theorem hp_pop_some (h : Hp F w b L p) (h0 : 0 < L.length) :
   Calls Tryd.prog 47 #[.pointer (some ⟨b, 0, none⟩)] w fun e w' => ∃ x L', e = .returned (.tuple #[.int .i64 x.key, .int .i64 x.v, .int .i64 x.num, .bool true]) ∧ IsFirst x L ∧ (x :: L').Perm L ∧ Hp F w' b L' p ∧ Only F w w' := by
 obtain ⟨bm, sv, d, h1, h2, h3, h4⟩ := h;have h0' : 0 < d.length := by rw [h3.length_eq]; exact h0
 refine (pop_some h1 h2 h0').mono fun e w' ⟨he, d', sv', g1, g2, g3, g4, g5⟩ => ⟨at_ d 0, d', he, first_of h2 h0' h3, g2.trans h3, ⟨bm, sv', d', g1, g3, List.Perm.refl _, fun k hk => ?_⟩, g5.mono (fun k _ hk => h4 k hk)⟩;rcases hk with e | e | e
 · exact h4 k (.inl e)
 · exact h4 k (.inr (.inl e))
 · exact h4 k (.inr (.inr (by rw [← g4]; exact e)))
end
end Go.Proofs.YtefijbpbenmbgaaDoor.HI
namespace Go.Proofs.YtefijbpbenmbgaaDoor
open Go.RowKit HI
theorem Hp_bound {F : Nat → Prop} {w : World} {b p : Nat} {L : List T} (h : Hp F w b L p) : Hp (fun k => F k ∧ k < w.heap.size) w b L p := by
 obtain ⟨bm, sv, d, h1, h2, h3, h4⟩ := h;refine ⟨bm, sv, d, h1, h2, h3, fun k hk => ⟨h4 k hk, ?_⟩⟩;rcases hk with e | e | e
 · rw [e]; exact h1.lt
 · rw [e]; exact h1.ltm
 · exact h1.ltg e
def TF (B gt g : Nat) (k : Nat) : Prop := B ≤ k ∧ k ≠ gt ∧ k ≠ g
structure TM (B : Nat) (w : World) (gt g b : Nat) (cv : Value) (d : List Int) (L : List T) (p : Nat) : Prop where
 st : w.heap[gt]? = some (.cells #[cv, .slice (some ⟨g, 0, none⟩) d.length d.length, .pointer (some ⟨b, 0, none⟩)] 92 (0, 0))
 dep : DepAt w g d
 hp : Hp (TF B gt g) w b L p
 ne : g ≠ gt
 lo : B ≤ gt ∧ B ≤ g
structure MetR (L : List T) (d : List Int) (gn : Nat → Bool) : Prop where
 all : ∀ x ∈ L, ∃ q : Nat, x.key = q ∧ q < d.length ∧ d.getD q (-1) ≠ -1 ∧ gn q = false ∧ x.v = d.getD q (-1)
 has : ∀ q, q < d.length → d.getD q (-1) ≠ -1 → gn q = false → ∃ x ∈ L, x.key = (q : Int)
 uniq : L.Pairwise fun x y => x.key ≠ y.key
 gone : ∀ q, gn q = true → d.getD q (-1) ≠ -1
section
variable {B gt g b p : Nat} {cv : Value} {d : List Int} {L : List T} {w W : World}
theorem TM.lt (h : TM B w gt g b cv d L p) : gt < w.heap.size := (Array.getElem?_eq_some_iff.1 h.st).1
theorem TM.below (h : TM B w gt g b cv d L p) (hb : Below w.heap.size w W) : TM B W gt g b cv d L p :=
 ⟨(hb.block gt h.lt).trans h.st, h.dep.below hb, h.hp.below hb, h.ne, h.lo⟩
theorem TM.c0 (h : TM B w gt g b cv d L p) : w.cell? ⟨gt, 0, none⟩ = some cv := by simp [World.cell?, h.st]
theorem TM.c1 (h : TM B w gt g b cv d L p) : w.cell? ⟨gt, 1, none⟩ = some (.slice (some ⟨g, 0, none⟩) d.length d.length) := by simp [World.cell?, h.st]
theorem TM.c2 (h : TM B w gt g b cv d L p) : w.cell? ⟨gt, 2, none⟩ = some (.pointer (some ⟨b, 0, none⟩)) := by simp [World.cell?, h.st]
theorem TM.fr (h : TM B w gt g b cv d L p) (j : Nat) : w.frozen? ⟨gt, j, none⟩ = false := by simp [World.frozen?, h.st]
theorem TM.set (h : TM B w gt g b cv d L p) (i : Nat) (v : Int) : TM B (w.setCell ⟨g, i, none⟩ (.int .i64 v)) gt g b cv (d.set i v) L p := by
 have ho : Only (fun k => k = g) w (w.setCell ⟨g, i, none⟩ (.int .i64 v)) := (Only.refl (fun k => k = g) w).setCell (.inl rfl) _;refine ⟨?_, h.dep.set i v, h.hp.kept ho (fun k _ hk e => hk.2.2 e), h.ne, h.lo⟩;rw [List.length_set];exact (ho.block gt h.lt (fun e => h.ne e.symm)).trans h.st
theorem TM.heap {L' : List T} {p' : Nat} (h : TM B w gt g b cv d L p) (ho : Only (TF B gt g) w W) (hp : Hp (TF B gt g) W b L' p') : TM B W gt g b cv d L' p' :=
 ⟨(ho.block gt h.lt (fun e => e.2.1 rfl)).trans h.st, h.dep.only ho (fun e => e.2.2 rfl), hp, h.ne, h.lo⟩
end
theorem MetR.push {L : List T} {d : List Int} {gn : Nat → Bool} (h : MetR L d gn) {q p : Nat} {v : Int} (hq : q < d.length) (hn : d.getD q (-1) = -1) (hv : v ≠ -1) : MetR (L ++ [⟨q, p, v⟩]) (d.set q v) gn := by
 have hgq : gn q = false := by
   cases e : gn q with
   | false => rfl
   | true => exact absurd hn (h.gone q e)
 refine ⟨fun x hx => ?_, fun r hr hm hg => ?_, ?_, fun r hr => ?_⟩
 · rw [List.length_set]
   rcases List.mem_append.1 hx with hx | hx
   · obtain ⟨r, e1, e2, e3, e4, e5⟩ := h.all x hx
     have hrq : r ≠ q := fun e => e3 (by rw [e]; exact hn)
     refine ⟨r, e1, e2, ?_, e4, ?_⟩
     · rw [getD_set _ _ _ _ hq, if_neg hrq]; exact e3
     · rw [getD_set _ _ _ _ hq, if_neg hrq]; exact e5
   · obtain rfl := List.mem_singleton.1 hx
     exact ⟨q, rfl, hq, by rw [getD_set _ _ _ _ hq, if_pos rfl]; exact hv, hgq, by rw [getD_set _ _ _ _ hq, if_pos rfl]⟩
 · rw [List.length_set] at hr
   by_cases e : r = q
   · exact ⟨_, List.mem_append.2 (.inr (List.mem_singleton.2 rfl)), by rw [e]⟩
   · rw [getD_set _ _ _ _ hq, if_neg e] at hm
     obtain ⟨x, hx, hk⟩ := h.has r hr hm hg;exact ⟨x, List.mem_append.2 (.inl hx), hk⟩
 · rw [List.pairwise_append]
   refine ⟨h.uniq, List.pairwise_singleton _ _, fun x hx y hy => ?_⟩;obtain rfl := List.mem_singleton.1 hy;obtain ⟨r, e1, e2, e3, e4, e5⟩ := h.all x hx;intro e;rw [e1] at e;have e' : (r : Int) = (q : Int) := e;have hrq : r = q := by omega
   exact e3 (by rw [hrq]; exact hn)
 · rw [getD_set _ _ _ _ hq]
   split
   · exact hv
   · exact h.gone r hr
section
variable {B gt g b p : Nat} {cv : Value} {d : List Int} {L : List T} {w : World}
def MetPost (B gt g b : Nat) (cv : Value) (pm : Nat) (gn : Nat → Bool) (r : Option (List Int)) (e : Ending) (w w' : World) : Prop :=
 e = .returned (.bool r.isSome) ∧ Only (fun k => B ≤ k) w w' ∧ ∀ d1, r = some d1 → ∃ L' p', TM B w' gt g b cv d1 L' p' ∧ MetR L' d1 gn ∧ p' ≤ pm
set_option maxRecDepth 20000 in
set_option maxHeartbeats 4000000 in
theorem meet_any {gn : Nat → Bool} (h : TM B w gt g b cv d L p) (hM : MetR L d gn) (hcv : ∃ ad cap, cv = .slice ad d.length cap) (hp : p < 1099511627776) {q : Nat} {v : Int} (hq : q ≤ d.length) (hv : 0 ≤ v) (_hd : ∀ r, d.getD r (-1) = -1 ∨ 0 ≤ d.getD r (-1)) (hn : d.length ≤ 8192) :
   Calls Tryd.prog 46 #[.pointer (some ⟨gt, 0, none⟩), .int .i64 q, .int .i64 v] w fun e w' => MetPost B gt g b cv (p + 1) gn (meetI d q v) e w w' := by
 obtain ⟨r, hr⟩ := exHid (meetI d q v);rw [hr.out];have hr' := hr.out;unfold meetI at hr';have c0 := h.c0;have c1 := h.c1;have c2 := h.c2;have f0 := h.fr 0;obtain ⟨ad, cap, rfl⟩ := hcv;have hT := Lib.hid h;have hB := h.lo;have hlt := h.dep.lt;have hgl := h.lt;have hq64 : (q : Int) ≤ 8192 := by omega
 rcases Nat.lt_or_ge q d.length with hql | hql
 · have hx := h.dep.cell hql
   have hfz := h.dep.fr q;rw [if_neg (by omega)] at hr';have hne : ((q : Int) == (d.length : Int)) = false := beq_eq_false_iff_ne.2 (by omega);have hqi : (q : Int) < (d.length : Int) := by omega
   obtain ⟨y, hy⟩ := exHid (d.getD q (-1));rw [hy.out] at hr' hx;obtain ⟨n, hn'⟩ := exHid d.length;rw [hn'.out] at c1 c0 hne hqi;clear h;by_cases h1 : y = -1
   · subst h1
     rw [if_pos rfl] at hr';have P := fun (W : World) (hW : TM B W gt g b (.slice ad n cap) (d.set q v) L p) => hp_push hW.hp hp (fun k hk => ⟨by have := hW.lo; have := hW.lt; omega, by have := hW.lt; omega, by have := hW.dep.lt; omega⟩) q v
     have hS := Lib.hid (hT.out.set q v);rw [hn'.out] at hS;have hcl : (w.setCell ⟨g, q, none⟩ (.int .i64 v)).cell? ⟨g, q, none⟩ = some (.int .i64 v) := by
       have := hS.out.dep.cell (i := q) (by rw [List.length_set]; exact hql);rw [getD_set _ _ _ _ hql, if_pos rfl] at this;exact this
     have k0 := hS.out.c0;have k1 := hS.out.c1;have k2 := hS.out.c2;rw [List.length_set, hn'.out] at k1;replace hr' := Lib.hid hr';go_enter Tryd.func46, Tryd.ntmps46
     go_wp2_with (go_at_call 65; refine (P _ hS.out).mono ?_; rintro e w1 ⟨rfl, hH, ho⟩; have hT1 := TM.heap hS.out ho hH; have j1 := hT1.c1; have jx := hT1.dep.cell (i := q) (by rw [List.length_set]; exact hql); rw [getD_set _ _ _ _ hql, if_pos rfl] at jx; rw [List.length_set, hn'.out] at j1; replace hH := Lib.hid hH; replace ho := Lib.hid ho; replace hT1 := Lib.hid hT1)
     go_ret
     refine ⟨ret_bool (by rw [← hr'.out]; simp), ?_, fun d1 e => ?_⟩
     · exact ((Only.refl (fun k => B ≤ k) w).setCell (p := ⟨g, q, none⟩) (.inl hB.2) _).then (ho.out.mono (fun k _ hk => hk.1))
     · have hr2 := hr'.out
       rw [e] at hr2;obtain rfl := Option.some.inj hr2;rw [hn'.out];exact ⟨_, _, hT1.out, hM.push hql hy.out (by omega), Nat.le_refl _⟩
   · rw [if_neg h1] at hr'
     have hy1 : (y == -1) = false := beq_eq_false_iff_ne.2 h1;by_cases h2 : y = v
     · subst h2
       rw [if_pos rfl] at hr';replace hr' := Lib.hid hr';replace hy := Lib.hid hy.out;go_enter Tryd.func46, Tryd.ntmps46
       go_wp2
       go_ret
       refine ⟨ret_bool (by rw [← hr'.out]; simp), Only.refl _ _, fun d1 e => ?_⟩;have hr2 := hr'.out;rw [e] at hr2;obtain rfl := Option.some.inj hr2;exact ⟨_, _, hT.out, hM, by omega⟩
     · rw [if_neg h2] at hr'
       have hy2 : (y == v) = false := beq_eq_false_iff_ne.2 h2;replace hr' := Lib.hid hr';replace hy := Lib.hid hy.out;go_enter Tryd.func46, Tryd.ntmps46
       go_wp2
       go_ret
       refine ⟨ret_bool (by rw [← hr'.out]; rfl), Only.refl _ _, fun d1 e => ?_⟩;rw [← hr'.out] at e;cases e
 · rw [if_pos hql] at hr'
   have hne : ((q : Int) == (d.length : Int)) = true := by rw [beq_iff_eq]; omega
   replace hr' := Lib.hid hr';clear h;go_enter Tryd.func46, Tryd.ntmps46
   go_wp2
   go_ret
   refine ⟨ret_bool (by rw [← hr'.out]; rfl), Only.refl _ _, fun d1 e => ?_⟩;rw [← hr'.out] at e;cases e
theorem meet_int {gn : Nat → Bool} (h : TM B w gt g b cv d L p) (hM : MetR L d gn) (hcv : ∃ ad cap, cv = .slice ad d.length cap) (hp : p < 1099511627776) {q v : Int} (hq : 0 ≤ q) (hq2 : q ≤ d.length) (hv : 0 ≤ v) (hd : ∀ r, d.getD r (-1) = -1 ∨ 0 ≤ d.getD r (-1)) (hn : d.length ≤ 8192) :
   Calls Tryd.prog 46 #[.pointer (some ⟨gt, 0, none⟩), .int .i64 q, .int .i64 v] w fun e w' => MetPost B gt g b cv (p + 1) gn (meetI d q.toNat v) e w w' := by
 have := meet_any h hM hcv hp (q := q.toNat) (v := v) (by omega) hv hd hn;rw [Int.toNat_of_nonneg hq] at this;exact this
end
end Go.Proofs.YtefijbpbenmbgaaDoor
namespace Go.Proofs.YtefijbpbenmbgaaDoor
open Go.RowKit
def tkI (op : Nat) : Nat := if op = 24 then 5 else if op = 50 ∨ op = 51 ∨ op = 56 then 6 else 0
def nkI (op : Nat) : Nat := if op = 23 then 4 else 0
def fldV (op : Nat) : Value := .agg #[.int .i64 (akI op), .int .i64 (nkI op), .int .i64 (tkI op)]
theorem fld_ret {op : Nat} {a b c : Int} (h : (akI op : Int) = a ∧ (nkI op : Int) = b ∧ (tkI op : Int) = c) : Ending.returned (.agg #[.int .i64 a, .int .i64 b, .int .i64 c]) = .returned (fldV op) := by
 obtain ⟨rfl, rfl, rfl⟩ := h;rfl
set_option maxRecDepth 20000 in
set_option maxHeartbeats 4000000 in
theorem fieldsOf_any (op : Nat) (w : World) :
   Calls Tryd.prog 30 #[.int .u8 op] w fun e w' => e = .returned (fldV op) ∧ Below w.heap.size w w' := by
 go_enter Tryd.func30, Tryd.ntmps30
 go_wp2
 all_goals refine bodyPost_ret (results_cell_row rfl _ _ w.heap.size _ _ (0, 0) _ rfl (heap_alloc_new w _) Tryd.underlying65 rfl (by kernel_rfl)) rfl ⟨fld_ret ?_, by go_grown⟩
 all_goals (simp only [beq_iff_eq, beq_eq_false_iff_ne, ne_eq] at *; unfold akI nkI tkI; refine ⟨?_, ?_, ?_⟩ <;> (repeat' split) <;> omega)
theorem run_field_fld (op : Nat) (w : World) : (Instr.field 65 (fldV op) 0).run Tryd.prog w = .ok (.int .i64 (akI op)) w := by kernel_rfl
set_option maxRecDepth 20000 in
theorem isFree_any (op : Nat) (w : World) :
   Calls Tryd.prog 49 #[.int .u8 op] w fun e w' => e = .returned (.bool (freeI op)) ∧ w = w' := by
 rcases h1 : ((op : Int) == 1) with _ | _ <;> rcases h5 : ((op : Int) == 5) with _ | _
 all_goals
   have e1 : freeI op = (((op : Int) == 1) || ((op : Int) == 5)) := by
     unfold freeI;rw [Bool.eq_iff_iff];simp only [Bool.or_eq_true, beq_iff_eq];omega
   rw [h1, h5] at e1;rw [e1];clear e1;go_enter Tryd.func49, Tryd.ntmps49
   go_wp2
   go_ret
   exact ⟨rfl, rfl⟩
set_option maxRecDepth 20000 in
theorem allowsF_any (op : Nat) (a : Int) (w : World) :
   Calls Tryd.prog 74 #[.int .i64 (akI op), .int .i64 a] w fun e w' => e = .returned (.bool (akI op == 1 || aOK (akI op) 0 a)) ∧ w = w' := by
 obtain ⟨k, hk⟩ := exHid (akI op);rw [hk.out];clear hk;obtain ⟨B, hB⟩ := exHid (k == 1 || aOK k 0 a);rw [hB.out];go_enter Tryd.func74, Tryd.ntmps74
 by_cases h0 : 0 ≤ a
 all_goals by_cases h1 : a < 100
 all_goals by_cases h2 : a ≤ 2048
 all_goals go_wp2
 all_goals go_ret
 all_goals refine ⟨ret_bool ?_, rfl⟩
 all_goals rw [← hB.out, Bool.eq_iff_iff]
 all_goals clear hB
 all_goals (simp only [beq_iff_eq, beq_eq_false_iff_ne, ne_eq, Bool.or_eq_true, Bool.false_eq_true, false_iff, true_iff] at *; unfold aOK; (repeat' split) <;> simp only [decide_eq_true_eq] <;> omega)
end Go.Proofs.YtefijbpbenmbgaaDoor
namespace Go.Proofs.YtefijbpbenmbgaaDoor
open Go.RowKit
theorem tup2 {a b c d : Int} (h : a = c ∧ b = d) : Ending.returned (.tuple #[.int .i64 a, .int .i64 b]) = .returned (.tuple #[.int .i64 c, .int .i64 d]) := by rw [h.1, h.2]
set_option maxRecDepth 20000 in
set_option maxHeartbeats 8000000 in
theorem moves_any (x : Ins) (w : World) :
   Calls Tryd.prog 68 #[insV x] w fun e w' => e = .returned (.tuple #[.int .i64 (takesI x), .int .i64 (leaveR x.op)]) ∧ Below w.heap.size w w' := by
 obtain ⟨op, a, num, tx⟩ := x;obtain ⟨tk, hT⟩ := exHid (takesI ⟨op, a, num, tx⟩);obtain ⟨lv, hL⟩ := exHid (leaveR op : Int);dsimp only;rw [hT.out, hL.out];unfold insV;dsimp only;go_enter Tryd.func68, Tryd.ntmps68
 go_wp2
 all_goals refine bodyPost_ret (results_tmp2 rfl _ _ _) rfl ?_
 all_goals refine ⟨tup2 ?_, by go_grown⟩
 all_goals (rw [← hT.out, ← hL.out]; clear hT hL; simp only [beq_iff_eq, beq_eq_false_iff_ne, ne_eq] at *; unfold takesI akI takesR leaveR; dsimp only; refine ⟨?_, ?_⟩ <;> (repeat' split) <;> omega)
end Go.Proofs.YtefijbpbenmbgaaDoor
namespace Go.Proofs.YtefijbpbenmbgaaDoor
open Go.RowKit HI
structure ThrIn (B : Nat) (w : World) (gt g b : Nat) (cv : Value) (d : List Int) (L : List T) (p : Nat) (gn : Nat → Bool) (code : List Ins) (p0 : Nat) : Prop where
 tm : TM B w gt g b cv d L p
 met : MetR L d gn
 ins : InsIn w cv code
 len : code.length = d.length
 n : d.length ≤ 8192
 p : p < 1099511620000
 lt : p0 < d.length
 dp : 0 ≤ d.getD p0 (-1) ∧ d.getD p0 (-1) ≤ 100000
 nn : ∀ r, d.getD r (-1) = -1 ∨ 0 ≤ d.getD r (-1)
 tk : 0 ≤ takesI (inAt code p0) ∧ takesI (inAt code p0) ≤ 2048
 tg : akI (inAt code p0).op = 1 → 0 ≤ (inAt code p0).a ∧ (inAt code p0).a < d.length
theorem meetI_nn {d d1 : List Int} {q : Nat} {v : Int} (h : meetI d q v = some d1) (h0 : 0 ≤ v) (hd : ∀ r, d.getD r (-1) = -1 ∨ 0 ≤ d.getD r (-1)) : d1.length = d.length ∧ ∀ r, d1.getD r (-1) = -1 ∨ 0 ≤ d1.getD r (-1) := by
 unfold meetI at h;split at h
 · cases h
 · split at h
   · cases h
     refine ⟨List.length_set .., fun r => ?_⟩;rw [getD_set _ _ _ _ (by omega)];split
     · exact .inr h0
     · exact hd r
   · split at h
     · cases h; exact ⟨rfl, hd⟩
     · cases h
section
variable {B gt g b p p0 : Nat} {cv : Value} {d : List Int} {L : List T} {w : World} {gn : Nat → Bool} {code : List Ins}
set_option maxRecDepth 20000 in
set_option maxHeartbeats 600000 in
theorem thr_short (h : ThrIn B w gt g b cv d L p gn code p0)  (hs : d.getD p0 (-1) < takesI (inAt code p0)) :
   Calls Tryd.prog 48 #[.pointer (some ⟨gt, 0, none⟩), .int .i64 p0, .int .i64 (d.getD p0 (-1))] w fun e w' => MetPost B gt g b cv (p + 2) gn (stepI code d p0) e w w' := by
 obtain ⟨h1, h2, h3, h4, h5, h6, h7, h8, h9, h10, h11⟩ := h;obtain ⟨r, hr0⟩ := exHid (stepI code d p0);rw [hr0.out];have hr1 := hr0.out;unfold stepI at hr1;dsimp only at hr1;clear hr0;have hc := h1.c0;have hsz := h1.lt;have hB := h1.lo;obtain ⟨ad, cap, hcv, hlc, hcm, hbig⟩ := id h3;clear hbig;have hcv' : ∃ ad cap, cv = .slice ad d.length cap := ⟨ad, cap, by rw [hcv, h4]⟩;obtain ⟨dp, hdp⟩ : ∃ x, d.getD p0 (-1) = x := ⟨_, rfl⟩;rw [hdp] at h8 hs hr1 ⊢;replace hdp := Lib.hid hdp;have M := fun W => moves_any (inAt code p0) W
 obtain ⟨tk, hT⟩ := exHid (takesI (inAt code p0));obtain ⟨lv, hL⟩ := exHid (leaveR (inAt code p0).op : Int);have hlv := leaveR_le (inAt code p0).op;have hLo := hL.out;rw [hT.out, hL.out] at M;rw [hT.out] at hs h10 hr1;rw [if_pos hs] at hr1;replace hr1 := Lib.hid hr1;replace hT := Lib.hid hT.out;replace hL := Lib.hid hL.out;have hlv0 : 0 ≤ lv ∧ lv ≤ 1 := by rw [← hL.out]; omega
 clear hLo hlv;obtain ⟨g0, off, cap0, ecv, hg0, x0, x1, x2, x3⟩ := h3.cells (Below.refl _ w) (i := p0) (by omega) (op := (inAt code p0).op) (a := (inAt code p0).a) (x := (inAt code p0).num) (tx := (inAt code p0).text) rfl;unfold insV at M;generalize (inAt code p0).op = op at *;generalize (inAt code p0).num = nm at *;generalize (inAt code p0).text = tx at *;generalize (inAt code p0).a = a at *;rw [ecv] at hc;have hp64 : (p0 : Int) < (code.length : Int) := by omega
 have hp65 : (p0 : Int) ≤ 8192 := by omega
 obtain ⟨N, hN⟩ := exHid code.length;rw [hN.out] at hc hp64;have hd1 : 0 ≤ dp := h8.1;have hd2 : dp ≤ 100000 := h8.2;have ht1 : 0 ≤ tk := h10.1;have ht2 : tk ≤ 2048 := h10.2;have hl1 : 0 ≤ lv := hlv0.1;have hl2 : lv ≤ 1 := hlv0.2;replace h8 := Lib.hid h8;replace h10 := Lib.hid h10;replace hlv0 := Lib.hid hlv0;replace h5 := Lib.hid h5;replace h6 := Lib.hid h6;replace h11 := Lib.hid h11;replace hB := Lib.hid hB;replace hcm := Lib.hid hcm;have h1' := Lib.hid h1;replace h2 := Lib.hid h2;replace h3 := Lib.hid h3;replace h4 := Lib.hid h4;replace h7 := Lib.hid h7;replace hcv' := Lib.hid hcv';replace hcv := Lib.hid hcv;replace h9 := Lib.hid h9;clear h1 hlc
 skip
 go_enter Tryd.func48, Tryd.ntmps48
 go_wp2_with first
   | (go_at_call 68; refine (M _).mono ?_; rintro e w1 ⟨rfl, hb⟩; have hk : Below w.heap.size w w1 := below_next (by go_grown) hb; have hz := hk.size; have k0 := (hb.cell (p := ⟨w.heap.size, 0, none⟩) (by simp)).trans (World.cell?_alloc_new ..); have k1 := (hb.cell (p := ⟨w.heap.size, 1, none⟩) (by simp)).trans (World.cell?_alloc_new ..); have hTw := Lib.hid (h1'.out.below hk); replace hb := Lib.hid hb; simp at k0 k1)
 go_ret
 have hB' := hB.out;refine ⟨ret_bool (by rw [← hr1.out]; rfl), (Only.of_below (F := fun k => B ≤ k) hk), fun d1 e => ?_⟩;rw [← hr1.out] at e;cases e
end
end Go.Proofs.YtefijbpbenmbgaaDoor
