/- A part of the proof: JHPush. No condition. -/
import Derived.Maps.AppendAt
import Derived.Test.YtcabolfookofoaaGreatDoorQ32
set_option linter.unusedVariables false
set_option linter.unusedSimpArgs false
namespace Go.Proofs.YtcabolfookofoaaGreatDoor.HI
open Go.RowKit
theorem infoT : (Tryz.prog.info? 176).map (fun i => (i.zero, i.size, i.bytes)) = some (some (.agg #[.int .i64 0, .int .i64 0, .int .i64 0]), 3, 24) := by kernel_rfl
set_option maxHeartbeats 400000 in
theorem new_any (w : World) :
   Calls Tryz.prog 67 #[] w fun e w' => e = .returned (.pointer (some ⟨w.heap.size + 1, 0, none⟩)) ∧ HeapAt w' (w.heap.size + 1) w.heap.size (.slice none 0 0) [] 0 ∧ Below w.heap.size w w' := by
 have hmm := @run_makeMap Tryz.prog;go_enter Tryz.func67, Tryz.ntmps67
 go_wp2
 go_ret
 refine ⟨by simp, ?_, by go_grown⟩;have M : MapIs Tryz.prog 3 3 (w.alloc (.map #[] 0)) w.heap.size (fun _ => none) 0 := MapIs.made w;refine ⟨?_, World.ownsRow_nil _ _ _ _, ⟨fun _ => none, ?_, Pl.nil⟩, fun i hi => by simp at hi, by simp, by omega⟩
 · have := heap_alloc_new (w.alloc (.map #[] 0)) (.cells #[.slice none 0 0, .map (some w.heap.size), .int .i64 0] 140)
   simpa using this
 · exact M.kept (F := fun _ => False) ((Only.refl _ _).alloc _) (fun h => h)
def OwnNext (w : World) (sv sv' : Value) : Prop := ∀ k, sv'.ownBlock = some k → sv.ownBlock = some k ∨ w.heap.size ≤ k
theorem push_fin {b bm p n cap : Nat} {oa : Option Addr} {d : List T} {w w1 w3 : World} {sv' : Value} (h : HeapAt w b bm (.slice oa n cap) d p) (hn : n = d.length) (hlim : p < 1099511627776) (x : T) (hx : x.num = p)
   (hg : ((w.setCell ⟨b, 2, none⟩ (.int .i64 ((p : Int) + 1))).alloc (.cells #[.int .i64 x.key, .int .i64 x.num, .int .i64 x.v] 176)).grownBy w1 (Value.slice oa n cap).ownBlock)
   (hown : w1.ownsRow 0 176 3 sv' (n + 1) (rowOf enc d ++ enc x))
   (hloc : sv'.ownBlock = (Value.slice oa n cap).ownBlock ∨ sv'.ownBlock = some ((w.setCell ⟨b, 2, none⟩ (.int .i64 ((p : Int) + 1))).alloc (.cells #[.int .i64 x.key, .int .i64 x.num, .int .i64 x.v] 176)).heap.size)
   {f : Int → Option Nat} (hpl : Pl T.num f d)
   (hM : MapIs Tryz.prog 3 3 w3 bm (fun y => if y = (p : Int) then some n else f y) (if (f p).isSome then n else n + 1)) (hg3 : (w1.setCell ⟨b, 0, none⟩ sv').grownBy w3 (some bm)) :
   HeapAt w3 b bm sv' (d ++ [x]) (p + 1) ∧ Only (Foot b bm (.slice oa n cap)) w w3 ∧ OwnNext w (.slice oa n cap) sv' := by
 have hb := h.lt;have hbm := h.bm_ne;have hbml := h.ltm;have hA : Only (fun k => k = b) w ((w.setCell ⟨b, 2, none⟩ (.int .i64 ((p : Int) + 1))).alloc (.cells #[.int .i64 x.key, .int .i64 x.num, .int .i64 x.v] 176)) :=
   ((Only.refl (fun k => k = b) w).setCell (p := ⟨b, 2, none⟩) (.inl rfl) _).alloc _
 have stA : ((w.setCell ⟨b, 2, none⟩ (.int .i64 ((p : Int) + 1))).alloc (.cells #[.int .i64 x.key, .int .i64 x.num, .int .i64 x.v] 176)).heap[b]? = some (.cells #[.slice oa n cap, .map (some bm), .int .i64 ((p : Int) + 1)] 140 (0, 0)) := by
   rw [Below.heap_alloc _ _ _ (by simpa [World.setCell] using hb)];have := heap_setCell_same w b 2 _ _ (.int .i64 ((p : Int) + 1)) h.st
   simpa using this
 have hsA : w.heap.size ≤ ((w.setCell ⟨b, 2, none⟩ (.int .i64 ((p : Int) + 1))).alloc (.cells #[.int .i64 x.key, .int .i64 x.num, .int .i64 x.v] 176)).heap.size := hA.size;generalize hW : (w.setCell ⟨b, 2, none⟩ (.int .i64 ((p : Int) + 1))).alloc (.cells #[.int .i64 x.key, .int .i64 x.num, .int .i64 x.v] 176) = wA at *;have hgne : ∀ g, (Value.slice oa n cap).ownBlock = some g → g ≠ b ∧ g ≠ bm := fun g hg => h.g_ne hg;have O1 : Only (fun k => (Value.slice oa n cap).ownBlock = some k) wA w1 := Only.of_grown hg (fun k e => e);have hb1 : b < w1.heap.size := Nat.lt_of_lt_of_le hb (Nat.le_trans hsA hg.size);have st1 := (O1.block b (Nat.lt_of_lt_of_le hb hsA) (fun e => (hgne b e).1 rfl)).trans stA;have st2 : (w1.setCell ⟨b, 0, none⟩ sv').heap[b]? = some (.cells #[sv', .map (some bm), .int .i64 ((p : Int) + 1)] 140 (0, 0)) := by
   have := heap_setCell_same w1 b 0 _ _ sv' st1
   simpa using this
 have O3 : Only (fun k => k = bm) (w1.setCell ⟨b, 0, none⟩ sv') w3 := Only.of_grown hg3 (fun k e => by injection e with e; exact e.symm);have hb2 : b < (w1.setCell ⟨b, 0, none⟩ sv').heap.size := by simpa [World.setCell] using hb1
 have st3 := (O3.block b hb2 (fun e => hbm e.symm)).trans st2;have hsv : ∀ g, sv'.ownBlock = some g → g ≠ b ∧ g ≠ bm := by
   intro g hg';rcases hloc with e | e
   · rw [e] at hg'; exact hgne g hg'
   · rw [e] at hg'; injection hg' with hg'; subst hg'; exact ⟨by omega, by omega⟩
 have hlen : (d ++ [x]).length = n + 1 := by simp [hn]
 have hfp : f (p : Int) = none := by
   cases hf : f (p : Int) with
   | none => rfl
   | some v =>
     obtain ⟨hv, he⟩ := hpl.2 _ _ hf;have := h.num v hv;omega
 refine ⟨⟨?_, ?_, ⟨_, ?_, hpl.snoc (x := x) (by rw [hx]; exact hfp)⟩, ?_, ?_, by omega⟩, ?_, ?_⟩
 · rw [st3]; simp
 · rw [hlen, rowOf_snoc]
   exact ownsRow_only (ownsRow_only hown ((Only.refl (fun k => k = b) w1).setCell (p := ⟨b, 0, none⟩) (.inl rfl) _) (fun g hg' e => (hsv g hg').1 e)) O3 (fun g hg' e => (hsv g hg').2 e)
 · rw [hfp] at hM
   rw [hx, hlen, ← hn];exact hM
 · intro i hi
   rw [hlen] at hi;by_cases e : i < d.length
   · rw [at_snoc _ _ _ e]; have := h.num i e; omega
   · have : i = d.length := by omega
     rw [this, at_last, hx]; omega
 · rw [hlen, hn]; have := h.len; omega
 · have a1 := hA.trans O1 (K := Foot b bm (.slice oa n cap)) (fun k _ e => .inl e) (fun k _ e => .inr (.inr e))
   exact (a1.setCell (p := ⟨b, 0, none⟩) (.inl (.inl rfl)) _).trans O3 (fun k _ e => e) (fun k _ e => .inr (.inl e))
 · intro k hk
   rcases hloc with e | e
   · rw [e] at hk; exact .inl hk
   · rw [e] at hk; injection hk with hk; right; omega
theorem one_three {a b c : Int} : ∀ u ∈ [Value.int .i64 a, Value.int .i64 b, Value.int .i64 c], u.oneCell' = true := by
 intro u hu; simp at hu; rcases hu with rfl | rfl | rfl <;> rfl
theorem push_news {W : World} {g : Nat} {a b c : Value} (h0 : W.cell? ⟨g, 0, none⟩ = some a) (h1 : W.cell? ⟨g, 1, none⟩ = some b) (h2 : W.cell? ⟨g, 2, none⟩ = some c) : ∀ j u, [a, b, c][j]? = some u → W.cell? ((⟨g, 0, none⟩ : Addr).add j) = some u := by
 intro j u hj
 match j, hj with
 | 0, hj => simp at hj; subst hj; simpa [Addr.add] using h0
 | 1, hj => simp at hj; subst hj; simpa [Addr.add] using h1
 | 2, hj => simp at hj; subst hj; simpa [Addr.add] using h2
 | j + 3, hj => simp at hj
theorem push_mid {wA w1 : World} {b bm n cap : Nat} {oa : Option Addr} {f : Int → Option Nat} {u : Value} (st : wA.heap[b]? = some (.cells #[.slice oa n cap, .map (some bm), u] 140 (0, 0))) (hg : wA.grownBy w1 (Value.slice oa n cap).ownBlock) (hbm : bm ≠ b) (MA : MapIs Tryz.prog 3 3 wA bm f n)
   (hne : ∀ g, (Value.slice oa n cap).ownBlock = some g → g ≠ b ∧ g ≠ bm) :
   w1.cell? ⟨b, 0, none⟩ = some (.slice oa n cap) ∧ w1.cell? ⟨b, 1, none⟩ = some (.map (some bm)) ∧ w1.frozen? ⟨b, 0, none⟩ = false ∧ ∀ v', MapIs Tryz.prog 3 3 (w1.setCell ⟨b, 0, none⟩ v') bm f n := by
 have O1 : Only (fun k => (Value.slice oa n cap).ownBlock = some k) wA w1 := Only.of_grown hg (fun k e => e);have st1 := (O1.block b (Array.getElem?_eq_some_iff.1 st).1 (fun e => (hne b e).1 rfl)).trans st;refine ⟨by simp [World.cell?, st1], by simp [World.cell?, st1], by simp [World.frozen?, st1], fun v' => ?_⟩;have M1 := MA.kept O1 (fun e => (hne bm e).2 rfl);exact M1.kept ((Only.refl (fun k => k = b) w1).setCell (p := ⟨b, 0, none⟩) (.inl rfl) v') hbm
set_option maxRecDepth 100000 in
set_option maxHeartbeats 2000000 in
theorem push_any {b bm p : Nat} {sv : Value} {d : List T} {w : World} (h : HeapAt w b bm sv d p) (hH : Heapy T.key T.num d) (hlim : p < 1099511627776) (key v : Int) :
   Calls Tryz.prog 100 #[.pointer (some ⟨b, 0, none⟩), .int .i64 key, .int .i64 v] w fun e w' => e = .returned (.int .i64 p) ∧ ∃ d' sv', HeapAt w' b bm sv' d' (p + 1) ∧ d'.Perm (d ++ [⟨key, p, v⟩]) ∧ Heapy T.key T.num d' ∧ OwnNext w sv sv' ∧ Only (Foot b bm sv) w w' := by
 obtain ⟨oa, cap, rfl, hnc, hcm⟩ := ownsRow_shape h.row;obtain ⟨n, hn⟩ : ∃ n, n = d.length := ⟨_, rfl⟩;have hpn := h.len;rw [← hn] at h ⊢ hnc hpn;have Md := Lib.hid (made_any h);have c0 := h.c0;have c2 := h.c2;have hE := Lib.hid (ex_push hH (⟨key, p, v⟩ : T));replace hn := Lib.hid hn;replace h := Lib.hid h;obtain ⟨i0, hi, hz0, hz1, hz2⟩ := info_parts infoT;clear hH;go_enter Tryz.func100, Tryz.ntmps100
 go_wp2_with (go_at_call 123; refine Md.out.mono ?_; rintro e w' ⟨rfl, rfl⟩)
 go_quiet (fail)
 rename_i nq
 have h1 : HeapAt (w.drewN nq) b bm (.slice oa n cap) d p := h.out.drewN nq;have hsz := Lib.hid (show (w.drewN nq).heap.size = w.heap.size from rfl);have back := Lib.hid (fun F w' => (only_drewN : Only F (w.drewN nq) w' → Only F w w'));clear c0 c2;generalize w.drewN nq = wq at h1 hsz back ⊢;have c0 := h1.c0;have c1 := h1.c1;have c2 := h1.c2;have f0 := h1.f 0;have f2 := h1.f 2;obtain ⟨f, M, hpl⟩ := h1.map;have hrow := h1.row;rw [← hn.out] at hrow M;have hb := h1.lt;have hbm := h1.bm_ne;have PF := Lib.hid (fun w1 w3 sv' => push_fin (w1 := w1) (w3 := w3) (sv' := sv') h1 hn.out hlim ⟨key, p, v⟩ rfl);have hg := fun g hg => (h1.g_ne (g := g) hg)
 replace hg := Lib.hid hg;replace hpl := Lib.hid hpl;have hA : Only (fun k => k = b) wq ((wq.setCell ⟨b, 2, none⟩ (.int .i64 ((p : Int) + 1))).alloc (.cells #[.int .i64 key, .int .i64 p, .int .i64 v] 176)) :=
   ((Only.refl (fun k => k = b) wq).setCell (p := ⟨b, 2, none⟩) (.inl rfl) _).alloc _
 have hrowA := ownsRow_only hrow hA (fun g hg' e => (hg.out g hg').1 e);have MA := M.kept hA (fun e => hbm e);have cA0 : ((wq.setCell ⟨b, 2, none⟩ (.int .i64 ((p : Int) + 1))).alloc (.cells #[.int .i64 key, .int .i64 p, .int .i64 v] 176)).cell? ⟨wq.heap.size, 0, none⟩ = some (.int .i64 key) := cell_top (by simp) rfl;have cA1 : ((wq.setCell ⟨b, 2, none⟩ (.int .i64 ((p : Int) + 1))).alloc (.cells #[.int .i64 key, .int .i64 p, .int .i64 v] 176)).cell? ⟨wq.heap.size, 1, none⟩ = some (.int .i64 p) := cell_top (by simp) rfl;have cA2 : ((wq.setCell ⟨b, 2, none⟩ (.int .i64 ((p : Int) + 1))).alloc (.cells #[.int .i64 key, .int .i64 p, .int .i64 v] 176)).cell? ⟨wq.heap.size, 2, none⟩ = some (.int .i64 v) := cell_top (by simp) rfl;have stA : ((wq.setCell ⟨b, 2, none⟩ (.int .i64 ((p : Int) + 1))).alloc (.cells #[.int .i64 key, .int .i64 p, .int .i64 v] 176)).heap[b]? = some (.cells #[.slice oa n cap, .map (some bm), .int .i64 ((p : Int) + 1)] 140 (0, 0)) := by
   rw [Below.heap_alloc _ _ _ (by simpa [World.setCell] using hb)];have := heap_setCell_same wq b 2 _ _ (.int .i64 ((p : Int) + 1)) h1.st
   simpa using this
 replace stA := Lib.hid stA;replace hrowA := Lib.hid hrowA;replace MA := Lib.hid MA;replace hA := Lib.hid hA;replace cA0 := Lib.hid cA0;replace cA1 := Lib.hid cA1;replace cA2 := Lib.hid cA2;clear hrow M h1;have hE' : Ex_ T.key T.num (d ++ [(⟨key, p, v⟩ : T)]) n := by rw [hn.out]; exact hE.out
 replace hE' := Lib.hid hE';have hp64 : I64 (p : Int) := ⟨by omega, by omega⟩;have hn64 : n < 9223372036854775807 := by omega
 have hnl : n < (d ++ [(⟨key, p, v⟩ : T)]).length := by have := hn.out; simp; omega
 clear hE;go_wp2_with (first
   | (at_builtin; (refine wpList_append_own_at _ rfl _ _ 138 rfl 0 176 i0 (.agg #[.int .i64 0, .int .i64 0, .int .i64 0]) 3 24 Tryz.underlying138 hi hz0 hz1 hz2 rfl (by decide) (.slice oa n cap) n (rowOf enc d) rfl hrowA.out ⟨wq.heap.size, 0, none⟩ 1 1 [.int .i64 key, .int .i64 p, .int .i64 v] rfl rfl (push_news cA0.out cA1.out cA2.out) one_three (by unfold maxLen; omega) (by omega) (Nat.zero_le _) ?_; intro v' w1 hown hgrow _ hloc; obtain ⟨g', cap', rfl, _, _, _, _, _⟩ := ownsRow_head hown (by omega); obtain ⟨k0, k1, k2, MM⟩ := push_mid stA.out hgrow hbm MA.out hg.out; have MB := Lib.hid (MM (.slice (some ⟨g', 0, none⟩) (n + 1) cap')); clear MM))
   | (at_mapUpdate; refine wpList_put_f rfl _ _ _ 137 3 3 rfl Tryz.underlying3 Tryz.underlying3 Tryz.underlying137 bm n f MB.out p n rfl rfl rfl hp64 (by omega) hn64 ?_; intro w3 M3 hg3; obtain ⟨F1, F2, F3⟩ := PF.out w1 w3 _ hgrow hown hloc hpl.out M3 hg3)
   | (go_at_call 124; refine (rise_any F1 (s := n) hnl hE'.out).mono ?_; rintro e w4 ⟨rfl, d4, hH4, hp4, hD4, ho4⟩))
 go_ret
 refine ⟨rfl, d4, _, hH4, hp4, heap_of_down_last (p := n) ?_ hD4, ?_, ?_⟩
 · rw [hp4.length_eq]; have := hn.out; simp; omega
 · intro k hk
   rcases F3 k hk with e | e
   · exact .inl e
   · right; rw [← hsz.out]; exact e
 · refine (back.out _ _ F2).trans ho4 (fun k _ e => e) (fun k hk e => ?_)
   rcases e with e | e
   · exact .inr (.inl e)
   · rcases F3 k e with e | e
     · exact .inr (.inr e)
     · exfalso; have := hsz.out; omega
end Go.Proofs.YtcabolfookofoaaGreatDoor.HI
