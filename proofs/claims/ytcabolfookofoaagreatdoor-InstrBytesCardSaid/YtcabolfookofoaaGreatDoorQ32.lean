/- A part of the proof: JHTk0, JHTake, JHPeek. No condition. -/
import Derived.Test.YtcabolfookofoaaGreatDoorQ31
set_option linter.unusedVariables false
set_option linter.unusedSimpArgs false
namespace Go.Proofs.YtcabolfookofoaaGreatDoor.HI
open Go.RowKit
section
variable {b bm p s g n cap : Nat} {d : List T} {w w1 w2 : World}
def cutAt (d : List T) (s n : Nat) : List T := (swp d s n).take n
theorem cutAt_perm (hn : n + 1 = d.length) (hs : s < d.length) : (at_ d s :: cutAt d s n).Perm d := by
 have hll := swp_length d s n;have e : swp d s n = cutAt d s n ++ [at_ d s] := by
   apply ext_at (by unfold cutAt; rw [hll, List.length_append, List.length_take, hll]; simp; omega)
   intro i hi;rw [hll] at hi;have hc : (cutAt d s n).length = n := by unfold cutAt; rw [List.length_take, hll]; omega
   by_cases h : i < n
   · rw [at_snoc _ _ _ (by omega)]; unfold cutAt; rw [at_take _ _ _ h]
   · have : i = (cutAt d s n).length := by omega
     rw [this, at_last, hc, swp_at d s n n hs (by omega), if_pos rfl]
 have h1 := swp_perm d s n hs (by omega);rw [e] at h1;exact (List.perm_append_comm (l₁ := [at_ d s])).trans h1
theorem cutAt_length (hn : n + 1 = d.length) : (cutAt d s n).length = n := by unfold cutAt; rw [List.length_take, swp_length]; omega
theorem take_fin (h : HeapAt w1 b bm (.slice (some ⟨g, 0, none⟩) (n + 1) cap) (swp d s n) p) (hn : n + 1 = d.length) (_hs : s < d.length)
   {f : Int → Option Nat} (_hM : MapIs Tryz.prog 3 3 w1 bm f (swp d s n).length) (hpl : Pl T.num f (swp d s n))
   (M2 : MapIs Tryz.prog 3 3 w2 bm (fun y => if y = (at_ (swp d s n) n).num then none else f y) (n + 1 - if (f (at_ (swp d s n) n).num).isSome = true then 1 else 0)) (gr2 : w1.drew.grownBy w2 (some bm)) :
   (w2.heap[b]? = some (.cells #[.slice (some ⟨g, 0, none⟩) (n + 1) cap, .map (some bm), .int .i64 p] 140 (0, 0)) ∧ w2.ownsRow 0 176 3 (.slice (some ⟨g, 0, none⟩) (n + 1) cap) (n + 1) (rowOf enc (swp d s n))) ∧
   (HeapAt ((((w2.setCell ⟨g, n * 3, none⟩ (.int .i64 0)).setCell ⟨g, n * 3 + 1, none⟩ (.int .i64 0)).setCell ⟨g, n * 3 + 2, none⟩ (.int .i64 0)).setCell ⟨b, 0, none⟩ (.slice (some ⟨g, 0, none⟩) n cap)) b bm (.slice (some ⟨g, 0, none⟩) n cap) (cutAt d s n) p ∧
   Only (fun k => k = b ∨ k = bm ∨ k = g) w1 ((((w2.setCell ⟨g, n * 3, none⟩ (.int .i64 0)).setCell ⟨g, n * 3 + 1, none⟩ (.int .i64 0)).setCell ⟨g, n * 3 + 2, none⟩ (.int .i64 0)).setCell ⟨b, 0, none⟩ (.slice (some ⟨g, 0, none⟩) n cap))) := by
 obtain ⟨hgb, hgm⟩ := h.g_ne (g := g) rfl;have hbm := h.bm_ne;have hll : (swp d s n).length = n + 1 := by rw [swp_length, hn]
 have O2 := only_map gr2;have st2 := (O2.block b h.lt (fun e => hbm e.symm)).trans h.st;have hrow := h.row;rw [hll] at hrow;have row2 := ownsRow_only hrow O2 (fun g' hg' e => by injection hg' with hg'; exact hgm (hg'.trans e));refine ⟨⟨st2, row2⟩, ?_, ?_⟩
 · have r1 := row_store row2 (i := n) (by omega) ⟨0, 0, 0⟩
   dsimp only at r1;have r2 := ownsRow_cut r1 (m := n) (by omega);rw [rowOf_take enc_len _ n (by simp; omega)] at r2;have e1 : ((swp d s n).set n ⟨0, 0, 0⟩).take n = cutAt d s n := by
     unfold cutAt
     apply ext_at (by simp)
     intro i hi;have hi' : i < n := by simp at hi; omega
     rw [at_take _ _ _ hi', at_take _ _ _ hi', at_set _ _ _ _ (by omega), if_neg (by omega)]
   rw [e1] at r2;have hcl := cutAt_length (s := s) hn;have key : ∀ (W : World) (j : Nat) (u : Value) (k : Nat), k ≠ g → (W.setCell ⟨g, j, none⟩ u).heap[k]? = W.heap[k]? := fun W j u k hk => Below.heap_setCell W ⟨g, j, none⟩ u k hk;generalize hW : ((w2.setCell ⟨g, n * 3, none⟩ (.int .i64 0)).setCell ⟨g, n * 3 + 1, none⟩ (.int .i64 0)).setCell ⟨g, n * 3 + 2, none⟩ (.int .i64 0) = W at r2 ⊢;have hWk : ∀ k, k ≠ g → W.heap[k]? = w2.heap[k]? := fun k hk => by rw [← hW, key _ _ _ _ hk, key _ _ _ _ hk, key _ _ _ _ hk]
   have stW := (hWk b (fun e => hgb e.symm)).trans st2;refine ⟨?_, ?_, ⟨_, ?_, hpl.cut (by omega)⟩, ?_, ?_, h.lim⟩
   · have := heap_setCell_same W b 0 _ _ (.slice (some ⟨g, 0, none⟩) n cap) stW
     simpa using this
   · rw [hcl]
     refine ⟨r2.1, ?_⟩;rcases r2.2 with h' | ⟨g', cap', cur, hv, hb0, hg', rest⟩
     · exact .inl h'
     · refine .inr ⟨g', cap', cur, hv, hb0, ?_, rest⟩
       have : g' = g := by simp at hv; exact hv.1.symm
       rw [Below.heap_setCell _ _ _ _ (by rw [this]; exact hgb)];exact hg'
   · have hfs : (f (at_ (swp d s n) n).num).isSome = true := by rw [hpl.1 n (by omega)]; rfl
     rw [hfs] at M2;show MapIs _ _ _ _ _ _ (cutAt d s n).length
     rw [hcl];refine MapIs.kept (F := fun k => k = g ∨ k = b) M2 ⟨?_, ?_, ?_, ?_, fun k _ hk => ?_⟩ (by rintro (e | e); exact hgm e.symm; exact hbm e)
     · rw [← hW]; rfl
     · rw [← hW]; rfl
     · rw [← hW]; rfl
     · rw [← hW]; simp [World.setCell]
     · rw [Below.heap_setCell _ _ _ _ (fun e => hk (.inr e)), hWk k (fun e => hk (.inl e))]
   · intro i hi
     rw [hcl] at hi;unfold cutAt;rw [at_take _ _ _ hi];exact h.num i (by omega)
   · rw [hcl]; have := h.len; omega
 · have O2' : Only (fun k => k = b ∨ k = bm ∨ k = g) w1 w2 := O2.mono (fun k _ e => .inr (.inl e))
   have key : ∀ (W : World) (j : Nat) (u : Value), Only (fun k => k = b ∨ k = bm ∨ k = g) w1 W → Only (fun k => k = b ∨ k = bm ∨ k = g) w1 (W.setCell ⟨g, j, none⟩ u) := fun W j u ho => ho.setCell (p := ⟨g, j, none⟩) (.inl (.inr (.inr rfl))) u;have key2 : ∀ (W : World) (j : Nat) (u : Value), Only (fun k => k = b ∨ k = bm ∨ k = g) w1 W → Only (fun k => k = b ∨ k = bm ∨ k = g) w1 (W.setCell ⟨b, j, none⟩ u) := fun W j u ho => ho.setCell (p := ⟨b, j, none⟩) (.inl (.inl rfl)) u;exact key2 _ _ _ (key _ _ _ (key _ _ _ (key _ _ _ O2')))
end
end Go.Proofs.YtcabolfookofoaaGreatDoor.HI
namespace Go.Proofs.YtcabolfookofoaaGreatDoor.HI
open Go.RowKit
set_option maxRecDepth 100000 in
set_option maxHeartbeats 2000000 in
theorem take_any {b bm p s : Nat} {sv : Value} {d : List T} {w : World} (h : HeapAt w b bm sv d p) (hs : s < d.length) (hH : Heapy T.key T.num d) :
   Calls Tryz.prog 102 #[.pointer (some ⟨b, 0, none⟩), .int .i64 s] w fun e w' => e = .returned (.tuple #[]) ∧ ∃ d' sv', HeapAt w' b bm sv' d' p ∧ (at_ d s :: d').Perm d ∧ Heapy T.key T.num d' ∧ sv'.ownBlock = sv.ownBlock ∧ Only (Foot b bm sv) w w' := by
 obtain ⟨g, cap, rfl, _, hgl, hn, hcm, _⟩ := ownsRow_head h.row (by omega);obtain ⟨n, hn1⟩ : ∃ n, n + 1 = d.length := ⟨d.length - 1, by omega⟩;rw [← hn1] at h ⊢ hn;have c0 := h.c0;have hlim : n + 1 ≤ 1099511627776 := by rw [hn1]; exact Nat.le_trans h.len h.lim
 have hsn : s < n + 1 := by omega
 have hnd : n < d.length := by omega
 have hlt : (n : Int) < (n : Int) + 1 := by omega
 have hcap : (n : Int) ≤ cap := by omega
 have hperm := Lib.hid (cutAt_perm hn1 hs);have hcl := Lib.hid (cutAt_length (s := s) hn1);have hex : s < n → Ex_ T.key T.num (cutAt d s n) s := fun hsl => ex_cut hn1 hsl hH;have hcut : s = n → Heapy T.key T.num (cutAt d s n) := fun e => by
   subst e;unfold cutAt;rw [swp_same d s hs];exact heap_cut hH hn1
 replace hex := Lib.hid hex;replace hcut := Lib.hid hcut;replace h := Lib.hid h;replace hn1 := Lib.hid hn1;clear hH;go_enter Tryz.func102, Tryz.ntmps102
 go_wp2_with (first
   | (go_at_call 126; refine (swap_at h.out (a := s) (c := n) rfl (by omega) hs hnd).mono ?_; rintro e w1 ⟨rfl, hH1, ho1⟩))
 have hll : (swp d s n).length = n + 1 := by rw [swp_length, hn1.out]
 have hrow1 := hH1.row;rw [hll] at hrow1;obtain ⟨_, x1, _⟩ := row_cells hrow1 hll.symm (i := n) (by omega);have y0 := hH1.c0;have y1 := hH1.c1;replace hll := Lib.hid hll;replace hrow1 := Lib.hid hrow1;obtain ⟨f, M1, hpl⟩ := hH1.map;have hnn := hH1.i64n n (by rw [hll.out]; omega);have tf := fun w2 => take_fin (w2 := w2) hH1 hn1.out hs M1 hpl
 replace tf := Lib.hid tf;have M1' := M1.drew;rw [hll.out] at M1';replace M1' := Lib.hid M1';clear M1 hpl;have hbm := hH1.bm_ne;obtain ⟨hgb, hgm⟩ := hH1.g_ne (g := g) rfl;have hb1 := hH1.lt;have hg1 := hH1.ltg (g := g) rfl;clear hH1;obtain ⟨nn, hnu⟩ : ∃ nn, (at_ (swp d s n) n).num = nn := ⟨_, rfl⟩;rw [hnu] at x1 hnn;replace hnu := Lib.hid hnu;go_region_held3 (fun w' => w'.cell? ⟨b, 0, none⟩ = some (.slice (some ⟨g, 0, none⟩) (n + 1) cap) ∧ w'.cell? ⟨b, 1, none⟩ = some (.map (some bm)) ∧ w'.cell? ⟨g, n * 3 + 1, none⟩ = some (.int .i64 nn))
   (first
     | exact ⟨y0, y1, x1⟩
     | exact hold)
   ((refine step_delete_f rfl (.tmp 18) (.tmp 26) 137 3 3 rfl Tryz.underlying3 Tryz.underlying137 bm (n + 1) f M1'.out nn rfl rfl hnn ?_; intro w2 M2 gr2; have hold : w2.cell? ⟨b, 0, none⟩ = some (.slice (some ⟨g, 0, none⟩) (n + 1) cap) ∧ w2.cell? ⟨b, 1, none⟩ = some (.map (some bm)) ∧ w2.cell? ⟨g, n * 3 + 1, none⟩ = some (.int .i64 nn) := (⟨((only_map gr2).cell (p := ⟨b, 0, none⟩) hb1 (fun e => hbm e.symm)).trans y0, ((only_map gr2).cell (p := ⟨b, 1, none⟩) hb1 (fun e => hbm e.symm)).trans y1, ((only_map gr2).cell (p := ⟨g, n * 3 + 1, none⟩) hg1 hgm).trans x1⟩)))
 rw [← hnu.out] at M2;obtain ⟨⟨st2, row2⟩, F1, F2⟩ := tf.out w2 M2 gr2;have z0 : w2.cell? ⟨b, 0, none⟩ = some (.slice (some ⟨g, 0, none⟩) (n + 1) cap) := hold.1;obtain ⟨u0, u1, u2⟩ := row_cells row2 hll.out.symm (i := n) (by rw [hll.out]; omega);have f0 := row2.frozenAt (n * 3);have f1 := row2.frozenAt (n * 3 + 1);have f2 := row2.frozenAt (n * 3 + 2);have f3 : w2.frozen? ⟨b, 0, none⟩ = false := by simp [World.frozen?, st2]
 generalize (at_ (swp d s n) n).key = kk at u0;generalize (at_ (swp d s n) n).num = ku at u1;generalize (at_ (swp d s n) n).v = kv at u2;replace F1 := Lib.hid F1;replace F2 := Lib.hid (ho1.trans F2 (K := Foot b bm (.slice (some ⟨g, 0, none⟩) (n + 1) cap)) (fun k _ e => .inr e) (fun k _ e => by rcases e with e | e | e; exact .inl e; exact .inr (.inl e); exact .inr (.inr (by rw [e]; rfl))));clear M2 gr2 hold st2 row2 y0 y1 x1 ho1 c0;have hgb' : ¬ b = g := fun e => hgb e.symm
 by_cases hsl : s < n
 · have hE := Lib.hid (hex.out hsl)
   go_wp2_with (go_at_call 127; refine (settle_any F1.out (s := s) (by rw [hcl.out]; exact hsl) hE.out).mono ?_; rintro e w3 ⟨rfl, d3, hH3, hp3, hD3, ho3⟩)
   go_end0
   exact ⟨rfl, d3, _, hH3, (hp3.cons _).trans hperm.out, hD3, rfl, F2.out.trans ho3 (fun k _ e => e) (fun k _ e => by rcases e with e | e; exact .inr (.inl e); exact .inr (.inr e))⟩
 · have hsn2 : s = n := by omega
   have hE := Lib.hid (hcut.out hsn2);go_wp2
   go_end0
   exact ⟨rfl, _, _, F1.out, hperm.out, hE.out, rfl, F2.out⟩
end Go.Proofs.YtcabolfookofoaaGreatDoor.HI
namespace Go.Proofs.YtcabolfookofoaaGreatDoor.HI
open Go.RowKit
theorem results_four {fn : Func} {t u v x : Tmp} (h : fn.results = #[.tmp t, .tmp u, .tmp v, .tmp x]) (tmps : Array Value) (P : Program) (w : World) :
   (results fn tmps).run P w = .ok (.tuple #[tmps.getD t undef, tmps.getD u undef, tmps.getD v undef, tmps.getD x undef]) w := by
 simp [results, h]
theorem below_drewN {B n : Nat} {a w : World} (h : Below B a w) : Below B a (w.drewN n) := ⟨h.os, h.tape, h.output, h.size, h.block⟩
theorem HeapAt.drewN {b bm p : Nat} {sv : Value} {d : List T} {w : World} (h : HeapAt w b bm sv d p) (n : Nat) : HeapAt (w.drewN n) b bm sv d p := ⟨h.st, h.row, h.map, h.num, h.len, h.lim⟩
theorem only_drewN {F : Nat → Prop} {w w' : World} {n : Nat} (h : Only F (w.drewN n) w') : Only F w w' := ⟨h.os, h.tape, h.output, h.size, h.block⟩
set_option maxHeartbeats 400000 in
theorem peek_none {b bm p : Nat} {sv : Value} {d : List T} {w : World} (h : HeapAt w b bm sv d p) (h0 : d.length = 0) :
   Calls Tryz.prog 101 #[.pointer (some ⟨b, 0, none⟩)] w fun e w' => e = .returned (.tuple #[.int .i64 0, .int .i64 0, .int .i64 0, .bool false]) ∧ w = w' := by
 have L := len_any h;rw [h0] at L;replace L := Lib.hid L;clear h h0;go_enter Tryz.func101, Tryz.ntmps101
 go_wp2_with (go_at_call 125; refine L.out.mono ?_; rintro e w' ⟨rfl, rfl⟩)
 refine bodyPost_ret (results_four rfl _ _ _) rfl ?_;exact ⟨rfl, rfl⟩
set_option maxHeartbeats 1000000 in
theorem peek_some {b bm p : Nat} {sv : Value} {d : List T} {w : World} (h : HeapAt w b bm sv d p) (h0 : 0 < d.length) :
   Calls Tryz.prog 101 #[.pointer (some ⟨b, 0, none⟩)] w fun e w' => e = .returned (.tuple #[.int .i64 (at_ d 0).key, .int .i64 (at_ d 0).v, .int .i64 (at_ d 0).num, .bool true]) ∧ Below w.heap.size w w' := by
 have L := len_any h;obtain ⟨g, cap, rfl, _, hgl, hn, hcm, _⟩ := ownsRow_head h.row (by omega);have c0 := h.c0;obtain ⟨a0, a1, a2⟩ := row_cells h.row rfl h0;simp only [Nat.zero_mul, Nat.zero_add] at a0 a1 a2;have hne : ((d.length : Int) == 0) = false := by rw [beq_eq_false_iff_ne]; omega
 generalize (at_ d 0).key = kk at a0 ⊢;generalize (at_ d 0).num = ku at a1 ⊢;generalize (at_ d 0).v = kv at a2 ⊢;generalize d.length = n at *;have hi1 : (0 : Int) < n := by omega
 replace L := Lib.hid L;clear h;go_enter Tryz.func101, Tryz.ntmps101
 go_wp2_with (go_at_call 125; refine L.out.mono ?_; rintro e w' ⟨rfl, rfl⟩)
 go_quiet (fail)
 go_wp2
 refine bodyPost_ret (results_four rfl _ _ _) rfl ?_;exact ⟨rfl, below_drewN ((Below.refl _ _).alloc (Nat.le_refl _) _)⟩
set_option maxHeartbeats 400000 in
theorem pop_none {b bm p : Nat} {sv : Value} {d : List T} {w : World} (h : HeapAt w b bm sv d p) (h0 : d.length = 0) :
   Calls Tryz.prog 69 #[.pointer (some ⟨b, 0, none⟩)] w fun e w' => e = .returned (.tuple #[.int .i64 0, .int .i64 0, .int .i64 0, .bool false]) ∧ w = w' := by
 have L := Lib.hid (peek_none h h0);clear h h0;go_enter Tryz.func69, Tryz.ntmps69
 go_wp2_with (go_at_call 101; refine L.out.mono ?_; rintro e w' ⟨rfl, rfl⟩)
 refine bodyPost_ret (results_four rfl _ _ _) rfl ?_;exact ⟨rfl, rfl⟩
theorem foot_false {b bm : Nat} {sv : Value} : ∀ k, Foot b bm sv k → ¬ (fun _ : Nat => False) k := fun _ _ h => h
set_option maxHeartbeats 400000 in
theorem pop_some {b bm p : Nat} {sv : Value} {d : List T} {w : World} (h : HeapAt w b bm sv d p) (hH : Heapy T.key T.num d) (h0 : 0 < d.length) :
   Calls Tryz.prog 69 #[.pointer (some ⟨b, 0, none⟩)] w fun e w' => e = .returned (.tuple #[.int .i64 (at_ d 0).key, .int .i64 (at_ d 0).v, .int .i64 (at_ d 0).num, .bool true]) ∧ ∃ d' sv', HeapAt w' b bm sv' d' p ∧ (at_ d 0 :: d').Perm d ∧ Heapy T.key T.num d' ∧ sv'.ownBlock = sv.ownBlock ∧ Only (Foot b bm sv) w w' := by
 have L := Lib.hid (peek_some h h0);have K : ∀ w1, Below w.heap.size w w1 → HeapAt w1 b bm sv d p := fun w1 hb => h.kept (F := fun _ => False) (Only.of_below hb) foot_false
 replace K := Lib.hid K;replace hH := Lib.hid hH;clear h;go_enter Tryz.func69, Tryz.ntmps69
 go_wp2_with (first
   | (go_at_call 101; refine L.out.mono ?_; rintro e w1 ⟨rfl, hb⟩)
   | (go_at_call 102; refine (take_any (K.out w1 hb) (s := 0) h0 hH.out).mono ?_; rintro e w2 ⟨rfl, d2, sv2, hH2, hp2, hD2, hs2, ho2⟩))
 refine bodyPost_ret (results_four rfl _ _ _) rfl ?_;exact ⟨rfl, d2, sv2, hH2, hp2, hD2, hs2, (Only.of_below (F := Foot b bm sv) hb).then ho2⟩
end Go.Proofs.YtcabolfookofoaaGreatDoor.HI
