/- A part of the proof: DAsk, DPrim0, DPrim3, DPrim4. No condition. -/
import Derived.Test.YtngbekhegnmfaaaGreatDoorQ12
set_option linter.unusedVariables false
set_option linter.unusedSimpArgs false
namespace Go.Proofs.YtngbekhegnmfaaaGreatDoor
open Go.RowKit Go.Shelf Tok
section
variable {R cap : Nat} {a : Option Addr} {ks : List Tk} {i : Nat} {bd : Bool}
theorem want_ne {m : List UInt8} (hm : m ≠ []) {G : Nat → St Ch} (hne : bd = false → ((wantT ks m i).and fun _ j => G j) ≠ .out) : (if isB ks i bd m then bd else true) = false → G (if isB ks i bd m then i + 1 else i) ≠ .out := by
 intro h;cases hB : isB ks i bd m with
 | false => rw [hB] at h; cases h
 | true =>
   obtain ⟨_, hbd, hq⟩ := isB_lt hm hB;have := hne hbd;unfold wantT at this;rw [if_pos hq] at this;exact this
theorem own_ne {G : List UInt8 → Nat → St Ch} (hne : bd = false → ((ownT ks i).and G) ≠ .out) : (if mineB ks i bd then bd else true) = false → G (if mineB ks i bd then (tkAt ks i).text else []) (if mineB ks i bd then i + 1 else i) ≠ .out := by
 intro h;cases hB : mineB ks i bd with
 | false => rw [hB] at h; cases h
 | true =>
   obtain ⟨_, hbd, hq⟩ := mineB_lt hB;have := hne hbd;rw [hq] at this;exact this
set_option maxRecDepth 20000 in
set_option maxHeartbeats 1000000 in
theorem asked_any {G : Nat → St Ch} (hX : DDoes2 163 #[.pointer (some ⟨R, 0, none⟩), .string ⟨B.cls.toArray⟩] G R a cap ks) (op : Nat) (hop : op < 256 := by decide) :
   DDoes 164 #[.pointer (some ⟨R, 0, none⟩), .int .u8 (op : Int)] (fun i => (ownT ks i).and fun nm i => ((wantT ks B.opn i).and fun _ j => G j).and fun c k => .ok (c.under op 0 nm) k) R a cap ks := by
 intro w i bd lg h hne;dsimp only at hne ⊢;have hRl := h.lt;have k1 := Lib.hid (refOwn9_any h);have hne1 := own_ne hne;have hF1 := fun (ts : List Tw) (i2 : Nat) (bd2 lg2 : Bool) => DP.own_ahead (ks := ks) (i := i) (bd := bd) (lg := lg) (ts := ts) (n := 1) (i2 := i2) (bd2 := bd2) (lg2 := lg2) (G := fun nm i => ((wantT ks B.opn i).and fun _ j => G j).and fun c k => .ok (c.under op 0 nm) k)
 have hnl : (if mineB ks (i) bd then (tkAt ks (i)).text else []).length ≤ 9223372036854775807 := by
   have hq := h.text (i);cases mineB ks (i) bd
   · exact Nat.zero_le _
   · exact hq
 obtain ⟨nm, hnm⟩ := exHid (if mineB ks i bd then (tkAt ks i).text else []);rw [hnm.out] at hnl;replace hnl := Lib.hid hnl;replace hop := Lib.hid hop;obtain ⟨i1, hi1⟩ := exHid (if mineB ks i bd then i + 1 else i);obtain ⟨b1, hb1⟩ := exHid (if mineB ks i bd then bd else true);rw [hnm.out, hi1.out, hb1.out] at k1 hne1;simp only [hnm.out, hi1.out, hb1.out] at hF1;have hne2 := want_ne (by decide) (fun e => and_out (hne1 e));have k2 := Lib.hid (fun (W : World) (h : SR W R a cap ks i1 b1 lg) => must_any h (show B.opn ≠ [] by decide));have hF2 := fun (ts : List Tw) (n : Int) (i2 : Nat) (bd2 lg2 : Bool) => DP.must_ahead (ks := ks) (i := i1) (bd := b1) (lg := lg) (ts := ts) (n := n) (i2 := i2) (bd2 := bd2) (lg2 := lg2) (w := B.opn) (G := G)
 obtain ⟨j, hj⟩ := exHid (if isB ks i1 b1 B.opn then i1 + 1 else i1);obtain ⟨b2, hb2⟩ := exHid (if isB ks i1 b1 B.opn then b1 else true);rw [hj.out, hb2.out] at k2 hne2;simp only [hj.out, hb2.out] at hF2;have k3 := Lib.hid (fun (W : World) (h : SR W R a cap ks j b2 lg) => hX W j b2 lg h hne2);obtain ⟨U, hU⟩ := exHid ((ownT ks i).and fun nm i => ((wantT ks B.opn i).and fun _ j => G j).and fun c k => St.ok (c.under op 0 nm) k);rw [hU.out] at hF1 ⊢;replace hF1 := Lib.hid hF1;replace hF2 := Lib.hid hF2;unfold B.opn at k2;unfold B.cls at k3;clear hX hne hne1 hne2 h hnm hi1 hb1 hj hb2 hU;go_enter Tryz.func164, Tryz.ntmps164
 go_wp2_with fail
 refine k1.out.mono ?_;rintro e' w1 ⟨rfl, hs1, ho1⟩;go_wp2_with fail
 refine (k2.out _ hs1).mono ?_;rintro e' w2 ⟨rfl, hs2, ho2⟩;go_wp2_with fail
 refine (k3.out _ hs2).mono ?_;rintro e' w3 ⟨v, ts, k, b3, lg3, n, rfl, hv, hl, hd, hs3, ho3⟩;obtain ⟨va, vc, rfl, _, _⟩ := id hv.shape;have k4 := Lib.hid (top_any hs3 op 0 n 0 nm hv (by omega));have hz1 := ho1.size;have hz2 := ho2.size;have hz3 := ho3.size;have ho4 := Lib.hid ((ho1.then ho2).then ho3);have hdE := Lib.hid (hF1.out _ _ _ _ ((hF2.out _ _ _ _ _ hd).top op 0 nm ⟨hop.out, hnl.out⟩));clear k1 k2 k3 hs1 ho1 hs2 ho2 hv hd hs3 ho3 hF1 hF2;go_wp2_with fail
 refine k4.out.mono ?_;rintro e' w4 ⟨v3, rfl, hv3, hs4, ho5⟩;go_wp2_with fail
 go_ret
 exact ⟨_, _, _, _, _, rfl, hv3.low9 (by omega), topL_len _ _ (by omega), hdE.out, hs4, ho4.out.then ho5⟩
end
end Go.Proofs.YtngbekhegnmfaaaGreatDoor
namespace Go.Proofs.YtngbekhegnmfaaaGreatDoor
open Go.RowKit Go.Shelf Tok
theorem fzQ {W : World} {b : Nat} {cs : Array Value} {t : TypeId} (h : W.heap[b]? = some (.cells cs t (0, 0))) (j : Nat) : W.frozen? ⟨b, j, none⟩ = false := by simp [World.frozen?, h]
section
variable {R cap : Nat} {a : Option Addr} {ks : List Tk}
set_option maxRecDepth 20000 in
set_option maxHeartbeats 1000000 in
theorem prim_bad : DDoes 145 (dp R) (fun _ => .out) R a cap ks := by
 intro w i bd lg h hn;cases bd with
 | false => exact absurd rfl (hn rfl)
 | true =>
   have d2 := h.c2;have f2 := h.fz 2;have hb0 := fun m => Lib.hid (below_dn (Below.refl w.heap.size w) m)
   have hh := Lib.hid h;clear h hn;unfold dp;go_enter Tryz.func145, Tryz.ntmps145
   go_wp2_with fail
   go_quiet (fail)
   have hs1 := hh.out.below (hb0 nq).out;have d3 := hs1.c2;have f3 := hs1.fz 2;have hmv := Lib.hid hs1.bad;have ho := Lib.hid ((Only.of_below (F := fun k => k = R) (hb0 nq).out).then (setOnly (w.drewN nq) R 2 (.bool true)));clear hs1;go_wp2_with fail
   go_ret
   exact ⟨_, [], i, true, lg, rfl, World.ownsRow_nil _ _ _ _, by simp, DP.none (j := 0) (fun e => by cases e), hmv.out, ho.out⟩
set_option maxRecDepth 20000 in
set_option maxHeartbeats 1000000 in
theorem prim_end {s : St Ch} {w : World} {i : Nat} {lg : Bool} (h : SR w R a cap ks i false lg) (hi : i = ks.length) (hs : s = .bad i) :
   Calls Tryz.prog 145 #[.pointer (some ⟨R, 0, none⟩)] w (DDone s i false lg R a cap ks w) := by
 have c0 := h.c0;have c1 := h.c1;have d2 := h.c2;have kl := h.kl;have hii : (ks.length : Int) ≤ (i : Int) := by omega
 have hb0 := fun m => Lib.hid (below_dn (Below.refl w.heap.size w) m)
 have hh := Lib.hid h;clear h;go_enter Tryz.func145, Tryz.ntmps145
 go_wp2_with fail
 go_quiet (fail)
 have hs1 := hh.out.below (hb0 nq).out;have d3 := hs1.c2;have f3 := hs1.fz 2;have hmv := Lib.hid hs1.bad;have ho := Lib.hid ((Only.of_below (F := fun k => k = R) (hb0 nq).out).then (setOnly (w.drewN nq) R 2 (.bool true)));clear hs1;go_wp2_with fail
 go_ret
 exact ⟨_, [], i, true, lg, rfl, World.ownsRow_nil _ _ _ _, by simp, DP.none (j := 0) (fun _ => hs), hmv.out, ho.out⟩
set_option maxRecDepth 20000 in
set_option maxHeartbeats 2000000 in
theorem dprim_int {w : World} {i : Nat} {lg : Bool} (h : SR w R a cap ks i false lg) (hlt : i < ks.length) (hk : (tkAt ks i).kind = 2) :
   Calls Tryz.prog 145 #[.pointer (some ⟨R, 0, none⟩)] w (DDone (.ok (Ch.none.under 23 (tkAt ks i).num []) (i + 1)) i false lg R a cap ks w) := by
 have c0 := h.c0;have c1 := h.c1;have c2 := h.c2;have kl := h.kl;have hlti : ¬ ((ks.length : Int) ≤ (i : Int)) := by omega
 have hltj : ((i : Int) < (ks.length : Int)) := by omega
 have hb0 := fun m => Lib.hid (below_dn (Below.refl w.heap.size w) m)
 have hh := Lib.hid h;obtain ⟨a', cap', e, lc, cm, hx⟩ := h.tk;injection e with e1 _ e2;subst e1 e2;obtain ⟨g, off, rfl, hg, hc⟩ := hx (by omega);have y0 := hc i hlt 0 (by omega); have y1 := hc i hlt 1 (by omega); have y2 := hc i hlt 2 (by omega); have y3 := hc i hlt 3 (by omega);rw [tkAt_get hlt] at hk ⊢;simp only [tkC, List.getElem?_cons_succ, List.getElem?_cons_zero, Nat.add_zero] at y0 y1 y2 y3;clear hx hc h;generalize ks[i] = t at *;obtain ⟨kd, tx, nu, at_⟩ := t;dsimp only at y0 y1 y2 y3 hk ⊢;subst hk;generalize hL : ks.length = L at *;go_enter Tryz.func145, Tryz.ntmps145
 go_wp2_with fail
 go_quiet (fail)
 go_wp2_with fail
 have hal := (below_dn (Below.refl w.heap.size w) (nq + 1)).alloc (Nat.le_refl _) (.cells #[.int .u8 0, .string ⟨#[]⟩, .int .i64 0, .int .i64 0] 60);have z0 := Below.keeps hal c0; have z1 := Below.keeps hal c1;have x0 := Below.keeps hal y0; have x1 := Below.keeps hal y1; have x2 := Below.keeps hal y2; have x3 := Below.keeps hal y3;have hN : ((w.drewN (nq + 1)).alloc (.cells #[.int .u8 0, .string ⟨#[]⟩, .int .i64 0, .int .i64 0] 60)).heap[w.heap.size]? = some (.cells #[.int .u8 0, .string ⟨#[]⟩, .int .i64 0, .int .i64 0] 60 (0, 0)) := heap_alloc_new (w.drewN (nq + 1)) _;have n0 := cellQ hN 0; have n1 := cellQ hN 1; have n2 := cellQ hN 2; have n3 := cellQ hN 3;simp only [List.getElem?_toArray, List.getElem?_cons_succ, List.getElem?_cons_zero] at n0 n1 n2 n3;have m0 := fzQ hN 0; have m1 := fzQ hN 1; have m2 := fzQ hN 2; have m3 := fzQ hN 3;replace hN := Lib.hid hN;have hoS := Lib.hid (stored4 hN.out (.int .u8 (2 : Int)) (.string ⟨tx.toArray⟩) (.int .i64 (nu : Int)) (.int .i64 (at_ : Int)));replace hal := Lib.hid hal;go_region
 obtain ⟨s1, s2⟩ := hoS.out;have hB4 := hal.out.trans (s2.below (B := w.heap.size) (by simp) (fun k hk e => by omega));clear hoS hN hal z0 z1 x0 x1 x2 x3 n0 n1 n2 n3 m0 m1 m2 m3 s2 c0 c1 c2 y0 y1 y2 y3;generalize ((((w.drewN (nq + 1)).alloc (.cells #[.int .u8 0, .string ⟨#[]⟩, .int .i64 0, .int .i64 0] 60)).setCell ⟨w.heap.size, 0, none⟩ (.int .u8 2)).setCell ⟨w.heap.size, 1, none⟩ (.string ⟨tx.toArray⟩) |>.setCell ⟨w.heap.size, 2, none⟩ (.int .i64 (nu : Int)) |>.setCell ⟨w.heap.size, 3, none⟩ (.int .i64 (at_ : Int))) = W at *;have hRl := hh.out.lt;have hs4 := hh.out.below hB4;have t0 := cellQ s1 0; have t1 := cellQ s1 1; have t2 := cellQ s1 2;simp only [List.getElem?_toArray, List.getElem?_cons_succ, List.getElem?_cons_zero] at t0 t1 t2;have e1 := hs4.c1;have f1 := hs4.fz 1;have hset := setOnly W R 1 (.int .i64 ((i + 1 : Nat) : Int));have hmv := hs4.moved (q := i + 1) (by omega);have t1' : (W.setCell ⟨R, 1, none⟩ (.int .i64 ((i : Int) + 1))).cell? ⟨w.heap.size, 1, none⟩ = some (.string ⟨tx.toArray⟩) := cellQ (heldF hset s1 (by omega)) 1;have t2' : (W.setCell ⟨R, 1, none⟩ (.int .i64 ((i : Int) + 1))).cell? ⟨w.heap.size, 2, none⟩ = some (.int .i64 (nu : Int)) := cellQ (heldF hset s1 (by omega)) 2;have hzs : (W.setCell ⟨R, 1, none⟩ (.int .i64 ((i + 1 : Nat) : Int))).heap.size = W.heap.size := by simp
 have hzw := hB4.size;have hoE := Lib.hid ((Only.of_below (F := fun k => k = R) hB4).then hset);replace hmv := Lib.hid hmv;have s1' := Lib.hid s1;clear hs4 hset s1;have hvE := tws_head (W.setCell ⟨R, 1, none⟩ (.int .i64 ((i + 1 : Nat) : Int))) ⟨23, 0, (nu : Int), []⟩ #[.int .u8 23, .int .i64 0, .int .i64 (nu : Int), .string ⟨#[]⟩] rfl;rw [hzs] at hvE;replace hvE := Lib.hid hvE;have hbE := Lib.hid ((Below.refl _ (W.setCell ⟨R, 1, none⟩ (.int .i64 ((i + 1 : Nat) : Int)))).alloc (Nat.le_refl _) (.cells #[.int .u8 23, .int .i64 0, .int .i64 (nu : Int), .string ⟨#[]⟩] 29));go_wp2_with fail
 go_ret
 exact ⟨_, [⟨23, 0, (nu : Int), []⟩], i + 1, false, lg, rfl, hvE.out.low9 (by omega), by simp, (DP.ok (c := Ch.none.under 23 nu []) (i := i) rfl rfl).shift, hmv.out.below hbE.out, hoE.out.then (Only.of_below hbE.out)⟩
end
end Go.Proofs.YtngbekhegnmfaaaGreatDoor
namespace Go.Proofs.YtngbekhegnmfaaaGreatDoor
open Go.RowKit Go.Shelf Tok
section
variable {R cap : Nat} {a : Option Addr} {ks : List Tk}
set_option maxRecDepth 20000 in
set_option maxHeartbeats 2000000 in
theorem dprim_text {w : World} {i : Nat} {lg : Bool} (h : SR w R a cap ks i false lg) (hlt : i < ks.length) (hk : (tkAt ks i).kind = 3) (hX : True) :
   Calls Tryz.prog 145 #[.pointer (some ⟨R, 0, none⟩)] w (DDone (.ok (Ch.none.under 24 0 (tkAt ks i).text) (i + 1)) i false lg R a cap ks w) := by
 have c0 := h.c0;have c1 := h.c1;have c2 := h.c2;have kl := h.kl;have hlti : ¬ ((ks.length : Int) ≤ (i : Int)) := by omega
 have hltj : ((i : Int) < (ks.length : Int)) := by omega
 have hb0 := fun m => Lib.hid (below_dn (Below.refl w.heap.size w) m)
 have hh := Lib.hid h;obtain ⟨a', cap', e, lc, cm, hx⟩ := h.tk;injection e with e1 _ e2;subst e1 e2;obtain ⟨g, off, rfl, hg, hc⟩ := hx (by omega);have y0 := hc i hlt 0 (by omega); have y1 := hc i hlt 1 (by omega); have y2 := hc i hlt 2 (by omega); have y3 := hc i hlt 3 (by omega);rw [tkAt_get hlt] at hk ⊢;simp only [tkC, List.getElem?_cons_succ, List.getElem?_cons_zero, Nat.add_zero] at y0 y1 y2 y3;have hq9 := h.tl ks[i] (List.getElem_mem hlt);clear hx hc h;generalize ks[i] = t at *;obtain ⟨kd, tx, nu, at_⟩ := t;dsimp only at y0 y1 y2 y3 hk hq9 ⊢;replace hq9 := Lib.hid hq9;subst hk;generalize hL : ks.length = L at *;go_enter Tryz.func145, Tryz.ntmps145
 go_wp2_with fail
 go_quiet (fail)
 go_wp2_with fail
 have hal := (below_dn (Below.refl w.heap.size w) (nq + 1)).alloc (Nat.le_refl _) (.cells #[.int .u8 0, .string ⟨#[]⟩, .int .i64 0, .int .i64 0] 60);have z0 := Below.keeps hal c0; have z1 := Below.keeps hal c1;have x0 := Below.keeps hal y0; have x1 := Below.keeps hal y1; have x2 := Below.keeps hal y2; have x3 := Below.keeps hal y3;have hN : ((w.drewN (nq + 1)).alloc (.cells #[.int .u8 0, .string ⟨#[]⟩, .int .i64 0, .int .i64 0] 60)).heap[w.heap.size]? = some (.cells #[.int .u8 0, .string ⟨#[]⟩, .int .i64 0, .int .i64 0] 60 (0, 0)) := heap_alloc_new (w.drewN (nq + 1)) _;have n0 := cellQ hN 0; have n1 := cellQ hN 1; have n2 := cellQ hN 2; have n3 := cellQ hN 3;simp only [List.getElem?_toArray, List.getElem?_cons_succ, List.getElem?_cons_zero] at n0 n1 n2 n3;have m0 := fzQ hN 0; have m1 := fzQ hN 1; have m2 := fzQ hN 2; have m3 := fzQ hN 3;replace hN := Lib.hid hN;have hoS := Lib.hid (stored4 hN.out (.int .u8 (3 : Int)) (.string ⟨tx.toArray⟩) (.int .i64 (nu : Int)) (.int .i64 (at_ : Int)));replace hal := Lib.hid hal;go_region
 obtain ⟨s1, s2⟩ := hoS.out;have hB4 := hal.out.trans (s2.below (B := w.heap.size) (by simp) (fun k hk e => by omega));clear hoS hN hal z0 z1 x0 x1 x2 x3 n0 n1 n2 n3 m0 m1 m2 m3 s2 c0 c1 c2 y0 y1 y2 y3;generalize ((((w.drewN (nq + 1)).alloc (.cells #[.int .u8 0, .string ⟨#[]⟩, .int .i64 0, .int .i64 0] 60)).setCell ⟨w.heap.size, 0, none⟩ (.int .u8 3)).setCell ⟨w.heap.size, 1, none⟩ (.string ⟨tx.toArray⟩) |>.setCell ⟨w.heap.size, 2, none⟩ (.int .i64 (nu : Int)) |>.setCell ⟨w.heap.size, 3, none⟩ (.int .i64 (at_ : Int))) = W at *;have hRl := hh.out.lt;have hs4 := hh.out.below hB4;have t0 := cellQ s1 0; have t1 := cellQ s1 1; have t2 := cellQ s1 2;simp only [List.getElem?_toArray, List.getElem?_cons_succ, List.getElem?_cons_zero] at t0 t1 t2;have hoW := Lib.hid (Only.of_below (F := fun k => k = R) hB4);have hzw := hB4.size;clear hB4;have e1 := hs4.c1;have f1 := hs4.fz 1;have hset := setOnly W R 1 (.int .i64 ((i + 1 : Nat) : Int));have hmv := hs4.moved (q := i + 1) (by omega);have t0' : (W.setCell ⟨R, 1, none⟩ (.int .i64 ((i : Int) + 1))).cell? ⟨w.heap.size, 0, none⟩ = _ := cellQ (heldF hset s1 (by omega)) 0;have t1' : (W.setCell ⟨R, 1, none⟩ (.int .i64 ((i : Int) + 1))).cell? ⟨w.heap.size, 1, none⟩ = _ := cellQ (heldF hset s1 (by omega)) 1;simp only [List.getElem?_toArray, List.getElem?_cons_succ, List.getElem?_cons_zero] at t0' t1';have hzs : (W.setCell ⟨R, 1, none⟩ (.int .i64 ((i + 1 : Nat) : Int))).heap.size = W.heap.size := by simp
 have hoE := Lib.hid (hoW.out.then hset);replace hmv := Lib.hid hmv;have s1' := Lib.hid s1;clear hs4 hset s1;have hvE := tws_head (W.setCell ⟨R, 1, none⟩ (.int .i64 ((i + 1 : Nat) : Int))) ⟨24, 0, 0, tx⟩ #[.int .u8 24, .int .i64 0, .int .i64 0, .string ⟨tx.toArray⟩] rfl;rw [hzs] at hvE;replace hvE := Lib.hid hvE;have hbE := Lib.hid ((Below.refl _ (W.setCell ⟨R, 1, none⟩ (.int .i64 ((i + 1 : Nat) : Int)))).alloc (Nat.le_refl _) (.cells #[.int .u8 24, .int .i64 0, .int .i64 0, .string ⟨tx.toArray⟩] 29));go_wp2_with fail
 go_ret
 exact ⟨_, [⟨24, 0, 0, tx⟩], i + 1, false, lg, rfl, hvE.out.low9 (by omega), by simp, (DP.ok (c := Ch.none.under 24 0 tx) (i := i) rfl rfl (QX.leaf ⟨by decide, hq9.out⟩)).shift, hmv.out.below hbE.out, hoE.out.then (Only.of_below hbE.out)⟩
set_option maxRecDepth 20000 in
set_option maxHeartbeats 2000000 in
theorem dprim_name {w : World} {i : Nat} {lg : Bool} (h : SR w R a cap ks i false lg) (hlt : i < ks.length) (hk : (tkAt ks i).kind = 1) (hM : mineB ks i false = true) :
   Calls Tryz.prog 145 #[.pointer (some ⟨R, 0, none⟩)] w (DDone (.ok (Ch.none.under 26 0 (tkAt ks i).text) (i + 1)) i false lg R a cap ks w) := by
 have c0 := h.c0;have c1 := h.c1;have c2 := h.c2;have kl := h.kl;have hlti : ¬ ((ks.length : Int) ≤ (i : Int)) := by omega
 have hltj : ((i : Int) < (ks.length : Int)) := by omega
 have hb0 := fun m => Lib.hid (below_dn (Below.refl w.heap.size w) m)
 have hh := Lib.hid h;have kN := fun (W : World) (h : SR W R a cap ks i false lg) => mine_any h
 rw [hM] at kN;replace kN := Lib.hid kN;clear hM;obtain ⟨a', cap', e, lc, cm, hx⟩ := h.tk;injection e with e1 _ e2;subst e1 e2;obtain ⟨g, off, rfl, hg, hc⟩ := hx (by omega);have y0 := hc i hlt 0 (by omega); have y1 := hc i hlt 1 (by omega); have y2 := hc i hlt 2 (by omega); have y3 := hc i hlt 3 (by omega);rw [tkAt_get hlt] at hk ⊢;simp only [tkC, List.getElem?_cons_succ, List.getElem?_cons_zero, Nat.add_zero] at y0 y1 y2 y3;have hq9 := h.tl ks[i] (List.getElem_mem hlt);clear hx hc h;generalize ks[i] = t at *;obtain ⟨kd, tx, nu, at_⟩ := t;dsimp only at y0 y1 y2 y3 hk hq9 ⊢;replace hq9 := Lib.hid hq9;subst hk;generalize hL : ks.length = L at *;go_enter Tryz.func145, Tryz.ntmps145
 go_wp2_with fail
 go_quiet (fail)
 go_wp2_with fail
 have hal := (below_dn (Below.refl w.heap.size w) (nq + 1)).alloc (Nat.le_refl _) (.cells #[.int .u8 0, .string ⟨#[]⟩, .int .i64 0, .int .i64 0] 60);have z0 := Below.keeps hal c0; have z1 := Below.keeps hal c1;have x0 := Below.keeps hal y0; have x1 := Below.keeps hal y1; have x2 := Below.keeps hal y2; have x3 := Below.keeps hal y3;have hN : ((w.drewN (nq + 1)).alloc (.cells #[.int .u8 0, .string ⟨#[]⟩, .int .i64 0, .int .i64 0] 60)).heap[w.heap.size]? = some (.cells #[.int .u8 0, .string ⟨#[]⟩, .int .i64 0, .int .i64 0] 60 (0, 0)) := heap_alloc_new (w.drewN (nq + 1)) _;have n0 := cellQ hN 0; have n1 := cellQ hN 1; have n2 := cellQ hN 2; have n3 := cellQ hN 3;simp only [List.getElem?_toArray, List.getElem?_cons_succ, List.getElem?_cons_zero] at n0 n1 n2 n3;have m0 := fzQ hN 0; have m1 := fzQ hN 1; have m2 := fzQ hN 2; have m3 := fzQ hN 3;replace hN := Lib.hid hN;have hoS := Lib.hid (stored4 hN.out (.int .u8 (1 : Int)) (.string ⟨tx.toArray⟩) (.int .i64 (nu : Int)) (.int .i64 (at_ : Int)));replace hal := Lib.hid hal;go_region
 obtain ⟨s1, s2⟩ := hoS.out;have hB4 := hal.out.trans (s2.below (B := w.heap.size) (by simp) (fun k hk e => by omega));clear hoS hN hal z0 z1 x0 x1 x2 x3 n0 n1 n2 n3 m0 m1 m2 m3 s2 c0 c1 c2 y0 y1 y2 y3;generalize ((((w.drewN (nq + 1)).alloc (.cells #[.int .u8 0, .string ⟨#[]⟩, .int .i64 0, .int .i64 0] 60)).setCell ⟨w.heap.size, 0, none⟩ (.int .u8 1)).setCell ⟨w.heap.size, 1, none⟩ (.string ⟨tx.toArray⟩) |>.setCell ⟨w.heap.size, 2, none⟩ (.int .i64 (nu : Int)) |>.setCell ⟨w.heap.size, 3, none⟩ (.int .i64 (at_ : Int))) = W at *;have hRl := hh.out.lt;have hs4 := hh.out.below hB4;have t0 := cellQ s1 0; have t1 := cellQ s1 1; have t2 := cellQ s1 2;simp only [List.getElem?_toArray, List.getElem?_cons_succ, List.getElem?_cons_zero] at t0 t1 t2;have hoW := Lib.hid (Only.of_below (F := fun k => k = R) hB4);have hzw := hB4.size;clear hB4;have hs5 := Lib.hid hs4;replace s1 := Lib.hid s1;clear hs4;go_wp2_with fail
 refine (kN.out _ hs5.out).mono ?_;rintro e' W2 ⟨rfl, hb2⟩;have hs4 := hs5.out.below hb2;have s1b := heldF (Only.of_below (F := fun _ => False) hb2) s1.out (fun h => h);have hoV := Lib.hid (hoW.out.then (Only.of_below (F := fun k => k = R) hb2));have hzv := hb2.size;clear hoW hs5 kN s1 hb2 t0 t1 t2;have hoW := hoV;have s1 := s1b;have t0 := cellQ s1 0; have t1 := cellQ s1 1; have t2 := cellQ s1 2;simp only [List.getElem?_toArray, List.getElem?_cons_succ, List.getElem?_cons_zero] at t0 t1 t2;clear hoV s1b;have e1 := hs4.c1;have f1 := hs4.fz 1;have hset := setOnly W2 R 1 (.int .i64 ((i + 1 : Nat) : Int));have hmv := hs4.moved (q := i + 1) (by omega);have t0' : (W2.setCell ⟨R, 1, none⟩ (.int .i64 ((i : Int) + 1))).cell? ⟨w.heap.size, 0, none⟩ = _ := cellQ (heldF hset s1 (by omega)) 0;have t1' : (W2.setCell ⟨R, 1, none⟩ (.int .i64 ((i : Int) + 1))).cell? ⟨w.heap.size, 1, none⟩ = _ := cellQ (heldF hset s1 (by omega)) 1;simp only [List.getElem?_toArray, List.getElem?_cons_succ, List.getElem?_cons_zero] at t0' t1';have hzs : (W2.setCell ⟨R, 1, none⟩ (.int .i64 ((i + 1 : Nat) : Int))).heap.size = W2.heap.size := by simp
 have hoE := Lib.hid (hoW.out.then hset);replace hmv := Lib.hid hmv;have s1' := Lib.hid s1;clear hs4 hset s1;have hvE := tws_head (W2.setCell ⟨R, 1, none⟩ (.int .i64 ((i + 1 : Nat) : Int))) ⟨26, 0, 0, tx⟩ #[.int .u8 26, .int .i64 0, .int .i64 0, .string ⟨tx.toArray⟩] rfl;rw [hzs] at hvE;replace hvE := Lib.hid hvE;have hbE := Lib.hid ((Below.refl _ (W2.setCell ⟨R, 1, none⟩ (.int .i64 ((i + 1 : Nat) : Int)))).alloc (Nat.le_refl _) (.cells #[.int .u8 26, .int .i64 0, .int .i64 0, .string ⟨tx.toArray⟩] 29));go_wp2_with fail
 go_ret
 exact ⟨_, [⟨26, 0, 0, tx⟩], i + 1, false, lg, rfl, hvE.out.low9 (by omega), by simp, (DP.ok (c := Ch.none.under 26 0 tx) (i := i) rfl rfl (QX.leaf ⟨by decide, hq9.out⟩)).shift, hmv.out.below hbE.out, hoE.out.then (Only.of_below hbE.out)⟩
end
end Go.Proofs.YtngbekhegnmfaaaGreatDoor
namespace Go.Proofs.YtngbekhegnmfaaaGreatDoor
open Go.RowKit Go.Shelf Tok
section
variable {R cap : Nat} {a : Option Addr} {ks : List Tk}
set_option maxRecDepth 20000 in
set_option maxHeartbeats 2000000 in
theorem prim_plain {w : World} {i : Nat} {lg : Bool} (h : SR w R a cap ks i false lg) (hlt : i < ks.length) (hk : (tkAt ks i).kind = 1) (hM : mineB ks i false = false) (op : Nat) (hX : plainT (tkAt ks i).text = op) (h0 : op ≠ 0) :
   Calls Tryz.prog 145 #[.pointer (some ⟨R, 0, none⟩)] w (DDone (.ok (Ch.none.under op 0 []) (i + 1)) i false lg R a cap ks w) := by
 have q0 : ((op : Int) != 0) = true := bne_iff_ne.2 (by omega);have hq9 : op < 256 := by
   first | (rw [← hX]; unfold plainT) | (rw [← hX.2]; unfold aroundT)
   repeat' split
   all_goals decide
 replace hq9 := Lib.hid hq9;have c0 := h.c0;have c1 := h.c1;have c2 := h.c2;have kl := h.kl;have hlti : ¬ ((ks.length : Int) ≤ (i : Int)) := by omega
 have hltj : ((i : Int) < (ks.length : Int)) := by omega
 have hb0 := fun m => Lib.hid (below_dn (Below.refl w.heap.size w) m)
 have hh := Lib.hid h;have kN := fun (W : World) (h : SR W R a cap ks i false lg) => mine_any h
 rw [hM] at kN;replace kN := Lib.hid kN;clear hM;obtain ⟨a', cap', e, lc, cm, hx⟩ := h.tk;injection e with e1 _ e2;subst e1 e2;obtain ⟨g, off, rfl, hg, hc⟩ := hx (by omega);have y0 := hc i hlt 0 (by omega); have y1 := hc i hlt 1 (by omega); have y2 := hc i hlt 2 (by omega); have y3 := hc i hlt 3 (by omega);rw [tkAt_get hlt] at hk hX;simp only [tkC, List.getElem?_cons_succ, List.getElem?_cons_zero, Nat.add_zero] at y0 y1 y2 y3;clear hx hc h;generalize ks[i] = t at *;obtain ⟨kd, tx, nu, at_⟩ := t;dsimp only at y0 y1 y2 y3 hk hX;subst hk;generalize hL : ks.length = L at *;go_enter Tryz.func145, Tryz.ntmps145
 go_wp2_with fail
 go_quiet (fail)
 go_wp2_with fail
 have hal := (below_dn (Below.refl w.heap.size w) (nq + 1)).alloc (Nat.le_refl _) (.cells #[.int .u8 0, .string ⟨#[]⟩, .int .i64 0, .int .i64 0] 60);have z0 := Below.keeps hal c0; have z1 := Below.keeps hal c1;have x0 := Below.keeps hal y0; have x1 := Below.keeps hal y1; have x2 := Below.keeps hal y2; have x3 := Below.keeps hal y3;have hN : ((w.drewN (nq + 1)).alloc (.cells #[.int .u8 0, .string ⟨#[]⟩, .int .i64 0, .int .i64 0] 60)).heap[w.heap.size]? = some (.cells #[.int .u8 0, .string ⟨#[]⟩, .int .i64 0, .int .i64 0] 60 (0, 0)) := heap_alloc_new (w.drewN (nq + 1)) _;have n0 := cellQ hN 0; have n1 := cellQ hN 1; have n2 := cellQ hN 2; have n3 := cellQ hN 3;simp only [List.getElem?_toArray, List.getElem?_cons_succ, List.getElem?_cons_zero] at n0 n1 n2 n3;have m0 := fzQ hN 0; have m1 := fzQ hN 1; have m2 := fzQ hN 2; have m3 := fzQ hN 3;replace hN := Lib.hid hN;have hoS := Lib.hid (stored4 hN.out (.int .u8 (1 : Int)) (.string ⟨tx.toArray⟩) (.int .i64 (nu : Int)) (.int .i64 (at_ : Int)));replace hal := Lib.hid hal;go_region
 obtain ⟨s1, s2⟩ := hoS.out;have hB4 := hal.out.trans (s2.below (B := w.heap.size) (by simp) (fun k hk e => by omega));clear hoS hN hal z0 z1 x0 x1 x2 x3 n0 n1 n2 n3 m0 m1 m2 m3 s2 c0 c1 c2 y0 y1 y2 y3;generalize ((((w.drewN (nq + 1)).alloc (.cells #[.int .u8 0, .string ⟨#[]⟩, .int .i64 0, .int .i64 0] 60)).setCell ⟨w.heap.size, 0, none⟩ (.int .u8 1)).setCell ⟨w.heap.size, 1, none⟩ (.string ⟨tx.toArray⟩) |>.setCell ⟨w.heap.size, 2, none⟩ (.int .i64 (nu : Int)) |>.setCell ⟨w.heap.size, 3, none⟩ (.int .i64 (at_ : Int))) = W at *;have hRl := hh.out.lt;have hs4 := hh.out.below hB4;have t0 := cellQ s1 0; have t1 := cellQ s1 1; have t2 := cellQ s1 2;simp only [List.getElem?_toArray, List.getElem?_cons_succ, List.getElem?_cons_zero] at t0 t1 t2;have hoW := Lib.hid (Only.of_below (F := fun k => k = R) hB4);have hzw := hB4.size;clear hB4;have hs5 := Lib.hid hs4;replace s1 := Lib.hid s1;clear hs4;go_wp2_with fail
 refine (kN.out _ hs5.out).mono ?_;rintro e' W2 ⟨rfl, hb2⟩;have hs4 := hs5.out.below hb2;have s1b := heldF (Only.of_below (F := fun _ => False) hb2) s1.out (fun h => h);have hoV := Lib.hid (hoW.out.then (Only.of_below (F := fun k => k = R) hb2));have hzv := hb2.size;clear hoW hs5 kN s1 hb2 t0 t1 t2;have hoW := hoV;have s1 := s1b;have t0 := cellQ s1 0; have t1 := cellQ s1 1; have t2 := cellQ s1 2;simp only [List.getElem?_toArray, List.getElem?_cons_succ, List.getElem?_cons_zero] at t0 t1 t2;clear hoV s1b;have kP := fun (W : World) => plain_any tx W
 rw [hX] at kP;replace kP := Lib.hid kP;clear hX;have e1 := hs4.c1;have f1 := hs4.fz 1;have hset := setOnly W2 R 1 (.int .i64 ((i + 1 : Nat) : Int));have hmv := hs4.moved (q := i + 1) (by omega);have t0' : (W2.setCell ⟨R, 1, none⟩ (.int .i64 ((i : Int) + 1))).cell? ⟨w.heap.size, 0, none⟩ = _ := cellQ (heldF hset s1 (by omega)) 0;have t1' : (W2.setCell ⟨R, 1, none⟩ (.int .i64 ((i : Int) + 1))).cell? ⟨w.heap.size, 1, none⟩ = _ := cellQ (heldF hset s1 (by omega)) 1;simp only [List.getElem?_toArray, List.getElem?_cons_succ, List.getElem?_cons_zero] at t0' t1';have hzs : (W2.setCell ⟨R, 1, none⟩ (.int .i64 ((i + 1 : Nat) : Int))).heap.size = W2.heap.size := by simp
 have hoE := Lib.hid (hoW.out.then hset);replace hmv := Lib.hid hmv;have s1' := Lib.hid s1;clear hs4 hset s1;have hvE := tws_head (W2.setCell ⟨R, 1, none⟩ (.int .i64 ((i + 1 : Nat) : Int))) ⟨op, 0, 0, []⟩ #[.int .u8 (op : Int), .int .i64 0, .int .i64 0, .string ⟨#[]⟩] rfl;rw [hzs] at hvE;replace hvE := Lib.hid hvE;have hbE := Lib.hid ((Below.refl _ (W2.setCell ⟨R, 1, none⟩ (.int .i64 ((i + 1 : Nat) : Int)))).alloc (Nat.le_refl _) (.cells #[.int .u8 (op : Int), .int .i64 0, .int .i64 0, .string ⟨#[]⟩] 29));go_wp2_with fail
 refine (kP.out _).mono ?_;rintro e' x1 ⟨rfl, rfl⟩;go_wp2_with fail
 refine (kP.out _).mono ?_;rintro e' x2 ⟨rfl, rfl⟩;go_wp2_with fail
 go_ret
 exact ⟨_, [⟨op, 0, 0, []⟩], i + 1, false, lg, rfl, hvE.out.low9 (by omega), by simp, (DP.ok (c := Ch.none.under op 0 []) (i := i) rfl rfl (QX.leaf ⟨hq9.out, Nat.zero_le _⟩)).shift, hmv.out.below hbE.out, hoE.out.then (Only.of_below hbE.out)⟩
set_option maxRecDepth 20000 in
set_option maxHeartbeats 2000000 in
theorem prim_around {G : Nat → St Ch} (hE : DDoes 45 (dp R) G R a cap ks) {w : World} {i : Nat} {lg : Bool} (h : SR w R a cap ks i false lg) (hlt : i < ks.length) (hk : (tkAt ks i).kind = 1) (hM : mineB ks i false = false) (op : Nat) (hX : plainT (tkAt ks i).text = 0 ∧ aroundT (tkAt ks i).text = op) (h0 : op ≠ 0)
   (hne : (((wantT ks B.opn (i + 1)).and fun _ j => (G j).and fun c k => (wantT ks B.cls k).and fun _ k => .ok c k).and fun c k => .ok (c.under op 0 []) k) ≠ .out) :
   Calls Tryz.prog 145 #[.pointer (some ⟨R, 0, none⟩)] w (DDone (((wantT ks B.opn (i + 1)).and fun _ j => (G j).and fun c k => (wantT ks B.cls k).and fun _ k => .ok c k).and fun c k => .ok (c.under op 0 []) k) i false lg R a cap ks w) := by
 have q0 : ((op : Int) != 0) = true := bne_iff_ne.2 (by omega);have hq9 : op < 256 := by
   first | (rw [← hX]; unfold plainT) | (rw [← hX.2]; unfold aroundT)
   repeat' split
   all_goals decide
 replace hq9 := Lib.hid hq9;have kO := Lib.hid (fun (W : World) (h : SR W R a cap ks (i + 1) false lg) => must_any h (show B.opn ≠ [] by decide));have hne1 := want_ne (bd := false) (by decide) (fun _ => and_out hne);have hF1 := fun (ts : List Tw) (n : Int) (i2 : Nat) (bd2 lg2 : Bool) => DP.must_ahead (ks := ks) (i := i + 1) (bd := false) (lg := lg) (ts := ts) (n := n) (i2 := i2) (bd2 := bd2) (lg2 := lg2) (w := B.opn) (G := fun j => (G j).and fun c k => (wantT ks B.cls k).and fun _ k => .ok c k)
 obtain ⟨j, hj⟩ := exHid (if isB ks (i + 1) false B.opn then i + 1 + 1 else i + 1);obtain ⟨b1, hb1⟩ := exHid (if isB ks (i + 1) false B.opn then false else true);rw [hj.out, hb1.out] at kO hne1;simp only [hj.out, hb1.out] at hF1;have kE := Lib.hid (fun (W : World) (h : SR W R a cap ks j b1 lg) => hE W j b1 lg h (fun e => and_out (hne1 e)));have kC := Lib.hid (fun (W : World) (k : Nat) (bk lk : Bool) (h : SR W R a cap ks k bk lk) => must_any h (show B.cls ≠ [] by decide));replace hF1 := Lib.hid hF1;unfold dp at kE;unfold B.opn at kO;clear hE hne hne1 hj hb1;have c0 := h.c0;have c1 := h.c1;have c2 := h.c2;have kl := h.kl;have hlti : ¬ ((ks.length : Int) ≤ (i : Int)) := by omega
 have hltj : ((i : Int) < (ks.length : Int)) := by omega
 have hb0 := fun m => Lib.hid (below_dn (Below.refl w.heap.size w) m)
 have hh := Lib.hid h;have kN := fun (W : World) (h : SR W R a cap ks i false lg) => mine_any h
 rw [hM] at kN;replace kN := Lib.hid kN;clear hM;obtain ⟨a', cap', e, lc, cm, hx⟩ := h.tk;injection e with e1 _ e2;subst e1 e2;obtain ⟨g, off, rfl, hg, hc⟩ := hx (by omega);have y0 := hc i hlt 0 (by omega); have y1 := hc i hlt 1 (by omega); have y2 := hc i hlt 2 (by omega); have y3 := hc i hlt 3 (by omega);rw [tkAt_get hlt] at hk hX;simp only [tkC, List.getElem?_cons_succ, List.getElem?_cons_zero, Nat.add_zero] at y0 y1 y2 y3;clear hx hc h;generalize ks[i] = t at *;obtain ⟨kd, tx, nu, at_⟩ := t;dsimp only at y0 y1 y2 y3 hk hX;subst hk;generalize hL : ks.length = L at *;go_enter Tryz.func145, Tryz.ntmps145
 go_wp2_with fail
 go_quiet (fail)
 go_wp2_with fail
 have hal := (below_dn (Below.refl w.heap.size w) (nq + 1)).alloc (Nat.le_refl _) (.cells #[.int .u8 0, .string ⟨#[]⟩, .int .i64 0, .int .i64 0] 60);have z0 := Below.keeps hal c0; have z1 := Below.keeps hal c1;have x0 := Below.keeps hal y0; have x1 := Below.keeps hal y1; have x2 := Below.keeps hal y2; have x3 := Below.keeps hal y3;have hN : ((w.drewN (nq + 1)).alloc (.cells #[.int .u8 0, .string ⟨#[]⟩, .int .i64 0, .int .i64 0] 60)).heap[w.heap.size]? = some (.cells #[.int .u8 0, .string ⟨#[]⟩, .int .i64 0, .int .i64 0] 60 (0, 0)) := heap_alloc_new (w.drewN (nq + 1)) _;have n0 := cellQ hN 0; have n1 := cellQ hN 1; have n2 := cellQ hN 2; have n3 := cellQ hN 3;simp only [List.getElem?_toArray, List.getElem?_cons_succ, List.getElem?_cons_zero] at n0 n1 n2 n3;have m0 := fzQ hN 0; have m1 := fzQ hN 1; have m2 := fzQ hN 2; have m3 := fzQ hN 3;replace hN := Lib.hid hN;have hoS := Lib.hid (stored4 hN.out (.int .u8 (1 : Int)) (.string ⟨tx.toArray⟩) (.int .i64 (nu : Int)) (.int .i64 (at_ : Int)));replace hal := Lib.hid hal;go_region
 obtain ⟨s1, s2⟩ := hoS.out;have hB4 := hal.out.trans (s2.below (B := w.heap.size) (by simp) (fun k hk e => by omega));clear hoS hN hal z0 z1 x0 x1 x2 x3 n0 n1 n2 n3 m0 m1 m2 m3 s2 c0 c1 c2 y0 y1 y2 y3;generalize ((((w.drewN (nq + 1)).alloc (.cells #[.int .u8 0, .string ⟨#[]⟩, .int .i64 0, .int .i64 0] 60)).setCell ⟨w.heap.size, 0, none⟩ (.int .u8 1)).setCell ⟨w.heap.size, 1, none⟩ (.string ⟨tx.toArray⟩) |>.setCell ⟨w.heap.size, 2, none⟩ (.int .i64 (nu : Int)) |>.setCell ⟨w.heap.size, 3, none⟩ (.int .i64 (at_ : Int))) = W at *;have hRl := hh.out.lt;have hs4 := hh.out.below hB4;have t0 := cellQ s1 0; have t1 := cellQ s1 1; have t2 := cellQ s1 2;simp only [List.getElem?_toArray, List.getElem?_cons_succ, List.getElem?_cons_zero] at t0 t1 t2;have hoW := Lib.hid (Only.of_below (F := fun k => k = R) hB4);have hzw := hB4.size;clear hB4;have hs5 := Lib.hid hs4;replace s1 := Lib.hid s1;clear hs4;go_wp2_with fail
 refine (kN.out _ hs5.out).mono ?_;rintro e' W2 ⟨rfl, hb2⟩;have hs4 := hs5.out.below hb2;have s1b := heldF (Only.of_below (F := fun _ => False) hb2) s1.out (fun h => h);have hoV := Lib.hid (hoW.out.then (Only.of_below (F := fun k => k = R) hb2));have hzv := hb2.size;clear hoW hs5 kN s1 hb2 t0 t1 t2;have hoW := hoV;have s1 := s1b;have t0 := cellQ s1 0; have t1 := cellQ s1 1; have t2 := cellQ s1 2;simp only [List.getElem?_toArray, List.getElem?_cons_succ, List.getElem?_cons_zero] at t0 t1 t2;clear hoV s1b;have kP := fun (W : World) => plain_any tx W
 rw [hX.1] at kP;replace kP := Lib.hid kP;have kA := fun (W : World) => around_any tx W
 rw [hX.2] at kA;replace kA := Lib.hid kA;clear hX;have e1 := hs4.c1;have f1 := hs4.fz 1;have hset := setOnly W2 R 1 (.int .i64 ((i + 1 : Nat) : Int));have hmv := hs4.moved (q := i + 1) (by omega);have t0' : (W2.setCell ⟨R, 1, none⟩ (.int .i64 ((i : Int) + 1))).cell? ⟨w.heap.size, 0, none⟩ = _ := cellQ (heldF hset s1 (by omega)) 0;have t1' : (W2.setCell ⟨R, 1, none⟩ (.int .i64 ((i : Int) + 1))).cell? ⟨w.heap.size, 1, none⟩ = _ := cellQ (heldF hset s1 (by omega)) 1;simp only [List.getElem?_toArray, List.getElem?_cons_succ, List.getElem?_cons_zero] at t0' t1';have hzs : (W2.setCell ⟨R, 1, none⟩ (.int .i64 ((i + 1 : Nat) : Int))).heap.size = W2.heap.size := by simp
 have hoE := Lib.hid (hoW.out.then hset);replace hmv := Lib.hid hmv;have s1' := Lib.hid s1;clear hs4 hset s1;have s2 := Lib.hid (heldF (setOnly W2 R 1 (.int .i64 ((i + 1 : Nat) : Int))) s1'.out (by omega));go_wp2_with fail
 refine (kP.out _).mono ?_;rintro e' x1 ⟨rfl, rfl⟩;go_wp2_with fail
 refine (kA.out _).mono ?_;rintro e' x2 ⟨rfl, rfl⟩;go_wp2_with fail
 refine (kO.out _ hmv.out).mono ?_;rintro e' x3 ⟨rfl, hsA, hoA⟩;have s3 := Lib.hid (heldF hoA s2.out (by omega));have hoB := Lib.hid (hoE.out.then hoA);clear t0' t1' hmv hoE hoA s2 s1' kO e1 f1;go_wp2_with fail
 refine (kE.out _ hsA).mono ?_;rintro e' x4 ⟨v, ts, k, b2, l2, rfl, hv, hl, hd, hsB, hoC⟩;obtain ⟨va, vc, rfl, _, _⟩ := id hv.shape;have s4 := Lib.hid (heldF hoC s3.out (by omega));have hoD := Lib.hid (hoB.out.then hoC);have hz3 : w.heap.size ≤ x3.heap.size := hoB.out.size;have hz4 := hoC.size;have kD := Lib.hid (kC.out x4 k b2 l2 hsB);have hd2 := hd.must_behind (ks := ks) (w := B.cls);obtain ⟨k2, hk2⟩ := exHid (if isB ks k b2 B.cls then k + 1 else k);obtain ⟨b3, hb3⟩ := exHid (if isB ks k b2 B.cls then b2 else true);rw [hk2.out, hb3.out] at kD hd2;have hd3 := Lib.hid ((hF1.out _ _ _ _ _ hd2).top op 0 [] ⟨hq9.out, Nat.zero_le _⟩);unfold B.cls at kD;replace hv := Lib.hid hv;clear s3 hoB hoC hsA hsB kE kC hd hd2 hF1 hk2 hb3;go_wp2_with fail
 refine kD.out.mono ?_;rintro e' x5 ⟨rfl, hsC, hoF⟩;have s5 := heldF hoF s4.out (by omega);have hv5 := Lib.hid (hv.out.step (by omega) hoF);have hoG := Lib.hid (hoD.out.then hoF);have hz5 := hoF.size;have r1 := cellQ s5 1;simp only [List.getElem?_toArray, List.getElem?_cons_succ, List.getElem?_cons_zero] at r1;have kT := Lib.hid (top_any hsC op 0 1 0 [] hv5.out (by omega));clear s4 s5 hoD hoF kD hv hsC;go_wp2_with fail
 refine (kA.out _).mono ?_;rintro e' x6 ⟨rfl, rfl⟩;go_wp2_with fail
 refine kT.out.mono ?_;rintro e' x7 ⟨v7, rfl, hv7, hs7, ho7⟩;go_wp2_with fail
 go_ret
 exact ⟨_, _, _, _, _, rfl, hv7.low9 (by omega), topL_len _ _ (by omega), ⟨hd3.out.1, fun e => (by cases e), hd3.out.2.2⟩, hs7, hoG.out.then ho7⟩
end
end Go.Proofs.YtngbekhegnmfaaaGreatDoor
