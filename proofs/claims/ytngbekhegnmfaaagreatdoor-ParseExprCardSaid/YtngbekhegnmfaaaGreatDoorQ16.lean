/- A part of the proof: DPrim7, DStmt1. No condition. -/
import Derived.Test.YtngbekhegnmfaaaGreatDoorQ13
import Derived.Test.YtngbekhegnmfaaaGreatDoorQ15
set_option linter.unusedVariables false
set_option linter.unusedSimpArgs false
namespace Go.Proofs.YtngbekhegnmfaaaGreatDoor
open Go.RowKit Go.Shelf Tok
section
variable {R cap : Nat} {a : Option Addr} {ks : List Tk}
set_option maxRecDepth 20000 in
set_option maxHeartbeats 2000000 in
theorem prim_take1  {w : World} {i : Nat} {lg : Bool} (h : SR w R a cap ks i false lg) (hlt : i < ks.length) (hk : (tkAt ks i).kind = 1) (hM : mineB ks i false = false) (hX : plainT (tkAt ks i).text = 0 ∧ aroundT (tkAt ks i).text = 0) (hq : markT ks i = B.take)
   (hne : ((ownT ks (i + 1)).and fun nm i => .ok (Ch.none.under 56 0 nm) i) ≠ .out) :
   Calls Tryz.prog 145 #[.pointer (some ⟨R, 0, none⟩)] w (DDone ((ownT ks (i + 1)).and fun nm i => .ok (Ch.none.under 56 0 nm) i) i false lg R a cap ks w) := by
 have hB : isB ks i false B.take = true := by unfold isB; rw [decide_eq_true hq]; rfl
 have hno : ∀ x, x ≠ B.take → isB ks i false x = false := fun x hx => by unfold isB; rw [decide_eq_false (fun e => hx (e.symm.trans hq))]; rfl
 have kS := Lib.hid (fun (W : World) (h : SR W R a cap ks (i + 1) false lg) => refOwn9_any h);have hF1 := fun (ts : List Tw) (i2 : Nat) (bd2 lg2 : Bool) => DP.own_ahead (ks := ks) (i := i + 1) (bd := false) (lg := lg) (ts := ts) (n := 1) (i2 := i2) (bd2 := bd2) (lg2 := lg2) (G := fun nm i => .ok (Ch.none.under 56 0 nm) i)
 have hnl : (if mineB ks (i + 1) false then (tkAt ks (i + 1)).text else []).length ≤ 9223372036854775807 := by
   have hq := h.text (i + 1);cases mineB ks (i + 1) false
   · exact Nat.zero_le _
   · exact hq
 obtain ⟨nm, hnm⟩ := exHid (if mineB ks (i + 1) false then (tkAt ks (i + 1)).text else []);rw [hnm.out] at hnl;replace hnl := Lib.hid hnl;obtain ⟨i1, hi1⟩ := exHid (if mineB ks (i + 1) false then i + 1 + 1 else i + 1);obtain ⟨b1, hb1⟩ := exHid (if mineB ks (i + 1) false then false else true);rw [hnm.out, hi1.out, hb1.out] at kS;simp only [hnm.out, hi1.out, hb1.out] at hF1;have hdE := Lib.hid (hF1 [⟨56, 0, 0, nm⟩] i1 b1 lg (by
   refine ⟨⟨fun e => e, QX.leaf ⟨by decide, hnl.out⟩⟩, fun e => ⟨rfl, e⟩, fun e => ?_⟩;exact ⟨rfl, e, rfl, fun _ => .inl rfl, fun e => .inl e⟩))
 clear hne hnm hi1 hb1 hF1;have k0 := Lib.hid (fun (W : World) (h : SR W R a cap ks i false lg) => has_any h (show B.lsq ≠ [] by decide));rw [hno B.lsq (by decide)] at k0;simp only [Bool.false_eq_true, ↓reduceIte] at k0;unfold B.lsq at k0;have k1 := Lib.hid (fun (W : World) (h : SR W R a cap ks i false lg) => has_any h (show B.opn ≠ [] by decide));rw [hno B.opn (by decide)] at k1;simp only [Bool.false_eq_true, ↓reduceIte] at k1;unfold B.opn at k1;have k2 := Lib.hid (fun (W : World) (h : SR W R a cap ks i false lg) => has_any h (show B.num ≠ [] by decide));rw [hno B.num (by decide)] at k2;simp only [Bool.false_eq_true, ↓reduceIte] at k2;unfold B.num at k2;have k3 := Lib.hid (fun (W : World) (h : SR W R a cap ks i false lg) => has_any h (show B.fork ≠ [] by decide));rw [hno B.fork (by decide)] at k3;simp only [Bool.false_eq_true, ↓reduceIte] at k3;unfold B.fork at k3;have k4 := Lib.hid (fun (W : World) (h : SR W R a cap ks i false lg) => has_any h (show B.take ≠ [] by decide));rw [hB] at k4;simp only [↓reduceIte] at k4;unfold B.take at k4;have c0 := h.c0;have c1 := h.c1;have c2 := h.c2;have kl := h.kl;have hlti : ¬ ((ks.length : Int) ≤ (i : Int)) := by omega
 have hltj : ((i : Int) < (ks.length : Int)) := by omega
 have hb0 := fun m => Lib.hid (below_dn (Below.refl w.heap.size w) m)
 have hh := Lib.hid h;have kN := fun (W : World) (h : SR W R a cap ks i false lg) => mine_any h
 rw [hM] at kN;replace kN := Lib.hid kN;clear hM;obtain ⟨a', cap', e, lc, cm, hx⟩ := h.tk;injection e with e1 _ e2;subst e1 e2;obtain ⟨g, off, rfl, hg, hc⟩ := hx (by omega);have y0 := hc i hlt 0 (by omega); have y1 := hc i hlt 1 (by omega); have y2 := hc i hlt 2 (by omega); have y3 := hc i hlt 3 (by omega);rw [tkAt_get hlt] at hk hX;simp only [tkC, List.getElem?_cons_succ, List.getElem?_cons_zero, Nat.add_zero] at y0 y1 y2 y3;clear hx hc h hB hno hq;generalize ks[i] = t at *;obtain ⟨kd, tx, nu, at_⟩ := t;dsimp only at y0 y1 y2 y3 hk hX;subst hk;generalize hL : ks.length = L at *;go_enter Tryz.func145, Tryz.ntmps145
 go_wp2_with fail
 go_quiet (fail)
 go_wp2_with fail
 have hal := (below_dn (Below.refl w.heap.size w) (nq + 1)).alloc (Nat.le_refl _) (.cells #[.int .u8 0, .string ⟨#[]⟩, .int .i64 0, .int .i64 0] 60);have z0 := Below.keeps hal c0; have z1 := Below.keeps hal c1;have x0 := Below.keeps hal y0; have x1 := Below.keeps hal y1; have x2 := Below.keeps hal y2; have x3 := Below.keeps hal y3;have hN : ((w.drewN (nq + 1)).alloc (.cells #[.int .u8 0, .string ⟨#[]⟩, .int .i64 0, .int .i64 0] 60)).heap[w.heap.size]? = some (.cells #[.int .u8 0, .string ⟨#[]⟩, .int .i64 0, .int .i64 0] 60 (0, 0)) := heap_alloc_new (w.drewN (nq + 1)) _;have n0 := cellQ hN 0; have n1 := cellQ hN 1; have n2 := cellQ hN 2; have n3 := cellQ hN 3;simp only [List.getElem?_toArray, List.getElem?_cons_succ, List.getElem?_cons_zero] at n0 n1 n2 n3;have m0 := fzQ hN 0; have m1 := fzQ hN 1; have m2 := fzQ hN 2; have m3 := fzQ hN 3;replace hN := Lib.hid hN;have hoS := Lib.hid (stored4 hN.out (.int .u8 (1 : Int)) (.string ⟨tx.toArray⟩) (.int .i64 (nu : Int)) (.int .i64 (at_ : Int)));replace hal := Lib.hid hal;go_region
 obtain ⟨s1, s2⟩ := hoS.out;have hB4 := hal.out.trans (s2.below (B := w.heap.size) (by simp) (fun k hk e => by omega));clear hoS hN hal z0 z1 x0 x1 x2 x3 n0 n1 n2 n3 m0 m1 m2 m3 s2 c0 c1 c2 y0 y1 y2 y3;generalize ((((w.drewN (nq + 1)).alloc (.cells #[.int .u8 0, .string ⟨#[]⟩, .int .i64 0, .int .i64 0] 60)).setCell ⟨w.heap.size, 0, none⟩ (.int .u8 1)).setCell ⟨w.heap.size, 1, none⟩ (.string ⟨tx.toArray⟩) |>.setCell ⟨w.heap.size, 2, none⟩ (.int .i64 (nu : Int)) |>.setCell ⟨w.heap.size, 3, none⟩ (.int .i64 (at_ : Int))) = W at *;have hRl := hh.out.lt;have hs4 := hh.out.below hB4;have t0 := cellQ s1 0; have t1 := cellQ s1 1; have t2 := cellQ s1 2;simp only [List.getElem?_toArray, List.getElem?_cons_succ, List.getElem?_cons_zero] at t0 t1 t2;have hoW := Lib.hid (Only.of_below (F := fun k => k = R) hB4);have hzw := hB4.size;clear hB4;have hs5 := Lib.hid hs4;replace s1 := Lib.hid s1;clear hs4;go_wp2_with fail
 refine (kN.out _ hs5.out).mono ?_;rintro e' W2 ⟨rfl, hb2⟩;have hs4 := hs5.out.below hb2;have s1b := heldF (Only.of_below (F := fun _ => False) hb2) s1.out (fun h => h);have hoV := Lib.hid (hoW.out.then (Only.of_below (F := fun k => k = R) hb2));have hzv := hb2.size;clear hoW hs5 kN s1 hb2 t0 t1 t2;have hoW := hoV;have s1 := s1b;have t0 := cellQ s1 0; have t1 := cellQ s1 1; have t2 := cellQ s1 2;simp only [List.getElem?_toArray, List.getElem?_cons_succ, List.getElem?_cons_zero] at t0 t1 t2;clear hoV s1b;have kP := fun (W : World) => plain_any tx W
 rw [hX.1] at kP;replace kP := Lib.hid kP;have kA := fun (W : World) => around_any tx W
 rw [hX.2] at kA;replace kA := Lib.hid kA;go_wp2_with fail
 refine (kP.out _).mono ?_;rintro e' x1 ⟨rfl, rfl⟩;go_wp2_with fail
 refine (kA.out _).mono ?_;rintro e' x2 ⟨rfl, rfl⟩;have hh0 := hs4;have hoh0 := hoW;clear hX s1 t0 t1 t2 hs4 kP kA hoW;go_wp2_with fail
 refine (k0.out _ hh0).mono ?_;rintro e' y1 ⟨rfl, hh1, hoN⟩;have hoh1 := Lib.hid (hoh0.out.then hoN);clear hh0 hoh0 hoN k0;go_wp2_with fail
 refine (k1.out _ hh1).mono ?_;rintro e' y2 ⟨rfl, hh2, hoN⟩;have hoh2 := Lib.hid (hoh1.out.then hoN);clear hh1 hoh1 hoN k1;go_wp2_with fail
 refine (k2.out _ hh2).mono ?_;rintro e' y3 ⟨rfl, hh3, hoN⟩;have hoh3 := Lib.hid (hoh2.out.then hoN);clear hh2 hoh2 hoN k2;go_wp2_with fail
 refine (k3.out _ hh3).mono ?_;rintro e' y4 ⟨rfl, hh4, hoN⟩;have hoh4 := Lib.hid (hoh3.out.then hoN);clear hh3 hoh3 hoN k3;go_wp2_with fail
 refine (k4.out _ hh4).mono ?_;rintro e' y5 ⟨rfl, hh5, hoN⟩;have hoh5 := Lib.hid (hoh4.out.then hoN);clear hh4 hoh4 hoN k4;have hzw0 : w.heap.size ≤ y5.heap.size := hoh5.out.size;go_wp2_with fail
 refine (kS.out _ hh5).mono ?_;rintro e' z1 ⟨rfl, hs, ho⟩;have hvE := Lib.hid (tws_head z1 ⟨56, 0, 0, nm⟩ #[.int .u8 56, .int .i64 0, .int .i64 0, .string ⟨nm.toArray⟩] rfl);have hbE := Lib.hid ((Below.refl _ z1).alloc (Nat.le_refl _) (.cells #[.int .u8 56, .int .i64 0, .int .i64 0, .string ⟨nm.toArray⟩] 29));have hoG := Lib.hid (hoh5.out.then ho);have hz1 := ho.size;replace hs := Lib.hid hs;clear kS ho hoh5;go_wp2_with fail
 go_ret
 exact ⟨_, [⟨56, 0, 0, nm⟩], i1, b1, lg, rfl, hvE.out.low9 (by omega), by simp, ⟨hdE.out.1, fun e => (by cases e), hdE.out.2.2⟩, hs.out.below hbE.out, hoG.out.then (Only.of_below hbE.out)⟩
set_option maxRecDepth 20000 in
set_option maxHeartbeats 2000000 in
theorem prim_take4  {w : World} {i : Nat} {lg : Bool} (h : SR w R a cap ks i false lg) (hlt : i < ks.length) (hk : (tkAt ks i).kind = 4) (hM : mineB ks i false = false) (hX : plainT (tkAt ks i).text = 0 ∧ aroundT (tkAt ks i).text = 0) (hq : markT ks i = B.take)
   (hne : ((ownT ks (i + 1)).and fun nm i => .ok (Ch.none.under 56 0 nm) i) ≠ .out) :
   Calls Tryz.prog 145 #[.pointer (some ⟨R, 0, none⟩)] w (DDone ((ownT ks (i + 1)).and fun nm i => .ok (Ch.none.under 56 0 nm) i) i false lg R a cap ks w) := by
 have hB : isB ks i false B.take = true := by unfold isB; rw [decide_eq_true hq]; rfl
 have hno : ∀ x, x ≠ B.take → isB ks i false x = false := fun x hx => by unfold isB; rw [decide_eq_false (fun e => hx (e.symm.trans hq))]; rfl
 have kS := Lib.hid (fun (W : World) (h : SR W R a cap ks (i + 1) false lg) => refOwn9_any h);have hF1 := fun (ts : List Tw) (i2 : Nat) (bd2 lg2 : Bool) => DP.own_ahead (ks := ks) (i := i + 1) (bd := false) (lg := lg) (ts := ts) (n := 1) (i2 := i2) (bd2 := bd2) (lg2 := lg2) (G := fun nm i => .ok (Ch.none.under 56 0 nm) i)
 have hnl : (if mineB ks (i + 1) false then (tkAt ks (i + 1)).text else []).length ≤ 9223372036854775807 := by
   have hq := h.text (i + 1);cases mineB ks (i + 1) false
   · exact Nat.zero_le _
   · exact hq
 obtain ⟨nm, hnm⟩ := exHid (if mineB ks (i + 1) false then (tkAt ks (i + 1)).text else []);rw [hnm.out] at hnl;replace hnl := Lib.hid hnl;obtain ⟨i1, hi1⟩ := exHid (if mineB ks (i + 1) false then i + 1 + 1 else i + 1);obtain ⟨b1, hb1⟩ := exHid (if mineB ks (i + 1) false then false else true);rw [hnm.out, hi1.out, hb1.out] at kS;simp only [hnm.out, hi1.out, hb1.out] at hF1;have hdE := Lib.hid (hF1 [⟨56, 0, 0, nm⟩] i1 b1 lg (by
   refine ⟨⟨fun e => e, QX.leaf ⟨by decide, hnl.out⟩⟩, fun e => ⟨rfl, e⟩, fun e => ?_⟩;exact ⟨rfl, e, rfl, fun _ => .inl rfl, fun e => .inl e⟩))
 clear hne hnm hi1 hb1 hF1;have k0 := Lib.hid (fun (W : World) (h : SR W R a cap ks i false lg) => has_any h (show B.lsq ≠ [] by decide));rw [hno B.lsq (by decide)] at k0;simp only [Bool.false_eq_true, ↓reduceIte] at k0;unfold B.lsq at k0;have k1 := Lib.hid (fun (W : World) (h : SR W R a cap ks i false lg) => has_any h (show B.opn ≠ [] by decide));rw [hno B.opn (by decide)] at k1;simp only [Bool.false_eq_true, ↓reduceIte] at k1;unfold B.opn at k1;have k2 := Lib.hid (fun (W : World) (h : SR W R a cap ks i false lg) => has_any h (show B.num ≠ [] by decide));rw [hno B.num (by decide)] at k2;simp only [Bool.false_eq_true, ↓reduceIte] at k2;unfold B.num at k2;have k3 := Lib.hid (fun (W : World) (h : SR W R a cap ks i false lg) => has_any h (show B.fork ≠ [] by decide));rw [hno B.fork (by decide)] at k3;simp only [Bool.false_eq_true, ↓reduceIte] at k3;unfold B.fork at k3;have k4 := Lib.hid (fun (W : World) (h : SR W R a cap ks i false lg) => has_any h (show B.take ≠ [] by decide));rw [hB] at k4;simp only [↓reduceIte] at k4;unfold B.take at k4;have c0 := h.c0;have c1 := h.c1;have c2 := h.c2;have kl := h.kl;have hlti : ¬ ((ks.length : Int) ≤ (i : Int)) := by omega
 have hltj : ((i : Int) < (ks.length : Int)) := by omega
 have hb0 := fun m => Lib.hid (below_dn (Below.refl w.heap.size w) m)
 have hh := Lib.hid h;have kN := fun (W : World) (h : SR W R a cap ks i false lg) => mine_any h
 rw [hM] at kN;replace kN := Lib.hid kN;clear hM;obtain ⟨a', cap', e, lc, cm, hx⟩ := h.tk;injection e with e1 _ e2;subst e1 e2;obtain ⟨g, off, rfl, hg, hc⟩ := hx (by omega);have y0 := hc i hlt 0 (by omega); have y1 := hc i hlt 1 (by omega); have y2 := hc i hlt 2 (by omega); have y3 := hc i hlt 3 (by omega);rw [tkAt_get hlt] at hk hX;simp only [tkC, List.getElem?_cons_succ, List.getElem?_cons_zero, Nat.add_zero] at y0 y1 y2 y3;clear hx hc h hB hno hq;generalize ks[i] = t at *;obtain ⟨kd, tx, nu, at_⟩ := t;dsimp only at y0 y1 y2 y3 hk hX;subst hk;generalize hL : ks.length = L at *;go_enter Tryz.func145, Tryz.ntmps145
 go_wp2_with fail
 go_quiet (fail)
 go_wp2_with fail
 have hal := (below_dn (Below.refl w.heap.size w) (nq + 1)).alloc (Nat.le_refl _) (.cells #[.int .u8 0, .string ⟨#[]⟩, .int .i64 0, .int .i64 0] 60);have z0 := Below.keeps hal c0; have z1 := Below.keeps hal c1;have x0 := Below.keeps hal y0; have x1 := Below.keeps hal y1; have x2 := Below.keeps hal y2; have x3 := Below.keeps hal y3;have hN : ((w.drewN (nq + 1)).alloc (.cells #[.int .u8 0, .string ⟨#[]⟩, .int .i64 0, .int .i64 0] 60)).heap[w.heap.size]? = some (.cells #[.int .u8 0, .string ⟨#[]⟩, .int .i64 0, .int .i64 0] 60 (0, 0)) := heap_alloc_new (w.drewN (nq + 1)) _;have n0 := cellQ hN 0; have n1 := cellQ hN 1; have n2 := cellQ hN 2; have n3 := cellQ hN 3;simp only [List.getElem?_toArray, List.getElem?_cons_succ, List.getElem?_cons_zero] at n0 n1 n2 n3;have m0 := fzQ hN 0; have m1 := fzQ hN 1; have m2 := fzQ hN 2; have m3 := fzQ hN 3;replace hN := Lib.hid hN;have hoS := Lib.hid (stored4 hN.out (.int .u8 (4 : Int)) (.string ⟨tx.toArray⟩) (.int .i64 (nu : Int)) (.int .i64 (at_ : Int)));replace hal := Lib.hid hal;go_region
 obtain ⟨s1, s2⟩ := hoS.out;have hB4 := hal.out.trans (s2.below (B := w.heap.size) (by simp) (fun k hk e => by omega));clear hoS hN hal z0 z1 x0 x1 x2 x3 n0 n1 n2 n3 m0 m1 m2 m3 s2 c0 c1 c2 y0 y1 y2 y3;generalize ((((w.drewN (nq + 1)).alloc (.cells #[.int .u8 0, .string ⟨#[]⟩, .int .i64 0, .int .i64 0] 60)).setCell ⟨w.heap.size, 0, none⟩ (.int .u8 4)).setCell ⟨w.heap.size, 1, none⟩ (.string ⟨tx.toArray⟩) |>.setCell ⟨w.heap.size, 2, none⟩ (.int .i64 (nu : Int)) |>.setCell ⟨w.heap.size, 3, none⟩ (.int .i64 (at_ : Int))) = W at *;have hRl := hh.out.lt;have hs4 := hh.out.below hB4;have t0 := cellQ s1 0; have t1 := cellQ s1 1; have t2 := cellQ s1 2;simp only [List.getElem?_toArray, List.getElem?_cons_succ, List.getElem?_cons_zero] at t0 t1 t2;have hoW := Lib.hid (Only.of_below (F := fun k => k = R) hB4);have hzw := hB4.size;clear hB4;have hs5 := Lib.hid hs4;replace s1 := Lib.hid s1;clear hs4;go_wp2_with fail
 refine (kN.out _ hs5.out).mono ?_;rintro e' W2 ⟨rfl, hb2⟩;have hs4 := hs5.out.below hb2;have s1b := heldF (Only.of_below (F := fun _ => False) hb2) s1.out (fun h => h);have hoV := Lib.hid (hoW.out.then (Only.of_below (F := fun k => k = R) hb2));have hzv := hb2.size;clear hoW hs5 kN s1 hb2 t0 t1 t2;have hoW := hoV;have s1 := s1b;have t0 := cellQ s1 0; have t1 := cellQ s1 1; have t2 := cellQ s1 2;simp only [List.getElem?_toArray, List.getElem?_cons_succ, List.getElem?_cons_zero] at t0 t1 t2;clear hoV s1b;have hh0 := Lib.hid hs4;have hoh0 := hoW;have t0' := Lib.hid t0;clear s1 t1 t2 hs4 hoW;go_wp2_with fail
 refine (k0.out _ hh0.out).mono ?_;rintro e' y1 ⟨rfl, hh1, hoN⟩;have hoh1 := Lib.hid (hoh0.out.then hoN);clear hh0 hoh0 hoN k0;go_wp2_with fail
 refine (k1.out _ hh1).mono ?_;rintro e' y2 ⟨rfl, hh2, hoN⟩;have hoh2 := Lib.hid (hoh1.out.then hoN);clear hh1 hoh1 hoN k1;go_wp2_with fail
 refine (k2.out _ hh2).mono ?_;rintro e' y3 ⟨rfl, hh3, hoN⟩;have hoh3 := Lib.hid (hoh2.out.then hoN);clear hh2 hoh2 hoN k2;go_wp2_with fail
 refine (k3.out _ hh3).mono ?_;rintro e' y4 ⟨rfl, hh4, hoN⟩;have hoh4 := Lib.hid (hoh3.out.then hoN);clear hh3 hoh3 hoN k3;go_wp2_with fail
 refine (k4.out _ hh4).mono ?_;rintro e' y5 ⟨rfl, hh5, hoN⟩;have hoh5 := Lib.hid (hoh4.out.then hoN);clear hh4 hoh4 hoN k4;have hzw0 : w.heap.size ≤ y5.heap.size := hoh5.out.size;go_wp2_with fail
 refine (kS.out _ hh5).mono ?_;rintro e' z1 ⟨rfl, hs, ho⟩;have hvE := Lib.hid (tws_head z1 ⟨56, 0, 0, nm⟩ #[.int .u8 56, .int .i64 0, .int .i64 0, .string ⟨nm.toArray⟩] rfl);have hbE := Lib.hid ((Below.refl _ z1).alloc (Nat.le_refl _) (.cells #[.int .u8 56, .int .i64 0, .int .i64 0, .string ⟨nm.toArray⟩] 29));have hoG := Lib.hid (hoh5.out.then ho);have hz1 := ho.size;replace hs := Lib.hid hs;clear kS ho hoh5;go_wp2_with fail
 go_ret
 exact ⟨_, [⟨56, 0, 0, nm⟩], i1, b1, lg, rfl, hvE.out.low9 (by omega), by simp, ⟨hdE.out.1, fun e => (by cases e), hdE.out.2.2⟩, hs.out.below hbE.out, hoG.out.then (Only.of_below hbE.out)⟩
end
end Go.Proofs.YtngbekhegnmfaaaGreatDoor
namespace Go.Proofs.YtngbekhegnmfaaaGreatDoor
open Go.RowKit Go.Shelf Tok
theorem mineB_kw {ks : List Tk} {i : Nat} {m : List UInt8} (h : markT ks i = m) (hk : kwB m = true) : mineB ks i false = false := by
 unfold mineB;rw [markT_at] at h;by_cases h1 : (tkAt ks i).kind = 1
 · rw [if_pos (.inl h1)] at h
   rw [h, hk];simp
 · rw [decide_eq_false h1]
   rfl
theorem DP.next_ne {s : St Ch} {i j : Nat} {bd lg bdj lgj : Bool} {ts : List Tw} {n : Int} {X : Ch → Nat → St Ch} (h : DP s i bd lg ts n j bdj lgj) (hne : bd = false → s.and X ≠ .out) : bdj = false → ∃ c, s = .ok c j ∧ X c j ≠ .out := by
 intro e;obtain ⟨hb, hs⟩ := h.next e;have := hne hb;rcases hs with rfl | ⟨c, rfl⟩
 · exact absurd rfl this
 · exact ⟨c, rfl, this⟩
section
variable {R cap : Nat} {a : Option Addr} {ks : List Tk}
set_option maxRecDepth 20000 in
set_option maxHeartbeats 1000000 in
theorem stmt_ret {G : Nat → St Ch} (hE : DDoes 45 (dp R) G R a cap ks) {w : World} {i : Nat} {lg : Bool} (h : SR w R a cap ks i false lg) (hq : markT ks i = B.ret) (hne : G (i + 1) ≠ .out) :
   Calls Tryz.prog 119 #[.pointer (some ⟨R, 0, none⟩)] w (DDone ((G (i + 1)).and fun c j => .ok (c.under 8 0 []) j) i false lg R a cap ks w) := by
 have hM : mineB ks i false = false := mineB_kw hq (by decide);have hB : isB ks i false B.ret = true := by unfold isB; rw [decide_eq_true hq]; rfl
 have hno : ∀ x, x ≠ B.ret → isB ks i false x = false := fun x hx => by unfold isB; rw [decide_eq_false (fun e => hx (e.symm.trans hq))]; rfl
 have hRl := h.lt;have hfar := Lib.hid h.far;have kN := Lib.hid (fun (W : World) (h : SR W R a cap ks i false lg) => mine_any h);rw [hM] at kN;have k0 := Lib.hid (fun (W : World) (h : SR W R a cap ks i false lg) => has_any h (show B.let ≠ [] by decide));rw [hno B.let (by decide)] at k0;simp only [Bool.false_eq_true, ↓reduceIte] at k0;unfold B.let at k0;have k1 := Lib.hid (fun (W : World) (h : SR W R a cap ks i false lg) => has_any h (show B.ret ≠ [] by decide));rw [hB] at k1;simp only [↓reduceIte] at k1;unfold B.ret at k1;have hh := Lib.hid h;have kO := Lib.hid (fun (W : World) (h : SR W R a cap ks (i + 1) false lg) => one_any hE 8 0 0 [] (by decide) W (i + 1) false lg h (fun _ e => hne (by cases hG : G (i + 1) with | out => rfl | bad j => (simp only [hG] at e; cases e) | ok c j => (simp only [hG] at e; cases e))));clear hE hne h hM hB hno hq;go_enter Tryz.func119, Tryz.ntmps119
 go_wp2_with fail
 refine (kN.out _ hh.out).mono ?_;rintro e' w0 ⟨rfl, hb⟩;have hs0 := hh.out.below hb;have ho0 := Lib.hid (show Only (fun k => k = R) w w0 from Only.of_below hb);clear hb hh kN;go_wp2_with fail
 refine (k0.out _ hs0).mono ?_;rintro e' w1 ⟨rfl, hs1, hoN⟩;have ho1 := Lib.hid (ho0.out.then hoN);clear hs0 ho0 hoN k0;go_wp2_with fail
 refine (k1.out _ hs1).mono ?_;rintro e' w2 ⟨rfl, hs2, hoN⟩;have ho2 := Lib.hid (ho1.out.then hoN);clear hs1 ho1 hoN k1;go_wp2_with fail
 refine (kO.out _ hs2).mono ?_;rintro e' w9 ⟨v, ts, j, bdj, lgj, rfl, hv, hl, hd, hsE, hoE⟩;go_wp2_with fail
 go_ret
 have hz := ho2.out.size;exact ⟨_, _, _, _, _, rfl, hv.low9 hz, hl, ⟨hd.1, fun e => (by cases e), hd.2.2⟩, hsE, ho2.out.then hoE⟩
set_option maxRecDepth 20000 in
set_option maxHeartbeats 1000000 in
theorem stmt_fail {G : Nat → St Ch} (hE : DDoes 45 (dp R) G R a cap ks) {w : World} {i : Nat} {lg : Bool} (h : SR w R a cap ks i false lg) (hq : markT ks i = B.fail) (hne : G (i + 1) ≠ .out) :
   Calls Tryz.prog 119 #[.pointer (some ⟨R, 0, none⟩)] w (DDone ((G (i + 1)).and fun c j => .ok (c.under 9 0 []) j) i false lg R a cap ks w) := by
 have hM : mineB ks i false = false := mineB_kw hq (by decide);have hB : isB ks i false B.fail = true := by unfold isB; rw [decide_eq_true hq]; rfl
 have hno : ∀ x, x ≠ B.fail → isB ks i false x = false := fun x hx => by unfold isB; rw [decide_eq_false (fun e => hx (e.symm.trans hq))]; rfl
 have hRl := h.lt;have hfar := Lib.hid h.far;have kN := Lib.hid (fun (W : World) (h : SR W R a cap ks i false lg) => mine_any h);rw [hM] at kN;have k0 := Lib.hid (fun (W : World) (h : SR W R a cap ks i false lg) => has_any h (show B.let ≠ [] by decide));rw [hno B.let (by decide)] at k0;simp only [Bool.false_eq_true, ↓reduceIte] at k0;unfold B.let at k0;have k1 := Lib.hid (fun (W : World) (h : SR W R a cap ks i false lg) => has_any h (show B.ret ≠ [] by decide));rw [hno B.ret (by decide)] at k1;simp only [Bool.false_eq_true, ↓reduceIte] at k1;unfold B.ret at k1;have k2 := Lib.hid (fun (W : World) (h : SR W R a cap ks i false lg) => has_any h (show B.fail ≠ [] by decide));rw [hB] at k2;simp only [↓reduceIte] at k2;unfold B.fail at k2;have hh := Lib.hid h;have kO := Lib.hid (fun (W : World) (h : SR W R a cap ks (i + 1) false lg) => one_any hE 9 0 0 [] (by decide) W (i + 1) false lg h (fun _ e => hne (by cases hG : G (i + 1) with | out => rfl | bad j => (simp only [hG] at e; cases e) | ok c j => (simp only [hG] at e; cases e))));clear hE hne h hM hB hno hq;go_enter Tryz.func119, Tryz.ntmps119
 go_wp2_with fail
 refine (kN.out _ hh.out).mono ?_;rintro e' w0 ⟨rfl, hb⟩;have hs0 := hh.out.below hb;have ho0 := Lib.hid (show Only (fun k => k = R) w w0 from Only.of_below hb);clear hb hh kN;go_wp2_with fail
 refine (k0.out _ hs0).mono ?_;rintro e' w1 ⟨rfl, hs1, hoN⟩;have ho1 := Lib.hid (ho0.out.then hoN);clear hs0 ho0 hoN k0;go_wp2_with fail
 refine (k1.out _ hs1).mono ?_;rintro e' w2 ⟨rfl, hs2, hoN⟩;have ho2 := Lib.hid (ho1.out.then hoN);clear hs1 ho1 hoN k1;go_wp2_with fail
 refine (k2.out _ hs2).mono ?_;rintro e' w3 ⟨rfl, hs3, hoN⟩;have ho3 := Lib.hid (ho2.out.then hoN);clear hs2 ho2 hoN k2;go_wp2_with fail
 refine (kO.out _ hs3).mono ?_;rintro e' w9 ⟨v, ts, j, bdj, lgj, rfl, hv, hl, hd, hsE, hoE⟩;go_wp2_with fail
 go_ret
 have hz := ho3.out.size;exact ⟨_, _, _, _, _, rfl, hv.low9 hz, hl, ⟨hd.1, fun e => (by cases e), hd.2.2⟩, hsE, ho3.out.then hoE⟩
set_option maxRecDepth 20000 in
set_option maxHeartbeats 1000000 in
theorem stmt_sleep {G : Nat → St Ch} (hE : DDoes 45 (dp R) G R a cap ks) {w : World} {i : Nat} {lg : Bool} (h : SR w R a cap ks i false lg) (hq : markT ks i = B.sleep) (hne : G (i + 1) ≠ .out) :
   Calls Tryz.prog 119 #[.pointer (some ⟨R, 0, none⟩)] w (DDone ((G (i + 1)).and fun c j => .ok (c.under 10 0 []) j) i false lg R a cap ks w) := by
 have hM : mineB ks i false = false := mineB_kw hq (by decide);have hB : isB ks i false B.sleep = true := by unfold isB; rw [decide_eq_true hq]; rfl
 have hno : ∀ x, x ≠ B.sleep → isB ks i false x = false := fun x hx => by unfold isB; rw [decide_eq_false (fun e => hx (e.symm.trans hq))]; rfl
 have hRl := h.lt;have hfar := Lib.hid h.far;have kN := Lib.hid (fun (W : World) (h : SR W R a cap ks i false lg) => mine_any h);rw [hM] at kN;have k0 := Lib.hid (fun (W : World) (h : SR W R a cap ks i false lg) => has_any h (show B.let ≠ [] by decide));rw [hno B.let (by decide)] at k0;simp only [Bool.false_eq_true, ↓reduceIte] at k0;unfold B.let at k0;have k1 := Lib.hid (fun (W : World) (h : SR W R a cap ks i false lg) => has_any h (show B.ret ≠ [] by decide));rw [hno B.ret (by decide)] at k1;simp only [Bool.false_eq_true, ↓reduceIte] at k1;unfold B.ret at k1;have k2 := Lib.hid (fun (W : World) (h : SR W R a cap ks i false lg) => has_any h (show B.fail ≠ [] by decide));rw [hno B.fail (by decide)] at k2;simp only [Bool.false_eq_true, ↓reduceIte] at k2;unfold B.fail at k2;have k3 := Lib.hid (fun (W : World) (h : SR W R a cap ks i false lg) => has_any h (show B.sleep ≠ [] by decide));rw [hB] at k3;simp only [↓reduceIte] at k3;unfold B.sleep at k3;have hh := Lib.hid h;have kO := Lib.hid (fun (W : World) (h : SR W R a cap ks (i + 1) false lg) => one_any hE 10 0 0 [] (by decide) W (i + 1) false lg h (fun _ e => hne (by cases hG : G (i + 1) with | out => rfl | bad j => (simp only [hG] at e; cases e) | ok c j => (simp only [hG] at e; cases e))));clear hE hne h hM hB hno hq;go_enter Tryz.func119, Tryz.ntmps119
 go_wp2_with fail
 refine (kN.out _ hh.out).mono ?_;rintro e' w0 ⟨rfl, hb⟩;have hs0 := hh.out.below hb;have ho0 := Lib.hid (show Only (fun k => k = R) w w0 from Only.of_below hb);clear hb hh kN;go_wp2_with fail
 refine (k0.out _ hs0).mono ?_;rintro e' w1 ⟨rfl, hs1, hoN⟩;have ho1 := Lib.hid (ho0.out.then hoN);clear hs0 ho0 hoN k0;go_wp2_with fail
 refine (k1.out _ hs1).mono ?_;rintro e' w2 ⟨rfl, hs2, hoN⟩;have ho2 := Lib.hid (ho1.out.then hoN);clear hs1 ho1 hoN k1;go_wp2_with fail
 refine (k2.out _ hs2).mono ?_;rintro e' w3 ⟨rfl, hs3, hoN⟩;have ho3 := Lib.hid (ho2.out.then hoN);clear hs2 ho2 hoN k2;go_wp2_with fail
 refine (k3.out _ hs3).mono ?_;rintro e' w4 ⟨rfl, hs4, hoN⟩;have ho4 := Lib.hid (ho3.out.then hoN);clear hs3 ho3 hoN k3;go_wp2_with fail
 refine (kO.out _ hs4).mono ?_;rintro e' w9 ⟨v, ts, j, bdj, lgj, rfl, hv, hl, hd, hsE, hoE⟩;go_wp2_with fail
 go_ret
 have hz := ho4.out.size;exact ⟨_, _, _, _, _, rfl, hv.low9 hz, hl, ⟨hd.1, fun e => (by cases e), hd.2.2⟩, hsE, ho4.out.then hoE⟩
set_option maxRecDepth 20000 in
set_option maxHeartbeats 1000000 in
theorem stmt_do {G : Nat → St Ch} (hE : DDoes 45 (dp R) G R a cap ks) {w : World} {i : Nat} {lg : Bool} (h : SR w R a cap ks i false lg) (hq : markT ks i = B.do) (hne : G (i + 1) ≠ .out) :
   Calls Tryz.prog 119 #[.pointer (some ⟨R, 0, none⟩)] w (DDone ((G (i + 1)).and fun c j => .ok (c.under 11 0 []) j) i false lg R a cap ks w) := by
 have hM : mineB ks i false = false := mineB_kw hq (by decide);have hB : isB ks i false B.do = true := by unfold isB; rw [decide_eq_true hq]; rfl
 have hno : ∀ x, x ≠ B.do → isB ks i false x = false := fun x hx => by unfold isB; rw [decide_eq_false (fun e => hx (e.symm.trans hq))]; rfl
 have hRl := h.lt;have hfar := Lib.hid h.far;have kN := Lib.hid (fun (W : World) (h : SR W R a cap ks i false lg) => mine_any h);rw [hM] at kN;have k0 := Lib.hid (fun (W : World) (h : SR W R a cap ks i false lg) => has_any h (show B.let ≠ [] by decide));rw [hno B.let (by decide)] at k0;simp only [Bool.false_eq_true, ↓reduceIte] at k0;unfold B.let at k0;have k1 := Lib.hid (fun (W : World) (h : SR W R a cap ks i false lg) => has_any h (show B.ret ≠ [] by decide));rw [hno B.ret (by decide)] at k1;simp only [Bool.false_eq_true, ↓reduceIte] at k1;unfold B.ret at k1;have k2 := Lib.hid (fun (W : World) (h : SR W R a cap ks i false lg) => has_any h (show B.fail ≠ [] by decide));rw [hno B.fail (by decide)] at k2;simp only [Bool.false_eq_true, ↓reduceIte] at k2;unfold B.fail at k2;have k3 := Lib.hid (fun (W : World) (h : SR W R a cap ks i false lg) => has_any h (show B.sleep ≠ [] by decide));rw [hno B.sleep (by decide)] at k3;simp only [Bool.false_eq_true, ↓reduceIte] at k3;unfold B.sleep at k3;have k4 := Lib.hid (fun (W : World) (h : SR W R a cap ks i false lg) => has_any h (show B.do ≠ [] by decide));rw [hB] at k4;simp only [↓reduceIte] at k4;unfold B.do at k4;have hh := Lib.hid h;have kO := Lib.hid (fun (W : World) (h : SR W R a cap ks (i + 1) false lg) => one_any hE 11 0 0 [] (by decide) W (i + 1) false lg h (fun _ e => hne (by cases hG : G (i + 1) with | out => rfl | bad j => (simp only [hG] at e; cases e) | ok c j => (simp only [hG] at e; cases e))));clear hE hne h hM hB hno hq;go_enter Tryz.func119, Tryz.ntmps119
 go_wp2_with fail
 refine (kN.out _ hh.out).mono ?_;rintro e' w0 ⟨rfl, hb⟩;have hs0 := hh.out.below hb;have ho0 := Lib.hid (show Only (fun k => k = R) w w0 from Only.of_below hb);clear hb hh kN;go_wp2_with fail
 refine (k0.out _ hs0).mono ?_;rintro e' w1 ⟨rfl, hs1, hoN⟩;have ho1 := Lib.hid (ho0.out.then hoN);clear hs0 ho0 hoN k0;go_wp2_with fail
 refine (k1.out _ hs1).mono ?_;rintro e' w2 ⟨rfl, hs2, hoN⟩;have ho2 := Lib.hid (ho1.out.then hoN);clear hs1 ho1 hoN k1;go_wp2_with fail
 refine (k2.out _ hs2).mono ?_;rintro e' w3 ⟨rfl, hs3, hoN⟩;have ho3 := Lib.hid (ho2.out.then hoN);clear hs2 ho2 hoN k2;go_wp2_with fail
 refine (k3.out _ hs3).mono ?_;rintro e' w4 ⟨rfl, hs4, hoN⟩;have ho4 := Lib.hid (ho3.out.then hoN);clear hs3 ho3 hoN k3;go_wp2_with fail
 refine (k4.out _ hs4).mono ?_;rintro e' w5 ⟨rfl, hs5, hoN⟩;have ho5 := Lib.hid (ho4.out.then hoN);clear hs4 ho4 hoN k4;go_wp2_with fail
 refine (kO.out _ hs5).mono ?_;rintro e' w9 ⟨v, ts, j, bdj, lgj, rfl, hv, hl, hd, hsE, hoE⟩;go_wp2_with fail
 go_ret
 have hz := ho5.out.size;exact ⟨_, _, _, _, _, rfl, hv.low9 hz, hl, ⟨hd.1, fun e => (by cases e), hd.2.2⟩, hsE, ho5.out.then hoE⟩
end
end Go.Proofs.YtngbekhegnmfaaaGreatDoor
