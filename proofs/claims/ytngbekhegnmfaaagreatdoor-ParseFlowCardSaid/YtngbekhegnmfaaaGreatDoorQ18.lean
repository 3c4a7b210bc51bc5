/- A part of the proof: DStmt2, DStmt3, DStep, DFuel. No condition. -/
import Derived.Test.YtngbekhegnmfaaaGreatDoorQ16
set_option linter.unusedVariables false
set_option linter.unusedSimpArgs false
namespace Go.Proofs.YtngbekhegnmfaaaGreatDoor
open Go.RowKit Go.Shelf Tok
section
variable {R cap : Nat} {a : Option Addr} {ks : List Tk}
set_option maxRecDepth 20000 in
set_option maxHeartbeats 1000000 in
theorem stmt_mine {G : Nat → St Ch} (hE : DDoes 45 (dp R) G R a cap ks) {w : World} {i : Nat} {lg : Bool} (h : SR w R a cap ks i false lg) (hM : mineB ks i false = true) (hne : ((ownT ks i).and fun nm i => (wantT ks B.eq i).and fun _ j => (G j).and fun c k => .ok (c.under 5 0 nm) k) ≠ .out) :
   Calls Tryz.prog 119 #[.pointer (some ⟨R, 0, none⟩)] w (DDone ((ownT ks i).and fun nm i => (wantT ks B.eq i).and fun _ j => (G j).and fun c k => .ok (c.under 5 0 nm) k) i false lg R a cap ks w) := by
 have hRl := h.lt;have kN := Lib.hid (fun (W : World) (h : SR W R a cap ks i false lg) => mine_any h);rw [hM] at kN;have hh := Lib.hid h;have kA := Lib.hid (fun (W : World) (h : SR W R a cap ks (i) false lg) => refOwn9_any h);have hne1 := own_ne (bd := false) (fun _ => hne);have hF1 := fun (ts : List Tw) (i2 : Nat) (bd2 lg2 : Bool) => DP.own_ahead (ks := ks) (i := i) (bd := false) (lg := lg) (ts := ts) (n := 1) (i2 := i2) (bd2 := bd2) (lg2 := lg2) (G := fun nm i => (wantT ks B.eq i).and fun _ j => (G j).and fun c k => .ok (c.under 5 0 nm) k)
 have hnl : (if mineB ks (i) false then (tkAt ks (i)).text else []).length ≤ 9223372036854775807 := by
   have hq := h.text (i);cases mineB ks (i) false
   · exact Nat.zero_le _
   · exact hq
 obtain ⟨nm, hnm⟩ := exHid (if mineB ks (i) false then (tkAt ks (i)).text else []);rw [hnm.out] at hnl;replace hnl := Lib.hid hnl;obtain ⟨i1, hi1⟩ := exHid (if mineB ks (i) false then i + 1 else i);obtain ⟨b1, hb1⟩ := exHid (if mineB ks (i) false then false else true);rw [hnm.out, hi1.out, hb1.out] at kA hne1;simp only [hnm.out, hi1.out, hb1.out] at hF1;have hne2 := want_ne (G := fun j => (G j).and fun c k => .ok (c.under 5 0 nm) k) (by decide) hne1;have kW := Lib.hid (fun (W : World) (h : SR W R a cap ks i1 b1 lg) => must_any h (show B.eq ≠ [] by decide));have hF2 := fun (ts : List Tw) (n : Int) (i2 : Nat) (bd2 lg2 : Bool) => DP.must_ahead (ks := ks) (i := i1) (bd := b1) (lg := lg) (ts := ts) (n := n) (i2 := i2) (bd2 := bd2) (lg2 := lg2) (w := B.eq) (G := fun j => (G j).and fun c k => .ok (c.under 5 0 nm) k)
 obtain ⟨j, hj⟩ := exHid (if isB ks i1 b1 B.eq then i1 + 1 else i1);obtain ⟨b2, hb2⟩ := exHid (if isB ks i1 b1 B.eq then b1 else true);rw [hj.out, hb2.out] at kW hne2;simp only [hj.out, hb2.out] at hF2;have kO := Lib.hid (fun (W : World) (h : SR W R a cap ks j b2 lg) => one_any hE 5 0 0 nm ⟨by decide, hnl.out⟩ W j b2 lg h hne2);obtain ⟨U, hU⟩ := exHid ((ownT ks (i)).and fun nm i => (wantT ks B.eq i).and fun _ j => (G j).and fun c k => St.ok (c.under 5 0 nm) k);rw [hU.out] at hF1 ⊢;replace hF1 := Lib.hid hF1;replace hF2 := Lib.hid hF2;unfold B.eq at kW;clear hE hne hne1 hne2 h hM hnm hi1 hb1 hj hb2 hU;go_enter Tryz.func119, Tryz.ntmps119
 go_wp2_with fail
 refine (kN.out _ hh.out).mono ?_;rintro e' w0 ⟨rfl, hb⟩;have hs0 := hh.out.below hb;have ho0 := Lib.hid (show Only (fun k => k = R) w w0 from Only.of_below hb);clear hb hh kN;go_wp2_with fail
 refine (kA.out _ hs0).mono ?_;rintro e' x1 ⟨rfl, hsA, hoA⟩;go_wp2_with fail
 refine (kW.out _ hsA).mono ?_;rintro e' x2 ⟨rfl, hsB, hoB⟩;go_wp2_with fail
 refine (kO.out _ hsB).mono ?_;rintro e' x3 ⟨v, ts, k, b3, lg3, rfl, hv, hl, hd, hsC, hoC⟩;have hoZ := ((ho0.out.then hoA).then hoB).then hoC;have hz : w.heap.size ≤ x2.heap.size := ((ho0.out.then hoA).then hoB).size;have hdE := hF1.out _ _ _ _ (hF2.out _ _ _ _ _ hd);go_wp2_with fail
 go_ret
 exact ⟨_, _, _, _, _, rfl, hv.low9 hz, hl, hdE, hsC, hoZ⟩
set_option maxRecDepth 20000 in
set_option maxHeartbeats 1000000 in
theorem stmt_let {G : Nat → St Ch} (hE : DDoes 45 (dp R) G R a cap ks) {w : World} {i : Nat} {lg : Bool} (h : SR w R a cap ks i false lg) (hq : markT ks i = B.let) (hne : ((ownT ks (i + 1)).and fun nm i => (wantT ks B.eq i).and fun _ j => (G j).and fun c k => .ok (c.under 4 0 nm) k) ≠ .out) :
   Calls Tryz.prog 119 #[.pointer (some ⟨R, 0, none⟩)] w (DDone ((ownT ks (i + 1)).and fun nm i => (wantT ks B.eq i).and fun _ j => (G j).and fun c k => .ok (c.under 4 0 nm) k) i false lg R a cap ks w) := by
 have hM : mineB ks i false = false := mineB_kw hq (by decide);have hB : isB ks i false B.let = true := by unfold isB; rw [decide_eq_true hq]; rfl
 have hno : ∀ x, x ≠ B.let → isB ks i false x = false := fun x hx => by unfold isB; rw [decide_eq_false (fun e => hx (e.symm.trans hq))]; rfl
 have hRl := h.lt;have hfar := Lib.hid h.far;have kN := Lib.hid (fun (W : World) (h : SR W R a cap ks i false lg) => mine_any h);rw [hM] at kN;have k0 := Lib.hid (fun (W : World) (h : SR W R a cap ks i false lg) => has_any h (show B.let ≠ [] by decide));rw [hB] at k0;simp only [↓reduceIte] at k0;unfold B.let at k0;have hh := Lib.hid h;have kA := Lib.hid (fun (W : World) (h : SR W R a cap ks (i + 1) false lg) => refOwn9_any h);have hne1 := own_ne (bd := false) (fun _ => hne);have hF1 := fun (ts : List Tw) (i2 : Nat) (bd2 lg2 : Bool) => DP.own_ahead (ks := ks) (i := i + 1) (bd := false) (lg := lg) (ts := ts) (n := 1) (i2 := i2) (bd2 := bd2) (lg2 := lg2) (G := fun nm i => (wantT ks B.eq i).and fun _ j => (G j).and fun c k => .ok (c.under 4 0 nm) k)
 have hnl : (if mineB ks (i + 1) false then (tkAt ks (i + 1)).text else []).length ≤ 9223372036854775807 := by
   have hq := h.text (i + 1);cases mineB ks (i + 1) false
   · exact Nat.zero_le _
   · exact hq
 obtain ⟨nm, hnm⟩ := exHid (if mineB ks (i + 1) false then (tkAt ks (i + 1)).text else []);rw [hnm.out] at hnl;replace hnl := Lib.hid hnl;obtain ⟨i1, hi1⟩ := exHid (if mineB ks (i + 1) false then i + 1 + 1 else i + 1);obtain ⟨b1, hb1⟩ := exHid (if mineB ks (i + 1) false then false else true);rw [hnm.out, hi1.out, hb1.out] at kA hne1;simp only [hnm.out, hi1.out, hb1.out] at hF1;have hne2 := want_ne (G := fun j => (G j).and fun c k => .ok (c.under 4 0 nm) k) (by decide) hne1;have kW := Lib.hid (fun (W : World) (h : SR W R a cap ks i1 b1 lg) => must_any h (show B.eq ≠ [] by decide));have hF2 := fun (ts : List Tw) (n : Int) (i2 : Nat) (bd2 lg2 : Bool) => DP.must_ahead (ks := ks) (i := i1) (bd := b1) (lg := lg) (ts := ts) (n := n) (i2 := i2) (bd2 := bd2) (lg2 := lg2) (w := B.eq) (G := fun j => (G j).and fun c k => .ok (c.under 4 0 nm) k)
 obtain ⟨j, hj⟩ := exHid (if isB ks i1 b1 B.eq then i1 + 1 else i1);obtain ⟨b2, hb2⟩ := exHid (if isB ks i1 b1 B.eq then b1 else true);rw [hj.out, hb2.out] at kW hne2;simp only [hj.out, hb2.out] at hF2;have kO := Lib.hid (fun (W : World) (h : SR W R a cap ks j b2 lg) => one_any hE 4 0 0 nm ⟨by decide, hnl.out⟩ W j b2 lg h hne2);obtain ⟨U, hU⟩ := exHid ((ownT ks (i + 1)).and fun nm i => (wantT ks B.eq i).and fun _ j => (G j).and fun c k => St.ok (c.under 4 0 nm) k);rw [hU.out] at hF1 ⊢;replace hF1 := Lib.hid hF1;replace hF2 := Lib.hid hF2;unfold B.eq at kW;clear hE hne hne1 hne2 h hM hB hno hq hnm hi1 hb1 hj hb2 hU;go_enter Tryz.func119, Tryz.ntmps119
 go_wp2_with fail
 refine (kN.out _ hh.out).mono ?_;rintro e' w0 ⟨rfl, hb⟩;have hs0 := hh.out.below hb;have ho0 := Lib.hid (show Only (fun k => k = R) w w0 from Only.of_below hb);clear hb hh kN;go_wp2_with fail
 refine (k0.out _ hs0).mono ?_;rintro e' w1 ⟨rfl, hs1, hoN⟩;have ho1 := Lib.hid (ho0.out.then hoN);clear hs0 ho0 hoN k0;go_wp2_with fail
 refine (kA.out _ hs1).mono ?_;rintro e' x1 ⟨rfl, hsA, hoA⟩;go_wp2_with fail
 refine (kW.out _ hsA).mono ?_;rintro e' x2 ⟨rfl, hsB, hoB⟩;go_wp2_with fail
 refine (kO.out _ hsB).mono ?_;rintro e' x3 ⟨v, ts, k, b3, lg3, rfl, hv, hl, hd, hsC, hoC⟩;have hoZ := ((ho1.out.then hoA).then hoB).then hoC;have hz : w.heap.size ≤ x2.heap.size := ((ho1.out.then hoA).then hoB).size;have hdE := hF1.out _ _ _ _ (hF2.out _ _ _ _ _ hd);go_wp2_with fail
 go_ret
 exact ⟨_, _, _, _, _, rfl, hv.low9 hz, hl, ⟨hdE.1, fun e => (by cases e), hdE.2.2⟩, hsC, hoZ⟩
set_option maxRecDepth 20000 in
set_option maxHeartbeats 1000000 in
theorem stmt_none {s : St Ch} {w : World} {i : Nat} {lg : Bool} (h : SR w R a cap ks i false lg) (hM : mineB ks i false = false) (hq : markT ks i ≠ B.let ∧ markT ks i ≠ B.ret ∧ markT ks i ≠ B.fail ∧ markT ks i ≠ B.sleep ∧ markT ks i ≠ B.do ∧ markT ks i ≠ B.while ∧ markT ks i ≠ B.if) (hs : s = .bad i) :
   Calls Tryz.prog 119 #[.pointer (some ⟨R, 0, none⟩)] w (DDone s i false lg R a cap ks w) := by
 have hno : ∀ x, markT ks i ≠ x → isB ks i false x = false := fun x hx => by unfold isB; rw [decide_eq_false hx]; rfl
 obtain ⟨q0, q1, q2, q3, q4, q5, q6⟩ := hq;have hRl := h.lt;have hfar := Lib.hid h.far;have kN := Lib.hid (fun (W : World) (h : SR W R a cap ks i false lg) => mine_any h);rw [hM] at kN;have k0 := Lib.hid (fun (W : World) (h : SR W R a cap ks i false lg) => has_any h (show B.let ≠ [] by decide));rw [hno B.let q0] at k0;simp only [Bool.false_eq_true, ↓reduceIte] at k0;unfold B.let at k0;have k1 := Lib.hid (fun (W : World) (h : SR W R a cap ks i false lg) => has_any h (show B.ret ≠ [] by decide));rw [hno B.ret q1] at k1;simp only [Bool.false_eq_true, ↓reduceIte] at k1;unfold B.ret at k1;have k2 := Lib.hid (fun (W : World) (h : SR W R a cap ks i false lg) => has_any h (show B.fail ≠ [] by decide));rw [hno B.fail q2] at k2;simp only [Bool.false_eq_true, ↓reduceIte] at k2;unfold B.fail at k2;have k3 := Lib.hid (fun (W : World) (h : SR W R a cap ks i false lg) => has_any h (show B.sleep ≠ [] by decide));rw [hno B.sleep q3] at k3;simp only [Bool.false_eq_true, ↓reduceIte] at k3;unfold B.sleep at k3;have k4 := Lib.hid (fun (W : World) (h : SR W R a cap ks i false lg) => has_any h (show B.do ≠ [] by decide));rw [hno B.do q4] at k4;simp only [Bool.false_eq_true, ↓reduceIte] at k4;unfold B.do at k4;have k5 := Lib.hid (fun (W : World) (h : SR W R a cap ks i false lg) => has_any h (show B.while ≠ [] by decide));rw [hno B.while q5] at k5;simp only [Bool.false_eq_true, ↓reduceIte] at k5;unfold B.while at k5;have k6 := Lib.hid (fun (W : World) (h : SR W R a cap ks i false lg) => has_any h (show B.if ≠ [] by decide));rw [hno B.if q6] at k6;simp only [Bool.false_eq_true, ↓reduceIte] at k6;unfold B.if at k6;have hh := Lib.hid h;clear h hM hno q0 q1 q2 q3 q4 q5 q6;go_enter Tryz.func119, Tryz.ntmps119
 go_wp2_with fail
 refine (kN.out _ hh.out).mono ?_;rintro e' w0 ⟨rfl, hb⟩;have hs0 := hh.out.below hb;have ho0 := Lib.hid (show Only (fun k => k = R) w w0 from Only.of_below hb);clear hb hh kN;go_wp2_with fail
 refine (k0.out _ hs0).mono ?_;rintro e' w1 ⟨rfl, hs1, hoN⟩;have ho1 := Lib.hid (ho0.out.then hoN);clear hs0 ho0 hoN k0;go_wp2_with fail
 refine (k1.out _ hs1).mono ?_;rintro e' w2 ⟨rfl, hs2, hoN⟩;have ho2 := Lib.hid (ho1.out.then hoN);clear hs1 ho1 hoN k1;go_wp2_with fail
 refine (k2.out _ hs2).mono ?_;rintro e' w3 ⟨rfl, hs3, hoN⟩;have ho3 := Lib.hid (ho2.out.then hoN);clear hs2 ho2 hoN k2;go_wp2_with fail
 refine (k3.out _ hs3).mono ?_;rintro e' w4 ⟨rfl, hs4, hoN⟩;have ho4 := Lib.hid (ho3.out.then hoN);clear hs3 ho3 hoN k3;go_wp2_with fail
 refine (k4.out _ hs4).mono ?_;rintro e' w5 ⟨rfl, hs5, hoN⟩;have ho5 := Lib.hid (ho4.out.then hoN);clear hs4 ho4 hoN k4;go_wp2_with fail
 refine (k5.out _ hs5).mono ?_;rintro e' w6 ⟨rfl, hs6, hoN⟩;have ho6 := Lib.hid (ho5.out.then hoN);clear hs5 ho5 hoN k5;go_wp2_with fail
 refine (k6.out _ hs6).mono ?_;rintro e' w7 ⟨rfl, hs7, hoN⟩;have ho7 := Lib.hid (ho6.out.then hoN);clear hs6 ho6 hoN k6;have d2 := hs7.c2;have f2 := hs7.fz 2;have hmv := Lib.hid hs7.bad;have hoZ := Lib.hid (ho7.out.then (setOnly w7 R 2 (.bool true)));clear hs7 ho7;go_wp2_with fail
 go_ret
 exact ⟨_, [], i, true, lg, rfl, World.ownsRow_nil _ _ _ _, by simp, DP.none (j := 0) (fun _ => hs), hmv.out, hoZ.out⟩
end
end Go.Proofs.YtngbekhegnmfaaaGreatDoor
namespace Go.Proofs.YtngbekhegnmfaaaGreatDoor
open Go.RowKit Go.Shelf Tok
section
variable {R cap : Nat} {a : Option Addr} {ks : List Tk}
theorem two_eq {A : St Ch} {Bk : Nat → St Ch} {H : Ch → Nat → St Ch} : (A.and fun c j => (Bk j).and fun d k => St.ok (c.then d) k).and H = A.and fun c j => (Bk j).and fun d k => H (c.then d) k := by
 cases A with
 | out => rfl
 | bad j => rfl
 | ok c j =>
   show ((Bk j).and fun d k => St.ok (c.then d) k).and H = (Bk j).and fun d k => H (c.then d) k
   cases Bk j <;> rfl
def elseX (ks : List Tk) (Bk : Nat → St Ch) (c : Ch) (i : Nat) : St Ch := if markT ks i = B.else then (wantT ks B.else i).and fun _ i => (Bk i).and fun d i => .ok ((c.then d).under 6 0 []) i else .ok (c.under 6 0 []) i
set_option maxRecDepth 20000 in
set_option maxHeartbeats 1000000 in
theorem stmt_while {G Bk : Nat → St Ch} (hE : DDoes 45 (dp R) G R a cap ks) (hBk : DDoes 87 (dp R) Bk R a cap ks) {w : World} {i : Nat} {lg : Bool} (h : SR w R a cap ks i false lg) (hq : markT ks i = B.while) (hne : ((G (i + 1)).and fun c j => (Bk j).and fun d k => .ok ((c.then d).under 7 0 []) k) ≠ .out) :
   Calls Tryz.prog 119 #[.pointer (some ⟨R, 0, none⟩)] w (DDone ((G (i + 1)).and fun c j => (Bk j).and fun d k => .ok ((c.then d).under 7 0 []) k) i false lg R a cap ks w) := by
 have hM : mineB ks i false = false := mineB_kw hq (by decide);have hB : isB ks i false B.while = true := by unfold isB; rw [decide_eq_true hq]; rfl
 have hno : ∀ x, x ≠ B.while → isB ks i false x = false := fun x hx => by unfold isB; rw [decide_eq_false (fun e => hx (e.symm.trans hq))]; rfl
 have hRl := h.lt;have hfar := Lib.hid h.far;have kN := Lib.hid (fun (W : World) (h : SR W R a cap ks i false lg) => mine_any h);rw [hM] at kN;have k0 := Lib.hid (fun (W : World) (h : SR W R a cap ks i false lg) => has_any h (show B.let ≠ [] by decide));rw [hno B.let (by decide)] at k0;simp only [Bool.false_eq_true, ↓reduceIte] at k0;unfold B.let at k0;have k1 := Lib.hid (fun (W : World) (h : SR W R a cap ks i false lg) => has_any h (show B.ret ≠ [] by decide));rw [hno B.ret (by decide)] at k1;simp only [Bool.false_eq_true, ↓reduceIte] at k1;unfold B.ret at k1;have k2 := Lib.hid (fun (W : World) (h : SR W R a cap ks i false lg) => has_any h (show B.fail ≠ [] by decide));rw [hno B.fail (by decide)] at k2;simp only [Bool.false_eq_true, ↓reduceIte] at k2;unfold B.fail at k2;have k3 := Lib.hid (fun (W : World) (h : SR W R a cap ks i false lg) => has_any h (show B.sleep ≠ [] by decide));rw [hno B.sleep (by decide)] at k3;simp only [Bool.false_eq_true, ↓reduceIte] at k3;unfold B.sleep at k3;have k4 := Lib.hid (fun (W : World) (h : SR W R a cap ks i false lg) => has_any h (show B.do ≠ [] by decide));rw [hno B.do (by decide)] at k4;simp only [Bool.false_eq_true, ↓reduceIte] at k4;unfold B.do at k4;have k5 := Lib.hid (fun (W : World) (h : SR W R a cap ks i false lg) => has_any h (show B.while ≠ [] by decide));rw [hB] at k5;simp only [↓reduceIte] at k5;unfold B.while at k5;have hh := Lib.hid h;have kE := Lib.hid (fun (W : World) (h : SR W R a cap ks (i + 1) false lg) => hE W (i + 1) false lg h (fun _ => and_out hne));unfold dp at kE;replace hne := Lib.hid hne;replace hBk := Lib.hid hBk;clear hE h hM hB hno hq;go_enter Tryz.func119, Tryz.ntmps119
 go_wp2_with fail
 refine (kN.out _ hh.out).mono ?_;rintro e' w0 ⟨rfl, hb⟩;have hs0 := hh.out.below hb;have ho0 := Lib.hid (show Only (fun k => k = R) w w0 from Only.of_below hb);clear hb hh kN;go_wp2_with fail
 refine (k0.out _ hs0).mono ?_;rintro e' w1 ⟨rfl, hs1, hoN⟩;have ho1 := Lib.hid (ho0.out.then hoN);clear hs0 ho0 hoN k0;go_wp2_with fail
 refine (k1.out _ hs1).mono ?_;rintro e' w2 ⟨rfl, hs2, hoN⟩;have ho2 := Lib.hid (ho1.out.then hoN);clear hs1 ho1 hoN k1;go_wp2_with fail
 refine (k2.out _ hs2).mono ?_;rintro e' w3 ⟨rfl, hs3, hoN⟩;have ho3 := Lib.hid (ho2.out.then hoN);clear hs2 ho2 hoN k2;go_wp2_with fail
 refine (k3.out _ hs3).mono ?_;rintro e' w4 ⟨rfl, hs4, hoN⟩;have ho4 := Lib.hid (ho3.out.then hoN);clear hs3 ho3 hoN k3;go_wp2_with fail
 refine (k4.out _ hs4).mono ?_;rintro e' w5 ⟨rfl, hs5, hoN⟩;have ho5 := Lib.hid (ho4.out.then hoN);clear hs4 ho4 hoN k4;go_wp2_with fail
 refine (k5.out _ hs5).mono ?_;rintro e' w6 ⟨rfl, hs6, hoN⟩;have ho6 := Lib.hid (ho5.out.then hoN);clear hs5 ho5 hoN k5;go_wp2_with fail
 refine (kE.out _ hs6).mono ?_;rintro e' x1 ⟨v, ts, j, b1, l1, rfl, hv, hl, hd1, hsA, hoA⟩;obtain ⟨va, vc, rfl, _, _⟩ := id hv.shape;have hzA : w.heap.size ≤ w6.heap.size := ho6.out.size;have hzB := hoA.size;have hb1 : b1 = false → Bk j ≠ .out := by
   intro e;obtain ⟨c, _, hc⟩ := hd1.next_ne (fun _ => hne.out) e;exact and_out hc
 have kB := Lib.hid (hBk.out x1 j b1 l1 hsA hb1);unfold dp at kB;have hvA0 := Lib.hid hv;have hoA2 := Lib.hid (ho6.out.then hoA);replace hd1 := Lib.hid hd1;clear hb1 hv hsA hoA hs6 ho6 kE;go_wp2_with fail
 refine kB.out.mono ?_;rintro e' x2 ⟨v2, us, k, b2, l2, rfl, hu, hl2, hd2, hsB, hoB⟩;obtain ⟨va2, vc2, rfl, _, _⟩ := id hu.shape;have hzC := hoB.size;have hvA := Lib.hid (show TwsAt x2 w.heap.size (.slice va ts.length vc) ts from (hvA0.out.step (by omega) hoB).low9 (by omega));have hd12 := hd1.out.then (G := Bk) hd2;replace hu := Lib.hid hu;replace hsB := Lib.hid hsB;replace hoB := Lib.hid (hoA2.out.then hoB);clear hvA0 hoA2 kB hd1 hd2;go_wp2_with (at_builtin; (refine wpList_append_twx (base := w.heap.size) rfl _ _ rfl rfl hvA.out rfl hu.out (by omega) (by omega) (by omega) ?_; intro v9 w9 hA hB9))
 obtain ⟨va9, vc9, rfl, _, _⟩ := id hA.shape;have hs9 := Lib.hid (hsB.out.low hB9 hRl hfar.out);have ho9 := Lib.hid (onlyB hoB.out hB9 (Nat.le_refl _));have hlen : (ts ++ us).length = ts.length + us.length := List.length_append;have hz9 := hB9.size;have hdE := Lib.hid ((hd12.top 7 0 []).of_eq (fun _ => two_eq));have k7 := Lib.hid (top_any hs9.out 7 0 2 0 [] hA (by omega));clear hsB hvA hu hoB hA hB9 hd12;go_wp2_with fail
 refine k7.out.mono ?_;rintro e' x10 ⟨v10, rfl, hv10, hs10, ho10⟩;go_wp2_with fail
 go_ret
 exact ⟨_, _, k, b2, _, rfl, hv10.low9 (by omega), topL_len _ _ (by omega), ⟨hdE.out.1, fun e => (by cases e), hdE.out.2.2⟩, hs10, ho9.out.then ho10⟩
set_option maxRecDepth 20000 in
set_option maxHeartbeats 2000000 in
theorem stmt_if {G Bk : Nat → St Ch} (hE : DDoes 45 (dp R) G R a cap ks) (hBk : DDoes 87 (dp R) Bk R a cap ks) {w : World} {i : Nat} {lg : Bool} (h : SR w R a cap ks i false lg) (hq : markT ks i = B.if) (hne : ((G (i + 1)).and fun c j => (Bk j).and fun d k => elseX ks Bk (c.then d) k) ≠ .out) :
   Calls Tryz.prog 119 #[.pointer (some ⟨R, 0, none⟩)] w (DDone ((G (i + 1)).and fun c j => (Bk j).and fun d k => elseX ks Bk (c.then d) k) i false lg R a cap ks w) := by
 have hM : mineB ks i false = false := mineB_kw hq (by decide);have hB : isB ks i false B.if = true := by unfold isB; rw [decide_eq_true hq]; rfl
 have hno : ∀ x, x ≠ B.if → isB ks i false x = false := fun x hx => by unfold isB; rw [decide_eq_false (fun e => hx (e.symm.trans hq))]; rfl
 have hRl := h.lt;have hfar := Lib.hid h.far;have kN := Lib.hid (fun (W : World) (h : SR W R a cap ks i false lg) => mine_any h);rw [hM] at kN;have k0 := Lib.hid (fun (W : World) (h : SR W R a cap ks i false lg) => has_any h (show B.let ≠ [] by decide));rw [hno B.let (by decide)] at k0;simp only [Bool.false_eq_true, ↓reduceIte] at k0;unfold B.let at k0;have k1 := Lib.hid (fun (W : World) (h : SR W R a cap ks i false lg) => has_any h (show B.ret ≠ [] by decide));rw [hno B.ret (by decide)] at k1;simp only [Bool.false_eq_true, ↓reduceIte] at k1;unfold B.ret at k1;have k2 := Lib.hid (fun (W : World) (h : SR W R a cap ks i false lg) => has_any h (show B.fail ≠ [] by decide));rw [hno B.fail (by decide)] at k2;simp only [Bool.false_eq_true, ↓reduceIte] at k2;unfold B.fail at k2;have k3 := Lib.hid (fun (W : World) (h : SR W R a cap ks i false lg) => has_any h (show B.sleep ≠ [] by decide));rw [hno B.sleep (by decide)] at k3;simp only [Bool.false_eq_true, ↓reduceIte] at k3;unfold B.sleep at k3;have k4 := Lib.hid (fun (W : World) (h : SR W R a cap ks i false lg) => has_any h (show B.do ≠ [] by decide));rw [hno B.do (by decide)] at k4;simp only [Bool.false_eq_true, ↓reduceIte] at k4;unfold B.do at k4;have k5 := Lib.hid (fun (W : World) (h : SR W R a cap ks i false lg) => has_any h (show B.while ≠ [] by decide));rw [hno B.while (by decide)] at k5;simp only [Bool.false_eq_true, ↓reduceIte] at k5;unfold B.while at k5;have k6 := Lib.hid (fun (W : World) (h : SR W R a cap ks i false lg) => has_any h (show B.if ≠ [] by decide));rw [hB] at k6;simp only [↓reduceIte] at k6;unfold B.if at k6;have hh := Lib.hid h;have kE := Lib.hid (fun (W : World) (h : SR W R a cap ks (i + 1) false lg) => hE W (i + 1) false lg h (fun _ => and_out hne));unfold dp at kE;replace hne := Lib.hid hne;replace hBk := Lib.hid hBk;clear hE h hM hB hno hq;go_enter Tryz.func119, Tryz.ntmps119
 go_wp2_with fail
 refine (kN.out _ hh.out).mono ?_;rintro e' w0 ⟨rfl, hb⟩;have hs0 := hh.out.below hb;have ho0 := Lib.hid (show Only (fun k => k = R) w w0 from Only.of_below hb);clear hb hh kN;go_wp2_with fail
 refine (k0.out _ hs0).mono ?_;rintro e' w1 ⟨rfl, hs1, hoN⟩;have ho1 := Lib.hid (ho0.out.then hoN);clear hs0 ho0 hoN k0;go_wp2_with fail
 refine (k1.out _ hs1).mono ?_;rintro e' w2 ⟨rfl, hs2, hoN⟩;have ho2 := Lib.hid (ho1.out.then hoN);clear hs1 ho1 hoN k1;go_wp2_with fail
 refine (k2.out _ hs2).mono ?_;rintro e' w3 ⟨rfl, hs3, hoN⟩;have ho3 := Lib.hid (ho2.out.then hoN);clear hs2 ho2 hoN k2;go_wp2_with fail
 refine (k3.out _ hs3).mono ?_;rintro e' w4 ⟨rfl, hs4, hoN⟩;have ho4 := Lib.hid (ho3.out.then hoN);clear hs3 ho3 hoN k3;go_wp2_with fail
 refine (k4.out _ hs4).mono ?_;rintro e' w5 ⟨rfl, hs5, hoN⟩;have ho5 := Lib.hid (ho4.out.then hoN);clear hs4 ho4 hoN k4;go_wp2_with fail
 refine (k5.out _ hs5).mono ?_;rintro e' w6 ⟨rfl, hs6, hoN⟩;have ho6 := Lib.hid (ho5.out.then hoN);clear hs5 ho5 hoN k5;go_wp2_with fail
 refine (k6.out _ hs6).mono ?_;rintro e' w7 ⟨rfl, hs7, hoN⟩;have ho7 := Lib.hid (ho6.out.then hoN);clear hs6 ho6 hoN k6;go_wp2_with fail
 refine (kE.out _ hs7).mono ?_;rintro e' x1 ⟨v, ts, j, b1, l1, rfl, hv, hl, hd1, hsA, hoA⟩;obtain ⟨va, vc, rfl, _, _⟩ := id hv.shape;have hzA : w.heap.size ≤ w7.heap.size := ho7.out.size;have hzB := hoA.size;have hb1 : b1 = false → Bk j ≠ .out := by
   intro e;obtain ⟨c, _, hc⟩ := hd1.next_ne (fun _ => hne.out) e;exact and_out hc
 have kB := Lib.hid (hBk.out x1 j b1 l1 hsA hb1);unfold dp at kB;have hvA0 := Lib.hid hv;have hoA2 := Lib.hid (ho7.out.then hoA);replace hd1 := Lib.hid hd1;clear hb1 hv hsA hoA hs7 ho7 kE;go_wp2_with fail
 refine kB.out.mono ?_;rintro e' x2 ⟨v2, us, k, b2, l2, rfl, hu, hl2, hd2, hsB, hoB⟩;obtain ⟨va2, vc2, rfl, _, _⟩ := id hu.shape;have hzC := hoB.size;have hvA := Lib.hid (show TwsAt x2 w.heap.size (.slice va ts.length vc) ts from (hvA0.out.step (by omega) hoB).low9 (by omega));have hd12 := hd1.out.then (G := Bk) hd2;replace hu := Lib.hid hu;replace hsB := Lib.hid hsB;replace hoB := Lib.hid (hoA2.out.then hoB);clear hvA0 hoA2 kB hd1 hd2;go_wp2_with (at_builtin; (refine wpList_append_twx (base := w.heap.size) rfl _ _ rfl rfl hvA.out rfl hu.out (by omega) (by omega) (by omega) ?_; intro v9 w9 hA hB9))
 obtain ⟨va9, vc9, rfl, _, _⟩ := id hA.shape;have hs9 := Lib.hid (hsB.out.low hB9 hRl hfar.out);have ho9 := Lib.hid (onlyB hoB.out hB9 (Nat.le_refl _));have hlen : (ts ++ us).length = ts.length + us.length := List.length_append;have hz9 := hB9.size;have hTS : (ts ++ us).length ≤ 4096 := by omega
 clear hlen;generalize ts ++ us = TS at *;have kL := Lib.hid (has_any hs9.out (show B.else ≠ [] by decide));replace hA := Lib.hid hA;replace hd12 := Lib.hid hd12;clear hsB hvA hu hoB hB9;cases hEl : isB ks k b2 B.else with
 | true =>
   obtain ⟨_, rfl, hq2⟩ := isB_lt (by decide) hEl;obtain ⟨c, hc, hcx⟩ := hd12.out.next_ne (X := fun c k => elseX ks Bk c k) (fun _ => by rw [two_eq]; exact hne.out) rfl;have hcx2 : elseX ks Bk c k = (Bk (k + 1)).and fun d i => .ok ((c.then d).under 6 0 []) i := by
     unfold elseX;rw [if_pos hq2];unfold wantT;rw [if_pos hq2];rfl
   have kB := Lib.hid (fun (W : World) (h : SR W R a cap ks (k + 1) false l2) => hBk.out W (k + 1) false l2 h (fun _ => and_out (by rw [← hcx2]; exact hcx)));have hd13 := hd12.out;rw [hc] at hd13;have hd14 := Lib.hid (hd13.shift (k := k + 1));have hfin : ((G (i + 1)).and fun c j => (Bk j).and fun d k => elseX ks Bk (c.then d) k) = (Bk (k + 1)).and fun d i => .ok ((c.then d).under 6 0 []) i := by
     rw [← hcx2, ← two_eq (H := fun c k => elseX ks Bk c k), hc];rfl
   replace hfin := Lib.hid hfin;replace hc := Lib.hid hc;rw [hEl] at kL;simp only [↓reduceIte] at kL;unfold B.else at kL;unfold dp at kB;clear hEl hq2 hcx hcx2 hd13 hd12 hne hBk hc;go_wp2_with fail
   refine kL.out.mono ?_;rintro e' x10 ⟨rfl, hs10, ho10⟩;have hv10 := Lib.hid (hA.out.step hRl ho10);have ho11 := Lib.hid (ho9.out.then ho10);have hz10 := ho10.size;clear kL ho10 hs9 ho9 hA;go_wp2_with fail
   refine (kB.out _ hs10).mono ?_;rintro e' x11 ⟨v3, us3, k3, b3, l3, rfl, hu3, hl3, hd3, hs11, ho12⟩;obtain ⟨va3, vc3, rfl, _, _⟩ := id hu3.shape;have hz11 := ho12.size;have hv11 := Lib.hid (hv10.out.step hRl ho12);have ho13 := Lib.hid (ho11.out.then ho12);have hdE := ((hd14.out.then (G := Bk) hd3).top 6 0 []);have hdF : DP ((Bk (k + 1)).and fun d i => .ok ((c.then d).under 6 0 []) i) (i + 1) false lg (topL ⟨6, 3, 0, []⟩ (TS ++ us3)) 1 k3 b3 (l3 || decide (2048 ≤ (TS ++ us3).length)) := hdE.of_eq (fun _ => by
     show ((Bk (k + 1)).and fun d k => St.ok (c.then d) k).and _ = _
     cases Bk (k + 1) <;> rfl)
   rw [← hfin.out] at hdF;replace hdF := Lib.hid hdF;replace hu3 := Lib.hid hu3;replace hs11 := Lib.hid hs11;have hlen2 : (TS ++ us3).length = TS.length + us3.length := List.length_append;clear hdE hd14 hd3 kB hs10 hv10 ho12 ho11;go_wp2_with (at_builtin; (refine wpList_append_twx (base := w.heap.size) rfl _ _ rfl rfl hv11.out rfl hu3.out (by omega) (by omega) (by omega) ?_; intro v12 w12 hA2 hB12))
   obtain ⟨va12, vc12, rfl, _, _⟩ := id hA2.shape;have hs12 := Lib.hid (hs11.out.low hB12 hRl hfar.out);have ho14 := Lib.hid (onlyB ho13.out hB12 (Nat.le_refl _));have hz12 := hB12.size;have k7 := Lib.hid (top_any hs12.out 6 0 3 0 [] hA2 (by omega));clear hs11 hv11 hu3 ho13 hA2 hB12;go_wp2_with fail
   refine k7.out.mono ?_;rintro e' x13 ⟨v13, rfl, hv13, hs13, ho15⟩;go_wp2_with fail
   go_ret
   exact ⟨_, _, k3, b3, _, rfl, hv13.low9 (by omega), topL_len _ _ (by omega), ⟨hdF.out.1, fun e => (by cases e), hdF.out.2.2⟩, hs13, ho14.out.then ho15⟩
 | false =>
   have hdE := (hd12.out.top 6 0 []);have hdF : DP ((G (i + 1)).and fun c j => (Bk j).and fun d k => elseX ks Bk (c.then d) k) (i + 1) false lg (topL ⟨6, 2, 0, []⟩ TS) 1 k b2 (l2 || decide (2048 ≤ TS.length)) := by
     cases b2 with
     | true =>
       rw [← two_eq (H := fun c k => elseX ks Bk c k)];refine hdE.of_eq (fun _ => ?_);have h3 := hd12.out.2.2 rfl
       revert h3
       cases ((G (i + 1)).and fun c j => (Bk j).and fun d k => St.ok (c.then d) k) with
       | out => exact fun _ => rfl
       | bad j => exact fun _ => rfl
       | ok c j => exact fun h3 => (by cases h3.2.1)
     | false =>
       rw [← two_eq (H := fun c k => elseX ks Bk c k)];refine hdE.of_eq (fun _ => ?_);have h3 := hd12.out.2.2 rfl
       revert h3
       cases ((G (i + 1)).and fun c j => (Bk j).and fun d k => St.ok (c.then d) k) with
       | out => exact fun _ => rfl
       | bad j => exact fun _ => rfl
       | ok c j =>
         rintro ⟨rfl, _⟩;show St.ok (c.under 6 0 []) k = elseX ks Bk c k
         unfold elseX;rw [if_neg (isB_no hEl)]
   replace hdF := Lib.hid hdF;rw [hEl] at kL;simp only [Bool.false_eq_true, ↓reduceIte] at kL;unfold B.else at kL;clear hEl hdE hd12 hne hBk;go_wp2_with fail
   refine kL.out.mono ?_;rintro e' x10 ⟨rfl, hs10, ho10⟩;have hv10 := hA.out.step hRl ho10;have ho11 := Lib.hid (ho9.out.then ho10);have hz10 := ho10.size;have k7 := Lib.hid (top_any hs10 6 0 2 0 [] hv10 (by omega));clear kL ho10 hs9 ho9 hA hv10 hs10;go_wp2_with fail
   refine k7.out.mono ?_;rintro e' x13 ⟨v13, rfl, hv13, hs13, ho15⟩;go_wp2_with fail
   go_ret
   exact ⟨_, _, k, b2, _, rfl, hv13.low9 (by omega), topL_len _ _ (by omega), ⟨hdF.out.1, fun e => (by cases e), hdF.out.2.2⟩, hs13, ho11.out.then ho15⟩
end
end Go.Proofs.YtngbekhegnmfaaaGreatDoor
namespace Go.Proofs.YtngbekhegnmfaaaGreatDoor
open Go.RowKit Go.Shelf Tok
section
variable {R cap : Nat} {a : Option Addr} {ks : List Tk}
theorem want_at {m : List UInt8} {i : Nat} (h : markT ks i = m) : wantT ks m i = .ok () (i + 1) := by unfold wantT; rw [if_pos h]
theorem stmt_step (f : Nat) (hE : ∀ f', f' ≤ f → DDoes 45 (dp R) (gP ks f' .expr) R a cap ks) (hB : ∀ f', f' ≤ f → DDoes 87 (dp R) (gP ks f' .block) R a cap ks) :
   DDoesF 119 (dp R) (gP ks (f + 1) .stmt) R a cap ks := by
 intro w i lg h hne;have hG : gP ks (f + 1) .stmt i = (if markT ks i = B.let then (wantT ks B.let i).and fun _ i => gP ks f (.set 4) i
     else if markT ks i = B.if then gP ks f .choice i
     else if markT ks i = B.while then (wantT ks B.while i).and fun _ i => (gP ks f .expr i).and fun c i => (gP ks f .block i).and fun b i => .ok ((c.then b).under 7 0 []) i
     else if markT ks i = B.ret ∨ markT ks i = B.fail ∨ markT ks i = B.sleep ∨ markT ks i = B.do then (wantT ks (markT ks i) i).and fun _ j => (gP ks f .expr j).and fun c j => .ok (c.under (opOfT (markT ks i)) 0 []) j
     else gP ks f (.set 5) i) := rfl
 rw [hG] at hne ⊢;clear hG;by_cases hl : markT ks i = B.let
 · rw [if_pos hl, want_at hl] at hne ⊢
   cases f with
   | zero => exact absurd rfl hne
   | succ f' => exact stmt_let (hE f' (by omega)) h hl hne
 rw [if_neg hl] at hne ⊢;by_cases hi : markT ks i = B.if
 · rw [if_pos hi] at hne ⊢
   cases f with
   | zero => exact absurd rfl hne
   | succ f' =>
     have hC : gP ks (f' + 1) .choice i = (gP ks f' .expr (i + 1)).and fun c j => (gP ks f' .block j).and fun d k => elseX ks (gP ks f' .block) (c.then d) k := by
       show (wantT ks B.if i).and _ = _
       rw [want_at hi];rfl
     rw [hC] at hne ⊢;exact stmt_if (hE f' (by omega)) (hB f' (by omega)) h hi hne
 rw [if_neg hi] at hne ⊢;by_cases hw : markT ks i = B.while
 · rw [if_pos hw, want_at hw] at hne ⊢
   exact stmt_while (hE f (Nat.le_refl _)) (hB f (Nat.le_refl _)) h hw hne
 rw [if_neg hw] at hne ⊢;by_cases ho : markT ks i = B.ret ∨ markT ks i = B.fail ∨ markT ks i = B.sleep ∨ markT ks i = B.do
 · rw [if_pos ho, want_at rfl] at hne ⊢
   have hne2 : gP ks f .expr (i + 1) ≠ .out := fun e => hne (by show (gP ks f .expr (i + 1)).and _ = _; rw [e]; rfl);rcases ho with ho | ho | ho | ho
   · have hop : opOfT (markT ks i) = 8 := by rw [ho]; decide
     rw [hop];exact stmt_ret (hE f (Nat.le_refl _)) h ho hne2
   · have hop : opOfT (markT ks i) = 9 := by rw [ho]; decide
     rw [hop];exact stmt_fail (hE f (Nat.le_refl _)) h ho hne2
   · have hop : opOfT (markT ks i) = 10 := by rw [ho]; decide
     rw [hop];exact stmt_sleep (hE f (Nat.le_refl _)) h ho hne2
   · have hop : opOfT (markT ks i) = 11 := by rw [ho]; decide
     rw [hop];exact stmt_do (hE f (Nat.le_refl _)) h ho hne2
 rw [if_neg ho] at hne ⊢;cases f with
 | zero => exact absurd rfl hne
 | succ f' =>
   cases hM : mineB ks i false with
   | true => exact stmt_mine (hE f' (by omega)) h hM hne
   | false =>
     refine stmt_none h hM ⟨hl, fun e => ho (.inl e), fun e => ho (.inr (.inl e)), fun e => ho (.inr (.inr (.inl e))), fun e => ho (.inr (.inr (.inr e))), hw, hi⟩ ?_;show (ownT ks i).and _ = _
     rw [mineB_not hM];rfl
theorem block_step (f : Nat) (hf : f ≤ 1000000000) (hS : ∀ f', f' < f → DDoesF 119 (dp R) (gP ks f' .stmt) R a cap ks) :
   DDoesF 87 (dp R) (gP ks (f + 1) .block) R a cap ks := by
 intro w i lg h hne;have hG : gP ks (f + 1) .block i = (gP ks f (.between B.lbr .stmts B.rbr) i).and fun c i => .ok (c.under 3 0 []) i := rfl;rw [hG] at hne ⊢;cases f with
 | zero => exact absurd rfl hne
 | succ f1 =>
   have hG1 : gP ks (f1 + 1) (.between B.lbr .stmts B.rbr) i = (wantT ks B.lbr i).and fun _ i => (gP ks f1 .stmts i).and fun c i => (wantT ks B.rbr i).and fun _ i => .ok c i := rfl;rw [hG1] at hne ⊢;cases f1 with
   | zero =>
     by_cases hq : markT ks i = B.lbr
     · rw [want_at hq] at hne
       exact absurd rfl hne
     · have hb := dblock_any (R := R) (a := a) (cap := cap) (ks := ks) 0 (by omega) (fun f' hf' => absurd hf' (by omega))
       have hw : wantT ks B.lbr i = .bad i := by unfold wantT; rw [if_neg hq]
       refine (hb w i false lg h (fun _ => ?_)).mono (fun _ _ h => h.of (fun _ => ?_))
       · show ((wantT ks B.lbr i).and _).and _ ≠ _
         rw [hw];exact fun e => by cases e
       · show ((wantT ks B.lbr i).and _).and _ = ((wantT ks B.lbr i).and _).and _
         rw [hw];rfl
   | succ f2 =>
     have hb := dblock_any (R := R) (a := a) (cap := cap) (ks := ks) f2 (by omega) (fun f' hf' => hS f' (by omega));exact hb w i false lg h (fun _ => hne)
end
end Go.Proofs.YtngbekhegnmfaaaGreatDoor
namespace Go.Proofs.YtngbekhegnmfaaaGreatDoor
open Go.RowKit Go.Shelf Tok
def opsL : List (List UInt8) := [B.or, B.and, B.eqq, B.neq, B.les, B.leq, B.add, B.sub, B.mul, B.div, B.rem]
theorem sgn_not {m : List UInt8} (h : m ∉ opsL) : sgn m = (0, 0) := by
 unfold opsL at h;simp only [List.mem_cons, List.not_mem_nil, or_false, not_or] at h;obtain ⟨h0, h1, h2, h3, h4, h5, h6, h7, h8, h9, h10⟩ := h;unfold sgn;rw [if_neg h0, if_neg h1, if_neg h2, if_neg h3, if_neg h4, if_neg h5, if_neg h6, if_neg h7, if_neg h8, if_neg h9, if_neg h10]
theorem levOK_of {n : Int} {ms : List (List UInt8)} (hn : 1 ≤ n) (h : ∀ x ∈ opsL, ((((sgn x).2 : Nat) : Int) = n ↔ x ∈ ms)) (hm : ∀ x ∈ ms, x ∈ opsL) (ho : ∀ x ∈ ms, (sgn x).1 = opOfT x) (hne : ∀ x ∈ ms, x ≠ []) : LevOK n ms := by
 refine ⟨fun m => ?_, ho, hne⟩;by_cases hx : m ∈ opsL
 · exact h m hx
 · rw [sgn_not hx]
   refine ⟨fun e => ?_, fun e => absurd (hm m e) hx⟩;have e' : (0 : Int) = n := e;omega
theorem lev1 : LevOK 1 [B.or] := levOK_of (by decide) (by decide) (by decide) (by decide) (by decide)
theorem lev2 : LevOK 2 [B.and] := levOK_of (by decide) (by decide) (by decide) (by decide) (by decide)
theorem lev4 : LevOK 4 cmpS := levOK_of (by decide) (by decide) (by decide) (by decide) (by decide)
theorem lev5 : LevOK 5 addS := levOK_of (by decide) (by decide) (by decide) (by decide) (by decide)
theorem lev6 : LevOK 6 mulS := levOK_of (by decide) (by decide) (by decide) (by decide) (by decide)
section
variable {R cap : Nat} {a : Option Addr} {ks : List Tk}
abbrev dl (R : Nat) (n : Int) : Array Value := #[.pointer (some ⟨R, 0, none⟩), .int .i64 n]
theorem level_step {n : Int} {q q0 : NT} {ms : List (List UInt8)} (h1 : 1 ≤ n) (h6 : n ≤ 6) (n3 : n ≠ 3) (n4 : n ≠ 4) (hLev : LevOK n ms) (f : Nat) (hq : ∀ f i, gP ks (f + 1) q0 i = gP ks f (.row q ms) i)
   (hE : ∀ f', f' ≤ f → DDoes 89 (dl R (n + 1)) (gP ks f' q) R a cap ks) : DDoesF 89 (dl R n) (gP ks (f + 1) q0) R a cap ks := by
 cases f with
 | zero => exact DDoesF.out.eq (fun i => (hq 0 i).symm)
 | succ f1 =>
   exact (level_any (q := q) h1 h6 n3 n4 hLev f1 (fun f' hf' => (hE f' (by omega)).f) (hE f1 (by omega))).f.eq (fun i => (hq (f1 + 1) i).symm)
theorem level_bad {n : Int} {ms : List (List UInt8)} (h1 : 1 ≤ n) (h6 : n ≤ 6) (n3 : n ≠ 3) (n4 : n ≠ 4) (hLev : LevOK n ms) (hE : DDoes 89 (dl R (n + 1)) (fun _ => .out) R a cap ks) : DDoes 89 (dl R n) (fun _ => .out) R a cap ks :=
 (level_any (q := .expr) h1 h6 n3 n4 hLev 0 (fun f' hf' => absurd hf' (by omega)) hE).eq (fun _ => rfl)
structure DBad (R : Nat) (a : Option Addr) (cap : Nat) (ks : List Tk) : Prop where
 prim : DDoes 145 (dp R) (fun _ => .out) R a cap ks
 pre : DDoes 120 (dp R) (fun _ => .out) R a cap ks
 l7 : DDoes 89 (dl R 7) (fun _ => .out) R a cap ks
 l6 : DDoes 89 (dl R 6) (fun _ => .out) R a cap ks
 l5 : DDoes 89 (dl R 5) (fun _ => .out) R a cap ks
 l4 : DDoes 89 (dl R 4) (fun _ => .out) R a cap ks
 l3 : DDoes 89 (dl R 3) (fun _ => .out) R a cap ks
 l2 : DDoes 89 (dl R 2) (fun _ => .out) R a cap ks
 l1 : DDoes 89 (dl R 1) (fun _ => .out) R a cap ks
 expr : DDoes 45 (dp R) (fun _ => .out) R a cap ks
 block : DDoes 87 (dp R) (fun _ => .out) R a cap ks
theorem DDoes.bad {N : Nat} {args : Array Value} {G : Nat → St Ch} (h : DDoes N args G R a cap ks) : DDoes N args (fun _ => .out) R a cap ks := by
 intro W i bd lg hs hn;cases bd with
 | false => exact absurd rfl (hn rfl)
 | true => exact (h W i true lg hs (fun e => by cases e)).mono (fun _ _ h => h.of (fun e => by cases e))
theorem dBad_of (hp : DDoes 145 (dp R) (fun _ => .out) R a cap ks) : DBad R a cap ks := by
 have hpre : DDoes 120 (dp R) (fun _ => .out) R a cap ks := by
   intro W i bd lg hs hn;cases bd with
   | false => exact absurd rfl (hn rfl)
   | true => exact post_any 0 (fun f' hf' => absurd hf' (by omega)) hp hs rfl rfl rfl (fun e => by cases e)
 have h7 := seven_any hpre;have h6 := level_bad (R := R) (a := a) (cap := cap) (ks := ks) (by decide) (by decide) (by decide) (by decide) lev6 h7;have h5 := level_bad (R := R) (a := a) (cap := cap) (ks := ks) (by decide) (by decide) (by decide) (by decide) lev5 h6;have h4 : DDoes 89 (dl R 4) (fun _ => .out) R a cap ks := (cmp_any lev4 0 (DDoesF.out.eq (fun _ => rfl)) h5).eq (fun _ => rfl);have h3 : DDoes 89 (dl R 3) (fun _ => .out) R a cap ks := (dnot_any DDoesF.out h4).bad;have h2 := level_bad (R := R) (a := a) (cap := cap) (ks := ks) (by decide) (by decide) (by decide) (by decide) lev2 h3;have h1 := level_bad (R := R) (a := a) (cap := cap) (ks := ks) (by decide) (by decide) (by decide) (by decide) lev1 h2;exact ⟨hp, hpre, h7, h6, h5, h4, h3, h2, h1, dexpr_any h1, (dblock_any 0 (by omega) (fun f' hf' => absurd hf' (by omega))).bad⟩
structure DAll (R : Nat) (a : Option Addr) (cap : Nat) (ks : List Tk) (f : Nat) : Prop where
 prim : DDoes 145 (dp R) (gP ks f .prim) R a cap ks
 pre : DDoes 120 (dp R) (gP ks f .pre) R a cap ks
 l6 : DDoes 89 (dl R 6) (gP ks f .term) R a cap ks
 l5 : DDoes 89 (dl R 5) (gP ks f .sum) R a cap ks
 l4 : DDoes 89 (dl R 4) (gP ks f .cmp) R a cap ks
 l3 : DDoes 89 (dl R 3) (gP ks f .not) R a cap ks
 l2 : DDoes 89 (dl R 2) (gP ks f .and) R a cap ks
 expr : DDoes 45 (dp R) (gP ks f .expr) R a cap ks
 block : DDoes 87 (dp R) (gP ks f .block) R a cap ks
 stmt : DDoesF 119 (dp R) (gP ks f .stmt) R a cap ks
theorem dAll_of (hb : DBad R a cap ks) (hprim : ∀ f, f ≤ 1000000000 → (∀ f', f' ≤ f → DAll R a cap ks f') → DDoesF 145 (dp R) (gP ks (f + 1) .prim) R a cap ks) :
   ∀ f, f ≤ 1000000000 → ∀ f', f' ≤ f → DAll R a cap ks f' := by
 intro f
 induction f with
 | zero =>
   intro _ f' hf';obtain rfl : f' = 0 := by omega
   exact ⟨hb.prim, hb.pre, hb.l6, hb.l5, hb.l4, hb.l3, hb.l2, hb.expr, hb.block, DDoesF.out⟩
 | succ f ih =>
   intro hf f' hf';have ih := ih (by omega);rcases Nat.lt_or_ge f' (f + 1) with h | h
   · exact ih f' (by omega)
   · obtain rfl : f' = f + 1 := by omega
     have I := ih f (Nat.le_refl _);refine ⟨hb.prim.of (hprim f (by omega) ih), hb.pre.of (pre_step f I.pre.f (fun f' h => (ih f' (by omega)).expr.f) (fun f' h => (ih f' (by omega)).prim)), hb.l6.of ?_, hb.l5.of ?_, hb.l4.of ?_, hb.l3.of ?_, hb.l2.of ?_, hb.expr.of ?_, hb.block.of (block_step f (by omega) (fun f' h => (ih f' (by omega)).stmt)), stmt_step f (fun f' h => (ih f' h).expr) (fun f' h => (ih f' h).block)⟩
     · exact level_step (q := .pre) (by decide) (by decide) (by decide) (by decide) lev6 f (fun _ _ => rfl) (fun f' h => seven_any (ih f' h).pre)
     · exact level_step (q := .term) (by decide) (by decide) (by decide) (by decide) lev5 f (fun _ _ => rfl) (fun f' h => (ih f' h).l6)
     · exact (cmp_any lev4 f I.l5.f I.l5).f.eq (fun i => by
         show _ = (gP ks f .sum i).and _
         congr 1
         funext c j
         unfold cmpGo cmpS;simp only [List.mem_cons, List.not_mem_nil, or_false])
     · exact (dnot_any I.l3.f I.l4).f
     · exact level_step (q := .not) (by decide) (by decide) (by decide) (by decide) lev2 f (fun _ _ => rfl) (fun f' h => (ih f' h).l3)
     · exact (dexpr_any (hb.l1.of (level_step (q := .and) (by decide) (by decide) (by decide) (by decide) lev1 f (fun _ _ => rfl) (fun f' h => (ih f' h).l2)))).f
end
end Go.Proofs.YtngbekhegnmfaaaGreatDoor
