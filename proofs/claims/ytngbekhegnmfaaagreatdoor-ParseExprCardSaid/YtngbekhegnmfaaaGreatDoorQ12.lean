/- A part of the proof: DExprs, DLevel, DCmp, DNot. No condition. -/
import Derived.Test.YtngbekhegnmfaaaGreatDoorQ11
set_option linter.unusedVariables false
set_option linter.unusedSimpArgs false
namespace Go.Proofs.YtngbekhegnmfaaaGreatDoor
open Go.RowKit Go.Shelf Tok
def DDone2 (s : St Ch) (i : Nat) (bd lg : Bool) (R : Nat) (a : Option Addr) (cap : Nat) (ks : List Tk) (W : World) (e : Ending) (w' : World) : Prop :=
 ∃ v ts i' bd' lg' n, e = .returned (.tuple #[v, .int .i64 n]) ∧ TwsAt w' W.heap.size v ts ∧ ts.length ≤ 4096 ∧ DP s i bd lg ts n i' bd' lg' ∧ SR w' R a cap ks i' bd' lg' ∧ Only (fun k => k = R) W w'
def DDoes2 (N : Nat) (args : Array Value) (G : Nat → St Ch) (R : Nat) (a : Option Addr) (cap : Nat) (ks : List Tk) : Prop :=
 ∀ W i bd lg, SR W R a cap ks i bd lg → (bd = false → G i ≠ .out) → Calls Tryz.prog N args W (DDone2 (G i) i bd lg R a cap ks W)
def listX (ks : List Tk) (e : List UInt8) (f : Nat) (c : Ch) (k : Nat) : St Ch := gP ks f (.listGo .expr e c) k
def exR (ks : List Tk) (e : List UInt8) (f : Nat) (j : Nat) : St Ch := if markT ks j = e then (wantT ks e j).and fun _ i => .ok Ch.none i else (gP ks f .expr j).and fun c i => gP ks f (.listGo .expr e c) i
section
variable {R cap : Nat} {a : Option Addr} {ks : List Tk} {e : List UInt8}
variable {s Z : St Ch} {i j f' : Nat} {bd lg bdj lgj : Bool} {ts : List Tw} {n : Int}
theorem list_bad (hd : DP s i bd lg ts n j true lgj) (hZ : (s.and fun c k => listX ks e f' c k) = Z) (hne : bd = false → Z ≠ .out) : DP Z i bd lg ts n j true lgj :=
 hd.exit hZ hne (fun e => by cases e)
theorem list_end (he : e ≠ []) (hc : e ≠ B.com) (hd : DP s i bd lg ts n j false lgj) (hB : isB ks j false e = true) (hZ : (s.and fun c k => listX ks e f' c k) = Z) (hne : bd = false → Z ≠ .out) : DP Z i bd lg ts n (j + 1) false lgj := by
 obtain ⟨hl, _, hq⟩ := isB_lt he hB;obtain ⟨hb, hs⟩ := hd.next rfl;have hne' := hne hb;rcases hs with rfl | ⟨c, rfl⟩
 · exact absurd hZ.symm hne'
 · have hw : wantT ks e j = .ok () (j + 1) := by unfold wantT; rw [if_pos hq]
   cases f' with
   | zero => exact absurd hZ.symm hne'
   | succ f3 =>
     have hZ2 : Z = .ok c (j + 1) := by
       rw [← hZ];show (if markT ks j = B.com then _ else (wantT ks e j).and fun _ i => St.ok c i) = _
       rw [if_neg (fun h => hc (hq.symm.trans h)), hw];rfl
     rw [hZ2];obtain ⟨h1, h2, h3⟩ := hd;refine ⟨h1, fun e => (by rw [hb] at e; cases e), fun e => ?_⟩;obtain ⟨_, a2, a3, a4, a5⟩ := h3 e;exact ⟨rfl, a2, a3, a4, a5⟩
theorem list_round (he : e ≠ []) (hd : DP s i bd lg ts n j false lgj) (hB : isB ks j false e = false) (hZ : (s.and fun c k => listX ks e f' c k) = Z) (hne : bd = false → Z ≠ .out) :
   ∃ f3, f' = f3 + 1 ∧ (isB ks j false B.com = true → gP ks f3 .expr (j + 1) ≠ .out) ∧ ∀ us k bdk lgk, DP (gP ks f3 .expr (if isB ks j false B.com then j + 1 else j)) (if isB ks j false B.com then j + 1 else j) (if isB ks j false B.com then false else true) lgj us 1 k bdk lgk →
     ∃ s', DP s' i bd lg (ts ++ us) (n + 1) k bdk lgk ∧ (s'.and fun c k => listX ks e f3 c k) = Z := by
 obtain ⟨hb, hs⟩ := hd.next rfl;have hne' := hne hb;have hm := isB_no hB;rcases hs with rfl | ⟨c, rfl⟩
 · exact absurd hZ.symm hne'
 · cases f' with
   | zero => exact absurd hZ.symm hne'
   | succ f3 =>
     have hZ2 : Z = if markT ks j = B.com then (wantT ks B.com j).and fun _ i => (gP ks f3 .expr i).and fun d i => listX ks e f3 (c.then d) i else (wantT ks e j).and fun _ i => .ok c i := hZ.symm;refine ⟨f3, rfl, fun hq => ?_, fun us k bdk lgk hx => ?_⟩
     · obtain ⟨_, _, hq⟩ := isB_lt (by decide) hq
       rw [if_pos hq] at hZ2;unfold wantT at hZ2;rw [if_pos hq] at hZ2;exact fun h => hne' (by rw [hZ2]; show (gP ks f3 .expr (j + 1)).and _ = _; rw [h]; rfl)
     · have hx2 : DP ((wantT ks B.com j).and fun _ i => gP ks f3 .expr i) j false lgj us 1 k bdk lgk := DP.must_ahead (G := fun i => gP ks f3 .expr i) hx
       refine ⟨_, hd.then (G := fun j => (wantT ks B.com j).and fun _ i => gP ks f3 .expr i) hx2, ?_⟩;rw [hZ2];show ((((wantT ks B.com j).and fun _ i => gP ks f3 .expr i).and fun d k => St.ok (c.then d) k)).and _ = _
       unfold wantT;by_cases hq : markT ks j = B.com
       · rw [if_pos hq, if_pos hq]
         show ((gP ks f3 .expr (j + 1)).and fun d k => St.ok (c.then d) k).and _ = (gP ks f3 .expr (j + 1)).and _
         generalize gP ks f3 .expr (j + 1) = X;cases X <;> rfl
       · rw [if_neg hq, if_neg hq, if_neg hm]
         rfl
set_option maxRecDepth 20000 in
set_option maxHeartbeats 4000000 in
theorem exprs_any (he : e ≠ []) (hcm : e ≠ B.com) (f : Nat) (hf : f ≤ 1000000000) (hE : ∀ f', f' ≤ f → DDoes 45 (dp R) (gP ks f' .expr) R a cap ks) :
   DDoes2 163 #[.pointer (some ⟨R, 0, none⟩), .string ⟨e.toArray⟩] (exR ks e f) R a cap ks := by
 intro w i bd lg h hne;have hRl := h.lt;have k1 := Lib.hid (has_any h he);have hfar := Lib.hid h.far;cases hB : isB ks i bd e with
 | true =>
   obtain ⟨_, rfl, hq⟩ := isB_lt he hB;have hG : exR ks e f i = .ok Ch.none (i + 1) := by
     unfold exR;rw [if_pos hq];unfold wantT;rw [if_pos hq];rfl
   rw [hG];rw [hB] at k1;simp only [↓reduceIte] at k1;clear hE hne h;go_enter Tryz.func163, Tryz.ntmps163
   go_wp2_with fail
   refine k1.out.mono ?_;rintro e' w1 ⟨rfl, hs1, ho1⟩;go_wp2_with fail
   go_ret2
   exact ⟨_, [], i + 1, false, lg, 0, rfl, World.ownsRow_nil _ _ _ _, by simp, (DP.ok (c := Ch.none) (i := i) rfl rfl).shift, hs1, ho1⟩
 | false =>
   obtain ⟨Z, hZ⟩ := exHid ((gP ks f .expr i).and fun c k => listX ks e f c k);have hGZ : bd = false → exR ks e f i = Z := by
     rintro rfl;have hm := isB_no hB;unfold exR;rw [if_neg hm];exact hZ.out
   have hne1 : bd = false → Z ≠ .out := fun h => by rw [← hGZ h]; exact hne h
   have hFin : ∀ ts n j lgj bdj, DP Z i bd lg ts n j bdj lgj → DP (exR ks e f i) i bd lg ts n j bdj lgj := fun _ _ _ _ _ h => h.of_eq (fun e => (hGZ e).symm);have k2 := Lib.hid (fun (W : World) (h : SR W R a cap ks i bd lg) => hE f (Nat.le_refl _) W i bd lg h (fun e => and_out (by rw [hZ.out]; exact hne1 e)));rw [hB] at k1;simp only [Bool.false_eq_true, ↓reduceIte] at k1;replace hE := Lib.hid hE;replace hne1 := Lib.hid hne1;replace hFin := Lib.hid hFin;obtain ⟨U, hU⟩ := exHid (exR ks e f i);rw [hU.out] at hFin ⊢;replace he := Lib.hid he;replace hcm := Lib.hid hcm;clear hne h hB hGZ hU;unfold dp at hE k2;go_enter Tryz.func163, Tryz.ntmps163
   go_wp2_with fail
   refine k1.out.mono ?_;rintro e' w1 ⟨rfl, hs1, ho1⟩;go_wp2_with fail
   refine (k2.out _ hs1).mono ?_;rintro e' w2 ⟨v, ts, j, bdj, lgj, rfl, hv, hl, hd, hs2, ho2⟩;have hz1 := ho1.size;have hvA := Lib.hid (hv.low9 (b := w.heap.size) (by omega));have hoA := Lib.hid (ho1.then ho2);have hdA := Lib.hid hd;have hsA := Lib.hid hs2;clear k1 k2 hs1 ho1 hv hd hs2 ho2 hz1;go_wp2_with fail
   go_loopw [6, 7] (fun t3 t4 wr => ∃ (s : St Ch) (f' n j : Nat) (bdj lgj : Bool) (ts : List Tw), t4 = .int .i64 n ∧ f' + n = f + 1 ∧ 1 ≤ n ∧ ts.length ≤ 4096 ∧ Hid ((s.and fun c k => listX ks e f' c k) = Z) ∧ Hid (DP s i bd lg ts n j bdj lgj) ∧ Hid (SR wr R a cap ks j bdj lgj) ∧ Hid (TwsAt wr w.heap.size t3 ts) ∧ Hid (Only (fun k => k = R) w wr)) (fun _ t4 _ => f + 1 - (intOf t4).toNat)
   case atStart => exact ⟨gP ks f .expr i, f, 1, j, bdj, lgj, ts, by go_num, rfl, Nat.le_refl _, by omega, hZ, hdA, hsA, hvA, hoA⟩
   case round =>
     clear hsA hoA hZ hdA hvA hl;obtain ⟨s, f', n, j, bdj, lgj, ts, rfl, hfn, hn1, hl, hZ, hd, hs, hv, ho⟩ := hrel;obtain ⟨va, vc, rfl, _, _⟩ := id hv.out.shape;have hwz := ho.out.size;have c2 := hs.out.c2;have hb0 := fun m => Lib.hid (below_dn (Below.refl wr.heap.size wr) m)
     cases bdj with
     | true =>
       have hx := list_bad hd.out hZ.out hne1.out;have hx2 := Lib.hid (hFin.out _ _ _ _ _ hx);clear hx hd hE;go_wp2_with fail
       go_ret2
       exact ⟨_, ts, j, true, lgj, _, rfl, hv.out.below (by first | exact Below.refl _ _ | exact (hb0 _).out | exact (Below.refl _ _).drew), hl, hx2.out, hs.out.below (by first | exact Below.refl _ _ | exact (hb0 _).out | exact (Below.refl _ _).drew), ho.out.then (Only.of_below (by first | exact Below.refl _ _ | exact (hb0 _).out | exact (Below.refl _ _).drew))⟩
     | false =>
       have kH := Lib.hid (fun (W : World) (hW : Below wr.heap.size wr W) => has_any (hs.out.below hW) he.out);cases hB : isB ks j false e with
       | true =>
         have hx := list_end he.out hcm.out hd.out hB hZ.out hne1.out;have hx2 := Lib.hid (hFin.out _ _ _ _ _ hx);rw [hB] at kH;simp only [↓reduceIte] at kH;clear hx hd hE hB;go_wp2_with fail
         refine (kH.out _ ?_).mono ?_
         · first | exact Below.refl _ _ | exact (hb0 _).out | exact (Below.refl _ _).drew
         rintro e' w3 ⟨rfl, hs3, ho3⟩;have hoZ := Lib.hid (show Only (fun k => k = R) w w3 from (ho.out.then (Only.of_below (by first | exact Below.refl _ _ | exact (hb0 _).out | exact (Below.refl _ _).drew))).then ho3);have hvZ := Lib.hid (show TwsAt w3 w.heap.size (.slice va ts.length vc) ts from (hv.out.below (by first | exact Below.refl _ _ | exact (hb0 _).out | exact (Below.refl _ _).drew)).step hRl ho3);clear kH ho3 hs hv ho;go_wp2_with fail
         go_ret2
         exact ⟨_, ts, j + 1, false, lgj, _, rfl, hvZ.out, hl, hx2.out, hs3, hoZ.out⟩
       | false =>
         obtain ⟨f3, rfl, hn3, hr⟩ := list_round he.out hd.out hB hZ.out hne1.out;have kM := Lib.hid (fun (W : World) (h : SR W R a cap ks j false lgj) => must_any h (show B.com ≠ [] by decide));obtain ⟨j2, hj2⟩ := exHid (if isB ks j false B.com then j + 1 else j);obtain ⟨b2, hb2⟩ := exHid (if isB ks j false B.com then false else true);have hn4 : b2 = false → gP ks f3 .expr j2 ≠ .out := by
           intro h;rw [← hb2.out] at h;have hq : isB ks j false B.com = true := by
             cases hq : isB ks j false B.com with
             | true => rfl
             | false => rw [hq] at h; cases h
           rw [← hj2.out, hq];exact hn3 hq
         rw [hj2.out, hb2.out] at kM hr;unfold B.com at kM;have k5 := Lib.hid (fun (W : World) (h : SR W R a cap ks j2 b2 lgj) => hE.out f3 (by omega) W j2 b2 lgj h hn4);rw [hB] at kH;simp only [Bool.false_eq_true, ↓reduceIte] at kH;replace hr := Lib.hid hr;clear hd hB hn3 hn4 hj2 hb2;go_wp2_with fail
         refine (kH.out _ ?_).mono ?_
         · first | exact Below.refl _ _ | exact (hb0 _).out | exact (Below.refl _ _).drew
         rintro e' w3 ⟨rfl, hs3, ho3⟩;have hoZ := Lib.hid (show Only (fun k => k = R) w w3 from (ho.out.then (Only.of_below (by first | exact Below.refl _ _ | exact (hb0 _).out | exact (Below.refl _ _).drew))).then ho3);have hvZ := Lib.hid (show TwsAt w3 w.heap.size (.slice va ts.length vc) ts from (hv.out.below (by first | exact Below.refl _ _ | exact (hb0 _).out | exact (Below.refl _ _).drew)).step hRl ho3);have hz3 := ho3.size;have hz3' := hoZ.out.size;replace hs3 := Lib.hid hs3;clear kH ho3 hs hv ho c2 hb0;go_wp2_with fail
         refine (kM.out _ ?_).mono ?_
         · first | exact hs3.out | exact hs3.out.below (Below.refl _ _).drew
         rintro e' w5 ⟨rfl, hs5, ho5⟩;have hvY := Lib.hid (show TwsAt w5 w.heap.size (.slice va ts.length vc) ts from hvZ.out.step hRl ho5);have hoY := Lib.hid (hoZ.out.then ho5);have hz5 := ho5.size;clear kM hvZ hoZ ho5 hs3;go_wp2_with fail
         refine (k5.out _ ?_).mono ?_
         · first | exact hs5 | exact hs5.below (Below.refl _ _).drew
         rintro e' w6 ⟨v6, us, k, bdk, lgk, rfl, hu6, hl6, hd6, hs6, ho7⟩;have hz6 := ho7.size;have hvA := Lib.hid (show TwsAt w6 w.heap.size (.slice va ts.length vc) ts from hvY.out.step hRl ho7);have hoA := Lib.hid (hoY.out.then ho7);obtain ⟨va6, vc6, rfl, _, _⟩ := id hu6.shape;obtain ⟨s', hd', hZ'⟩ := hr.out us k bdk lgk hd6;replace hu6 := Lib.hid hu6;replace hs6 := Lib.hid hs6;replace hZ' := Lib.hid hZ';clear k5 hr hvY hoY hd6 ho7 hs5;by_cases hcap : ts.length ≤ 2048
         · have hci : (ts.length : Int) ≤ 2048 := by omega
           replace hd' := Lib.hid hd';go_wp2_with (at_builtin; (refine wpList_append_twx (base := w.heap.size) rfl _ _ rfl rfl hvA.out rfl hu6.out (by omega) (by omega) (by omega) ?_; intro v9 w9 hA hB9))
           have hs9 := Lib.hid (hs6.out.low hB9 hRl hfar.out);have ho9 := Lib.hid (onlyB hoA.out hB9 (Nat.le_refl _));have hlen : (ts ++ us).length = ts.length + us.length := List.length_append;replace hA := Lib.hid hA;clear hs6 hvA hu6 hoA hB9;go_roundw
           case rel => exact ⟨s', f3, n + 1, k, bdk, _, _, by go_num, by omega, by omega, by omega, hZ', hd', hs9, hA, ho9⟩
           case measure => simp [intOf]; omega
         · have hci : ¬ (ts.length : Int) ≤ 2048 := by omega
           have hd2 := Lib.hid (hd'.keep (by omega));clear hd';go_wp2_with fail
           go_roundw
           case rel => exact ⟨s', f3, n + 1, k, bdk, _, _, by go_num, by omega, by omega, hl, hZ', hd2, hs6, hvA, hoA⟩
           case measure => simp [intOf]; omega
end
end Go.Proofs.YtngbekhegnmfaaaGreatDoor
namespace Go.Proofs.YtngbekhegnmfaaaGreatDoor
open Go.RowKit Go.Shelf Tok
structure LevOK (n : Int) (ms : List (List UInt8)) : Prop where
 lev : ∀ m, ((((sgn m).2 : Nat) : Int) = n ↔ m ∈ ms)
 op : ∀ m, m ∈ ms → (sgn m).1 = opOfT m
 ne : ∀ m, m ∈ ms → m ≠ []
section
variable {R cap : Nat} {a : Option Addr} {ks : List Tk}
variable {s Z : St Ch} {i j f' : Nat} {bd lg bdj lgj : Bool} {ts : List Tw} {q : NT} {ms : List (List UInt8)}
theorem row_end (hd : DP s i bd lg ts 1 j bdj lgj) (hB : bdj = false → markT ks j ∉ ms) (hZ : (s.and fun c k => gP ks f' (.rowGo q ms c) k) = Z) (hne : bd = false → Z ≠ .out) : DP Z i bd lg ts 1 j bdj lgj :=
 hd.exit hZ hne (fun e c hc => by
   have hb := (hd.next e).1;have hm := hB e;subst hc;cases f' with
   | zero => exact absurd (by rw [← hZ]; rfl) (hne hb)
   | succ f'' =>
     show (if markT ks j ∈ ms then _ else St.ok c j) = _
     rw [if_neg hm])
theorem row_round (hd : DP s i bd lg ts 1 j false lgj) (hq : markT ks j ∈ ms) (hZ : (s.and fun c k => gP ks f' (.rowGo q ms c) k) = Z) (hne : bd = false → Z ≠ .out) :
   ∃ f3, f' = f3 + 1 ∧ gP ks f3 q (j + 1) ≠ .out ∧ ∀ us k bdk lgk, DP (gP ks f3 q (j + 1)) (j + 1) false lgj us 1 k bdk lgk →
     ∃ s', DP s' i bd lg (topL ⟨opOfT (markT ks j), 2, 0, []⟩ (ts ++ us)) 1 k bdk (lgk || decide (2048 ≤ (ts ++ us).length)) ∧ (s'.and fun c k => gP ks f3 (.rowGo q ms c) k) = Z ∧ j < k := by
 obtain ⟨hb, hs⟩ := hd.next rfl;have hne' := hne hb;rcases hs with rfl | ⟨c, rfl⟩
 · exact absurd hZ.symm hne'
 · have hw : wantT ks (markT ks j) j = .ok () (j + 1) := by unfold wantT; rw [if_pos rfl]
   cases f' with
   | zero => exact absurd hZ.symm hne'
   | succ f3 =>
     have hZ2 : Z = (gP ks f3 q (j + 1)).and fun d k => gP ks f3 (.rowGo q ms ((c.then d).under (opOfT (markT ks j)) 0 [])) k := by
       rw [← hZ];show (if markT ks j ∈ ms then _ else _) = _
       rw [if_pos hq, hw];rfl
     refine ⟨f3, rfl, fun e => hne' (by rw [hZ2, e]; rfl), fun us k bdk lgk hx => ?_⟩;have hx3 := (hd.shift (k := j + 1)).then (G := fun x => gP ks f3 q x) hx;refine ⟨_, hx3.top (opOfT (markT ks j)) 0 [] ⟨opOfT_256 _, Nat.zero_le _⟩, ?_, ?_⟩
     · rw [hZ2]
       show (((gP ks f3 q (j + 1)).and fun d k => St.ok (c.then d) k).and fun c j_1 => St.ok (c.under (opOfT (markT ks j)) 0 []) j_1).and _ = _
       generalize gP ks f3 q (j + 1) = X;cases X <;> rfl
     · have := hx.place (K := j + 1) (Nat.le_refl _) (gP_far ks f3 q (j + 1) (Nat.le_refl _)) (fun _ e => hne' (by rw [hZ2, e]; rfl))
       omega
set_option maxRecDepth 20000 in
set_option maxHeartbeats 4000000 in
theorem level_any {G : Nat → St Ch} {n : Int} (h1 : 1 ≤ n) (h6 : n ≤ 6) (n3 : n ≠ 3) (n4 : n ≠ 4) (hLev : LevOK n ms) (f : Nat) (hE : ∀ f', f' < f → DDoesF 89 #[.pointer (some ⟨R, 0, none⟩), .int .i64 (n + 1)] (gP ks f' q) R a cap ks) (hP : DDoes 89 #[.pointer (some ⟨R, 0, none⟩), .int .i64 (n + 1)] G R a cap ks) :
   DDoes 89 #[.pointer (some ⟨R, 0, none⟩), .int .i64 n] (fun i => (G i).and fun c k => gP ks f (.rowGo q ms c) k) R a cap ks := by
 intro w i bd lg h hne;obtain ⟨Z, hZ⟩ := exHid ((G i).and fun c k => gP ks f (.rowGo q ms c) k);dsimp only at hne ⊢;rw [hZ.out] at hne ⊢;have hRl := h.lt;have q3 : (n == 3) = false := beq_eq_false_iff_ne.2 n3;have q7 : (n == 7) = false := beq_eq_false_iff_ne.2 (by omega);have q4 : (n == 4) = false := beq_eq_false_iff_ne.2 n4;have kP := Lib.hid (hP w i bd lg h (fun e => and_out (by rw [hZ.out]; exact hne e)));have hfar := Lib.hid h.far;replace hE := Lib.hid hE;replace hne := Lib.hid hne;replace hLev := Lib.hid hLev;replace n3 := Lib.hid n3;replace n4 := Lib.hid n4;clear hP h;go_enter Tryz.func89, Tryz.ntmps89
 go_wp2_with fail
 refine kP.out.mono ?_;rintro e' w4 ⟨v, ts, j, bdj, lgj, rfl, hv, hl, hd, hs4, ho4⟩;have hvA := Lib.hid hv;have hoA := Lib.hid ho4;have hdA := Lib.hid hd;have hsA := Lib.hid hs4;clear kP hv hd hs4 ho4;go_wp2_with fail
 go_loopw [6] (fun t6 wr => ∃ (s : St Ch) (f' j : Nat) (bdj lgj : Bool) (ts : List Tw), f' ≤ f ∧ ts.length ≤ 2048 ∧ Hid ((s.and fun c k => gP ks f' (.rowGo q ms c) k) = Z) ∧ Hid (DP s i bd lg ts 1 j bdj lgj) ∧ Hid (SR wr R a cap ks j bdj lgj) ∧ Hid (TwsAt wr w.heap.size t6 ts) ∧ Hid (Only (fun k => k = R) w wr)) (fun _ wr => ks.length - placeN wr R)
 case atStart => exact ⟨G i, f, j, bdj, lgj, ts, Nat.le_refl _, hl, hZ, hdA, hsA, hvA, hoA⟩
 case round =>
   clear hdA hsA hvA hoA hl hZ;obtain ⟨s, f', j, bdj, lgj, ts, hf', hl, hZ, hd, hs, hv, ho⟩ := hrel;obtain ⟨va, vc, rfl, _, _⟩ := id hv.out.shape;have hwz := ho.out.size;have c0 := hs.out.c0;have c1 := hs.out.c1;have c2 := hs.out.c2;have hb0 := fun m => Lib.hid (below_dn (Below.refl wr.heap.size wr) m)
   have le := hs.out.le;have kl := hs.out.kl;have hpl := hs.out.place;obtain ⟨a', cap', e, lc, cm, hx⟩ := hs.out.tk;injection e with e1 _ e2;subst e1 e2;cases bdj with
   | true =>
     have hx2 := Lib.hid (row_end hd.out (fun e => by cases e) hZ.out hne.out);clear hx;go_wp2_with fail
     go_quiet (fail)
     go_wp2_with fail
     go_ret
     exact ⟨_, ts, j, true, lgj, rfl, hv.out.below (hb0 _).out, hl, hx2.out, hs.out.below (hb0 _).out, ho.out.then (Only.of_below (hb0 _).out)⟩
   | false =>
     by_cases hp : j = ks.length
     · have hpi : ¬ ((j : Int) < (ks.length : Int)) := by omega
       have hnm : markT ks j ∉ ms := by
         intro hm;refine hLev.out.ne _ hm ?_;unfold markT;rw [List.getElem?_eq_none (by omega)]
       have hx2 := Lib.hid (row_end hd.out (fun _ => hnm) hZ.out hne.out);clear hx hnm hp;go_wp2_with fail
       go_quiet (fail)
       go_wp2_with fail
       go_ret
       exact ⟨_, ts, j, false, lgj, rfl, hv.out.below (hb0 _).out, hl, hx2.out, hs.out.below (hb0 _).out, ho.out.then (Only.of_below (hb0 _).out)⟩
     · have hlt : j < ks.length := by omega
       have hlti : (j : Int) < (ks.length : Int) := by omega
       obtain ⟨g, off, rfl, hg, hc⟩ := hx (by omega);have y0 := hc j hlt 0 (by omega); have y1 := hc j hlt 1 (by omega); have y2 := hc j hlt 2 (by omega); have y3 := hc j hlt 3 (by omega);have kS := fun (W : World) => sign_any ks hlt W
       rw [tkAt_get hlt] at kS;simp only [tkC, List.getElem?_cons_succ, List.getElem?_cons_zero, Nat.add_zero] at y0 y1 y2 y3;have hfl := Lib.hid (hLev.out.lev (markT ks j));obtain ⟨m, hm⟩ := exHid (markT ks j);rw [hm.out] at kS hfl;unfold tkV at kS;clear hx hc;generalize ks[j] = t at *;obtain ⟨kd, tx, nu, at_⟩ := t;dsimp only at y0 y1 y2 y3 kS;replace kS := Lib.hid kS;obtain ⟨L, hL⟩ := exHid ks.length;rw [hL.out] at c0 hlti;have hLk : L ≤ 1000000 := by rw [← hL.out]; exact kl
       obtain ⟨so, hso⟩ := exHid (sgn m).1;obtain ⟨sl, hsl⟩ := exHid (sgn m).2;rw [hso.out, hsl.out] at kS;rw [hsl.out] at hfl;go_wp2_with fail
       go_quiet (fail)
       have z0 := cell_dn nq c0; have z1 := cell_dn nq c1; have z2 := cell_dn nq c2;have x0 := cell_dn nq y0; have x1 := cell_dn nq y1; have x2 := cell_dn nq y2; have x3 := cell_dn nq y3;have hB1 := Lib.hid ((hb0 nq).out.drew);have v0 := Lib.hid c0; have v1 := Lib.hid c1; have v2 := Lib.hid y0; have v3 := Lib.hid y1; have v4 := Lib.hid y2; have v5 := Lib.hid y3;clear c0 c1 c2 y0 y1 y2 y3;go_wp2_with fail
       go_region_held3 (fun w' => Below wr.heap.size wr w' ∧ w'.cell? ⟨R, 0, none⟩ = some (.slice (some ⟨g, off, none⟩) L cap) ∧ w'.cell? ⟨R, 1, none⟩ = some (.int .i64 (j : Int)) ∧ w'.cell? ⟨g, off + j * 4, none⟩ = some (.int .u8 (kd : Int)) ∧ w'.cell? ⟨g, off + j * 4 + 1, none⟩ = some (.string ⟨tx.toArray⟩) ∧ w'.cell? ⟨g, off + j * 4 + 2, none⟩ = some (.int .i64 (nu : Int)) ∧ w'.cell? ⟨g, off + j * 4 + 3, none⟩ = some (.int .i64 (at_ : Int)))
         (first
           | exact ⟨hB1.out, z0, z1, x0, x1, x2, x3⟩
           | exact hold)
         ((go_at_call 121; refine (kS.out _).mono ?_; rintro e w' ⟨rfl, hb⟩; have hold : Below wr.heap.size wr w' ∧ w'.cell? ⟨R, 0, none⟩ = some (.slice (some ⟨g, off, none⟩) L cap) ∧ w'.cell? ⟨R, 1, none⟩ = some (.int .i64 (j : Int)) ∧ w'.cell? ⟨g, off + j * 4, none⟩ = some (.int .u8 (kd : Int)) ∧ w'.cell? ⟨g, off + j * 4 + 1, none⟩ = some (.string ⟨tx.toArray⟩) ∧ w'.cell? ⟨g, off + j * 4 + 2, none⟩ = some (.int .i64 (nu : Int)) ∧ w'.cell? ⟨g, off + j * 4 + 3, none⟩ = some (.int .i64 (at_ : Int)) := (by refine ⟨(hb0 _).out.trans (hb.mono (Nat.le_refl _)), ?_, ?_, ?_, ?_, ?_, ?_⟩ <;> exact Below.keeps hb (by assumption))))
       have hB5 := hold.1;clear hold hb z0 z1 z2 x0 x1 x2 x3 hB1 v0 v1 v2 v3 v4 v5 kS hb0 hlti hL hLk hg
       rename_i _ hHeld
       clear hHeld;have hs5 := Lib.hid (hs.out.below hB5);have hv5 := Lib.hid (hv.out.below hB5);have ho5 := Lib.hid (ho.out.then (Only.of_below hB5));have hz5 := hB5.size;clear hB5;by_cases hk : (sl : Int) = n
       · have qk : ((sl : Int) != n) = false := by rw [hk]; simp
         have hin := hfl.out.1 hk;have hso2 : so = opOfT m := by rw [← hso.out]; exact hLev.out.op m hin
         rw [← hm.out] at hin hso2;obtain ⟨f3, rfl, hn3, hr⟩ := row_round hd.out hin hZ.out hne.out;rw [← hso2] at hr;have k5 := Lib.hid (fun (W : World) (h : SR W R (some ⟨g, off, none⟩) cap ks (j + 1) false lgj) => hE.out f3 (by omega) W (j + 1) lgj h hn3);replace hr := Lib.hid hr;have d1 := hs5.out.c1;have f1 := hs5.out.fz 1;have hmv := Lib.hid (hs5.out.moved (q := j + 1) (by omega));have hset := setOnly w' R 1 (.int .i64 ((j + 1 : Nat) : Int));have hv6 := Lib.hid (hv5.out.step hRl hset);have ho6 := Lib.hid (ho5.out.then hset);have hzs : (w'.setCell ⟨R, 1, none⟩ (.int .i64 ((j + 1 : Nat) : Int))).heap.size = w'.heap.size := by simp
         replace hzs := Lib.hid hzs;clear hin hso2 hn3 hd hset hs5 hv5 ho5 hfl hs hv ho;go_wp2_with fail
         refine (k5.out _ hmv.out).mono ?_;rintro e' w6 ⟨v6, us, k, bdk, lgk, rfl, hu6, hl6, hd6, hs6, ho7⟩;have hz6 := ho7.size;rw [hzs.out] at hz6;have hvA := Lib.hid (hv6.out.step hRl ho7);have hoA := Lib.hid (ho6.out.then ho7);obtain ⟨va6, vc6, rfl, _, _⟩ := id hu6.shape;obtain ⟨s', hd', hZ', hjk⟩ := hr.out us k bdk lgk hd6;replace hu6 := Lib.hid hu6;replace hs6 := Lib.hid hs6;replace hd' := Lib.hid hd';replace hZ' := Lib.hid hZ';clear k5 hr hmv hv6 ho6 hd6 ho7 hzs;go_wp2_with (at_builtin; (refine wpList_append_twx (base := w.heap.size) rfl _ _ rfl rfl hvA.out rfl hu6.out (by omega) (by omega) (by omega) ?_; intro v9 w9 hA hB9))
         obtain ⟨va9, vc9, rfl, _, _⟩ := id hA.shape;have hs9 := Lib.hid (hs6.out.low hB9 hRl hfar.out);have ho9 := Lib.hid (onlyB hoA.out hB9 (Nat.le_refl _));have hlen : (ts ++ us).length = ts.length + us.length := List.length_append;have hz9 := hB9.size;have k7 := Lib.hid (top_any hs9.out so 0 2 0 [] hA (by omega));clear hs6 hvA hu6 hoA hA hB9;go_wp2_with fail
         refine k7.out.mono ?_;rintro e' w10 ⟨v10, rfl, hv10, hs10, ho10⟩;have hvE := Lib.hid (hv10.low9 (b := w.heap.size) (by omega));have hoE := Lib.hid (ho9.out.then ho10);have hle := topL_len ⟨so, 2, 0, []⟩ (ts ++ us) (by omega);have hpl2 := hs10.place;replace hs10 := Lib.hid hs10;clear k7 hv10 ho10 hs9 ho9;go_wp2_with fail
         go_roundw
         case rel => exact ⟨s', f3, k, bdk, _, _, by omega, hle, hZ', hd', hs10, hvE, hoE⟩
         case measure =>
           have := hs10.out.le;rw [hpl, hpl2];omega
       · have qk : ((sl : Int) != n) = true := bne_iff_ne.2 hk
         have hnm : markT ks j ∉ ms := by rw [hm.out]; exact fun h => hk (hfl.out.2 h)
         have hx2 := Lib.hid (row_end hd.out (fun _ => hnm) hZ.out hne.out);clear hnm hfl;go_wp2_with fail
         go_ret
         exact ⟨_, ts, j, false, lgj, rfl, hv5.out, hl, hx2.out, hs5.out, ho5.out⟩
end
end Go.Proofs.YtngbekhegnmfaaaGreatDoor
namespace Go.Proofs.YtngbekhegnmfaaaGreatDoor
open Go.RowKit Go.Shelf Tok
def cmpS : List (List UInt8) := [B.eqq, B.neq, B.les, B.leq]
def cmpGo (ks : List Tk) (f : Nat) (c : Ch) (i : Nat) : St Ch := if markT ks i ∈ cmpS then (wantT ks (markT ks i) i).and fun _ j => (gP ks f .sum j).and fun d j => .ok ((c.then d).under (opOfT (markT ks i)) 0 []) j else .ok c i
section
variable {R cap : Nat} {a : Option Addr} {ks : List Tk}
variable {s Z : St Ch} {i j f : Nat} {bd lg bdj lgj : Bool} {ts : List Tw}
theorem cmp_end (hd : DP s i bd lg ts 1 j bdj lgj) (hB : bdj = false → markT ks j ∉ cmpS) (hZ : (s.and fun c k => cmpGo ks f c k) = Z) (hne : bd = false → Z ≠ .out) : DP Z i bd lg ts 1 j bdj lgj :=
 hd.exit hZ hne (fun e c hc => by
   have hm := hB e;unfold cmpGo;rw [if_neg hm])
theorem cmp_round (hd : DP s i bd lg ts 1 j false lgj) (hq : markT ks j ∈ cmpS) (hZ : (s.and fun c k => cmpGo ks f c k) = Z) (hne : bd = false → Z ≠ .out) :
   gP ks f .sum (j + 1) ≠ .out ∧ ∀ us k bdk lgk, DP (gP ks f .sum (j + 1)) (j + 1) false lgj us 1 k bdk lgk →
     DP Z i bd lg (topL ⟨opOfT (markT ks j), 2, 0, []⟩ (ts ++ us)) 1 k bdk (lgk || decide (2048 ≤ (ts ++ us).length)) := by
 obtain ⟨hb, hs⟩ := hd.next rfl;have hne' := hne hb;rcases hs with rfl | ⟨c, rfl⟩
 · exact absurd hZ.symm hne'
 · have hw : wantT ks (markT ks j) j = .ok () (j + 1) := by unfold wantT; rw [if_pos rfl]
   have hZ2 : Z = (gP ks f .sum (j + 1)).and fun d k => .ok ((c.then d).under (opOfT (markT ks j)) 0 []) k := by
     rw [← hZ];show cmpGo ks f c j = _
     unfold cmpGo;rw [if_pos hq, hw];rfl
   refine ⟨fun e => hne' (by rw [hZ2, e]; rfl), fun us k bdk lgk hx => ?_⟩;have hx3 := ((hd.shift (k := j + 1)).then (G := fun x => gP ks f .sum x) hx).top (opOfT (markT ks j)) 0 [] ⟨opOfT_256 _, Nat.zero_le _⟩;refine hx3.of_eq (fun _ => ?_);rw [hZ2];show ((gP ks f .sum (j + 1)).and fun d k => St.ok (c.then d) k).and _ = _
   generalize gP ks f .sum (j + 1) = X;cases X <;> rfl
set_option maxRecDepth 20000 in
set_option maxHeartbeats 4000000 in
theorem cmp_any {G : Nat → St Ch} (hLev : LevOK 4 cmpS) (f : Nat) (hE : DDoesF 89 #[.pointer (some ⟨R, 0, none⟩), .int .i64 5] (gP ks f .sum) R a cap ks) (hP : DDoes 89 #[.pointer (some ⟨R, 0, none⟩), .int .i64 5] G R a cap ks) :
   DDoes 89 #[.pointer (some ⟨R, 0, none⟩), .int .i64 4] (fun i => (G i).and fun c k => cmpGo ks f c k) R a cap ks := by
 intro w i bd lg h hne;obtain ⟨Z, hZ⟩ := exHid ((G i).and fun c k => cmpGo ks f c k);dsimp only at hne ⊢;rw [hZ.out] at hne ⊢;have hRl := h.lt;have kP := Lib.hid (hP w i bd lg h (fun e => and_out (by rw [hZ.out]; exact hne e)));have hfar := Lib.hid h.far;replace hE := Lib.hid hE;replace hne := Lib.hid hne;replace hLev := Lib.hid hLev;clear hP h;go_enter Tryz.func89, Tryz.ntmps89
 go_wp2_with fail
 refine kP.out.mono ?_;rintro e' w4 ⟨v, ts, j, bdj, lgj, rfl, hv, hl, hd, hs4, ho4⟩;have hvA := Lib.hid hv;have hoA := Lib.hid ho4;have hdA := Lib.hid hd;have hsA := Lib.hid hs4;clear kP hv hd hs4 ho4;go_wp2_with fail
 go_loopw [6] (fun t6 wr => ∃ (s : St Ch) (j : Nat) (bdj lgj : Bool) (ts : List Tw), ts.length ≤ 2048 ∧ Hid ((s.and fun c k => cmpGo ks f c k) = Z) ∧ Hid (DP s i bd lg ts 1 j bdj lgj) ∧ Hid (SR wr R a cap ks j bdj lgj) ∧ Hid (TwsAt wr w.heap.size t6 ts) ∧ Hid (Only (fun k => k = R) w wr)) (fun _ wr => ks.length - placeN wr R)
 case atStart => exact ⟨G i, j, bdj, lgj, ts, hl, hZ, hdA, hsA, hvA, hoA⟩
 case round =>
   clear hdA hsA hvA hoA hl hZ;obtain ⟨s, j, bdj, lgj, ts, hl, hZ, hd, hs, hv, ho⟩ := hrel;obtain ⟨va, vc, rfl, _, _⟩ := id hv.out.shape;have hwz := ho.out.size;have c0 := hs.out.c0;have c1 := hs.out.c1;have c2 := hs.out.c2;have hb0 := fun m => Lib.hid (below_dn (Below.refl wr.heap.size wr) m)
   have le := hs.out.le;have kl := hs.out.kl;obtain ⟨a', cap', e, lc, cm, hx⟩ := hs.out.tk;injection e with e1 _ e2;subst e1 e2;cases bdj with
   | true =>
     have hx2 := Lib.hid (cmp_end hd.out (fun e => by cases e) hZ.out hne.out);clear hx;go_wp2_with fail
     go_quiet (fail)
     go_wp2_with fail
     go_ret
     exact ⟨_, ts, j, true, lgj, rfl, hv.out.below (hb0 _).out, hl, hx2.out, hs.out.below (hb0 _).out, ho.out.then (Only.of_below (hb0 _).out)⟩
   | false =>
     by_cases hp : j = ks.length
     · have hpi : ¬ ((j : Int) < (ks.length : Int)) := by omega
       have hnm : markT ks j ∉ cmpS := by
         intro hm;refine hLev.out.ne _ hm ?_;unfold markT;rw [List.getElem?_eq_none (by omega)]
       have hx2 := Lib.hid (cmp_end hd.out (fun _ => hnm) hZ.out hne.out);clear hx hnm hp;go_wp2_with fail
       go_quiet (fail)
       go_wp2_with fail
       go_ret
       exact ⟨_, ts, j, false, lgj, rfl, hv.out.below (hb0 _).out, hl, hx2.out, hs.out.below (hb0 _).out, ho.out.then (Only.of_below (hb0 _).out)⟩
     · have hlt : j < ks.length := by omega
       have hlti : (j : Int) < (ks.length : Int) := by omega
       obtain ⟨g, off, rfl, hg, hc⟩ := hx (by omega);have y0 := hc j hlt 0 (by omega); have y1 := hc j hlt 1 (by omega); have y2 := hc j hlt 2 (by omega); have y3 := hc j hlt 3 (by omega);have kS := fun (W : World) => sign_any ks hlt W
       rw [tkAt_get hlt] at kS;simp only [tkC, List.getElem?_cons_succ, List.getElem?_cons_zero, Nat.add_zero] at y0 y1 y2 y3;have hfl := Lib.hid (hLev.out.lev (markT ks j));obtain ⟨m, hm⟩ := exHid (markT ks j);rw [hm.out] at kS hfl;unfold tkV at kS;clear hx hc;generalize ks[j] = t at *;obtain ⟨kd, tx, nu, at_⟩ := t;dsimp only at y0 y1 y2 y3 kS;replace kS := Lib.hid kS;obtain ⟨L, hL⟩ := exHid ks.length;rw [hL.out] at c0 hlti;have hLk : L ≤ 1000000 := by rw [← hL.out]; exact kl
       obtain ⟨so, hso⟩ := exHid (sgn m).1;obtain ⟨sl, hsl⟩ := exHid (sgn m).2;rw [hso.out, hsl.out] at kS;rw [hsl.out] at hfl;go_wp2_with fail
       go_quiet (fail)
       have z0 := cell_dn nq c0; have z1 := cell_dn nq c1; have z2 := cell_dn nq c2;have x0 := cell_dn nq y0; have x1 := cell_dn nq y1; have x2 := cell_dn nq y2; have x3 := cell_dn nq y3;have hB1 := Lib.hid ((hb0 nq).out.drew);have v0 := Lib.hid c0; have v1 := Lib.hid c1; have v2 := Lib.hid y0; have v3 := Lib.hid y1; have v4 := Lib.hid y2; have v5 := Lib.hid y3;clear c0 c1 c2 y0 y1 y2 y3;go_wp2_with fail
       go_region_held3 (fun w' => Below wr.heap.size wr w' ∧ w'.cell? ⟨R, 0, none⟩ = some (.slice (some ⟨g, off, none⟩) L cap) ∧ w'.cell? ⟨R, 1, none⟩ = some (.int .i64 (j : Int)) ∧ w'.cell? ⟨g, off + j * 4, none⟩ = some (.int .u8 (kd : Int)) ∧ w'.cell? ⟨g, off + j * 4 + 1, none⟩ = some (.string ⟨tx.toArray⟩) ∧ w'.cell? ⟨g, off + j * 4 + 2, none⟩ = some (.int .i64 (nu : Int)) ∧ w'.cell? ⟨g, off + j * 4 + 3, none⟩ = some (.int .i64 (at_ : Int)))
         (first
           | exact ⟨hB1.out, z0, z1, x0, x1, x2, x3⟩
           | exact hold)
         ((go_at_call 121; refine (kS.out _).mono ?_; rintro e w' ⟨rfl, hb⟩; have hold : Below wr.heap.size wr w' ∧ w'.cell? ⟨R, 0, none⟩ = some (.slice (some ⟨g, off, none⟩) L cap) ∧ w'.cell? ⟨R, 1, none⟩ = some (.int .i64 (j : Int)) ∧ w'.cell? ⟨g, off + j * 4, none⟩ = some (.int .u8 (kd : Int)) ∧ w'.cell? ⟨g, off + j * 4 + 1, none⟩ = some (.string ⟨tx.toArray⟩) ∧ w'.cell? ⟨g, off + j * 4 + 2, none⟩ = some (.int .i64 (nu : Int)) ∧ w'.cell? ⟨g, off + j * 4 + 3, none⟩ = some (.int .i64 (at_ : Int)) := (by refine ⟨(hb0 _).out.trans (hb.mono (Nat.le_refl _)), ?_, ?_, ?_, ?_, ?_, ?_⟩ <;> exact Below.keeps hb (by assumption))))
       have hB5 := hold.1;clear hold hb z0 z1 z2 x0 x1 x2 x3 hB1 v0 v1 v2 v3 v4 v5 kS hb0 hlti hL hLk hg
       rename_i _ hHeld
       clear hHeld;have hs5 := Lib.hid (hs.out.below hB5);have hv5 := Lib.hid (hv.out.below hB5);have ho5 := Lib.hid (ho.out.then (Only.of_below hB5));have hz5 := hB5.size;clear hB5;by_cases hk : (sl : Int) = 4
       · have qk : ((sl : Int) != 4) = false := by rw [hk]; simp
         have hin := hfl.out.1 hk;have hso2 : so = opOfT m := by rw [← hso.out]; exact hLev.out.op m hin
         rw [← hm.out] at hin hso2;obtain ⟨hn3, hr⟩ := cmp_round hd.out hin hZ.out hne.out;rw [← hso2] at hr;have k5 := Lib.hid (fun (W : World) (h : SR W R (some ⟨g, off, none⟩) cap ks (j + 1) false lgj) => hE.out W (j + 1) lgj h hn3);replace hr := Lib.hid hr;have d1 := hs5.out.c1;have f1 := hs5.out.fz 1;have hmv := Lib.hid (hs5.out.moved (q := j + 1) (by omega));have hset := setOnly w' R 1 (.int .i64 ((j + 1 : Nat) : Int));have hv6 := Lib.hid (hv5.out.step hRl hset);have ho6 := Lib.hid (ho5.out.then hset);have hzs : (w'.setCell ⟨R, 1, none⟩ (.int .i64 ((j + 1 : Nat) : Int))).heap.size = w'.heap.size := by simp
         replace hzs := Lib.hid hzs;clear hin hso2 hn3 hd hset hs5 hv5 ho5 hfl hs hv ho;go_wp2_with fail
         refine (k5.out _ hmv.out).mono ?_;rintro e' w6 ⟨v6, us, k, bdk, lgk, rfl, hu6, hl6, hd6, hs6, ho7⟩;have hz6 := ho7.size;rw [hzs.out] at hz6;have hvA := Lib.hid (hv6.out.step hRl ho7);have hoA := Lib.hid (ho6.out.then ho7);obtain ⟨va6, vc6, rfl, _, _⟩ := id hu6.shape;have hd' := hr.out us k bdk lgk hd6;replace hu6 := Lib.hid hu6;replace hs6 := Lib.hid hs6;replace hd' := Lib.hid hd';clear k5 hr hmv hv6 ho6 hd6 ho7 hzs;go_wp2_with (at_builtin; (refine wpList_append_twx (base := w.heap.size) rfl _ _ rfl rfl hvA.out rfl hu6.out (by omega) (by omega) (by omega) ?_; intro v9 w9 hA hB9))
         obtain ⟨va9, vc9, rfl, _, _⟩ := id hA.shape;have hs9 := Lib.hid (hs6.out.low hB9 hRl hfar.out);have ho9 := Lib.hid (onlyB hoA.out hB9 (Nat.le_refl _));have hlen : (ts ++ us).length = ts.length + us.length := List.length_append;have hz9 := hB9.size;have k7 := Lib.hid (top_any hs9.out so 0 2 0 [] hA (by omega));clear hs6 hvA hu6 hoA hA hB9;go_wp2_with fail
         refine k7.out.mono ?_;rintro e' w10 ⟨v10, rfl, hv10, hs10, ho10⟩;have hvE := Lib.hid (hv10.low9 (b := w.heap.size) (by omega));have hoE := Lib.hid (ho9.out.then ho10);have hle := topL_len ⟨so, 2, 0, []⟩ (ts ++ us) (by omega);replace hs10 := Lib.hid hs10;clear k7 hv10 ho10 hs9 ho9;go_wp2_with fail
         go_ret
         exact ⟨_, _, k, bdk, _, rfl, hvE.out, hle, hd'.out, hs10.out, hoE.out⟩
       · have qk : ((sl : Int) != 4) = true := bne_iff_ne.2 hk
         have hnm : markT ks j ∉ cmpS := by rw [hm.out]; exact fun h => hk (hfl.out.2 h)
         have hx2 := Lib.hid (cmp_end hd.out (fun _ => hnm) hZ.out hne.out);clear hnm hfl;go_wp2_with fail
         go_ret
         exact ⟨_, ts, j, false, lgj, rfl, hv5.out, hl, hx2.out, hs5.out, ho5.out⟩
end
end Go.Proofs.YtngbekhegnmfaaaGreatDoor
namespace Go.Proofs.YtngbekhegnmfaaaGreatDoor
open Go.RowKit Go.Shelf Tok
section
variable {R cap : Nat} {a : Option Addr} {ks : List Tk}
theorem DDone.of {s s' : St Ch} {i : Nat} {bd lg : Bool} {W : World} {e : Ending} {w' : World} (h : DDone s i bd lg R a cap ks W e w') (hs : bd = false → s = s') : DDone s' i bd lg R a cap ks W e w' := by
 obtain ⟨v, ts, i', bd', lg', e1, hv, hl, hd, hs2, ho⟩ := h;exact ⟨v, ts, i', bd', lg', e1, hv, hl, hd.of_eq hs, hs2, ho⟩
theorem DDoes.of {N : Nat} {args : Array Value} {G : Nat → St Ch} (hb : DDoes N args (fun _ => .out) R a cap ks) (hf : DDoesF N args G R a cap ks) : DDoes N args G R a cap ks := by
 intro W i bd lg hs hn;cases bd with
 | true => exact (hb W i true lg hs (fun e => by cases e)).mono (fun _ _ h => h.of (fun e => by cases e))
 | false => exact hf W i lg hs (hn rfl)
theorem DDoesF.out {N : Nat} {args : Array Value} : DDoesF N args (fun _ => .out) R a cap ks := fun _ _ _ _ h => absurd rfl h
theorem DDoes.eq {N : Nat} {args : Array Value} {G G' : Nat → St Ch} (h : DDoes N args G R a cap ks) (e : ∀ i, G i = G' i) : DDoes N args G' R a cap ks := by
 rw [← show G = G' from funext e];exact h
theorem DDoesF.eq {N : Nat} {args : Array Value} {G G' : Nat → St Ch} (h : DDoesF N args G R a cap ks) (e : ∀ i, G i = G' i) : DDoesF N args G' R a cap ks := by
 rw [← show G = G' from funext e];exact h
set_option maxRecDepth 20000 in
set_option maxHeartbeats 1000000 in
theorem seven_any {G : Nat → St Ch} (hP : DDoes 120 (dp R) G R a cap ks) : DDoes 89 #[.pointer (some ⟨R, 0, none⟩), .int .i64 7] G R a cap ks := by
 intro w i bd lg h hne;have k1 := Lib.hid (hP w i bd lg h hne);obtain ⟨U, hU⟩ := exHid (G i);rw [hU.out] at k1 ⊢;clear hP hne h hU;unfold dp at k1;go_enter Tryz.func89, Tryz.ntmps89
 go_wp2_with fail
 refine k1.out.mono ?_;rintro e' w1 ⟨v, ts, j, bdj, lgj, rfl, hr⟩;go_wp2_with fail
 go_ret
 exact ⟨v, ts, j, bdj, lgj, rfl, hr⟩
set_option maxRecDepth 20000 in
set_option maxHeartbeats 1000000 in
theorem dexpr_any {G : Nat → St Ch} (hP : DDoes 89 #[.pointer (some ⟨R, 0, none⟩), .int .i64 1] G R a cap ks) : DDoes 45 (dp R) G R a cap ks := by
 intro w i bd lg h hne;have k1 := Lib.hid (hP w i bd lg h hne);obtain ⟨U, hU⟩ := exHid (G i);rw [hU.out] at k1 ⊢;clear hP hne h hU;unfold dp;go_enter Tryz.func45, Tryz.ntmps45
 go_wp2_with fail
 refine k1.out.mono ?_;rintro e' w1 ⟨v, ts, j, bdj, lgj, rfl, hr⟩;go_wp2_with fail
 go_ret
 exact ⟨v, ts, j, bdj, lgj, rfl, hr⟩
set_option maxRecDepth 20000 in
set_option maxHeartbeats 1000000 in
theorem dnot_any {G G4 : Nat → St Ch} (hP : DDoesF 89 #[.pointer (some ⟨R, 0, none⟩), .int .i64 3] G R a cap ks) (h4 : DDoes 89 #[.pointer (some ⟨R, 0, none⟩), .int .i64 4] G4 R a cap ks) :
   DDoes 89 #[.pointer (some ⟨R, 0, none⟩), .int .i64 3] (fun i => if markT ks i = B.not then (wantT ks B.not i).and fun _ i => (G i).and fun c i => .ok (c.under 43 0 []) i else G4 i) R a cap ks := by
 intro w i bd lg h hne;dsimp only at hne ⊢;have hRl := h.lt;have k1 := Lib.hid (has_any h (show B.not ≠ [] by decide));cases hB : isB ks i bd B.not with
 | true =>
   obtain ⟨_, rfl, hq⟩ := isB_lt (by decide) hB;unfold wantT at hne ⊢;rw [if_pos hq] at hne ⊢;rw [if_pos hq] at hne ⊢;have hne2 : (G (i + 1)) ≠ .out := and_out (hne rfl);have k2 := Lib.hid (fun (W : World) (h : SR W R a cap ks (i + 1) false lg) => hP W (i + 1) lg h hne2);rw [hB] at k1;simp only [↓reduceIte] at k1;unfold B.not at k1;clear hP h4 hne hne2 h hB;go_enter Tryz.func89, Tryz.ntmps89
   go_wp2_with fail
   refine k1.out.mono ?_;rintro e' w1 ⟨rfl, hs1, ho1⟩;go_wp2_with fail
   refine (k2.out _ hs1).mono ?_;rintro e' w2 ⟨v, ts, j, bdj, lgj, rfl, hv, hl, hd, hs2, ho2⟩;obtain ⟨va, vc, rfl, _, _⟩ := id hv.shape;have k3 := Lib.hid (top_any hs2 43 0 1 0 [] hv (by omega));have hz1 := ho1.size;have hz2 := ho2.size;have ho3 := Lib.hid (ho1.then ho2);clear k1 k2 hs1 ho1 hv hs2 ho2;go_wp2_with fail
   refine k3.out.mono ?_;rintro e' w3 ⟨v3, rfl, hv3, hs3, ho4⟩;go_wp2_with fail
   go_ret
   have hd2 := hd.top 43 0 [];exact ⟨_, _, _, _, _, rfl, hv3.low9 (by omega), topL_len _ _ (by omega), ⟨hd2.1, fun e => (by cases e), hd2.2.2⟩, hs3, ho3.out.then ho4⟩
 | false =>
   have hG : bd = false → (if markT ks i = B.not then (wantT ks B.not i).and fun _ i => (G i).and fun c i => .ok (c.under 43 0 []) i else G4 i) = G4 i := by
     rintro rfl;rw [if_neg (isB_no hB)]
   have hne2 : bd = false → G4 i ≠ .out := fun e => by rw [← hG e]; exact hne e
   have k2 := Lib.hid (fun (W : World) (h : SR W R a cap ks i bd lg) => h4 W i bd lg h hne2);have hFin : ∀ {e' w'}, DDone (G4 i) i bd lg R a cap ks w e' w' → DDone (if markT ks i = B.not then (wantT ks B.not i).and fun _ i => (G i).and fun c i => .ok (c.under 43 0 []) i else G4 i) i bd lg R a cap ks w e' w' := fun h => h.of (fun e => (hG e).symm);obtain ⟨U, hU⟩ := exHid (if markT ks i = B.not then (wantT ks B.not i).and fun _ i => (G i).and fun c i => St.ok (c.under 43 0 []) i else G4 i);rw [hU.out] at hFin ⊢;obtain ⟨V, hV⟩ := exHid (G4 i);rw [hV.out] at hFin k2;rw [hB] at k1;simp only [Bool.false_eq_true, ↓reduceIte] at k1;unfold B.not at k1;clear hP h4 hne hne2 h hB hG hU;go_enter Tryz.func89, Tryz.ntmps89
   go_wp2_with fail
   refine k1.out.mono ?_;rintro e' w1 ⟨rfl, hs1, ho1⟩;go_wp2_with fail
   refine (k2.out _ hs1).mono ?_;rintro e' w2 ⟨v, ts, j, bdj, lgj, rfl, hv, hl, hd, hs2, ho2⟩;go_wp2_with fail
   go_ret
   have hz1 := ho1.size;exact hFin ⟨_, _, _, _, _, rfl, hv.low9 hz1, hl, hd, hs2, ho1.then ho2⟩
end
theorem pre_step {R cap : Nat} {a : Option Addr} {ks : List Tk} (f : Nat) (hPre : DDoesF 120 (dp R) (gP ks f .pre) R a cap ks) (hE : ∀ f', f' < f → DDoesF 45 (dp R) (gP ks f' .expr) R a cap ks) (hP : ∀ f', f' < f → DDoes 145 (dp R) (gP ks f' .prim) R a cap ks) :
   DDoesF 120 (dp R) (gP ks (f + 1) .pre) R a cap ks := by
 intro w i lg h hne;have hG : gP ks (f + 1) .pre i = if markT ks i = B.sub then (wantT ks B.sub i).and fun _ i => (gP ks f .pre i).and fun c i => .ok (c.under 44 0 []) i
     else if markT ks i = B.await ∨ markT ks i = B.settle then (wantT ks (markT ks i) i).and fun _ j => (gP ks f .pre j).and fun c j => .ok (c.under (opOfT (markT ks i)) 0 []) j else gP ks f .post i := rfl
 rw [hG] at hne ⊢;clear hG;by_cases h1 : markT ks i = B.sub
 · unfold wantT at hne ⊢
   rw [if_pos h1] at hne ⊢;rw [if_pos h1] at hne ⊢;exact pre_mark hPre h 44 (.inl ⟨rfl, rfl⟩) h1 (and_out hne)
 · rw [if_neg h1] at hne ⊢
   by_cases h2 : markT ks i = B.await ∨ markT ks i = B.settle
   · rw [if_pos h2] at hne ⊢
     unfold wantT at hne ⊢;rw [if_pos rfl] at hne ⊢;rcases h2 with h2 | h2
     · have ho : opOfT (markT ks i) = 54 := by rw [h2]; decide
       rw [ho] at hne ⊢;exact pre_mark hPre h 54 (.inr (.inl ⟨rfl, rfl⟩)) h2 (and_out hne)
     · have ho : opOfT (markT ks i) = 55 := by rw [h2]; decide
       rw [ho] at hne ⊢;exact pre_mark hPre h 55 (.inr (.inr ⟨rfl, rfl⟩)) h2 (and_out hne)
   · rw [if_neg h2] at hne ⊢
     cases f with
     | zero => exact absurd rfl hne
     | succ f'' =>
       have hno : ∀ m, markT ks i ≠ m → isB ks i false m = false := fun m hm => by unfold isB; rw [decide_eq_false hm]; rfl
       exact post_any f'' (fun f' hf' => hE f' (by omega)) (hP f'' (by omega)) h (hno _ h1) (hno _ (fun e => h2 (.inl e))) (hno _ (fun e => h2 (.inr e))) (fun _ => hne)
end Go.Proofs.YtngbekhegnmfaaaGreatDoor
