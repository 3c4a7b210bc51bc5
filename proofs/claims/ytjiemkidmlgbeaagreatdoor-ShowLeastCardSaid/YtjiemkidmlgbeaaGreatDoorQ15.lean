/- A part of the proof: PStmt. No condition. -/
import Derived.Test.YtjiemkidmlgbeaaGreatDoorQ13
set_option linter.unusedVariables false
set_option linter.unusedSimpArgs false
namespace Go.Proofs.YtjiemkidmlgbeaaGreatDoor
open Go.RowKit Go.Shelf Tok
def DoesA (N : Nat) (args : Array Value) (G : Nat → St Ch) (R : Nat) (a : Option Addr) (cap n : Nat) (ks : List Tk) : Prop :=
 ∀ W i, PR W R a cap n ks i → MakesOK W → G i ≠ .out → Calls Tryz.prog N args W (Took (G i) W R a cap n ks)
section
variable {w : World} {R cap n i : Nat} {a : Option Addr} {ks : List Tk}
theorem doesA_ok {N : Nat} {args : Array Value} {G : Nat → St Ch} (hP : DoesA N args G R a cap n ks) (h : PR w R a cap n ks i) (hM : MakesOK w) {c : Ch} {j : Nat} (hq : G i = .ok c j) :
   Calls Tryz.prog N args w fun e w' => ∃ v, e = .returned v ∧ ChV w' (fun k => w.heap.size ≤ k) v c ∧ PR w' R a cap n ks j ∧ Only (fun k => k = R) w w' := by
 refine (hP w i h hM (by rw [hq]; intro e; cases e)).mono ?_;intro e w' ht;rw [hq] at ht;obtain ⟨⟨v, he, hv⟩, h2, h3⟩ := ht;exact ⟨v, he, hv, h2, h3⟩
theorem doesA_bad {N : Nat} {args : Array Value} {G : Nat → St Ch} (hP : DoesA N args G R a cap n ks) (h : PR w R a cap n ks i) (hM : MakesOK w) {j : Nat} (hq : G i = .bad j) :
   Calls Tryz.prog N args w fun e w' => e = .panicked [{ v := faultOf ks n j, recovered := false }] ∧ Below R w w' := by
 refine (hP w i h hM (by rw [hq]; intro e; cases e)).mono ?_;intro e w' ht;rw [hq] at ht;exact ht
end
set_option maxRecDepth 20000 in
set_option maxHeartbeats 2000000 in
theorem cmp_bad {R cap n : Nat} {a : Option Addr} {ks : List Tk} (hR : 2 ≠ R) {w : World} {i : Nat} (h : PR w R a cap n ks i) (hM : MakesOK w)
   {G0 : Nat → St Ch} (hP0 : DoesA 107 #[rp R] G0 R a cap n ks)
   {j : Nat} (hg0 : G0 i = .bad j) :
   Calls Tryz.prog 96 #[rp R] w (Took (.bad j) w R a cap n ks) := by
 have m0 := Lib.hid ((Mid.start h hM).alloc chZ);have hRl := h.lt;have hml := hM.lt;have b0 := Lib.hid (heap_alloc_new w chZ);have cR0 := Lib.hid (fun W (hp : PR W R a cap n ks i) (hm : MakesOK W) => doesA_bad hP0 hp hm hg0);unfold rp at cR0;clear h hM hP0 hg0;unfold rp;go_enter Tryz.func96, Tryz.ntmps96
 go_wp2_with fail
 refine (cR0.out _ m0.out.pr m0.out.mo).mono ?_;rintro e' w1 ⟨rfl, hb1⟩;go_wp2_with fail
 exact ⟨rfl, rfl, m0.out.bad hb1⟩
set_option maxRecDepth 20000 in
set_option maxHeartbeats 2000000 in
theorem stmt_let_ok {R cap n : Nat} {a : Option Addr} {ks : List Tk} (hR : 2 ≠ R) {w : World} {i : Nat} (h : PR w R a cap n ks i) (hM : MakesOK w)
   (hq_cM0 : markT ks i = B.letW)
   {G2 : Nat → St Ch} (hP2 : DoesA 105 #[rp R, .int .u8 4] G2 R a cap n ks)
   {c : Ch} {j : Nat} (hg2 : G2 ((i + 1)) = .ok c j) (hn2 : c.n ≤ 10000000) :
   Calls Tryz.prog 94 #[rp R] w (Took (.ok c j) w R a cap n ks) := by
 have m0 := Lib.hid ((Mid.start h hM).alloc chZ);have hRl := h.lt;have hml := hM.lt;have b0 := Lib.hid (heap_alloc_new w chZ);have cM0 := Lib.hid (fun W (h : Mid w W R a cap n ks i) => mark_call h hq_cM0);have cW1 := Lib.hid (fun W (hp : PR W R a cap n ks i) => want_ok hp (by decide) hq_cM0);have cR2 := Lib.hid (fun W (hp : PR W R a cap n ks (i + 1)) (hm : MakesOK W) => doesA_ok hP2 hp hm hg2);unfold rp B.letW at cM0;unfold rp B.letW at cW1;unfold rp at cR2;clear h hM hq_cM0 hP2 hg2;unfold rp;go_enter Tryz.func94, Tryz.ntmps94
 go_wp2_with fail
 refine (cM0.out _ m0.out).mono ?_;rintro e' w1 ⟨rfl, hb1⟩;have m1 := Lib.hid (m0.out.below hb1);have b1 := Lib.hid (heldF (Only.of_below (F := fun _ => False) hb1) b0.out (fun h => h));clear b0;clear m0;clear hb1;go_wp2_with fail
 refine (cW1.out _ m1.out.pr).mono ?_;rintro e' w2 ⟨rfl, hp2, ho2⟩;have m2 := Lib.hid (m1.out.step hR hp2 ho2);have b2 := Lib.hid (heldB ho2 b1.out (by omega));clear b1;clear m1;clear hp2 ho2;go_wp2_with fail
 refine (cR2.out _ m2.out.pr m2.out.mo).mono ?_;rintro e' w3 ⟨z3, rfl, hv3, hp3, ho3⟩;obtain ⟨q3a, q3b, rfl⟩ := hv3.agg;have hT3 := (Array.getElem?_eq_some_iff.1 b2.out).1;have m3 := Lib.hid (m2.out.step hR hp3 ho3);have b3 := Lib.hid (heldB ho3 b2.out (by omega));clear m2 b2 hp3 ho3;replace hv3 := Lib.hid hv3;obtain ⟨y0, y1, y2, y3, y4, y5⟩ := cells3 b3.out;obtain ⟨l1, l2⟩ := laid3 m3.out (Nat.le_refl _) hml b3.out (hv3.out.mono (fun k _ hk => ⟨by omega, by omega⟩));replace l1 := Lib.hid l1; replace l2 := Lib.hid l2;clear m3 b3 hv3;go_wp2_with fail
 exact bodyPost_ret (ret_ch rfl rfl l1.out rfl) rfl l2.out
set_option maxRecDepth 20000 in
set_option maxHeartbeats 2000000 in
theorem stmt_if_ok {R cap n : Nat} {a : Option Addr} {ks : List Tk} (hR : 2 ≠ R) {w : World} {i : Nat} (h : PR w R a cap n ks i) (hM : MakesOK w)
   (hq_cM0 : markT ks i = B.ifW)
   {G1 : Nat → St Ch} (hP1 : DoesA 106 #[rp R] G1 R a cap n ks)
   {c : Ch} {j : Nat} (hg1 : G1 i = .ok c j) (hn1 : c.n ≤ 10000000) :
   Calls Tryz.prog 94 #[rp R] w (Took (.ok c j) w R a cap n ks) := by
 have m0 := Lib.hid ((Mid.start h hM).alloc chZ);have hRl := h.lt;have hml := hM.lt;have b0 := Lib.hid (heap_alloc_new w chZ);have cM0 := Lib.hid (fun W (h : Mid w W R a cap n ks i) => mark_call h hq_cM0);have cR1 := Lib.hid (fun W (hp : PR W R a cap n ks i) (hm : MakesOK W) => doesA_ok hP1 hp hm hg1);unfold rp B.ifW at cM0;unfold rp at cR1;clear h hM hq_cM0 hP1 hg1;unfold rp;go_enter Tryz.func94, Tryz.ntmps94
 go_wp2_with fail
 refine (cM0.out _ m0.out).mono ?_;rintro e' w1 ⟨rfl, hb1⟩;have m1 := Lib.hid (m0.out.below hb1);have b1 := Lib.hid (heldF (Only.of_below (F := fun _ => False) hb1) b0.out (fun h => h));clear b0;clear m0;clear hb1;go_wp2_with fail
 refine (cR1.out _ m1.out.pr m1.out.mo).mono ?_;rintro e' w2 ⟨z2, rfl, hv2, hp2, ho2⟩;obtain ⟨q2a, q2b, rfl⟩ := hv2.agg;have hT2 := (Array.getElem?_eq_some_iff.1 b1.out).1;have m2 := Lib.hid (m1.out.step hR hp2 ho2);have b2 := Lib.hid (heldB ho2 b1.out (by omega));clear m1 b1 hp2 ho2;replace hv2 := Lib.hid hv2;obtain ⟨y0, y1, y2, y3, y4, y5⟩ := cells3 b2.out;obtain ⟨l1, l2⟩ := laid3 m2.out (Nat.le_refl _) hml b2.out (hv2.out.mono (fun k _ hk => ⟨by omega, by omega⟩));replace l1 := Lib.hid l1; replace l2 := Lib.hid l2;clear m2 b2 hv2;go_wp2_with fail
 exact bodyPost_ret (ret_ch rfl rfl l1.out rfl) rfl l2.out
set_option maxRecDepth 20000 in
set_option maxHeartbeats 2000000 in
theorem stmt_ret_ok {R cap n : Nat} {a : Option Addr} {ks : List Tk} (hR : 2 ≠ R) {w : World} {i : Nat} (h : PR w R a cap n ks i) (hM : MakesOK w)
   (hq_cM0 : markT ks i = B.ret)
   {G2 : Nat → St Ch} (hP2 : DoesA 35 #[rp R] G2 R a cap n ks)
   {c : Ch} {j : Nat} (hg2 : G2 ((i + 1)) = .ok c j) (hn2 : c.n ≤ 10000000) :
   Calls Tryz.prog 94 #[rp R] w (Took (.ok (c.under (opOfT B.ret) 0 []) j) w R a cap n ks) := by
 have m0 := Lib.hid ((Mid.start h hM).alloc chZ);have hRl := h.lt;have hml := hM.lt;have b0 := Lib.hid (heap_alloc_new w chZ);have cM0 := Lib.hid (fun W (h : Mid w W R a cap n ks i) => mark_call h hq_cM0);have cW1 := Lib.hid (fun W (hp : PR W R a cap n ks i) => want_ok hp (by decide) hq_cM0);have cR2 := Lib.hid (fun W (hp : PR W R a cap n ks (i + 1)) (hm : MakesOK W) => doesA_ok hP2 hp hm hg2);have cF3 := Lib.hid (fun W (h : Mid w W R a cap n ks j) => opOf_any B.ret h.mo);unfold rp B.ret at cM0;unfold rp B.ret at cW1;unfold rp at cR2;unfold B.ret at cF3;clear h hM hq_cM0 hP2 hg2;unfold rp;go_enter Tryz.func94, Tryz.ntmps94
 go_wp2_with fail
 refine (cM0.out _ m0.out).mono ?_;rintro e' w1 ⟨rfl, hb1⟩;have m1 := Lib.hid (m0.out.below hb1);have b1 := Lib.hid (heldF (Only.of_below (F := fun _ => False) hb1) b0.out (fun h => h));clear b0;clear m0;clear hb1;go_wp2_with fail
 refine (cW1.out _ m1.out.pr).mono ?_;rintro e' w2 ⟨rfl, hp2, ho2⟩;have m2 := Lib.hid (m1.out.step hR hp2 ho2);have b2 := Lib.hid (heldB ho2 b1.out (by omega));clear b1;clear m1;clear hp2 ho2;go_wp2_with fail
 refine (cR2.out _ m2.out.pr m2.out.mo).mono ?_;rintro e' w3 ⟨z3, rfl, hv3, hp3, ho3⟩;obtain ⟨q3a, q3b, rfl⟩ := hv3.agg;have hT3 := (Array.getElem?_eq_some_iff.1 b2.out).1;have m3 := Lib.hid (m2.out.step hR hp3 ho3);have b3 := Lib.hid (heldB ho3 b2.out (by omega));clear m2 b2 hp3 ho3;replace hv3 := Lib.hid hv3;go_wp2_with fail
 refine (cF3.out _ m3.out).mono ?_;rintro e' w4 ⟨rfl, hb4⟩;have m4 := Lib.hid (m3.out.below hb4);have b4 := Lib.hid (heldF (Only.of_below (F := fun _ => False) hb4) b3.out (fun h => h));clear b3;replace hv3 := Lib.hid (ChV.below hv3.out hb4);clear m3;clear hb4;go_wp2_with fail
 refine (under_any hv3.out (by omega) (opOfT B.ret) 0 0 []).mono ?_;rintro e' w5 ⟨z5, rfl, hv5, hb5⟩;obtain ⟨p1, p2, rfl⟩ := hv5.agg;have hT := (Array.getElem?_eq_some_iff.1 b4.out).1;have m5 := m4.out.below hb5;have b5 := heldF (Only.of_below (F := fun _ => False) hb5) b4.out (fun h => h);obtain ⟨y0, y1, y2, y3, y4, y5⟩ := cells3 b5;obtain ⟨l1, l2⟩ := laid3 m5 (Nat.le_refl _) hml b5 (hv5.mono (fun k _ hk => by
   rcases hk with hk | hk
   · exact ⟨by omega, by omega⟩
   · exact ⟨by omega, by omega⟩))
 replace l1 := Lib.hid l1; replace l2 := Lib.hid l2;clear m4 b4 m5 b5 hb5 hv5 hv3;go_wp2_with fail
 exact bodyPost_ret (ret_ch rfl rfl l1.out rfl) rfl l2.out
set_option maxRecDepth 20000 in
set_option maxHeartbeats 2000000 in
theorem stmt_fail_ok {R cap n : Nat} {a : Option Addr} {ks : List Tk} (hR : 2 ≠ R) {w : World} {i : Nat} (h : PR w R a cap n ks i) (hM : MakesOK w)
   (hq_cM0 : markT ks i = B.fail)
   {G2 : Nat → St Ch} (hP2 : DoesA 35 #[rp R] G2 R a cap n ks)
   {c : Ch} {j : Nat} (hg2 : G2 ((i + 1)) = .ok c j) (hn2 : c.n ≤ 10000000) :
   Calls Tryz.prog 94 #[rp R] w (Took (.ok (c.under (opOfT B.fail) 0 []) j) w R a cap n ks) := by
 have m0 := Lib.hid ((Mid.start h hM).alloc chZ);have hRl := h.lt;have hml := hM.lt;have b0 := Lib.hid (heap_alloc_new w chZ);have cM0 := Lib.hid (fun W (h : Mid w W R a cap n ks i) => mark_call h hq_cM0);have cW1 := Lib.hid (fun W (hp : PR W R a cap n ks i) => want_ok hp (by decide) hq_cM0);have cR2 := Lib.hid (fun W (hp : PR W R a cap n ks (i + 1)) (hm : MakesOK W) => doesA_ok hP2 hp hm hg2);have cF3 := Lib.hid (fun W (h : Mid w W R a cap n ks j) => opOf_any B.fail h.mo);unfold rp B.fail at cM0;unfold rp B.fail at cW1;unfold rp at cR2;unfold B.fail at cF3;clear h hM hq_cM0 hP2 hg2;unfold rp;go_enter Tryz.func94, Tryz.ntmps94
 go_wp2_with fail
 refine (cM0.out _ m0.out).mono ?_;rintro e' w1 ⟨rfl, hb1⟩;have m1 := Lib.hid (m0.out.below hb1);have b1 := Lib.hid (heldF (Only.of_below (F := fun _ => False) hb1) b0.out (fun h => h));clear b0;clear m0;clear hb1;go_wp2_with fail
 refine (cW1.out _ m1.out.pr).mono ?_;rintro e' w2 ⟨rfl, hp2, ho2⟩;have m2 := Lib.hid (m1.out.step hR hp2 ho2);have b2 := Lib.hid (heldB ho2 b1.out (by omega));clear b1;clear m1;clear hp2 ho2;go_wp2_with fail
 refine (cR2.out _ m2.out.pr m2.out.mo).mono ?_;rintro e' w3 ⟨z3, rfl, hv3, hp3, ho3⟩;obtain ⟨q3a, q3b, rfl⟩ := hv3.agg;have hT3 := (Array.getElem?_eq_some_iff.1 b2.out).1;have m3 := Lib.hid (m2.out.step hR hp3 ho3);have b3 := Lib.hid (heldB ho3 b2.out (by omega));clear m2 b2 hp3 ho3;replace hv3 := Lib.hid hv3;go_wp2_with fail
 refine (cF3.out _ m3.out).mono ?_;rintro e' w4 ⟨rfl, hb4⟩;have m4 := Lib.hid (m3.out.below hb4);have b4 := Lib.hid (heldF (Only.of_below (F := fun _ => False) hb4) b3.out (fun h => h));clear b3;replace hv3 := Lib.hid (ChV.below hv3.out hb4);clear m3;clear hb4;go_wp2_with fail
 refine (under_any hv3.out (by omega) (opOfT B.fail) 0 0 []).mono ?_;rintro e' w5 ⟨z5, rfl, hv5, hb5⟩;obtain ⟨p1, p2, rfl⟩ := hv5.agg;have hT := (Array.getElem?_eq_some_iff.1 b4.out).1;have m5 := m4.out.below hb5;have b5 := heldF (Only.of_below (F := fun _ => False) hb5) b4.out (fun h => h);obtain ⟨y0, y1, y2, y3, y4, y5⟩ := cells3 b5;obtain ⟨l1, l2⟩ := laid3 m5 (Nat.le_refl _) hml b5 (hv5.mono (fun k _ hk => by
   rcases hk with hk | hk
   · exact ⟨by omega, by omega⟩
   · exact ⟨by omega, by omega⟩))
 replace l1 := Lib.hid l1; replace l2 := Lib.hid l2;clear m4 b4 m5 b5 hb5 hv5 hv3;go_wp2_with fail
 exact bodyPost_ret (ret_ch rfl rfl l1.out rfl) rfl l2.out
set_option maxRecDepth 20000 in
set_option maxHeartbeats 2000000 in
theorem stmt_sleep_ok {R cap n : Nat} {a : Option Addr} {ks : List Tk} (hR : 2 ≠ R) {w : World} {i : Nat} (h : PR w R a cap n ks i) (hM : MakesOK w)
   (hq_cM0 : markT ks i = B.sleep)
   {G2 : Nat → St Ch} (hP2 : DoesA 35 #[rp R] G2 R a cap n ks)
   {c : Ch} {j : Nat} (hg2 : G2 ((i + 1)) = .ok c j) (hn2 : c.n ≤ 10000000) :
   Calls Tryz.prog 94 #[rp R] w (Took (.ok (c.under (opOfT B.sleep) 0 []) j) w R a cap n ks) := by
 have m0 := Lib.hid ((Mid.start h hM).alloc chZ);have hRl := h.lt;have hml := hM.lt;have b0 := Lib.hid (heap_alloc_new w chZ);have cM0 := Lib.hid (fun W (h : Mid w W R a cap n ks i) => mark_call h hq_cM0);have cW1 := Lib.hid (fun W (hp : PR W R a cap n ks i) => want_ok hp (by decide) hq_cM0);have cR2 := Lib.hid (fun W (hp : PR W R a cap n ks (i + 1)) (hm : MakesOK W) => doesA_ok hP2 hp hm hg2);have cF3 := Lib.hid (fun W (h : Mid w W R a cap n ks j) => opOf_any B.sleep h.mo);unfold rp B.sleep at cM0;unfold rp B.sleep at cW1;unfold rp at cR2;unfold B.sleep at cF3;clear h hM hq_cM0 hP2 hg2;unfold rp;go_enter Tryz.func94, Tryz.ntmps94
 go_wp2_with fail
 refine (cM0.out _ m0.out).mono ?_;rintro e' w1 ⟨rfl, hb1⟩;have m1 := Lib.hid (m0.out.below hb1);have b1 := Lib.hid (heldF (Only.of_below (F := fun _ => False) hb1) b0.out (fun h => h));clear b0;clear m0;clear hb1;go_wp2_with fail
 refine (cW1.out _ m1.out.pr).mono ?_;rintro e' w2 ⟨rfl, hp2, ho2⟩;have m2 := Lib.hid (m1.out.step hR hp2 ho2);have b2 := Lib.hid (heldB ho2 b1.out (by omega));clear b1;clear m1;clear hp2 ho2;go_wp2_with fail
 refine (cR2.out _ m2.out.pr m2.out.mo).mono ?_;rintro e' w3 ⟨z3, rfl, hv3, hp3, ho3⟩;obtain ⟨q3a, q3b, rfl⟩ := hv3.agg;have hT3 := (Array.getElem?_eq_some_iff.1 b2.out).1;have m3 := Lib.hid (m2.out.step hR hp3 ho3);have b3 := Lib.hid (heldB ho3 b2.out (by omega));clear m2 b2 hp3 ho3;replace hv3 := Lib.hid hv3;go_wp2_with fail
 refine (cF3.out _ m3.out).mono ?_;rintro e' w4 ⟨rfl, hb4⟩;have m4 := Lib.hid (m3.out.below hb4);have b4 := Lib.hid (heldF (Only.of_below (F := fun _ => False) hb4) b3.out (fun h => h));clear b3;replace hv3 := Lib.hid (ChV.below hv3.out hb4);clear m3;clear hb4;go_wp2_with fail
 refine (under_any hv3.out (by omega) (opOfT B.sleep) 0 0 []).mono ?_;rintro e' w5 ⟨z5, rfl, hv5, hb5⟩;obtain ⟨p1, p2, rfl⟩ := hv5.agg;have hT := (Array.getElem?_eq_some_iff.1 b4.out).1;have m5 := m4.out.below hb5;have b5 := heldF (Only.of_below (F := fun _ => False) hb5) b4.out (fun h => h);obtain ⟨y0, y1, y2, y3, y4, y5⟩ := cells3 b5;obtain ⟨l1, l2⟩ := laid3 m5 (Nat.le_refl _) hml b5 (hv5.mono (fun k _ hk => by
   rcases hk with hk | hk
   · exact ⟨by omega, by omega⟩
   · exact ⟨by omega, by omega⟩))
 replace l1 := Lib.hid l1; replace l2 := Lib.hid l2;clear m4 b4 m5 b5 hb5 hv5 hv3;go_wp2_with fail
 exact bodyPost_ret (ret_ch rfl rfl l1.out rfl) rfl l2.out
set_option maxRecDepth 20000 in
set_option maxHeartbeats 2000000 in
theorem stmt_do_ok {R cap n : Nat} {a : Option Addr} {ks : List Tk} (hR : 2 ≠ R) {w : World} {i : Nat} (h : PR w R a cap n ks i) (hM : MakesOK w)
   (hq_cM0 : markT ks i = B.doW)
   {G2 : Nat → St Ch} (hP2 : DoesA 35 #[rp R] G2 R a cap n ks)
   {c : Ch} {j : Nat} (hg2 : G2 ((i + 1)) = .ok c j) (hn2 : c.n ≤ 10000000) :
   Calls Tryz.prog 94 #[rp R] w (Took (.ok (c.under (opOfT B.doW) 0 []) j) w R a cap n ks) := by
 have m0 := Lib.hid ((Mid.start h hM).alloc chZ);have hRl := h.lt;have hml := hM.lt;have b0 := Lib.hid (heap_alloc_new w chZ);have cM0 := Lib.hid (fun W (h : Mid w W R a cap n ks i) => mark_call h hq_cM0);have cW1 := Lib.hid (fun W (hp : PR W R a cap n ks i) => want_ok hp (by decide) hq_cM0);have cR2 := Lib.hid (fun W (hp : PR W R a cap n ks (i + 1)) (hm : MakesOK W) => doesA_ok hP2 hp hm hg2);have cF3 := Lib.hid (fun W (h : Mid w W R a cap n ks j) => opOf_any B.doW h.mo);unfold rp B.doW at cM0;unfold rp B.doW at cW1;unfold rp at cR2;unfold B.doW at cF3;clear h hM hq_cM0 hP2 hg2;unfold rp;go_enter Tryz.func94, Tryz.ntmps94
 go_wp2_with fail
 refine (cM0.out _ m0.out).mono ?_;rintro e' w1 ⟨rfl, hb1⟩;have m1 := Lib.hid (m0.out.below hb1);have b1 := Lib.hid (heldF (Only.of_below (F := fun _ => False) hb1) b0.out (fun h => h));clear b0;clear m0;clear hb1;go_wp2_with fail
 refine (cW1.out _ m1.out.pr).mono ?_;rintro e' w2 ⟨rfl, hp2, ho2⟩;have m2 := Lib.hid (m1.out.step hR hp2 ho2);have b2 := Lib.hid (heldB ho2 b1.out (by omega));clear b1;clear m1;clear hp2 ho2;go_wp2_with fail
 refine (cR2.out _ m2.out.pr m2.out.mo).mono ?_;rintro e' w3 ⟨z3, rfl, hv3, hp3, ho3⟩;obtain ⟨q3a, q3b, rfl⟩ := hv3.agg;have hT3 := (Array.getElem?_eq_some_iff.1 b2.out).1;have m3 := Lib.hid (m2.out.step hR hp3 ho3);have b3 := Lib.hid (heldB ho3 b2.out (by omega));clear m2 b2 hp3 ho3;replace hv3 := Lib.hid hv3;go_wp2_with fail
 refine (cF3.out _ m3.out).mono ?_;rintro e' w4 ⟨rfl, hb4⟩;have m4 := Lib.hid (m3.out.below hb4);have b4 := Lib.hid (heldF (Only.of_below (F := fun _ => False) hb4) b3.out (fun h => h));clear b3;replace hv3 := Lib.hid (ChV.below hv3.out hb4);clear m3;clear hb4;go_wp2_with fail
 refine (under_any hv3.out (by omega) (opOfT B.doW) 0 0 []).mono ?_;rintro e' w5 ⟨z5, rfl, hv5, hb5⟩;obtain ⟨p1, p2, rfl⟩ := hv5.agg;have hT := (Array.getElem?_eq_some_iff.1 b4.out).1;have m5 := m4.out.below hb5;have b5 := heldF (Only.of_below (F := fun _ => False) hb5) b4.out (fun h => h);obtain ⟨y0, y1, y2, y3, y4, y5⟩ := cells3 b5;obtain ⟨l1, l2⟩ := laid3 m5 (Nat.le_refl _) hml b5 (hv5.mono (fun k _ hk => by
   rcases hk with hk | hk
   · exact ⟨by omega, by omega⟩
   · exact ⟨by omega, by omega⟩))
 replace l1 := Lib.hid l1; replace l2 := Lib.hid l2;clear m4 b4 m5 b5 hb5 hv5 hv3;go_wp2_with fail
 exact bodyPost_ret (ret_ch rfl rfl l1.out rfl) rfl l2.out
set_option maxRecDepth 20000 in
set_option maxHeartbeats 2000000 in
theorem stmt_set_ok {R cap n : Nat} {a : Option Addr} {ks : List Tk} (hR : 2 ≠ R) {w : World} {i : Nat} (h : PR w R a cap n ks i) (hM : MakesOK w)
   {mk : List UInt8}
   (hq_cM0 : markT ks i = mk)
   (e1 : (mk == [108, 101, 116]) = false) (e2 : (mk == [105, 102]) = false) (e3 : (mk == [119, 104, 105, 108, 101]) = false) (e4 : (mk == [114, 101, 116, 117, 114, 110]) = false) (e5 : (mk == [102, 97, 105, 108]) = false) (e6 : (mk == [115, 108, 101, 101, 112]) = false) (e7 : (mk == [100, 111]) = false)
   {G1 : Nat → St Ch} (hP1 : DoesA 105 #[rp R, .int .u8 5] G1 R a cap n ks)
   {c : Ch} {j : Nat} (hg1 : G1 i = .ok c j) (hn1 : c.n ≤ 10000000) :
   Calls Tryz.prog 94 #[rp R] w (Took (.ok c j) w R a cap n ks) := by
 have m0 := Lib.hid ((Mid.start h hM).alloc chZ);have hRl := h.lt;have hml := hM.lt;have b0 := Lib.hid (heap_alloc_new w chZ);have cM0 := Lib.hid (fun W (h : Mid w W R a cap n ks i) => mark_call h hq_cM0);have cR1 := Lib.hid (fun W (hp : PR W R a cap n ks i) (hm : MakesOK W) => doesA_ok hP1 hp hm hg1);unfold rp at cR1;clear h hM hq_cM0 hP1 hg1;unfold rp;go_enter Tryz.func94, Tryz.ntmps94
 go_wp2_with fail
 refine (cM0.out _ m0.out).mono ?_;rintro e' w1 ⟨rfl, hb1⟩;have m1 := Lib.hid (m0.out.below hb1);have b1 := Lib.hid (heldF (Only.of_below (F := fun _ => False) hb1) b0.out (fun h => h));clear b0;clear m0;clear hb1;go_wp2_with fail
 refine (cR1.out _ m1.out.pr m1.out.mo).mono ?_;rintro e' w2 ⟨z2, rfl, hv2, hp2, ho2⟩;obtain ⟨q2a, q2b, rfl⟩ := hv2.agg;have hT2 := (Array.getElem?_eq_some_iff.1 b1.out).1;have m2 := Lib.hid (m1.out.step hR hp2 ho2);have b2 := Lib.hid (heldB ho2 b1.out (by omega));clear m1 b1 hp2 ho2;replace hv2 := Lib.hid hv2;obtain ⟨y0, y1, y2, y3, y4, y5⟩ := cells3 b2.out;obtain ⟨l1, l2⟩ := laid3 m2.out (Nat.le_refl _) hml b2.out (hv2.out.mono (fun k _ hk => ⟨by omega, by omega⟩));replace l1 := Lib.hid l1; replace l2 := Lib.hid l2;clear m2 b2 hv2;go_wp2_with fail
 exact bodyPost_ret (ret_ch rfl rfl l1.out rfl) rfl l2.out
set_option maxRecDepth 20000 in
set_option maxHeartbeats 2000000 in
theorem stmt_let_bad {R cap n : Nat} {a : Option Addr} {ks : List Tk} (hR : 2 ≠ R) {w : World} {i : Nat} (h : PR w R a cap n ks i) (hM : MakesOK w)
   (hq_cM0 : markT ks i = B.letW)
   {G2 : Nat → St Ch} (hP2 : DoesA 105 #[rp R, .int .u8 4] G2 R a cap n ks)
   {j : Nat} (hg2 : G2 ((i + 1)) = .bad j) :
   Calls Tryz.prog 94 #[rp R] w (Took (.bad j) w R a cap n ks) := by
 have m0 := Lib.hid ((Mid.start h hM).alloc chZ);have hRl := h.lt;have hml := hM.lt;have b0 := Lib.hid (heap_alloc_new w chZ);have cM0 := Lib.hid (fun W (h : Mid w W R a cap n ks i) => mark_call h hq_cM0);have cW1 := Lib.hid (fun W (hp : PR W R a cap n ks i) => want_ok hp (by decide) hq_cM0);have cR2 := Lib.hid (fun W (hp : PR W R a cap n ks (i + 1)) (hm : MakesOK W) => doesA_bad hP2 hp hm hg2);unfold rp B.letW at cM0;unfold rp B.letW at cW1;unfold rp at cR2;clear h hM hq_cM0 hP2 hg2;unfold rp;go_enter Tryz.func94, Tryz.ntmps94
 go_wp2_with fail
 refine (cM0.out _ m0.out).mono ?_;rintro e' w1 ⟨rfl, hb1⟩;have m1 := Lib.hid (m0.out.below hb1);have b1 := Lib.hid (heldF (Only.of_below (F := fun _ => False) hb1) b0.out (fun h => h));clear b0;clear m0;clear hb1;go_wp2_with fail
 refine (cW1.out _ m1.out.pr).mono ?_;rintro e' w2 ⟨rfl, hp2, ho2⟩;have m2 := Lib.hid (m1.out.step hR hp2 ho2);have b2 := Lib.hid (heldB ho2 b1.out (by omega));clear b1;clear m1;clear hp2 ho2;go_wp2_with fail
 refine (cR2.out _ m2.out.pr m2.out.mo).mono ?_;rintro e' w3 ⟨rfl, hb3⟩;go_wp2_with fail
 exact ⟨rfl, rfl, m2.out.bad hb3⟩
set_option maxRecDepth 20000 in
set_option maxHeartbeats 2000000 in
theorem stmt_if_bad {R cap n : Nat} {a : Option Addr} {ks : List Tk} (hR : 2 ≠ R) {w : World} {i : Nat} (h : PR w R a cap n ks i) (hM : MakesOK w)
   (hq_cM0 : markT ks i = B.ifW)
   {G1 : Nat → St Ch} (hP1 : DoesA 106 #[rp R] G1 R a cap n ks)
   {j : Nat} (hg1 : G1 i = .bad j) :
   Calls Tryz.prog 94 #[rp R] w (Took (.bad j) w R a cap n ks) := by
 have m0 := Lib.hid ((Mid.start h hM).alloc chZ);have hRl := h.lt;have hml := hM.lt;have b0 := Lib.hid (heap_alloc_new w chZ);have cM0 := Lib.hid (fun W (h : Mid w W R a cap n ks i) => mark_call h hq_cM0);have cR1 := Lib.hid (fun W (hp : PR W R a cap n ks i) (hm : MakesOK W) => doesA_bad hP1 hp hm hg1);unfold rp B.ifW at cM0;unfold rp at cR1;clear h hM hq_cM0 hP1 hg1;unfold rp;go_enter Tryz.func94, Tryz.ntmps94
 go_wp2_with fail
 refine (cM0.out _ m0.out).mono ?_;rintro e' w1 ⟨rfl, hb1⟩;have m1 := Lib.hid (m0.out.below hb1);have b1 := Lib.hid (heldF (Only.of_below (F := fun _ => False) hb1) b0.out (fun h => h));clear b0;clear m0;clear hb1;go_wp2_with fail
 refine (cR1.out _ m1.out.pr m1.out.mo).mono ?_;rintro e' w2 ⟨rfl, hb2⟩;go_wp2_with fail
 exact ⟨rfl, rfl, m1.out.bad hb2⟩
set_option maxRecDepth 20000 in
set_option maxHeartbeats 2000000 in
theorem stmt_ret_bad {R cap n : Nat} {a : Option Addr} {ks : List Tk} (hR : 2 ≠ R) {w : World} {i : Nat} (h : PR w R a cap n ks i) (hM : MakesOK w)
   (hq_cM0 : markT ks i = B.ret)
   {G2 : Nat → St Ch} (hP2 : DoesA 35 #[rp R] G2 R a cap n ks)
   {j : Nat} (hg2 : G2 ((i + 1)) = .bad j) :
   Calls Tryz.prog 94 #[rp R] w (Took (.bad j) w R a cap n ks) := by
 have m0 := Lib.hid ((Mid.start h hM).alloc chZ);have hRl := h.lt;have hml := hM.lt;have b0 := Lib.hid (heap_alloc_new w chZ);have cM0 := Lib.hid (fun W (h : Mid w W R a cap n ks i) => mark_call h hq_cM0);have cW1 := Lib.hid (fun W (hp : PR W R a cap n ks i) => want_ok hp (by decide) hq_cM0);have cR2 := Lib.hid (fun W (hp : PR W R a cap n ks (i + 1)) (hm : MakesOK W) => doesA_bad hP2 hp hm hg2);unfold rp B.ret at cM0;unfold rp B.ret at cW1;unfold rp at cR2;clear h hM hq_cM0 hP2 hg2;unfold rp;go_enter Tryz.func94, Tryz.ntmps94
 go_wp2_with fail
 refine (cM0.out _ m0.out).mono ?_;rintro e' w1 ⟨rfl, hb1⟩;have m1 := Lib.hid (m0.out.below hb1);have b1 := Lib.hid (heldF (Only.of_below (F := fun _ => False) hb1) b0.out (fun h => h));clear b0;clear m0;clear hb1;go_wp2_with fail
 refine (cW1.out _ m1.out.pr).mono ?_;rintro e' w2 ⟨rfl, hp2, ho2⟩;have m2 := Lib.hid (m1.out.step hR hp2 ho2);have b2 := Lib.hid (heldB ho2 b1.out (by omega));clear b1;clear m1;clear hp2 ho2;go_wp2_with fail
 refine (cR2.out _ m2.out.pr m2.out.mo).mono ?_;rintro e' w3 ⟨rfl, hb3⟩;go_wp2_with fail
 exact ⟨rfl, rfl, m2.out.bad hb3⟩
set_option maxRecDepth 20000 in
set_option maxHeartbeats 2000000 in
theorem stmt_fail_bad {R cap n : Nat} {a : Option Addr} {ks : List Tk} (hR : 2 ≠ R) {w : World} {i : Nat} (h : PR w R a cap n ks i) (hM : MakesOK w)
   (hq_cM0 : markT ks i = B.fail)
   {G2 : Nat → St Ch} (hP2 : DoesA 35 #[rp R] G2 R a cap n ks)
   {j : Nat} (hg2 : G2 ((i + 1)) = .bad j) :
   Calls Tryz.prog 94 #[rp R] w (Took (.bad j) w R a cap n ks) := by
 have m0 := Lib.hid ((Mid.start h hM).alloc chZ);have hRl := h.lt;have hml := hM.lt;have b0 := Lib.hid (heap_alloc_new w chZ);have cM0 := Lib.hid (fun W (h : Mid w W R a cap n ks i) => mark_call h hq_cM0);have cW1 := Lib.hid (fun W (hp : PR W R a cap n ks i) => want_ok hp (by decide) hq_cM0);have cR2 := Lib.hid (fun W (hp : PR W R a cap n ks (i + 1)) (hm : MakesOK W) => doesA_bad hP2 hp hm hg2);unfold rp B.fail at cM0;unfold rp B.fail at cW1;unfold rp at cR2;clear h hM hq_cM0 hP2 hg2;unfold rp;go_enter Tryz.func94, Tryz.ntmps94
 go_wp2_with fail
 refine (cM0.out _ m0.out).mono ?_;rintro e' w1 ⟨rfl, hb1⟩;have m1 := Lib.hid (m0.out.below hb1);have b1 := Lib.hid (heldF (Only.of_below (F := fun _ => False) hb1) b0.out (fun h => h));clear b0;clear m0;clear hb1;go_wp2_with fail
 refine (cW1.out _ m1.out.pr).mono ?_;rintro e' w2 ⟨rfl, hp2, ho2⟩;have m2 := Lib.hid (m1.out.step hR hp2 ho2);have b2 := Lib.hid (heldB ho2 b1.out (by omega));clear b1;clear m1;clear hp2 ho2;go_wp2_with fail
 refine (cR2.out _ m2.out.pr m2.out.mo).mono ?_;rintro e' w3 ⟨rfl, hb3⟩;go_wp2_with fail
 exact ⟨rfl, rfl, m2.out.bad hb3⟩
set_option maxRecDepth 20000 in
set_option maxHeartbeats 2000000 in
theorem stmt_sleep_bad {R cap n : Nat} {a : Option Addr} {ks : List Tk} (hR : 2 ≠ R) {w : World} {i : Nat} (h : PR w R a cap n ks i) (hM : MakesOK w)
   (hq_cM0 : markT ks i = B.sleep)
   {G2 : Nat → St Ch} (hP2 : DoesA 35 #[rp R] G2 R a cap n ks)
   {j : Nat} (hg2 : G2 ((i + 1)) = .bad j) :
   Calls Tryz.prog 94 #[rp R] w (Took (.bad j) w R a cap n ks) := by
 have m0 := Lib.hid ((Mid.start h hM).alloc chZ);have hRl := h.lt;have hml := hM.lt;have b0 := Lib.hid (heap_alloc_new w chZ);have cM0 := Lib.hid (fun W (h : Mid w W R a cap n ks i) => mark_call h hq_cM0);have cW1 := Lib.hid (fun W (hp : PR W R a cap n ks i) => want_ok hp (by decide) hq_cM0);have cR2 := Lib.hid (fun W (hp : PR W R a cap n ks (i + 1)) (hm : MakesOK W) => doesA_bad hP2 hp hm hg2);unfold rp B.sleep at cM0;unfold rp B.sleep at cW1;unfold rp at cR2;clear h hM hq_cM0 hP2 hg2;unfold rp;go_enter Tryz.func94, Tryz.ntmps94
 go_wp2_with fail
 refine (cM0.out _ m0.out).mono ?_;rintro e' w1 ⟨rfl, hb1⟩;have m1 := Lib.hid (m0.out.below hb1);have b1 := Lib.hid (heldF (Only.of_below (F := fun _ => False) hb1) b0.out (fun h => h));clear b0;clear m0;clear hb1;go_wp2_with fail
 refine (cW1.out _ m1.out.pr).mono ?_;rintro e' w2 ⟨rfl, hp2, ho2⟩;have m2 := Lib.hid (m1.out.step hR hp2 ho2);have b2 := Lib.hid (heldB ho2 b1.out (by omega));clear b1;clear m1;clear hp2 ho2;go_wp2_with fail
 refine (cR2.out _ m2.out.pr m2.out.mo).mono ?_;rintro e' w3 ⟨rfl, hb3⟩;go_wp2_with fail
 exact ⟨rfl, rfl, m2.out.bad hb3⟩
set_option maxRecDepth 20000 in
set_option maxHeartbeats 2000000 in
theorem stmt_do_bad {R cap n : Nat} {a : Option Addr} {ks : List Tk} (hR : 2 ≠ R) {w : World} {i : Nat} (h : PR w R a cap n ks i) (hM : MakesOK w)
   (hq_cM0 : markT ks i = B.doW)
   {G2 : Nat → St Ch} (hP2 : DoesA 35 #[rp R] G2 R a cap n ks)
   {j : Nat} (hg2 : G2 ((i + 1)) = .bad j) :
   Calls Tryz.prog 94 #[rp R] w (Took (.bad j) w R a cap n ks) := by
 have m0 := Lib.hid ((Mid.start h hM).alloc chZ);have hRl := h.lt;have hml := hM.lt;have b0 := Lib.hid (heap_alloc_new w chZ);have cM0 := Lib.hid (fun W (h : Mid w W R a cap n ks i) => mark_call h hq_cM0);have cW1 := Lib.hid (fun W (hp : PR W R a cap n ks i) => want_ok hp (by decide) hq_cM0);have cR2 := Lib.hid (fun W (hp : PR W R a cap n ks (i + 1)) (hm : MakesOK W) => doesA_bad hP2 hp hm hg2);unfold rp B.doW at cM0;unfold rp B.doW at cW1;unfold rp at cR2;clear h hM hq_cM0 hP2 hg2;unfold rp;go_enter Tryz.func94, Tryz.ntmps94
 go_wp2_with fail
 refine (cM0.out _ m0.out).mono ?_;rintro e' w1 ⟨rfl, hb1⟩;have m1 := Lib.hid (m0.out.below hb1);have b1 := Lib.hid (heldF (Only.of_below (F := fun _ => False) hb1) b0.out (fun h => h));clear b0;clear m0;clear hb1;go_wp2_with fail
 refine (cW1.out _ m1.out.pr).mono ?_;rintro e' w2 ⟨rfl, hp2, ho2⟩;have m2 := Lib.hid (m1.out.step hR hp2 ho2);have b2 := Lib.hid (heldB ho2 b1.out (by omega));clear b1;clear m1;clear hp2 ho2;go_wp2_with fail
 refine (cR2.out _ m2.out.pr m2.out.mo).mono ?_;rintro e' w3 ⟨rfl, hb3⟩;go_wp2_with fail
 exact ⟨rfl, rfl, m2.out.bad hb3⟩
set_option maxRecDepth 20000 in
set_option maxHeartbeats 2000000 in
theorem stmt_set_bad {R cap n : Nat} {a : Option Addr} {ks : List Tk} (hR : 2 ≠ R) {w : World} {i : Nat} (h : PR w R a cap n ks i) (hM : MakesOK w)
   {mk : List UInt8}
   (hq_cM0 : markT ks i = mk)
   (e1 : (mk == [108, 101, 116]) = false) (e2 : (mk == [105, 102]) = false) (e3 : (mk == [119, 104, 105, 108, 101]) = false) (e4 : (mk == [114, 101, 116, 117, 114, 110]) = false) (e5 : (mk == [102, 97, 105, 108]) = false) (e6 : (mk == [115, 108, 101, 101, 112]) = false) (e7 : (mk == [100, 111]) = false)
   {G1 : Nat → St Ch} (hP1 : DoesA 105 #[rp R, .int .u8 5] G1 R a cap n ks)
   {j : Nat} (hg1 : G1 i = .bad j) :
   Calls Tryz.prog 94 #[rp R] w (Took (.bad j) w R a cap n ks) := by
 have m0 := Lib.hid ((Mid.start h hM).alloc chZ);have hRl := h.lt;have hml := hM.lt;have b0 := Lib.hid (heap_alloc_new w chZ);have cM0 := Lib.hid (fun W (h : Mid w W R a cap n ks i) => mark_call h hq_cM0);have cR1 := Lib.hid (fun W (hp : PR W R a cap n ks i) (hm : MakesOK W) => doesA_bad hP1 hp hm hg1);unfold rp at cR1;clear h hM hq_cM0 hP1 hg1;unfold rp;go_enter Tryz.func94, Tryz.ntmps94
 go_wp2_with fail
 refine (cM0.out _ m0.out).mono ?_;rintro e' w1 ⟨rfl, hb1⟩;have m1 := Lib.hid (m0.out.below hb1);have b1 := Lib.hid (heldF (Only.of_below (F := fun _ => False) hb1) b0.out (fun h => h));clear b0;clear m0;clear hb1;go_wp2_with fail
 refine (cR1.out _ m1.out.pr m1.out.mo).mono ?_;rintro e' w2 ⟨rfl, hb2⟩;go_wp2_with fail
 exact ⟨rfl, rfl, m1.out.bad hb2⟩
set_option maxRecDepth 20000 in
set_option maxHeartbeats 2000000 in
theorem stmt_while_bad1 {R cap n : Nat} {a : Option Addr} {ks : List Tk} (hR : 2 ≠ R) {w : World} {i : Nat} (h : PR w R a cap n ks i) (hM : MakesOK w)
   (hq_cM0 : markT ks i = B.whileW)
   {G2 : Nat → St Ch} (hP2 : DoesA 35 #[rp R] G2 R a cap n ks)
   {j : Nat} (hg2 : G2 ((i + 1)) = .bad j) :
   Calls Tryz.prog 94 #[rp R] w (Took (.bad j) w R a cap n ks) := by
 have m0 := Lib.hid ((Mid.start h hM).alloc chZ);have hRl := h.lt;have hml := hM.lt;have b0 := Lib.hid (heap_alloc_new w chZ);have cM0 := Lib.hid (fun W (h : Mid w W R a cap n ks i) => mark_call h hq_cM0);have cW1 := Lib.hid (fun W (hp : PR W R a cap n ks i) => want_ok hp (by decide) hq_cM0);have cR2 := Lib.hid (fun W (hp : PR W R a cap n ks (i + 1)) (hm : MakesOK W) => doesA_bad hP2 hp hm hg2);unfold rp B.whileW at cM0;unfold rp B.whileW at cW1;unfold rp at cR2;clear h hM hq_cM0 hP2 hg2;unfold rp;go_enter Tryz.func94, Tryz.ntmps94
 go_wp2_with fail
 refine (cM0.out _ m0.out).mono ?_;rintro e' w1 ⟨rfl, hb1⟩;have m1 := Lib.hid (m0.out.below hb1);have b1 := Lib.hid (heldF (Only.of_below (F := fun _ => False) hb1) b0.out (fun h => h));clear b0;clear m0;clear hb1;go_wp2_with fail
 refine (cW1.out _ m1.out.pr).mono ?_;rintro e' w2 ⟨rfl, hp2, ho2⟩;have m2 := Lib.hid (m1.out.step hR hp2 ho2);have b2 := Lib.hid (heldB ho2 b1.out (by omega));clear b1;clear m1;clear hp2 ho2;go_wp2_with fail
 refine (cR2.out _ m2.out.pr m2.out.mo).mono ?_;rintro e' w3 ⟨rfl, hb3⟩;go_wp2_with fail
 exact ⟨rfl, rfl, m2.out.bad hb3⟩
set_option maxRecDepth 20000 in
set_option maxHeartbeats 2000000 in
theorem stmt_while_bad2 {R cap n : Nat} {a : Option Addr} {ks : List Tk} (hR : 2 ≠ R) {w : World} {i : Nat} (h : PR w R a cap n ks i) (hM : MakesOK w)
   (hq_cM0 : markT ks i = B.whileW)
   {G2 : Nat → St Ch} (hP2 : DoesA 35 #[rp R] G2 R a cap n ks)
   {c : Ch} {j : Nat} (hg2 : G2 ((i + 1)) = .ok c j) (hn2 : c.n ≤ 10000000)
   {G3 : Nat → St Ch} (hP3 : DoesA 57 #[rp R] G3 R a cap n ks)
   {k : Nat} (hg3 : G3 j = .bad k) :
   Calls Tryz.prog 94 #[rp R] w (Took (.bad k) w R a cap n ks) := by
 have m0 := Lib.hid ((Mid.start h hM).alloc chZ);have hRl := h.lt;have hml := hM.lt;have b0 := Lib.hid (heap_alloc_new w chZ);have cM0 := Lib.hid (fun W (h : Mid w W R a cap n ks i) => mark_call h hq_cM0);have cW1 := Lib.hid (fun W (hp : PR W R a cap n ks i) => want_ok hp (by decide) hq_cM0);have cR2 := Lib.hid (fun W (hp : PR W R a cap n ks (i + 1)) (hm : MakesOK W) => doesA_ok hP2 hp hm hg2);have cR3 := Lib.hid (fun W (hp : PR W R a cap n ks j) (hm : MakesOK W) => doesA_bad hP3 hp hm hg3);unfold rp B.whileW at cM0;unfold rp B.whileW at cW1;unfold rp at cR2;unfold rp at cR3;clear h hM hq_cM0 hP2 hg2 hP3 hg3;unfold rp;go_enter Tryz.func94, Tryz.ntmps94
 go_wp2_with fail
 refine (cM0.out _ m0.out).mono ?_;rintro e' w1 ⟨rfl, hb1⟩;have m1 := Lib.hid (m0.out.below hb1);have b1 := Lib.hid (heldF (Only.of_below (F := fun _ => False) hb1) b0.out (fun h => h));clear b0;clear m0;clear hb1;go_wp2_with fail
 refine (cW1.out _ m1.out.pr).mono ?_;rintro e' w2 ⟨rfl, hp2, ho2⟩;have m2 := Lib.hid (m1.out.step hR hp2 ho2);have b2 := Lib.hid (heldB ho2 b1.out (by omega));clear b1;clear m1;clear hp2 ho2;go_wp2_with fail
 have hT3 := (Array.getElem?_eq_some_iff.1 b2.out).1;refine (cR2.out _ m2.out.pr m2.out.mo).mono ?_;rintro e' w3 ⟨z3, rfl, hv3, hp3, ho3⟩;obtain ⟨p1, p2, rfl⟩ := hv3.agg;have hs3 := ho3.size;have m3x := Lib.hid ((m2.out.step hR hp3 ho3).alloc (.cells #[.pointer p1, .pointer p2, .int .i64 (c.n : Int)] 83));have v3x := Lib.hid (show ChV (w3.alloc (.cells #[.pointer p1, .pointer p2, .int .i64 (c.n : Int)] 83)) (fun k => w.heap.size < k ∧ k ≠ w3.heap.size) (.agg #[.pointer p1, .pointer p2, .int .i64 (c.n : Int)]) c from (hv3.mono (fun k hk h => ⟨by omega, by omega⟩)).alloc _);have r3x := Lib.hid (show PairB w (w3.alloc (.cells #[.pointer p1, .pointer p2, .int .i64 (c.n : Int)] 83)) w3.heap.size p1 p2 c.n from ⟨heldA (heldB ho3 b2.out (by omega)) _, heap_alloc_new w3 _, by omega⟩);clear m2 b2 hp3 ho3 hv3;go_wp2_with fail
 generalize w3.alloc (.cells #[.pointer p1, .pointer p2, .int .i64 (c.n : Int)] 83) = w3B at *;generalize w3.heap.size = B7 at *;have m3 := m3x;have v3 := v3x;have r3 := r3x;clear m3x v3x r3x;have mC := Lib.hid (m3.out.below ((Below.refl _ _).drew));have rB := Lib.hid (r3.out.below ((Below.refl _ _).drew));have vC := Lib.hid (ChV.below v3.out ((Below.refl _ _).drew));obtain ⟨x0, x1, x2, _, _, _⟩ := cells3 rB.out.d;clear m3 r3 v3;refine wp_region_any (by kernel_rfl) ?_
 change wpAny _ _ _ _ _ _ _ (World.drew _)
 refine wpAny_take (i := 1) (v := .pointer (some ⟨R, 0, none⟩)) rfl (by kernel_rfl) (by kernel_rfl) (by kernel_rfl) (fun _ _ _ h => h) (Or.inl ⟨by rfl, by intro w; go_simp⟩) ?_;refine wpAny_take (i := 4) (v := .agg #[.int .u8 7, .int .i64 0, .int .i64 0, .string ⟨#[]⟩]) rfl (by kernel_rfl) (by kernel_rfl) (by kernel_rfl) (fun _ _ _ h => h) (Or.inl ⟨by rfl, by intro w; go_simp⟩) ?_;refine wpAny_ready (rs := [0, 2]) (by kernel_rfl) (by simp) ?_;refine AllReady.cons rfl (fun K hK => ?_) (AllReady.cons rfl (fun K hK => ?_) AllReady.nil)
 · go_simp
   refine hK _ _ ?_;clear hK K;refine wpAny_ready (rs := [2]) (by kernel_rfl) (by simp) ?_;refine AllReady.cons rfl (fun K hK => ?_) AllReady.nil
   · go_simp
     go_wp2_with fail
     refine (cR3.out _ mC.out.pr mC.out.mo).mono ?_;rintro e' w99 ⟨rfl, hb99⟩;go_wp2_with fail
     exact ⟨rfl, rfl, mC.out.bad hb99⟩
 · go_simp
   go_wp2_with fail
   refine (cR3.out _ mC.out.pr mC.out.mo).mono ?_;rintro e' w99 ⟨rfl, hb99⟩;go_wp2_with fail
   exact ⟨rfl, rfl, mC.out.bad hb99⟩
set_option maxRecDepth 20000 in
set_option maxHeartbeats 2000000 in
theorem stmt_while_ok {R cap n : Nat} {a : Option Addr} {ks : List Tk} (hR : 2 ≠ R) {w : World} {i : Nat} (h : PR w R a cap n ks i) (hM : MakesOK w)
   (hq_cM0 : markT ks i = B.whileW)
   {G2 : Nat → St Ch} (hP2 : DoesA 35 #[rp R] G2 R a cap n ks)
   {c : Ch} {j : Nat} (hg2 : G2 ((i + 1)) = .ok c j) (hn2 : c.n ≤ 10000000)
   {G3 : Nat → St Ch} (hP3 : DoesA 57 #[rp R] G3 R a cap n ks)
   {d : Ch} {k : Nat} (hg3 : G3 j = .ok d k) (hn3 : d.n ≤ 10000000) :
   Calls Tryz.prog 94 #[rp R] w (Took (.ok ((c.then d).under 7 0 []) k) w R a cap n ks) := by
 have m0 := Lib.hid ((Mid.start h hM).alloc chZ);have hRl := h.lt;have hml := hM.lt;have b0 := Lib.hid (heap_alloc_new w chZ);have cM0 := Lib.hid (fun W (h : Mid w W R a cap n ks i) => mark_call h hq_cM0);have cW1 := Lib.hid (fun W (hp : PR W R a cap n ks i) => want_ok hp (by decide) hq_cM0);have cR2 := Lib.hid (fun W (hp : PR W R a cap n ks (i + 1)) (hm : MakesOK W) => doesA_ok hP2 hp hm hg2);have cR3 := Lib.hid (fun W (hp : PR W R a cap n ks j) (hm : MakesOK W) => doesA_ok hP3 hp hm hg3);unfold rp B.whileW at cM0;unfold rp B.whileW at cW1;unfold rp at cR2;unfold rp at cR3;clear h hM hq_cM0 hP2 hg2 hP3 hg3;unfold rp;go_enter Tryz.func94, Tryz.ntmps94
 go_wp2_with fail
 refine (cM0.out _ m0.out).mono ?_;rintro e' w1 ⟨rfl, hb1⟩;have m1 := Lib.hid (m0.out.below hb1);have b1 := Lib.hid (heldF (Only.of_below (F := fun _ => False) hb1) b0.out (fun h => h));clear b0;clear m0;clear hb1;go_wp2_with fail
 refine (cW1.out _ m1.out.pr).mono ?_;rintro e' w2 ⟨rfl, hp2, ho2⟩;have m2 := Lib.hid (m1.out.step hR hp2 ho2);have b2 := Lib.hid (heldB ho2 b1.out (by omega));clear b1;clear m1;clear hp2 ho2;go_wp2_with fail
 have hT3 := (Array.getElem?_eq_some_iff.1 b2.out).1;refine (cR2.out _ m2.out.pr m2.out.mo).mono ?_;rintro e' w3 ⟨z3, rfl, hv3, hp3, ho3⟩;obtain ⟨p1, p2, rfl⟩ := hv3.agg;have hs3 := ho3.size;have m3x := Lib.hid ((m2.out.step hR hp3 ho3).alloc (.cells #[.pointer p1, .pointer p2, .int .i64 (c.n : Int)] 83));have v3x := Lib.hid (show ChV (w3.alloc (.cells #[.pointer p1, .pointer p2, .int .i64 (c.n : Int)] 83)) (fun k => w.heap.size < k ∧ k ≠ w3.heap.size) (.agg #[.pointer p1, .pointer p2, .int .i64 (c.n : Int)]) c from (hv3.mono (fun k hk h => ⟨by omega, by omega⟩)).alloc _);have r3x := Lib.hid (show PairB w (w3.alloc (.cells #[.pointer p1, .pointer p2, .int .i64 (c.n : Int)] 83)) w3.heap.size p1 p2 c.n from ⟨heldA (heldB ho3 b2.out (by omega)) _, heap_alloc_new w3 _, by omega⟩);clear m2 b2 hp3 ho3 hv3;go_wp2_with fail
 generalize w3.alloc (.cells #[.pointer p1, .pointer p2, .int .i64 (c.n : Int)] 83) = w3B at *;generalize w3.heap.size = B7 at *;have m3 := m3x;have v3 := v3x;have r3 := r3x;clear m3x v3x r3x;have mC := Lib.hid (m3.out.below ((Below.refl _ _).drew));have rB := Lib.hid (r3.out.below ((Below.refl _ _).drew));have vC := Lib.hid (ChV.below v3.out ((Below.refl _ _).drew));obtain ⟨x0, x1, x2, _, _, _⟩ := cells3 rB.out.d;clear m3 r3 v3;go_region_law (first
   | (go_simp; refine (cR3.out _ mC.out.pr mC.out.mo).mono ?_; rintro e' w10 ⟨v10, rfl, hv10, hp10, ho10⟩; obtain ⟨q1, q2, rfl⟩ := hv10.agg; have hT := Lib.hid (Array.getElem?_eq_some_iff.1 rB.out.d).1; replace vC := Lib.hid (ChV.step (R := R) (ChV.cut vC.out) (fun k hk => by have := hk.1.1; omega) ho10); have dC := Lib.hid hv10; replace mC := Lib.hid (mC.out.step hR hp10 ho10); replace rB := Lib.hid (rB.out.step hRl ho10); obtain ⟨x0, x1, x2, _, _, _⟩ := cells3 rB.out.d)
   | (go_simp; go_at_call 56; refine (then_any vC.out dC.out (fun k h1 h2 => by have h3 := h1.2; omega) (by first | omega | (simp only [Ch.then]; omega))).mono ?_; rintro e' w12 ⟨z12, rfl, hv12, ho12⟩; obtain ⟨r1, r2, rfl⟩ := hv12.agg; have vT := Lib.hid hv12; replace mC := Lib.hid (mC.out.extF hml (fun k h => by have := h.1.1; omega) ho12); replace rB := Lib.hid (rB.out.only ho12 (fun h => by have := h.1.1; omega) (fun h => h.1.2 rfl)); obtain ⟨x0, x1, x2, x3, x4, x5⟩ := cells3 rB.out.d)
   | (go_simp; go_at_call 58; refine (under_any vT.out (by unfold Ch.then; dsimp only; omega) 7 0 0 []).mono ?_; rintro e' w13 ⟨z13, rfl, hv13, hb13⟩; obtain ⟨s1, s2, rfl⟩ := hv13.agg; have hT3 := Lib.hid (Array.getElem?_eq_some_iff.1 rB.out.d).1; replace mC := Lib.hid (mC.out.below hb13); replace rB := Lib.hid (rB.out.below hb13); obtain ⟨y0, y1, y2, y3, y4, y5⟩ := cells3 rB.out.b))
 all_goals
   have hl7 := rB.out.l;obtain ⟨l1, l2⟩ := laid3 mC.out (Nat.le_refl _) hml rB.out.b (hv13.mono (fun k _ hk => by
     have a1 := hT.out;have a2 := hT3.out;rcases hk with (hk | hk) | hk
     · have := hk.1.1; exact ⟨by omega, by omega⟩
     · exact ⟨by omega, by omega⟩
     · exact ⟨by omega, by omega⟩))
   replace l1 := Lib.hid l1; replace l2 := Lib.hid l2;go_wp2_with fail
   exact bodyPost_ret (ret_ch rfl rfl l1.out rfl) rfl l2.out
end Go.Proofs.YtjiemkidmlgbeaaGreatDoor
