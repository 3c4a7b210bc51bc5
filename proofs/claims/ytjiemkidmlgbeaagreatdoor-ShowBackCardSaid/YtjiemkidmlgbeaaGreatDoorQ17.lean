/- A part of the proof: PPreW, PPost. No condition. -/
import Derived.Test.YtjiemkidmlgbeaaGreatDoorQ15
set_option linter.unusedVariables false
set_option linter.unusedSimpArgs false
namespace Go.Proofs.YtjiemkidmlgbeaaGreatDoor
open Go.RowKit Go.Shelf Tok
set_option maxRecDepth 20000 in
set_option maxHeartbeats 2000000 in
theorem pre_neg_ok {R cap n : Nat} {a : Option Addr} {ks : List Tk} (hR : 2 ≠ R) {w : World} {i : Nat} (h : PR w R a cap n ks i) (hM : MakesOK w)
   (hq_cM0 : markT ks i = B.sub)
   {G2 : Nat → St Ch} (hP2 : DoesA 127 #[rp R] G2 R a cap n ks)
   {c : Ch} {j : Nat} (hg2 : G2 ((i + 1)) = .ok c j) (hn2 : c.n ≤ 10000000) :
   Calls Tryz.prog 127 #[rp R] w (Took (.ok (c.under 44 0 []) j) w R a cap n ks) := by
 have m0 := Lib.hid ((Mid.start h hM).alloc chZ);have hRl := h.lt;have hml := hM.lt;have b0 := Lib.hid (heap_alloc_new w chZ);have cM0 := Lib.hid (fun W (h : Mid w W R a cap n ks i) => mark_call h hq_cM0);have cW1 := Lib.hid (fun W (hp : PR W R a cap n ks i) => want_ok hp (by decide) hq_cM0);have cR2 := Lib.hid (fun W (hp : PR W R a cap n ks (i + 1)) (hm : MakesOK W) => doesA_ok hP2 hp hm hg2);unfold rp B.sub at cM0;unfold rp B.sub at cW1;unfold rp at cR2;clear h hM hq_cM0 hP2 hg2;unfold rp;go_enter Tryz.func127, Tryz.ntmps127
 go_wp2_with fail
 refine (cM0.out _ m0.out).mono ?_;rintro e' w1 ⟨rfl, hb1⟩;have m1 := Lib.hid (m0.out.below hb1);have b1 := Lib.hid (heldF (Only.of_below (F := fun _ => False) hb1) b0.out (fun h => h));clear b0;clear m0;clear hb1;go_wp2_with fail
 refine (cW1.out _ m1.out.pr).mono ?_;rintro e' w2 ⟨rfl, hp2, ho2⟩;have m2 := Lib.hid (m1.out.step hR hp2 ho2);have b2 := Lib.hid (heldB ho2 b1.out (by omega));clear b1;clear m1;clear hp2 ho2;go_wp2_with fail
 refine (cR2.out _ m2.out.pr m2.out.mo).mono ?_;rintro e' w3 ⟨z3, rfl, hv3, hp3, ho3⟩;obtain ⟨q3a, q3b, rfl⟩ := hv3.agg;have hT3 := (Array.getElem?_eq_some_iff.1 b2.out).1;have m3 := Lib.hid (m2.out.step hR hp3 ho3);have b3 := Lib.hid (heldB ho3 b2.out (by omega));clear m2 b2 hp3 ho3;replace hv3 := Lib.hid hv3;go_wp2_with fail
 refine (under_any hv3.out (by omega) 44 0 0 []).mono ?_;rintro e' w4 ⟨z4, rfl, hv4, hb4⟩;obtain ⟨p1, p2, rfl⟩ := hv4.agg;have hT := (Array.getElem?_eq_some_iff.1 b3.out).1;have m4 := m3.out.below hb4;have b4 := heldF (Only.of_below (F := fun _ => False) hb4) b3.out (fun h => h);obtain ⟨y0, y1, y2, y3, y4, y5⟩ := cells3 b4;obtain ⟨l1, l2⟩ := laid3 m4 (Nat.le_refl _) hml b4 (hv4.mono (fun k _ hk => by
   rcases hk with hk | hk
   · exact ⟨by omega, by omega⟩
   · exact ⟨by omega, by omega⟩))
 replace l1 := Lib.hid l1; replace l2 := Lib.hid l2;clear m3 b3 m4 b4 hb4 hv4 hv3;go_wp2_with fail
 exact bodyPost_ret (ret_ch rfl rfl l1.out rfl) rfl l2.out
set_option maxRecDepth 20000 in
set_option maxHeartbeats 2000000 in
theorem pre_await_ok {R cap n : Nat} {a : Option Addr} {ks : List Tk} (hR : 2 ≠ R) {w : World} {i : Nat} (h : PR w R a cap n ks i) (hM : MakesOK w)
   (hq_cM0 : markT ks i = B.await)
   {G2 : Nat → St Ch} (hP2 : DoesA 127 #[rp R] G2 R a cap n ks)
   {c : Ch} {j : Nat} (hg2 : G2 ((i + 1)) = .ok c j) (hn2 : c.n ≤ 10000000) :
   Calls Tryz.prog 127 #[rp R] w (Took (.ok (c.under (opOfT B.await) 0 []) j) w R a cap n ks) := by
 have m0 := Lib.hid ((Mid.start h hM).alloc chZ);have hRl := h.lt;have hml := hM.lt;have b0 := Lib.hid (heap_alloc_new w chZ);have cM0 := Lib.hid (fun W (h : Mid w W R a cap n ks i) => mark_call h hq_cM0);have cW1 := Lib.hid (fun W (hp : PR W R a cap n ks i) => want_ok hp (by decide) hq_cM0);have cR2 := Lib.hid (fun W (hp : PR W R a cap n ks (i + 1)) (hm : MakesOK W) => doesA_ok hP2 hp hm hg2);have cF3 := Lib.hid (fun W (h : Mid w W R a cap n ks j) => opOf_any B.await h.mo);unfold rp B.await at cM0;unfold rp B.await at cW1;unfold rp at cR2;unfold B.await at cF3;clear h hM hq_cM0 hP2 hg2;unfold rp;go_enter Tryz.func127, Tryz.ntmps127
 go_wp2_with fail
 refine (cM0.out _ m0.out).mono ?_;rintro e' w1 ⟨rfl, hb1⟩;have m1 := Lib.hid (m0.out.below hb1);have b1 := Lib.hid (heldF (Only.of_below (F := fun _ => False) hb1) b0.out (fun h => h));clear b0;clear m0;clear hb1;go_wp2_with fail
 refine (cW1.out _ m1.out.pr).mono ?_;rintro e' w2 ⟨rfl, hp2, ho2⟩;have m2 := Lib.hid (m1.out.step hR hp2 ho2);have b2 := Lib.hid (heldB ho2 b1.out (by omega));clear b1;clear m1;clear hp2 ho2;go_wp2_with fail
 refine (cR2.out _ m2.out.pr m2.out.mo).mono ?_;rintro e' w3 ⟨z3, rfl, hv3, hp3, ho3⟩;obtain ⟨q3a, q3b, rfl⟩ := hv3.agg;have hT3 := (Array.getElem?_eq_some_iff.1 b2.out).1;have m3 := Lib.hid (m2.out.step hR hp3 ho3);have b3 := Lib.hid (heldB ho3 b2.out (by omega));clear m2 b2 hp3 ho3;replace hv3 := Lib.hid hv3;go_wp2_with fail
 refine (cF3.out _ m3.out).mono ?_;rintro e' w4 ⟨rfl, hb4⟩;have m4 := Lib.hid (m3.out.below hb4);have b4 := Lib.hid (heldF (Only.of_below (F := fun _ => False) hb4) b3.out (fun h => h));clear b3;replace hv3 := Lib.hid (ChV.below hv3.out hb4);clear m3;clear hb4;go_wp2_with fail
 refine (under_any hv3.out (by omega) (opOfT B.await) 0 0 []).mono ?_;rintro e' w5 ⟨z5, rfl, hv5, hb5⟩;obtain ⟨p1, p2, rfl⟩ := hv5.agg;have hT := (Array.getElem?_eq_some_iff.1 b4.out).1;have m5 := m4.out.below hb5;have b5 := heldF (Only.of_below (F := fun _ => False) hb5) b4.out (fun h => h);obtain ⟨y0, y1, y2, y3, y4, y5⟩ := cells3 b5;obtain ⟨l1, l2⟩ := laid3 m5 (Nat.le_refl _) hml b5 (hv5.mono (fun k _ hk => by
   rcases hk with hk | hk
   · exact ⟨by omega, by omega⟩
   · exact ⟨by omega, by omega⟩))
 replace l1 := Lib.hid l1; replace l2 := Lib.hid l2;clear m4 b4 m5 b5 hb5 hv5 hv3;go_wp2_with fail
 exact bodyPost_ret (ret_ch rfl rfl l1.out rfl) rfl l2.out
set_option maxRecDepth 20000 in
set_option maxHeartbeats 2000000 in
theorem pre_settle_ok {R cap n : Nat} {a : Option Addr} {ks : List Tk} (hR : 2 ≠ R) {w : World} {i : Nat} (h : PR w R a cap n ks i) (hM : MakesOK w)
   (hq_cM0 : markT ks i = B.settle)
   {G2 : Nat → St Ch} (hP2 : DoesA 127 #[rp R] G2 R a cap n ks)
   {c : Ch} {j : Nat} (hg2 : G2 ((i + 1)) = .ok c j) (hn2 : c.n ≤ 10000000) :
   Calls Tryz.prog 127 #[rp R] w (Took (.ok (c.under (opOfT B.settle) 0 []) j) w R a cap n ks) := by
 have m0 := Lib.hid ((Mid.start h hM).alloc chZ);have hRl := h.lt;have hml := hM.lt;have b0 := Lib.hid (heap_alloc_new w chZ);have cM0 := Lib.hid (fun W (h : Mid w W R a cap n ks i) => mark_call h hq_cM0);have cW1 := Lib.hid (fun W (hp : PR W R a cap n ks i) => want_ok hp (by decide) hq_cM0);have cR2 := Lib.hid (fun W (hp : PR W R a cap n ks (i + 1)) (hm : MakesOK W) => doesA_ok hP2 hp hm hg2);have cF3 := Lib.hid (fun W (h : Mid w W R a cap n ks j) => opOf_any B.settle h.mo);unfold rp B.settle at cM0;unfold rp B.settle at cW1;unfold rp at cR2;unfold B.settle at cF3;clear h hM hq_cM0 hP2 hg2;unfold rp;go_enter Tryz.func127, Tryz.ntmps127
 go_wp2_with fail
 refine (cM0.out _ m0.out).mono ?_;rintro e' w1 ⟨rfl, hb1⟩;have m1 := Lib.hid (m0.out.below hb1);have b1 := Lib.hid (heldF (Only.of_below (F := fun _ => False) hb1) b0.out (fun h => h));clear b0;clear m0;clear hb1;go_wp2_with fail
 refine (cW1.out _ m1.out.pr).mono ?_;rintro e' w2 ⟨rfl, hp2, ho2⟩;have m2 := Lib.hid (m1.out.step hR hp2 ho2);have b2 := Lib.hid (heldB ho2 b1.out (by omega));clear b1;clear m1;clear hp2 ho2;go_wp2_with fail
 refine (cR2.out _ m2.out.pr m2.out.mo).mono ?_;rintro e' w3 ⟨z3, rfl, hv3, hp3, ho3⟩;obtain ⟨q3a, q3b, rfl⟩ := hv3.agg;have hT3 := (Array.getElem?_eq_some_iff.1 b2.out).1;have m3 := Lib.hid (m2.out.step hR hp3 ho3);have b3 := Lib.hid (heldB ho3 b2.out (by omega));clear m2 b2 hp3 ho3;replace hv3 := Lib.hid hv3;go_wp2_with fail
 refine (cF3.out _ m3.out).mono ?_;rintro e' w4 ⟨rfl, hb4⟩;have m4 := Lib.hid (m3.out.below hb4);have b4 := Lib.hid (heldF (Only.of_below (F := fun _ => False) hb4) b3.out (fun h => h));clear b3;replace hv3 := Lib.hid (ChV.below hv3.out hb4);clear m3;clear hb4;go_wp2_with fail
 refine (under_any hv3.out (by omega) (opOfT B.settle) 0 0 []).mono ?_;rintro e' w5 ⟨z5, rfl, hv5, hb5⟩;obtain ⟨p1, p2, rfl⟩ := hv5.agg;have hT := (Array.getElem?_eq_some_iff.1 b4.out).1;have m5 := m4.out.below hb5;have b5 := heldF (Only.of_below (F := fun _ => False) hb5) b4.out (fun h => h);obtain ⟨y0, y1, y2, y3, y4, y5⟩ := cells3 b5;obtain ⟨l1, l2⟩ := laid3 m5 (Nat.le_refl _) hml b5 (hv5.mono (fun k _ hk => by
   rcases hk with hk | hk
   · exact ⟨by omega, by omega⟩
   · exact ⟨by omega, by omega⟩))
 replace l1 := Lib.hid l1; replace l2 := Lib.hid l2;clear m4 b4 m5 b5 hb5 hv5 hv3;go_wp2_with fail
 exact bodyPost_ret (ret_ch rfl rfl l1.out rfl) rfl l2.out
set_option maxRecDepth 20000 in
set_option maxHeartbeats 2000000 in
theorem pre_post_ok {R cap n : Nat} {a : Option Addr} {ks : List Tk} (hR : 2 ≠ R) {w : World} {i : Nat} (h : PR w R a cap n ks i) (hM : MakesOK w)
   {mk : List UInt8}
   (hq_cM0 : markT ks i = mk)
   (e1 : (mk == [45]) = false) (e2 : (mk == [97, 119, 97, 105, 116]) = false) (e3 : (mk == [115, 101, 116, 116, 108, 101]) = false)
   {G1 : Nat → St Ch} (hP1 : DoesA 130 #[rp R] G1 R a cap n ks)
   {c : Ch} {j : Nat} (hg1 : G1 i = .ok c j) (hn1 : c.n ≤ 10000000) :
   Calls Tryz.prog 127 #[rp R] w (Took (.ok c j) w R a cap n ks) := by
 have m0 := Lib.hid ((Mid.start h hM).alloc chZ);have hRl := h.lt;have hml := hM.lt;have b0 := Lib.hid (heap_alloc_new w chZ);have cM0 := Lib.hid (fun W (h : Mid w W R a cap n ks i) => mark_call h hq_cM0);have cR1 := Lib.hid (fun W (hp : PR W R a cap n ks i) (hm : MakesOK W) => doesA_ok hP1 hp hm hg1);unfold rp at cR1;clear h hM hq_cM0 hP1 hg1;unfold rp;go_enter Tryz.func127, Tryz.ntmps127
 go_wp2_with fail
 refine (cM0.out _ m0.out).mono ?_;rintro e' w1 ⟨rfl, hb1⟩;have m1 := Lib.hid (m0.out.below hb1);have b1 := Lib.hid (heldF (Only.of_below (F := fun _ => False) hb1) b0.out (fun h => h));clear b0;clear m0;clear hb1;go_wp2_with fail
 refine (cR1.out _ m1.out.pr m1.out.mo).mono ?_;rintro e' w2 ⟨z2, rfl, hv2, hp2, ho2⟩;obtain ⟨q2a, q2b, rfl⟩ := hv2.agg;have hT2 := (Array.getElem?_eq_some_iff.1 b1.out).1;have m2 := Lib.hid (m1.out.step hR hp2 ho2);have b2 := Lib.hid (heldB ho2 b1.out (by omega));clear m1 b1 hp2 ho2;replace hv2 := Lib.hid hv2;obtain ⟨y0, y1, y2, y3, y4, y5⟩ := cells3 b2.out;obtain ⟨l1, l2⟩ := laid3 m2.out (Nat.le_refl _) hml b2.out (hv2.out.mono (fun k _ hk => ⟨by omega, by omega⟩));replace l1 := Lib.hid l1; replace l2 := Lib.hid l2;clear m2 b2 hv2;go_wp2_with fail
 exact bodyPost_ret (ret_ch rfl rfl l1.out rfl) rfl l2.out
set_option maxRecDepth 20000 in
set_option maxHeartbeats 2000000 in
theorem pre_neg_bad {R cap n : Nat} {a : Option Addr} {ks : List Tk} (hR : 2 ≠ R) {w : World} {i : Nat} (h : PR w R a cap n ks i) (hM : MakesOK w)
   (hq_cM0 : markT ks i = B.sub)
   {G2 : Nat → St Ch} (hP2 : DoesA 127 #[rp R] G2 R a cap n ks)
   {j : Nat} (hg2 : G2 ((i + 1)) = .bad j) :
   Calls Tryz.prog 127 #[rp R] w (Took (.bad j) w R a cap n ks) := by
 have m0 := Lib.hid ((Mid.start h hM).alloc chZ);have hRl := h.lt;have hml := hM.lt;have b0 := Lib.hid (heap_alloc_new w chZ);have cM0 := Lib.hid (fun W (h : Mid w W R a cap n ks i) => mark_call h hq_cM0);have cW1 := Lib.hid (fun W (hp : PR W R a cap n ks i) => want_ok hp (by decide) hq_cM0);have cR2 := Lib.hid (fun W (hp : PR W R a cap n ks (i + 1)) (hm : MakesOK W) => doesA_bad hP2 hp hm hg2);unfold rp B.sub at cM0;unfold rp B.sub at cW1;unfold rp at cR2;clear h hM hq_cM0 hP2 hg2;unfold rp;go_enter Tryz.func127, Tryz.ntmps127
 go_wp2_with fail
 refine (cM0.out _ m0.out).mono ?_;rintro e' w1 ⟨rfl, hb1⟩;have m1 := Lib.hid (m0.out.below hb1);have b1 := Lib.hid (heldF (Only.of_below (F := fun _ => False) hb1) b0.out (fun h => h));clear b0;clear m0;clear hb1;go_wp2_with fail
 refine (cW1.out _ m1.out.pr).mono ?_;rintro e' w2 ⟨rfl, hp2, ho2⟩;have m2 := Lib.hid (m1.out.step hR hp2 ho2);have b2 := Lib.hid (heldB ho2 b1.out (by omega));clear b1;clear m1;clear hp2 ho2;go_wp2_with fail
 refine (cR2.out _ m2.out.pr m2.out.mo).mono ?_;rintro e' w3 ⟨rfl, hb3⟩;go_wp2_with fail
 exact ⟨rfl, rfl, m2.out.bad hb3⟩
set_option maxRecDepth 20000 in
set_option maxHeartbeats 2000000 in
theorem pre_await_bad {R cap n : Nat} {a : Option Addr} {ks : List Tk} (hR : 2 ≠ R) {w : World} {i : Nat} (h : PR w R a cap n ks i) (hM : MakesOK w)
   (hq_cM0 : markT ks i = B.await)
   {G2 : Nat → St Ch} (hP2 : DoesA 127 #[rp R] G2 R a cap n ks)
   {j : Nat} (hg2 : G2 ((i + 1)) = .bad j) :
   Calls Tryz.prog 127 #[rp R] w (Took (.bad j) w R a cap n ks) := by
 have m0 := Lib.hid ((Mid.start h hM).alloc chZ);have hRl := h.lt;have hml := hM.lt;have b0 := Lib.hid (heap_alloc_new w chZ);have cM0 := Lib.hid (fun W (h : Mid w W R a cap n ks i) => mark_call h hq_cM0);have cW1 := Lib.hid (fun W (hp : PR W R a cap n ks i) => want_ok hp (by decide) hq_cM0);have cR2 := Lib.hid (fun W (hp : PR W R a cap n ks (i + 1)) (hm : MakesOK W) => doesA_bad hP2 hp hm hg2);unfold rp B.await at cM0;unfold rp B.await at cW1;unfold rp at cR2;clear h hM hq_cM0 hP2 hg2;unfold rp;go_enter Tryz.func127, Tryz.ntmps127
 go_wp2_with fail
 refine (cM0.out _ m0.out).mono ?_;rintro e' w1 ⟨rfl, hb1⟩;have m1 := Lib.hid (m0.out.below hb1);have b1 := Lib.hid (heldF (Only.of_below (F := fun _ => False) hb1) b0.out (fun h => h));clear b0;clear m0;clear hb1;go_wp2_with fail
 refine (cW1.out _ m1.out.pr).mono ?_;rintro e' w2 ⟨rfl, hp2, ho2⟩;have m2 := Lib.hid (m1.out.step hR hp2 ho2);have b2 := Lib.hid (heldB ho2 b1.out (by omega));clear b1;clear m1;clear hp2 ho2;go_wp2_with fail
 refine (cR2.out _ m2.out.pr m2.out.mo).mono ?_;rintro e' w3 ⟨rfl, hb3⟩;go_wp2_with fail
 exact ⟨rfl, rfl, m2.out.bad hb3⟩
set_option maxRecDepth 20000 in
set_option maxHeartbeats 2000000 in
theorem pre_settle_bad {R cap n : Nat} {a : Option Addr} {ks : List Tk} (hR : 2 ≠ R) {w : World} {i : Nat} (h : PR w R a cap n ks i) (hM : MakesOK w)
   (hq_cM0 : markT ks i = B.settle)
   {G2 : Nat → St Ch} (hP2 : DoesA 127 #[rp R] G2 R a cap n ks)
   {j : Nat} (hg2 : G2 ((i + 1)) = .bad j) :
   Calls Tryz.prog 127 #[rp R] w (Took (.bad j) w R a cap n ks) := by
 have m0 := Lib.hid ((Mid.start h hM).alloc chZ);have hRl := h.lt;have hml := hM.lt;have b0 := Lib.hid (heap_alloc_new w chZ);have cM0 := Lib.hid (fun W (h : Mid w W R a cap n ks i) => mark_call h hq_cM0);have cW1 := Lib.hid (fun W (hp : PR W R a cap n ks i) => want_ok hp (by decide) hq_cM0);have cR2 := Lib.hid (fun W (hp : PR W R a cap n ks (i + 1)) (hm : MakesOK W) => doesA_bad hP2 hp hm hg2);unfold rp B.settle at cM0;unfold rp B.settle at cW1;unfold rp at cR2;clear h hM hq_cM0 hP2 hg2;unfold rp;go_enter Tryz.func127, Tryz.ntmps127
 go_wp2_with fail
 refine (cM0.out _ m0.out).mono ?_;rintro e' w1 ⟨rfl, hb1⟩;have m1 := Lib.hid (m0.out.below hb1);have b1 := Lib.hid (heldF (Only.of_below (F := fun _ => False) hb1) b0.out (fun h => h));clear b0;clear m0;clear hb1;go_wp2_with fail
 refine (cW1.out _ m1.out.pr).mono ?_;rintro e' w2 ⟨rfl, hp2, ho2⟩;have m2 := Lib.hid (m1.out.step hR hp2 ho2);have b2 := Lib.hid (heldB ho2 b1.out (by omega));clear b1;clear m1;clear hp2 ho2;go_wp2_with fail
 refine (cR2.out _ m2.out.pr m2.out.mo).mono ?_;rintro e' w3 ⟨rfl, hb3⟩;go_wp2_with fail
 exact ⟨rfl, rfl, m2.out.bad hb3⟩
set_option maxRecDepth 20000 in
set_option maxHeartbeats 2000000 in
theorem pre_post_bad {R cap n : Nat} {a : Option Addr} {ks : List Tk} (hR : 2 ≠ R) {w : World} {i : Nat} (h : PR w R a cap n ks i) (hM : MakesOK w)
   {mk : List UInt8}
   (hq_cM0 : markT ks i = mk)
   (e1 : (mk == [45]) = false) (e2 : (mk == [97, 119, 97, 105, 116]) = false) (e3 : (mk == [115, 101, 116, 116, 108, 101]) = false)
   {G1 : Nat → St Ch} (hP1 : DoesA 130 #[rp R] G1 R a cap n ks)
   {j : Nat} (hg1 : G1 i = .bad j) :
   Calls Tryz.prog 127 #[rp R] w (Took (.bad j) w R a cap n ks) := by
 have m0 := Lib.hid ((Mid.start h hM).alloc chZ);have hRl := h.lt;have hml := hM.lt;have b0 := Lib.hid (heap_alloc_new w chZ);have cM0 := Lib.hid (fun W (h : Mid w W R a cap n ks i) => mark_call h hq_cM0);have cR1 := Lib.hid (fun W (hp : PR W R a cap n ks i) (hm : MakesOK W) => doesA_bad hP1 hp hm hg1);unfold rp at cR1;clear h hM hq_cM0 hP1 hg1;unfold rp;go_enter Tryz.func127, Tryz.ntmps127
 go_wp2_with fail
 refine (cM0.out _ m0.out).mono ?_;rintro e' w1 ⟨rfl, hb1⟩;have m1 := Lib.hid (m0.out.below hb1);have b1 := Lib.hid (heldF (Only.of_below (F := fun _ => False) hb1) b0.out (fun h => h));clear b0;clear m0;clear hb1;go_wp2_with fail
 refine (cR1.out _ m1.out.pr m1.out.mo).mono ?_;rintro e' w2 ⟨rfl, hb2⟩;go_wp2_with fail
 exact ⟨rfl, rfl, m1.out.bad hb2⟩
end Go.Proofs.YtjiemkidmlgbeaaGreatDoor
namespace Go.Proofs.YtjiemkidmlgbeaaGreatDoor
open Go.RowKit Go.Shelf Tok
set_option maxRecDepth 20000 in
set_option maxHeartbeats 400000 in
theorem post_bad {R cap n : Nat} {a : Option Addr} {ks : List Tk} (hR : 2 ≠ R) {w : World} {i : Nat} (h : PR w R a cap n ks i) (hM : MakesOK w) {G : Nat → St Ch} (hP : Does 132 G R a cap n ks) {j : Nat} (hg : G i = .bad j) :
   Calls Tryz.prog 130 #[rp R] w (Took (.bad j) w R a cap n ks) := by
 have m0 := Lib.hid ((Mid.start h hM).alloc chZ);have hRl := h.lt;have hml := hM.lt;have b0 := Lib.hid (heap_alloc_new w chZ);have c1 := Lib.hid (does_bad hP m0.out.pr m0.out.mo hg);clear h hM hP hg;unfold rp at c1 ⊢;go_enter Tryz.func130, Tryz.ntmps130
 go_wp2_with fail
 refine c1.out.mono ?_;rintro e' w3 ⟨rfl, hb3⟩;go_wp2_with fail
 exact ⟨rfl, rfl, m0.out.bad hb3⟩
set_option maxRecDepth 20000 in
set_option maxHeartbeats 2000000 in
theorem post_loop {R cap n : Nat} {a : Option Addr} {ks : List Tk} (hR : 2 ≠ R) {w : World} {i : Nat} (h : PR w R a cap n ks i) (hM : MakesOK w) {f : Nat} {c : Ch} {j : Nat}
   (hP : Does 132 (fun i => gP ks f .prim i) R a cap n ks) (hg : gP ks f .prim i = .ok c j) (hc : c.n ≤ 10000000)
   (hB : ∀ f', f' ≤ f → DoesA 80 #[rp R, .string ⟨B.lsq.toArray⟩, .func (.func 35) #[rp R] #[], .string ⟨B.rsq.toArray⟩] (fun i => gP ks f' (.between B.lsq .expr B.rsq) i) R a cap n ks)
   (hcn : ∀ f i c j, gP ks f (.between B.lsq .expr B.rsq) i = .ok c j → c.n ≤ 10000000) (hmo : ∀ f i c j, gP ks f (.between B.lsq .expr B.rsq) i = .ok c j → i < j)
   (hne : gP ks f (.postGo c) j ≠ .out) :
   Calls Tryz.prog 130 #[rp R] w (Took (gP ks f (.postGo c) j) w R a cap n ks) := by
 have m0 := Lib.hid ((Mid.start h hM).alloc chZ);have hRl := h.lt;have hml := hM.lt;have b0 := Lib.hid (heap_alloc_new w chZ);have c1 := Lib.hid (does_ok hP m0.out.pr m0.out.mo hg);clear h hM hP hg;obtain ⟨Z, hZ⟩ := exHid (gP ks f (.postGo c) j);rw [hZ.out] at hne ⊢;replace hB := Lib.hid hB; replace hcn := Lib.hid hcn; replace hmo := Lib.hid hmo;unfold rp at c1 ⊢;go_enter Tryz.func130, Tryz.ntmps130
 go_wp2_with fail
 have hT1 := (Array.getElem?_eq_some_iff.1 b0.out).1;refine c1.out.mono ?_;rintro e' w4 ⟨v4, rfl, hv4, hp4, ho4⟩;obtain ⟨p1, p2, rfl⟩ := hv4.agg;have hs4 := ho4.size;have m4 := Lib.hid ((m0.out.step hR hp4 ho4).alloc (.cells #[.pointer p1, .pointer p2, .int .i64 (c.n : Int)] 83));have v5 := Lib.hid (show ChV (w4.alloc (.cells #[.pointer p1, .pointer p2, .int .i64 (c.n : Int)] 83)) (fun k => w.heap.size < k ∧ k ≠ w4.heap.size) (.agg #[.pointer p1, .pointer p2, .int .i64 (c.n : Int)]) c from (hv4.mono (fun k hk h => ⟨by omega, by omega⟩)).alloc _);have r4 := Lib.hid (show PairB w (w4.alloc (.cells #[.pointer p1, .pointer p2, .int .i64 (c.n : Int)] 83)) w4.heap.size p1 p2 c.n from
   ⟨heldA (heldB ho4 b0.out (by omega)) _, heap_alloc_new w4 _, by omega⟩)
 clear c1 m0 b0 hp4 ho4 hv4;go_wp2_with fail
 generalize w4.alloc (.cells #[.pointer p1, .pointer p2, .int .i64 (c.n : Int)] 83) = w5 at *;generalize w4.heap.size = B7 at *;go_loopw [] (fun wr => ∃ (f' j : Nat) (c : Ch) (p1 p2 : Option Addr), f' ≤ f ∧ c.n ≤ 10000000 ∧ j ≤ ks.length ∧ Hid (gP ks f' (.postGo c) j = Z) ∧ Hid (Mid w wr R a cap n ks j) ∧ Hid (PairB w wr B7 p1 p2 c.n) ∧ Hid (ChV wr (fun k => w.heap.size < k ∧ k ≠ B7) (.agg #[.pointer p1, .pointer p2, .int .i64 (c.n : Int)]) c)) (fun wr => ks.length - placeN wr R)
 case atStart => exact ⟨f, j, c, p1, p2, Nat.le_refl _, hc, m4.out.pr.le, hZ, m4, r4, v5⟩
 case round =>
   clear m4 r4 v5 hZ hc;obtain ⟨f', j, c, p1, p2, hf', hc1, hjl1, hZ1, hm, hr, hv⟩ := hrel;cases f' with
   | zero => exact absurd hZ1.out.symm hne
   | succ f'' =>
   have hz := hZ1.out;clear hZ1;have hun : gP ks (f'' + 1) (.postGo c) j = if markT ks j = B.lsq then (gP ks f'' (.between B.lsq .expr B.rsq) j).and fun c' i => gP ks f'' (.postGo ((c.then c').under 42 0 [])) i else .ok c j := rfl;rw [hun] at hz;clear hun;obtain ⟨m, hmk⟩ := exHid (markT ks j);rw [hmk.out] at hz;have kM := Lib.hid (mark_call hm.out hmk.out);have hpl := Lib.hid (place_of hm.out);by_cases hcm : m = B.lsq
   · subst hcm
     rw [if_pos rfl] at hz;unfold B.lsq at kM;unfold St.and at hz;dsimp only at hz;cases hg2 : gP ks f'' (.between B.lsq .expr B.rsq) j with
     | out => rw [hg2] at hz; exact absurd hz.symm hne
     | bad k =>
       rw [hg2] at hz;subst hz;have cP := Lib.hid (fun W (hp : PR W R a cap n ks j) (hm : MakesOK W) => doesA_bad (hB.out f'' (by omega)) hp hm hg2);unfold rp B.lsq B.rsq at cP;go_wp2_with fail
       refine kM.out.mono ?_;rintro e' w7 ⟨rfl, hb7⟩;have mC := Lib.hid ((hm.out.below hb7).below ((Below.refl _ w7).drew));have rB := Lib.hid ((hr.out.below hb7).below ((Below.refl _ w7).drew));obtain ⟨x0, x1, x2, _, _, _⟩ := cells3 rB.out.d;clear kM;go_wp2_with fail
       refine wp_region_any (by kernel_rfl) ?_
       change wpAny _ _ _ _ _ _ _ (World.drew _)
       refine wpAny_take (i := 1) (v := .pointer (some ⟨R, 0, none⟩)) rfl (by kernel_rfl) (by kernel_rfl) (by kernel_rfl) (fun _ _ _ h => h) (Or.inl ⟨by rfl, by intro w; go_simp⟩) ?_;refine wpAny_take (i := 2) (v := .pointer (some ⟨R, 0, none⟩)) rfl (by kernel_rfl) (by kernel_rfl) (by kernel_rfl) (fun _ _ _ h => h) (Or.inl ⟨by rfl, by intro w; go_simp⟩) ?_;refine wpAny_take (i := 3) (v := .func (.func 35) #[.pointer (some ⟨R, 0, none⟩)] #[]) rfl (by kernel_rfl) (by kernel_rfl) (by kernel_rfl) (fun _ _ _ h => h) (Or.inl ⟨by rfl, by intro w; go_simp⟩) ?_;refine wpAny_take (i := 6) (v := .agg #[.int .u8 42, .int .i64 0, .int .i64 0, .string ⟨#[]⟩]) rfl (by kernel_rfl) (by kernel_rfl) (by kernel_rfl) (fun _ _ _ h => h) (Or.inl ⟨by rfl, by intro w; go_simp⟩) ?_;refine wpAny_ready (rs := [0, 4]) (by kernel_rfl) (by simp) ?_;refine AllReady.cons rfl (fun K hK => ?_) (AllReady.cons rfl (fun K hK => ?_) AllReady.nil)
       · go_simp
         refine hK _ _ ?_;clear hK K;refine wpAny_ready (rs := [4]) (by kernel_rfl) (by simp) ?_;refine AllReady.cons rfl (fun K hK => ?_) AllReady.nil
         · go_simp
           go_wp2_with fail
           refine (cP.out _ mC.out.pr mC.out.mo).mono ?_;rintro e' w10 ⟨rfl, hb10⟩;go_wp2_with fail
           exact ⟨rfl, rfl, mC.out.bad hb10⟩
       · go_simp
         go_wp2_with fail
         refine (cP.out _ mC.out.pr mC.out.mo).mono ?_;rintro e' w10 ⟨rfl, hb10⟩;go_wp2_with fail
         exact ⟨rfl, rfl, mC.out.bad hb10⟩
     | ok d k =>
       rw [hg2] at hz;replace hz := Lib.hid hz;have hdn := hcn.out _ _ _ _ hg2;have hjk := hmo.out _ _ _ _ hg2;have cP := Lib.hid (fun W (hp : PR W R a cap n ks j) (hm : MakesOK W) => doesA_ok (hB.out f'' (by omega)) hp hm hg2);unfold rp B.lsq B.rsq at cP;go_wp2_with fail
       refine kM.out.mono ?_;rintro e' w7 ⟨rfl, hb7⟩;have mC := Lib.hid ((hm.out.below hb7).below ((Below.refl _ w7).drew));have rB := Lib.hid ((hr.out.below hb7).below ((Below.refl _ w7).drew));have vC := Lib.hid (ChV.below (ChV.below hv.out hb7) ((Below.refl _ w7).drew));obtain ⟨x0, x1, x2, _, _, _⟩ := cells3 rB.out.d;clear kM hr hv;go_wp2_with fail
       go_region_law (first
         | (go_simp; refine (cP.out _ mC.out.pr mC.out.mo).mono ?_; rintro e' w10 ⟨v10, rfl, hv10, hp10, ho10⟩; obtain ⟨q1, q2, rfl⟩ := hv10.agg; have hT := Lib.hid (Array.getElem?_eq_some_iff.1 rB.out.d).1; replace vC := Lib.hid (ChV.step (R := R) (ChV.cut vC.out) (fun k hk => by have := hk.1.1; omega) ho10); have dC := Lib.hid hv10; replace mC := Lib.hid (mC.out.step hR hp10 ho10); replace rB := Lib.hid (rB.out.step hRl ho10); obtain ⟨x0, x1, x2, _, _, _⟩ := cells3 rB.out.d)
         | (go_simp; go_at_call 56; refine (then_any vC.out dC.out (fun k h1 h2 => by have h3 := h1.2; omega) (by omega)).mono ?_; rintro e' w12 ⟨z12, rfl, hv12, ho12⟩; obtain ⟨r1, r2, rfl⟩ := hv12.agg; have vT := Lib.hid hv12; replace mC := Lib.hid (mC.out.extF hml (fun k h => by have := h.1.1; omega) ho12); replace rB := Lib.hid (rB.out.only ho12 (fun h => by have := h.1.1; omega) (fun h => h.1.2 rfl)))
         | (go_simp; go_at_call 58; refine (under_any vT.out (by unfold Ch.then; dsimp only; omega) 42 0 0 []).mono ?_; rintro e' w13 ⟨z13, rfl, hv13, hb13⟩; obtain ⟨s1, s2, rfl⟩ := hv13.agg; have hT3 := Lib.hid (Array.getElem?_eq_some_iff.1 rB.out.d).1; replace mC := Lib.hid (mC.out.below hb13); replace rB := Lib.hid (rB.out.below hb13); obtain ⟨y0, y1, y2, y3, y4, y5⟩ := cells3 rB.out.d))
       all_goals
         obtain ⟨l1, l2⟩ := stored3 rB.out.d (.pointer s1) (.pointer s2) (.int .i64 (((c.then d).under 42 0 []).n : Int));have hl7 := rB.out.l;have hjl2 := mC.out.pr.le;have hmE := Lib.hid (mC.out.ext (by omega) (by omega) l2);have hrE := Lib.hid (show PairB w _ B7 s1 s2 ((c.then d).under 42 0 []).n from ⟨heldF l2 rB.out.b (by omega), l1, hl7⟩);have hvE := Lib.hid (show ChV _ (fun k => w.heap.size < k ∧ k ≠ B7) (.agg #[.pointer s1, .pointer s2, .int .i64 (((c.then d).under 42 0 []).n : Int)]) ((c.then d).under 42 0 []) from (hv13.mono (G := fun k => w.heap.size < k ∧ k ≠ B7) (fun k _ hk => by
           have a1 := hT.out;have a2 := hT3.out;rcases hk with (hk | hk) | hk
           · exact hk.1
           · exact ⟨by omega, by omega⟩
           · exact ⟨by omega, by omega⟩)).only l2 (fun k hk e => hk.2 e))
         have hpe := Lib.hid (place_of hmE.out);replace l1 := Lib.hid l1; replace l2 := Lib.hid l2;go_wp2_with fail
         go_roundw
         case rel => exact ⟨f'', k, (c.then d).under 42 0 [], s1, s2, by omega, by show 1 ≤ 10000000; omega, hjl2, hz, hmE, hrE, hvE⟩
         case measure =>
           rw [hpe.out, hpl.out];omega
   · rw [if_neg hcm] at hz
     subst hz;have e1 : (m == B.lsq) = false := beq_eq_false_iff_ne.2 hcm;unfold B.lsq at e1;clear hcm;go_wp2_with fail
     refine kM.out.mono ?_;rintro e' w7 ⟨rfl, hb7⟩;have m6 := hm.out.below hb7;have r6 := hr.out.below hb7;have v6 := ChV.below hv.out hb7;obtain ⟨x0, x1, x2, _, _, _⟩ := cells3 r6.d;obtain ⟨y0, y1, y2, y3, y4, y5⟩ := cells3 r6.b;obtain ⟨l1, l2⟩ := laid3 m6 (Nat.le_refl _) hml r6.b (v6.mono (fun k _ hk => ⟨by have := hk.1; omega, by have := hk.1; omega⟩));replace l1 := Lib.hid l1; replace l2 := Lib.hid l2;clear m6 r6 v6 hb7 kM;go_wp2_with fail
     exact bodyPost_ret (ret_ch rfl rfl l1.out rfl) rfl l2.out
end Go.Proofs.YtjiemkidmlgbeaaGreatDoor
