/- The reader of layer 9: pre, walked, way by way (made by tools/mkpw.py). -/
import Derived.Test.YtkmhdhnoghbkgaaGreatDoorQ23
set_option linter.unusedVariables false
/- The reader of layer 9: pre, walked, way by way (made by tools/mkpw.py). -/
namespace Go.Proofs.YtkmhdhnoghbkgaaGreatDoor
open Go.RowKit Go.Shelf Tok
set_option maxRecDepth 20000 in
set_option maxHeartbeats 2000000 in
theorem pre_neg_ok {R cap n : Nat} {a : Option Addr} {ks : List Tk} (hR : 1 ≠ R) {w : World} {i : Nat} (h : PR w R a cap n ks i) (hM : MakesOK w)
    (hq_cM0 : markT ks i = B.sub)
    {G2 : Nat → St Ch} (hP2 : DoesA 180 #[rp R] G2 R a cap n ks)
    {c : Ch} {j : Nat} (hg2 : G2 ((i + 1)) = .ok c j) (hn2 : c.n ≤ 10000000) :
    Calls Tryz.prog 180 #[rp R] w (Took (.ok (c.under 44 0 []) j) w R a cap n ks) := by
  have m0 := Lib.hid ((Mid.start h hM).alloc chZ)
  have hRl := h.lt
  have hml := hM.lt
  have b0 := Lib.hid (heap_alloc_new w chZ)
  have cM0 := Lib.hid (fun W (h : Mid w W R a cap n ks i) => mark_call h hq_cM0)
  have cW1 := Lib.hid (fun W (hp : PR W R a cap n ks i) => want_ok hp (by decide) hq_cM0)
  have cR2 := Lib.hid (fun W (hp : PR W R a cap n ks (i + 1)) (hm : MakesOK W) => doesA_ok hP2 hp hm hg2)
  unfold rp B.sub at cM0
  unfold rp B.sub at cW1
  unfold rp at cR2
  clear h hM hq_cM0 hP2 hg2
  unfold rp
  go_enter Tryz.func180, Tryz.ntmps180
  go_wp2_with fail
  refine (cM0.out _ m0.out).mono ?_
  rintro e' w1 ⟨rfl, hb1⟩
  have m1 := Lib.hid (m0.out.below hb1)
  have b1 := Lib.hid (heldF (Only.of_below (F := fun _ => False) hb1) b0.out (fun h => h))
  clear b0
  clear m0
  clear hb1
  go_wp2_with fail
  refine (cW1.out _ m1.out.pr).mono ?_
  rintro e' w2 ⟨rfl, hp2, ho2⟩
  have m2 := Lib.hid (m1.out.step hR hp2 ho2)
  have b2 := Lib.hid (heldB ho2 b1.out (by omega))
  clear b1
  clear m1
  clear hp2 ho2
  go_wp2_with fail
  refine (cR2.out _ m2.out.pr m2.out.mo).mono ?_
  rintro e' w3 ⟨z3, rfl, hv3, hp3, ho3⟩
  obtain ⟨q3a, q3b, rfl⟩ := hv3.agg
  have hT3 := (Array.getElem?_eq_some_iff.1 b2.out).1
  have m3 := Lib.hid (m2.out.step hR hp3 ho3)
  have b3 := Lib.hid (heldB ho3 b2.out (by omega))
  clear m2 b2 hp3 ho3
  replace hv3 := Lib.hid hv3
  go_wp2_with fail
  refine (under_any hv3.out (by omega) 44 0 0 []).mono ?_
  rintro e' w4 ⟨z4, rfl, hv4, hb4⟩
  obtain ⟨p1, p2, rfl⟩ := hv4.agg
  have hT := (Array.getElem?_eq_some_iff.1 b3.out).1
  have m4 := m3.out.below hb4
  have b4 := heldF (Only.of_below (F := fun _ => False) hb4) b3.out (fun h => h)
  obtain ⟨y0, y1, y2, y3, y4, y5⟩ := cells3 b4
  obtain ⟨l1, l2⟩ := laid3 m4 (Nat.le_refl _) hml b4 (hv4.mono (fun k _ hk => by
    rcases hk with hk | hk
    · exact ⟨by omega, by omega⟩
    · exact ⟨by omega, by omega⟩))
  replace l1 := Lib.hid l1; replace l2 := Lib.hid l2
  clear m3 b3 m4 b4 hb4 hv4 hv3
  go_wp2_with fail
  exact bodyPost_ret (ret_ch rfl rfl l1.out rfl) rfl l2.out
set_option maxRecDepth 20000 in
set_option maxHeartbeats 2000000 in
theorem pre_await_ok {R cap n : Nat} {a : Option Addr} {ks : List Tk} (hR : 1 ≠ R) {w : World} {i : Nat} (h : PR w R a cap n ks i) (hM : MakesOK w)
    (hq_cM0 : markT ks i = B.await)
    {G2 : Nat → St Ch} (hP2 : DoesA 180 #[rp R] G2 R a cap n ks)
    {c : Ch} {j : Nat} (hg2 : G2 ((i + 1)) = .ok c j) (hn2 : c.n ≤ 10000000) :
    Calls Tryz.prog 180 #[rp R] w (Took (.ok (c.under (opOfT B.await) 0 []) j) w R a cap n ks) := by
  have m0 := Lib.hid ((Mid.start h hM).alloc chZ)
  have hRl := h.lt
  have hml := hM.lt
  have b0 := Lib.hid (heap_alloc_new w chZ)
  have cM0 := Lib.hid (fun W (h : Mid w W R a cap n ks i) => mark_call h hq_cM0)
  have cW1 := Lib.hid (fun W (hp : PR W R a cap n ks i) => want_ok hp (by decide) hq_cM0)
  have cR2 := Lib.hid (fun W (hp : PR W R a cap n ks (i + 1)) (hm : MakesOK W) => doesA_ok hP2 hp hm hg2)
  have cF3 := Lib.hid (fun W (h : Mid w W R a cap n ks j) => opOf_any B.await h.mo)
  unfold rp B.await at cM0
  unfold rp B.await at cW1
  unfold rp at cR2
  unfold B.await at cF3
  clear h hM hq_cM0 hP2 hg2
  unfold rp
  go_enter Tryz.func180, Tryz.ntmps180
  go_wp2_with fail
  refine (cM0.out _ m0.out).mono ?_
  rintro e' w1 ⟨rfl, hb1⟩
  have m1 := Lib.hid (m0.out.below hb1)
  have b1 := Lib.hid (heldF (Only.of_below (F := fun _ => False) hb1) b0.out (fun h => h))
  clear b0
  clear m0
  clear hb1
  go_wp2_with fail
  refine (cW1.out _ m1.out.pr).mono ?_
  rintro e' w2 ⟨rfl, hp2, ho2⟩
  have m2 := Lib.hid (m1.out.step hR hp2 ho2)
  have b2 := Lib.hid (heldB ho2 b1.out (by omega))
  clear b1
  clear m1
  clear hp2 ho2
  go_wp2_with fail
  refine (cR2.out _ m2.out.pr m2.out.mo).mono ?_
  rintro e' w3 ⟨z3, rfl, hv3, hp3, ho3⟩
  obtain ⟨q3a, q3b, rfl⟩ := hv3.agg
  have hT3 := (Array.getElem?_eq_some_iff.1 b2.out).1
  have m3 := Lib.hid (m2.out.step hR hp3 ho3)
  have b3 := Lib.hid (heldB ho3 b2.out (by omega))
  clear m2 b2 hp3 ho3
  replace hv3 := Lib.hid hv3
  go_wp2_with fail
  refine (cF3.out _ m3.out).mono ?_
  rintro e' w4 ⟨rfl, hb4⟩
  have m4 := Lib.hid (m3.out.below hb4)
  have b4 := Lib.hid (heldF (Only.of_below (F := fun _ => False) hb4) b3.out (fun h => h))
  clear b3
  replace hv3 := Lib.hid (ChV.below hv3.out hb4)
  clear m3
  clear hb4
  go_wp2_with fail
  refine (under_any hv3.out (by omega) (opOfT B.await) 0 0 []).mono ?_
  rintro e' w5 ⟨z5, rfl, hv5, hb5⟩
  obtain ⟨p1, p2, rfl⟩ := hv5.agg
  have hT := (Array.getElem?_eq_some_iff.1 b4.out).1
  have m5 := m4.out.below hb5
  have b5 := heldF (Only.of_below (F := fun _ => False) hb5) b4.out (fun h => h)
  obtain ⟨y0, y1, y2, y3, y4, y5⟩ := cells3 b5
  obtain ⟨l1, l2⟩ := laid3 m5 (Nat.le_refl _) hml b5 (hv5.mono (fun k _ hk => by
    rcases hk with hk | hk
    · exact ⟨by omega, by omega⟩
    · exact ⟨by omega, by omega⟩))
  replace l1 := Lib.hid l1; replace l2 := Lib.hid l2
  clear m4 b4 m5 b5 hb5 hv5 hv3
  go_wp2_with fail
  exact bodyPost_ret (ret_ch rfl rfl l1.out rfl) rfl l2.out
set_option maxRecDepth 20000 in
set_option maxHeartbeats 2000000 in
theorem pre_settle_ok {R cap n : Nat} {a : Option Addr} {ks : List Tk} (hR : 1 ≠ R) {w : World} {i : Nat} (h : PR w R a cap n ks i) (hM : MakesOK w)
    (hq_cM0 : markT ks i = B.settle)
    {G2 : Nat → St Ch} (hP2 : DoesA 180 #[rp R] G2 R a cap n ks)
    {c : Ch} {j : Nat} (hg2 : G2 ((i + 1)) = .ok c j) (hn2 : c.n ≤ 10000000) :
    Calls Tryz.prog 180 #[rp R] w (Took (.ok (c.under (opOfT B.settle) 0 []) j) w R a cap n ks) := by
  have m0 := Lib.hid ((Mid.start h hM).alloc chZ)
  have hRl := h.lt
  have hml := hM.lt
  have b0 := Lib.hid (heap_alloc_new w chZ)
  have cM0 := Lib.hid (fun W (h : Mid w W R a cap n ks i) => mark_call h hq_cM0)
  have cW1 := Lib.hid (fun W (hp : PR W R a cap n ks i) => want_ok hp (by decide) hq_cM0)
  have cR2 := Lib.hid (fun W (hp : PR W R a cap n ks (i + 1)) (hm : MakesOK W) => doesA_ok hP2 hp hm hg2)
  have cF3 := Lib.hid (fun W (h : Mid w W R a cap n ks j) => opOf_any B.settle h.mo)
  unfold rp B.settle at cM0
  unfold rp B.settle at cW1
  unfold rp at cR2
  unfold B.settle at cF3
  clear h hM hq_cM0 hP2 hg2
  unfold rp
  go_enter Tryz.func180, Tryz.ntmps180
  go_wp2_with fail
  refine (cM0.out _ m0.out).mono ?_
  rintro e' w1 ⟨rfl, hb1⟩
  have m1 := Lib.hid (m0.out.below hb1)
  have b1 := Lib.hid (heldF (Only.of_below (F := fun _ => False) hb1) b0.out (fun h => h))
  clear b0
  clear m0
  clear hb1
  go_wp2_with fail
  refine (cW1.out _ m1.out.pr).mono ?_
  rintro e' w2 ⟨rfl, hp2, ho2⟩
  have m2 := Lib.hid (m1.out.step hR hp2 ho2)
  have b2 := Lib.hid (heldB ho2 b1.out (by omega))
  clear b1
  clear m1
  clear hp2 ho2
  go_wp2_with fail
  refine (cR2.out _ m2.out.pr m2.out.mo).mono ?_
  rintro e' w3 ⟨z3, rfl, hv3, hp3, ho3⟩
  obtain ⟨q3a, q3b, rfl⟩ := hv3.agg
  have hT3 := (Array.getElem?_eq_some_iff.1 b2.out).1
  have m3 := Lib.hid (m2.out.step hR hp3 ho3)
  have b3 := Lib.hid (heldB ho3 b2.out (by omega))
  clear m2 b2 hp3 ho3
  replace hv3 := Lib.hid hv3
  go_wp2_with fail
  refine (cF3.out _ m3.out).mono ?_
  rintro e' w4 ⟨rfl, hb4⟩
  have m4 := Lib.hid (m3.out.below hb4)
  have b4 := Lib.hid (heldF (Only.of_below (F := fun _ => False) hb4) b3.out (fun h => h))
  clear b3
  replace hv3 := Lib.hid (ChV.below hv3.out hb4)
  clear m3
  clear hb4
  go_wp2_with fail
  refine (under_any hv3.out (by omega) (opOfT B.settle) 0 0 []).mono ?_
  rintro e' w5 ⟨z5, rfl, hv5, hb5⟩
  obtain ⟨p1, p2, rfl⟩ := hv5.agg
  have hT := (Array.getElem?_eq_some_iff.1 b4.out).1
  have m5 := m4.out.below hb5
  have b5 := heldF (Only.of_below (F := fun _ => False) hb5) b4.out (fun h => h)
  obtain ⟨y0, y1, y2, y3, y4, y5⟩ := cells3 b5
  obtain ⟨l1, l2⟩ := laid3 m5 (Nat.le_refl _) hml b5 (hv5.mono (fun k _ hk => by
    rcases hk with hk | hk
    · exact ⟨by omega, by omega⟩
    · exact ⟨by omega, by omega⟩))
  replace l1 := Lib.hid l1; replace l2 := Lib.hid l2
  clear m4 b4 m5 b5 hb5 hv5 hv3
  go_wp2_with fail
  exact bodyPost_ret (ret_ch rfl rfl l1.out rfl) rfl l2.out
set_option maxRecDepth 20000 in
set_option maxHeartbeats 2000000 in
theorem pre_post_ok {R cap n : Nat} {a : Option Addr} {ks : List Tk} (hR : 1 ≠ R) {w : World} {i : Nat} (h : PR w R a cap n ks i) (hM : MakesOK w)
    {mk : List UInt8}
    (hq_cM0 : markT ks i = mk)
    (e1 : (mk == [45]) = false) (e2 : (mk == [97, 119, 97, 105, 116]) = false) (e3 : (mk == [115, 101, 116, 116, 108, 101]) = false)
    {G1 : Nat → St Ch} (hP1 : DoesA 184 #[rp R] G1 R a cap n ks)
    {c : Ch} {j : Nat} (hg1 : G1 i = .ok c j) (hn1 : c.n ≤ 10000000) :
    Calls Tryz.prog 180 #[rp R] w (Took (.ok c j) w R a cap n ks) := by
  have m0 := Lib.hid ((Mid.start h hM).alloc chZ)
  have hRl := h.lt
  have hml := hM.lt
  have b0 := Lib.hid (heap_alloc_new w chZ)
  have cM0 := Lib.hid (fun W (h : Mid w W R a cap n ks i) => mark_call h hq_cM0)
  have cR1 := Lib.hid (fun W (hp : PR W R a cap n ks i) (hm : MakesOK W) => doesA_ok hP1 hp hm hg1)
  unfold rp at cR1
  clear h hM hq_cM0 hP1 hg1
  unfold rp
  go_enter Tryz.func180, Tryz.ntmps180
  go_wp2_with fail
  refine (cM0.out _ m0.out).mono ?_
  rintro e' w1 ⟨rfl, hb1⟩
  have m1 := Lib.hid (m0.out.below hb1)
  have b1 := Lib.hid (heldF (Only.of_below (F := fun _ => False) hb1) b0.out (fun h => h))
  clear b0
  clear m0
  clear hb1
  go_wp2_with fail
  refine (cR1.out _ m1.out.pr m1.out.mo).mono ?_
  rintro e' w2 ⟨z2, rfl, hv2, hp2, ho2⟩
  obtain ⟨q2a, q2b, rfl⟩ := hv2.agg
  have hT2 := (Array.getElem?_eq_some_iff.1 b1.out).1
  have m2 := Lib.hid (m1.out.step hR hp2 ho2)
  have b2 := Lib.hid (heldB ho2 b1.out (by omega))
  clear m1 b1 hp2 ho2
  replace hv2 := Lib.hid hv2
  obtain ⟨y0, y1, y2, y3, y4, y5⟩ := cells3 b2.out
  obtain ⟨l1, l2⟩ := laid3 m2.out (Nat.le_refl _) hml b2.out (hv2.out.mono (fun k _ hk => ⟨by omega, by omega⟩))
  replace l1 := Lib.hid l1; replace l2 := Lib.hid l2
  clear m2 b2 hv2
  go_wp2_with fail
  exact bodyPost_ret (ret_ch rfl rfl l1.out rfl) rfl l2.out
set_option maxRecDepth 20000 in
set_option maxHeartbeats 2000000 in
theorem pre_neg_bad {R cap n : Nat} {a : Option Addr} {ks : List Tk} (hR : 1 ≠ R) {w : World} {i : Nat} (h : PR w R a cap n ks i) (hM : MakesOK w)
    (hq_cM0 : markT ks i = B.sub)
    {G2 : Nat → St Ch} (hP2 : DoesA 180 #[rp R] G2 R a cap n ks)
    {j : Nat} (hg2 : G2 ((i + 1)) = .bad j) :
    Calls Tryz.prog 180 #[rp R] w (Took (.bad j) w R a cap n ks) := by
  have m0 := Lib.hid ((Mid.start h hM).alloc chZ)
  have hRl := h.lt
  have hml := hM.lt
  have b0 := Lib.hid (heap_alloc_new w chZ)
  have cM0 := Lib.hid (fun W (h : Mid w W R a cap n ks i) => mark_call h hq_cM0)
  have cW1 := Lib.hid (fun W (hp : PR W R a cap n ks i) => want_ok hp (by decide) hq_cM0)
  have cR2 := Lib.hid (fun W (hp : PR W R a cap n ks (i + 1)) (hm : MakesOK W) => doesA_bad hP2 hp hm hg2)
  unfold rp B.sub at cM0
  unfold rp B.sub at cW1
  unfold rp at cR2
  clear h hM hq_cM0 hP2 hg2
  unfold rp
  go_enter Tryz.func180, Tryz.ntmps180
  go_wp2_with fail
  refine (cM0.out _ m0.out).mono ?_
  rintro e' w1 ⟨rfl, hb1⟩
  have m1 := Lib.hid (m0.out.below hb1)
  have b1 := Lib.hid (heldF (Only.of_below (F := fun _ => False) hb1) b0.out (fun h => h))
  clear b0
  clear m0
  clear hb1
  go_wp2_with fail
  refine (cW1.out _ m1.out.pr).mono ?_
  rintro e' w2 ⟨rfl, hp2, ho2⟩
  have m2 := Lib.hid (m1.out.step hR hp2 ho2)
  have b2 := Lib.hid (heldB ho2 b1.out (by omega))
  clear b1
  clear m1
  clear hp2 ho2
  go_wp2_with fail
  refine (cR2.out _ m2.out.pr m2.out.mo).mono ?_
  rintro e' w3 ⟨rfl, hb3⟩
  go_wp2_with fail
  exact ⟨rfl, rfl, m2.out.bad hb3⟩
set_option maxRecDepth 20000 in
set_option maxHeartbeats 2000000 in
theorem pre_await_bad {R cap n : Nat} {a : Option Addr} {ks : List Tk} (hR : 1 ≠ R) {w : World} {i : Nat} (h : PR w R a cap n ks i) (hM : MakesOK w)
    (hq_cM0 : markT ks i = B.await)
    {G2 : Nat → St Ch} (hP2 : DoesA 180 #[rp R] G2 R a cap n ks)
    {j : Nat} (hg2 : G2 ((i + 1)) = .bad j) :
    Calls Tryz.prog 180 #[rp R] w (Took (.bad j) w R a cap n ks) := by
  have m0 := Lib.hid ((Mid.start h hM).alloc chZ)
  have hRl := h.lt
  have hml := hM.lt
  have b0 := Lib.hid (heap_alloc_new w chZ)
  have cM0 := Lib.hid (fun W (h : Mid w W R a cap n ks i) => mark_call h hq_cM0)
  have cW1 := Lib.hid (fun W (hp : PR W R a cap n ks i) => want_ok hp (by decide) hq_cM0)
  have cR2 := Lib.hid (fun W (hp : PR W R a cap n ks (i + 1)) (hm : MakesOK W) => doesA_bad hP2 hp hm hg2)
  unfold rp B.await at cM0
  unfold rp B.await at cW1
  unfold rp at cR2
  clear h hM hq_cM0 hP2 hg2
  unfold rp
  go_enter Tryz.func180, Tryz.ntmps180
  go_wp2_with fail
  refine (cM0.out _ m0.out).mono ?_
  rintro e' w1 ⟨rfl, hb1⟩
  have m1 := Lib.hid (m0.out.below hb1)
  have b1 := Lib.hid (heldF (Only.of_below (F := fun _ => False) hb1) b0.out (fun h => h))
  clear b0
  clear m0
  clear hb1
  go_wp2_with fail
  refine (cW1.out _ m1.out.pr).mono ?_
  rintro e' w2 ⟨rfl, hp2, ho2⟩
  have m2 := Lib.hid (m1.out.step hR hp2 ho2)
  have b2 := Lib.hid (heldB ho2 b1.out (by omega))
  clear b1
  clear m1
  clear hp2 ho2
  go_wp2_with fail
  refine (cR2.out _ m2.out.pr m2.out.mo).mono ?_
  rintro e' w3 ⟨rfl, hb3⟩
  go_wp2_with fail
  exact ⟨rfl, rfl, m2.out.bad hb3⟩
set_option maxRecDepth 20000 in
set_option maxHeartbeats 2000000 in
theorem pre_settle_bad {R cap n : Nat} {a : Option Addr} {ks : List Tk} (hR : 1 ≠ R) {w : World} {i : Nat} (h : PR w R a cap n ks i) (hM : MakesOK w)
    (hq_cM0 : markT ks i = B.settle)
    {G2 : Nat → St Ch} (hP2 : DoesA 180 #[rp R] G2 R a cap n ks)
    {j : Nat} (hg2 : G2 ((i + 1)) = .bad j) :
    Calls Tryz.prog 180 #[rp R] w (Took (.bad j) w R a cap n ks) := by
  have m0 := Lib.hid ((Mid.start h hM).alloc chZ)
  have hRl := h.lt
  have hml := hM.lt
  have b0 := Lib.hid (heap_alloc_new w chZ)
  have cM0 := Lib.hid (fun W (h : Mid w W R a cap n ks i) => mark_call h hq_cM0)
  have cW1 := Lib.hid (fun W (hp : PR W R a cap n ks i) => want_ok hp (by decide) hq_cM0)
  have cR2 := Lib.hid (fun W (hp : PR W R a cap n ks (i + 1)) (hm : MakesOK W) => doesA_bad hP2 hp hm hg2)
  unfold rp B.settle at cM0
  unfold rp B.settle at cW1
  unfold rp at cR2
  clear h hM hq_cM0 hP2 hg2
  unfold rp
  go_enter Tryz.func180, Tryz.ntmps180
  go_wp2_with fail
  refine (cM0.out _ m0.out).mono ?_
  rintro e' w1 ⟨rfl, hb1⟩
  have m1 := Lib.hid (m0.out.below hb1)
  have b1 := Lib.hid (heldF (Only.of_below (F := fun _ => False) hb1) b0.out (fun h => h))
  clear b0
  clear m0
  clear hb1
  go_wp2_with fail
  refine (cW1.out _ m1.out.pr).mono ?_
  rintro e' w2 ⟨rfl, hp2, ho2⟩
  have m2 := Lib.hid (m1.out.step hR hp2 ho2)
  have b2 := Lib.hid (heldB ho2 b1.out (by omega))
  clear b1
  clear m1
  clear hp2 ho2
  go_wp2_with fail
  refine (cR2.out _ m2.out.pr m2.out.mo).mono ?_
  rintro e' w3 ⟨rfl, hb3⟩
  go_wp2_with fail
  exact ⟨rfl, rfl, m2.out.bad hb3⟩
set_option maxRecDepth 20000 in
set_option maxHeartbeats 2000000 in
theorem pre_post_bad {R cap n : Nat} {a : Option Addr} {ks : List Tk} (hR : 1 ≠ R) {w : World} {i : Nat} (h : PR w R a cap n ks i) (hM : MakesOK w)
    {mk : List UInt8}
    (hq_cM0 : markT ks i = mk)
    (e1 : (mk == [45]) = false) (e2 : (mk == [97, 119, 97, 105, 116]) = false) (e3 : (mk == [115, 101, 116, 116, 108, 101]) = false)
    {G1 : Nat → St Ch} (hP1 : DoesA 184 #[rp R] G1 R a cap n ks)
    {j : Nat} (hg1 : G1 i = .bad j) :
    Calls Tryz.prog 180 #[rp R] w (Took (.bad j) w R a cap n ks) := by
  have m0 := Lib.hid ((Mid.start h hM).alloc chZ)
  have hRl := h.lt
  have hml := hM.lt
  have b0 := Lib.hid (heap_alloc_new w chZ)
  have cM0 := Lib.hid (fun W (h : Mid w W R a cap n ks i) => mark_call h hq_cM0)
  have cR1 := Lib.hid (fun W (hp : PR W R a cap n ks i) (hm : MakesOK W) => doesA_bad hP1 hp hm hg1)
  unfold rp at cR1
  clear h hM hq_cM0 hP1 hg1
  unfold rp
  go_enter Tryz.func180, Tryz.ntmps180
  go_wp2_with fail
  refine (cM0.out _ m0.out).mono ?_
  rintro e' w1 ⟨rfl, hb1⟩
  have m1 := Lib.hid (m0.out.below hb1)
  have b1 := Lib.hid (heldF (Only.of_below (F := fun _ => False) hb1) b0.out (fun h => h))
  clear b0
  clear m0
  clear hb1
  go_wp2_with fail
  refine (cR1.out _ m1.out.pr m1.out.mo).mono ?_
  rintro e' w2 ⟨rfl, hb2⟩
  go_wp2_with fail
  exact ⟨rfl, rfl, m1.out.bad hb2⟩
end Go.Proofs.YtkmhdhnoghbkgaaGreatDoor
