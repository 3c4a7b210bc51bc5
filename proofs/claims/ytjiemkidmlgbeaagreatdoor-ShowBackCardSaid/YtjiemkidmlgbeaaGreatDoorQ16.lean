/- A part of the proof: PChoice. No condition. -/
import Derived.Test.YtjiemkidmlgbeaaGreatDoorQ15
set_option linter.unusedVariables false
set_option linter.unusedSimpArgs false
namespace Go.Proofs.YtjiemkidmlgbeaaGreatDoor
open Go.RowKit Go.Shelf Tok
set_option maxRecDepth 20000 in
set_option maxHeartbeats 2000000 in
theorem choice_bad0 {R cap n : Nat} {a : Option Addr} {ks : List Tk} (hR : 2 ≠ R) {w : World} {i : Nat} (h : PR w R a cap n ks i) (hM : MakesOK w)
   (hn_cB0 : markT ks i ≠ B.ifW) :
   Calls Tryz.prog 106 #[rp R] w (Took (.bad i) w R a cap n ks) := by
 have m0 := Lib.hid ((Mid.start h hM).alloc chZ);have hRl := h.lt;have hml := hM.lt;have b0 := Lib.hid (heap_alloc_new w chZ);have cB0 := Lib.hid (fun W (hp : PR W R a cap n ks i) => want_bad hp (by decide) hn_cB0);unfold rp B.ifW at cB0;clear h hM hn_cB0;unfold rp;go_enter Tryz.func106, Tryz.ntmps106
 go_wp2_with fail
 refine (cB0.out _ m0.out.pr).mono ?_;rintro e' w1 ⟨rfl, hb1⟩;go_wp2_with fail
 exact ⟨rfl, rfl, m0.out.bad hb1⟩
set_option maxRecDepth 20000 in
set_option maxHeartbeats 2000000 in
theorem choice_bad1 {R cap n : Nat} {a : Option Addr} {ks : List Tk} (hR : 2 ≠ R) {w : World} {i : Nat} (h : PR w R a cap n ks i) (hM : MakesOK w)
   (hq : markT ks i = B.ifW)
   {G1 : Nat → St Ch} (hP1 : DoesA 35 #[rp R] G1 R a cap n ks)
   {j : Nat} (hg1 : G1 ((i + 1)) = .bad j) :
   Calls Tryz.prog 106 #[rp R] w (Took (.bad j) w R a cap n ks) := by
 have m0 := Lib.hid ((Mid.start h hM).alloc chZ);have hRl := h.lt;have hml := hM.lt;have b0 := Lib.hid (heap_alloc_new w chZ);have cW0 := Lib.hid (fun W (hp : PR W R a cap n ks i) => want_ok hp (by decide) hq);have cR1 := Lib.hid (fun W (hp : PR W R a cap n ks (i + 1)) (hm : MakesOK W) => doesA_bad hP1 hp hm hg1);unfold rp B.ifW at cW0;unfold rp at cR1;clear h hM hq hP1 hg1;unfold rp;go_enter Tryz.func106, Tryz.ntmps106
 go_wp2_with fail
 refine (cW0.out _ m0.out.pr).mono ?_;rintro e' w1 ⟨rfl, hp1, ho1⟩;have m1 := Lib.hid (m0.out.step hR hp1 ho1);have b1 := Lib.hid (heldB ho1 b0.out (by omega));clear b0;clear m0;clear hp1 ho1;go_wp2_with fail
 refine (cR1.out _ m1.out.pr m1.out.mo).mono ?_;rintro e' w2 ⟨rfl, hb2⟩;go_wp2_with fail
 exact ⟨rfl, rfl, m1.out.bad hb2⟩
set_option maxRecDepth 20000 in
set_option maxHeartbeats 2000000 in
theorem choice_bad2 {R cap n : Nat} {a : Option Addr} {ks : List Tk} (hR : 2 ≠ R) {w : World} {i : Nat} (h : PR w R a cap n ks i) (hM : MakesOK w)
   (hq : markT ks i = B.ifW)
   {G1 : Nat → St Ch} (hP1 : DoesA 35 #[rp R] G1 R a cap n ks)
   {c : Ch} {j : Nat} (hg1 : G1 ((i + 1)) = .ok c j) (hn1 : c.n ≤ 10000000)
   {G2 : Nat → St Ch} (hP2 : DoesA 57 #[rp R] G2 R a cap n ks)
   {k : Nat} (hg2 : G2 j = .bad k) :
   Calls Tryz.prog 106 #[rp R] w (Took (.bad k) w R a cap n ks) := by
 have m0 := Lib.hid ((Mid.start h hM).alloc chZ);have hRl := h.lt;have hml := hM.lt;have b0 := Lib.hid (heap_alloc_new w chZ);have cW0 := Lib.hid (fun W (hp : PR W R a cap n ks i) => want_ok hp (by decide) hq);have cR1 := Lib.hid (fun W (hp : PR W R a cap n ks (i + 1)) (hm : MakesOK W) => doesA_ok hP1 hp hm hg1);have cR2 := Lib.hid (fun W (hp : PR W R a cap n ks j) (hm : MakesOK W) => doesA_bad hP2 hp hm hg2);unfold rp B.ifW at cW0;unfold rp at cR1;unfold rp at cR2;clear h hM hq hP1 hg1 hP2 hg2;unfold rp;go_enter Tryz.func106, Tryz.ntmps106
 go_wp2_with fail
 refine (cW0.out _ m0.out.pr).mono ?_;rintro e' w1 ⟨rfl, hp1, ho1⟩;have m1 := Lib.hid (m0.out.step hR hp1 ho1);have b1 := Lib.hid (heldB ho1 b0.out (by omega));clear b0;clear m0;clear hp1 ho1;go_wp2_with fail
 have hT2 := (Array.getElem?_eq_some_iff.1 b1.out).1;refine (cR1.out _ m1.out.pr m1.out.mo).mono ?_;rintro e' w2 ⟨z2, rfl, hv2, hp2, ho2⟩;obtain ⟨p1, p2, rfl⟩ := hv2.agg;have hs2 := ho2.size;have m2x := Lib.hid ((m1.out.step hR hp2 ho2).alloc (.cells #[.pointer p1, .pointer p2, .int .i64 (c.n : Int)] 83));have v2x := Lib.hid (show ChV (w2.alloc (.cells #[.pointer p1, .pointer p2, .int .i64 (c.n : Int)] 83)) (fun k => w.heap.size < k ∧ k ≠ w2.heap.size) (.agg #[.pointer p1, .pointer p2, .int .i64 (c.n : Int)]) c from (hv2.mono (fun k hk h => ⟨by omega, by omega⟩)).alloc _);have r2x := Lib.hid (show PairB w (w2.alloc (.cells #[.pointer p1, .pointer p2, .int .i64 (c.n : Int)] 83)) w2.heap.size p1 p2 c.n from ⟨heldA (heldB ho2 b1.out (by omega)) _, heap_alloc_new w2 _, by omega⟩);clear m1 b1 hp2 ho2 hv2;go_wp2_with fail
 generalize w2.alloc (.cells #[.pointer p1, .pointer p2, .int .i64 (c.n : Int)] 83) = w2B at *;generalize w2.heap.size = B7 at *;have m2 := m2x;have v2 := v2x;have r2 := r2x;clear m2x v2x r2x;have mC := Lib.hid (m2.out.below ((Below.refl _ _).drew));have rB := Lib.hid (r2.out.below ((Below.refl _ _).drew));have vC := Lib.hid (ChV.below v2.out ((Below.refl _ _).drew));obtain ⟨x0, x1, x2, _, _, _⟩ := cells3 rB.out.d;clear m2 r2 v2;refine wp_region_any (by kernel_rfl) ?_
 change wpAny _ _ _ _ _ _ _ (World.drew _)
 refine wpAny_take (i := 1) (v := .pointer (some ⟨R, 0, none⟩)) rfl (by kernel_rfl) (by kernel_rfl) (by kernel_rfl) (fun _ _ _ h => h) (Or.inl ⟨by rfl, by intro w; go_simp⟩) ?_;refine wpAny_ready (rs := [0, 2]) (by kernel_rfl) (by simp) ?_;refine AllReady.cons rfl (fun K hK => ?_) (AllReady.cons rfl (fun K hK => ?_) AllReady.nil)
 · go_simp
   refine hK _ _ ?_;clear hK K;refine wpAny_ready (rs := [2]) (by kernel_rfl) (by simp) ?_;refine AllReady.cons rfl (fun K hK => ?_) AllReady.nil
   · go_simp
     go_wp2_with fail
     refine (cR2.out _ mC.out.pr mC.out.mo).mono ?_;rintro e' w99 ⟨rfl, hb99⟩;go_wp2_with fail
     exact ⟨rfl, rfl, mC.out.bad hb99⟩
 · go_simp
   go_wp2_with fail
   refine (cR2.out _ mC.out.pr mC.out.mo).mono ?_;rintro e' w99 ⟨rfl, hb99⟩;go_wp2_with fail
   exact ⟨rfl, rfl, mC.out.bad hb99⟩
set_option maxRecDepth 20000 in
set_option maxHeartbeats 2000000 in
theorem choice_two {R cap n : Nat} {a : Option Addr} {ks : List Tk} (hR : 2 ≠ R) {w : World} {i : Nat} (h : PR w R a cap n ks i) (hM : MakesOK w)
   (hq : markT ks i = B.ifW)
   {G1 : Nat → St Ch} (hP1 : DoesA 35 #[rp R] G1 R a cap n ks)
   {c : Ch} {j : Nat} (hg1 : G1 ((i + 1)) = .ok c j) (hn1 : c.n ≤ 10000000)
   {G2 : Nat → St Ch} (hP2 : DoesA 57 #[rp R] G2 R a cap n ks)
   {d : Ch} {k : Nat} (hg2 : G2 j = .ok d k) (hn2 : d.n ≤ 10000000)
   {mk : List UInt8}
   (hq_cM3 : markT ks k = mk)
   (e1 : (mk == [101, 108, 115, 101]) = false) :
   Calls Tryz.prog 106 #[rp R] w (Took (.ok ((c.then d).under 6 0 []) k) w R a cap n ks) := by
 have m0 := Lib.hid ((Mid.start h hM).alloc chZ);have hRl := h.lt;have hml := hM.lt;have b0 := Lib.hid (heap_alloc_new w chZ);have cW0 := Lib.hid (fun W (hp : PR W R a cap n ks i) => want_ok hp (by decide) hq);have cR1 := Lib.hid (fun W (hp : PR W R a cap n ks (i + 1)) (hm : MakesOK W) => doesA_ok hP1 hp hm hg1);have cR2 := Lib.hid (fun W (hp : PR W R a cap n ks j) (hm : MakesOK W) => doesA_ok hP2 hp hm hg2);have cM3 := Lib.hid (fun W (h : Mid w W R a cap n ks k) => mark_call h hq_cM3);unfold rp B.ifW at cW0;unfold rp at cR1;unfold rp at cR2;clear h hM hq hP1 hg1 hP2 hg2 hq_cM3;unfold rp;go_enter Tryz.func106, Tryz.ntmps106
 go_wp2_with fail
 refine (cW0.out _ m0.out.pr).mono ?_;rintro e' w1 ⟨rfl, hp1, ho1⟩;have m1 := Lib.hid (m0.out.step hR hp1 ho1);have b1 := Lib.hid (heldB ho1 b0.out (by omega));clear b0;clear m0;clear hp1 ho1;go_wp2_with fail
 have hT2 := (Array.getElem?_eq_some_iff.1 b1.out).1;refine (cR1.out _ m1.out.pr m1.out.mo).mono ?_;rintro e' w2 ⟨z2, rfl, hv2, hp2, ho2⟩;obtain ⟨p1, p2, rfl⟩ := hv2.agg;have hs2 := ho2.size;have m2x := Lib.hid ((m1.out.step hR hp2 ho2).alloc (.cells #[.pointer p1, .pointer p2, .int .i64 (c.n : Int)] 83));have v2x := Lib.hid (show ChV (w2.alloc (.cells #[.pointer p1, .pointer p2, .int .i64 (c.n : Int)] 83)) (fun k => w.heap.size < k ∧ k ≠ w2.heap.size) (.agg #[.pointer p1, .pointer p2, .int .i64 (c.n : Int)]) c from (hv2.mono (fun k hk h => ⟨by omega, by omega⟩)).alloc _);have r2x := Lib.hid (show PairB w (w2.alloc (.cells #[.pointer p1, .pointer p2, .int .i64 (c.n : Int)] 83)) w2.heap.size p1 p2 c.n from ⟨heldA (heldB ho2 b1.out (by omega)) _, heap_alloc_new w2 _, by omega⟩);clear m1 b1 hp2 ho2 hv2;go_wp2_with fail
 generalize w2.alloc (.cells #[.pointer p1, .pointer p2, .int .i64 (c.n : Int)] 83) = w2B at *;generalize w2.heap.size = B7 at *;have m2 := m2x;have v2 := v2x;have r2 := r2x;clear m2x v2x r2x;have mC := Lib.hid (m2.out.below ((Below.refl _ _).drew));have rB := Lib.hid (r2.out.below ((Below.refl _ _).drew));have vC := Lib.hid (ChV.below v2.out ((Below.refl _ _).drew));obtain ⟨x0, x1, x2, _, _, _⟩ := cells3 rB.out.d;clear m2 r2 v2;go_region_law (first
   | (go_simp; refine (cR2.out _ mC.out.pr mC.out.mo).mono ?_; rintro e' w10 ⟨v10, rfl, hv10, hp10, ho10⟩; obtain ⟨q1, q2, rfl⟩ := hv10.agg; have hT := Lib.hid (Array.getElem?_eq_some_iff.1 rB.out.d).1; replace vC := Lib.hid (ChV.step (R := R) (ChV.cut vC.out) (fun k hk => by have := hk.1.1; omega) ho10); have dC := Lib.hid hv10; replace mC := Lib.hid (mC.out.step hR hp10 ho10); replace rB := Lib.hid (rB.out.step hRl ho10); obtain ⟨x0, x1, x2, _, _, _⟩ := cells3 rB.out.d)
   | (go_simp; go_at_call 56; refine (then_any vC.out dC.out (fun k h1 h2 => by have h3 := h1.2; omega) (by first | omega | (simp only [Ch.then]; omega))).mono ?_; rintro e' w12 ⟨z12, rfl, hv12, ho12⟩; obtain ⟨r1, r2, rfl⟩ := hv12.agg; have vT := Lib.hid hv12; replace mC := Lib.hid (mC.out.extF hml (fun k h => by have := h.1.1; omega) ho12); replace rB := Lib.hid (rB.out.only ho12 (fun h => by have := h.1.1; omega) (fun h => h.1.2 rfl)); obtain ⟨x0, x1, x2, x3, x4, x5⟩ := cells3 rB.out.d))
 all_goals
   obtain ⟨l1, l2⟩ := stored3 rB.out.d (.pointer r1) (.pointer r2) (.int .i64 ((c.then d).n : Int));have hl7 := rB.out.l;have m3 := Lib.hid (mC.out.ext (by omega) (by omega) l2);have r3 := Lib.hid (show PairB w _ B7 r1 r2 (c.then d).n from ⟨heldF l2 rB.out.b (by omega), l1, hl7⟩);have v3 := Lib.hid (show ChV _ (fun k => w.heap.size < k ∧ k ≠ B7) (.agg #[.pointer r1, .pointer r2, .int .i64 ((c.then d).n : Int)]) (c.then d) from (hv12.mono (G := fun k => w.heap.size < k ∧ k ≠ B7) (fun k _ hk => by
     have a1 := hT.out;rcases hk with hk | hk
     · exact hk.1
     · exact ⟨by omega, by omega⟩)).only l2 (fun k hk e => hk.2 e))
   obtain ⟨x0, x1, x2, x3, x4, x5⟩ := cells3 r3.out.d;replace l1 := Lib.hid l1; replace l2 := Lib.hid l2;clear mC rB vC dC vT hv12 ho12 ho10 hv10 hp10;go_wp2_with fail
   refine (cM3.out _ m3.out).mono ?_;rintro e' w4 ⟨rfl, hb4⟩;have m4 := Lib.hid (m3.out.below hb4);have r4 := Lib.hid (r3.out.below hb4);have v4 := Lib.hid (ChV.below v3.out hb4);clear r3 v3;clear m3;clear hb4;obtain ⟨x0, x1, x2, x3, x4, x5⟩ := cells3 r4.out.d;go_wp2_with fail
   refine (under_any v4.out (by first | omega | (simp only [Ch.then]; omega)) 6 0 0 []).mono ?_;rintro e' w5 ⟨z5, rfl, hv5, hb5⟩;obtain ⟨s1, s2, rfl⟩ := hv5.agg;have hl8 := r4.out.l;have hT9 := (Array.getElem?_eq_some_iff.1 r4.out.d).1;have m5 := m4.out.below hb5;have r5 := r4.out.below hb5;obtain ⟨y0, y1, y2, y3, y4, y5⟩ := cells3 r5.b;obtain ⟨l1, l2⟩ := laid3 m5 (Nat.le_refl _) hml r5.b (hv5.mono (fun k _ hk => by
     rcases hk with hk | hk
     · have := hk.1; exact ⟨by omega, by omega⟩
     · exact ⟨by omega, by omega⟩))
   replace l1 := Lib.hid l1; replace l2 := Lib.hid l2;clear m4 r4 v4 m5 r5 hb5 hv5;go_wp2_with fail
   exact bodyPost_ret (ret_ch rfl rfl l1.out rfl) rfl l2.out
set_option maxRecDepth 20000 in
set_option maxHeartbeats 2000000 in
theorem choice_bad3 {R cap n : Nat} {a : Option Addr} {ks : List Tk} (hR : 2 ≠ R) {w : World} {i : Nat} (h : PR w R a cap n ks i) (hM : MakesOK w)
   (hq : markT ks i = B.ifW)
   {G1 : Nat → St Ch} (hP1 : DoesA 35 #[rp R] G1 R a cap n ks)
   {c : Ch} {j : Nat} (hg1 : G1 ((i + 1)) = .ok c j) (hn1 : c.n ≤ 10000000)
   {G2 : Nat → St Ch} (hP2 : DoesA 57 #[rp R] G2 R a cap n ks)
   {d : Ch} {k : Nat} (hg2 : G2 j = .ok d k) (hn2 : d.n ≤ 10000000)
   (hq_cM3 : markT ks k = B.elseW)
   {l : Nat} (hg5 : G2 ((k + 1)) = .bad l) :
   Calls Tryz.prog 106 #[rp R] w (Took (.bad l) w R a cap n ks) := by
 have m0 := Lib.hid ((Mid.start h hM).alloc chZ);have hRl := h.lt;have hml := hM.lt;have b0 := Lib.hid (heap_alloc_new w chZ);have cW0 := Lib.hid (fun W (hp : PR W R a cap n ks i) => want_ok hp (by decide) hq);have cR1 := Lib.hid (fun W (hp : PR W R a cap n ks (i + 1)) (hm : MakesOK W) => doesA_ok hP1 hp hm hg1);have cR2 := Lib.hid (fun W (hp : PR W R a cap n ks j) (hm : MakesOK W) => doesA_ok hP2 hp hm hg2);have cM3 := Lib.hid (fun W (h : Mid w W R a cap n ks k) => mark_call h hq_cM3);have cW4 := Lib.hid (fun W (hp : PR W R a cap n ks k) => want_ok hp (by decide) hq_cM3);have cR5 := Lib.hid (fun W (hp : PR W R a cap n ks (k + 1)) (hm : MakesOK W) => doesA_bad hP2 hp hm hg5);unfold rp B.ifW at cW0;unfold rp at cR1;unfold rp at cR2;unfold rp B.elseW at cM3;unfold rp B.elseW at cW4;unfold rp at cR5;clear h hM hq hP1 hg1 hP2 hg2 hq_cM3 hg5;unfold rp;go_enter Tryz.func106, Tryz.ntmps106
 go_wp2_with fail
 refine (cW0.out _ m0.out.pr).mono ?_;rintro e' w1 ⟨rfl, hp1, ho1⟩;have m1 := Lib.hid (m0.out.step hR hp1 ho1);have b1 := Lib.hid (heldB ho1 b0.out (by omega));clear b0;clear m0;clear hp1 ho1;go_wp2_with fail
 have hT2 := (Array.getElem?_eq_some_iff.1 b1.out).1;refine (cR1.out _ m1.out.pr m1.out.mo).mono ?_;rintro e' w2 ⟨z2, rfl, hv2, hp2, ho2⟩;obtain ⟨p1, p2, rfl⟩ := hv2.agg;have hs2 := ho2.size;have m2x := Lib.hid ((m1.out.step hR hp2 ho2).alloc (.cells #[.pointer p1, .pointer p2, .int .i64 (c.n : Int)] 83));have v2x := Lib.hid (show ChV (w2.alloc (.cells #[.pointer p1, .pointer p2, .int .i64 (c.n : Int)] 83)) (fun k => w.heap.size < k ∧ k ≠ w2.heap.size) (.agg #[.pointer p1, .pointer p2, .int .i64 (c.n : Int)]) c from (hv2.mono (fun k hk h => ⟨by omega, by omega⟩)).alloc _);have r2x := Lib.hid (show PairB w (w2.alloc (.cells #[.pointer p1, .pointer p2, .int .i64 (c.n : Int)] 83)) w2.heap.size p1 p2 c.n from ⟨heldA (heldB ho2 b1.out (by omega)) _, heap_alloc_new w2 _, by omega⟩);clear m1 b1 hp2 ho2 hv2;go_wp2_with fail
 generalize w2.alloc (.cells #[.pointer p1, .pointer p2, .int .i64 (c.n : Int)] 83) = w2B at *;generalize w2.heap.size = B7 at *;have m2 := m2x;have v2 := v2x;have r2 := r2x;clear m2x v2x r2x;have mC := Lib.hid (m2.out.below ((Below.refl _ _).drew));have rB := Lib.hid (r2.out.below ((Below.refl _ _).drew));have vC := Lib.hid (ChV.below v2.out ((Below.refl _ _).drew));obtain ⟨x0, x1, x2, _, _, _⟩ := cells3 rB.out.d;clear m2 r2 v2;go_region_law (first
   | (go_simp; refine (cR2.out _ mC.out.pr mC.out.mo).mono ?_; rintro e' w10 ⟨v10, rfl, hv10, hp10, ho10⟩; obtain ⟨q1, q2, rfl⟩ := hv10.agg; have hT := Lib.hid (Array.getElem?_eq_some_iff.1 rB.out.d).1; replace vC := Lib.hid (ChV.step (R := R) (ChV.cut vC.out) (fun k hk => by have := hk.1.1; omega) ho10); have dC := Lib.hid hv10; replace mC := Lib.hid (mC.out.step hR hp10 ho10); replace rB := Lib.hid (rB.out.step hRl ho10); obtain ⟨x0, x1, x2, _, _, _⟩ := cells3 rB.out.d)
   | (go_simp; go_at_call 56; refine (then_any vC.out dC.out (fun k h1 h2 => by have h3 := h1.2; omega) (by first | omega | (simp only [Ch.then]; omega))).mono ?_; rintro e' w12 ⟨z12, rfl, hv12, ho12⟩; obtain ⟨r1, r2, rfl⟩ := hv12.agg; have vT := Lib.hid hv12; replace mC := Lib.hid (mC.out.extF hml (fun k h => by have := h.1.1; omega) ho12); replace rB := Lib.hid (rB.out.only ho12 (fun h => by have := h.1.1; omega) (fun h => h.1.2 rfl)); obtain ⟨x0, x1, x2, x3, x4, x5⟩ := cells3 rB.out.d))
 all_goals
   obtain ⟨l1, l2⟩ := stored3 rB.out.d (.pointer r1) (.pointer r2) (.int .i64 ((c.then d).n : Int));have hl7 := rB.out.l;have m3 := Lib.hid (mC.out.ext (by omega) (by omega) l2);have r3 := Lib.hid (show PairB w _ B7 r1 r2 (c.then d).n from ⟨heldF l2 rB.out.b (by omega), l1, hl7⟩);have v3 := Lib.hid (show ChV _ (fun k => w.heap.size < k ∧ k ≠ B7) (.agg #[.pointer r1, .pointer r2, .int .i64 ((c.then d).n : Int)]) (c.then d) from (hv12.mono (G := fun k => w.heap.size < k ∧ k ≠ B7) (fun k _ hk => by
     have a1 := hT.out;rcases hk with hk | hk
     · exact hk.1
     · exact ⟨by omega, by omega⟩)).only l2 (fun k hk e => hk.2 e))
   obtain ⟨x0, x1, x2, x3, x4, x5⟩ := cells3 r3.out.d;replace l1 := Lib.hid l1; replace l2 := Lib.hid l2;clear mC rB vC dC vT hv12 ho12 ho10 hv10 hp10;go_wp2_with fail
   refine (cM3.out _ m3.out).mono ?_;rintro e' w4 ⟨rfl, hb4⟩;have m4 := Lib.hid (m3.out.below hb4);have r4 := Lib.hid (r3.out.below hb4);have v4 := Lib.hid (ChV.below v3.out hb4);clear r3 v3;clear m3;clear hb4;go_wp2_with fail
   refine (cW4.out _ m4.out.pr).mono ?_;rintro e' w5 ⟨rfl, hp5, ho5⟩;have m5 := Lib.hid (m4.out.step hR hp5 ho5);have r5 := Lib.hid (r4.out.step hRl ho5);have v5 := Lib.hid (ChV.step (R := R) v4.out (fun k hk => by have := hk.1; omega) ho5);clear r4 v4;clear m4;clear hp5 ho5;go_wp2_with fail
   have mC := Lib.hid (m5.out.below ((Below.refl _ _).drew));have rB := Lib.hid (r5.out.below ((Below.refl _ _).drew));have vC := Lib.hid (ChV.below v5.out ((Below.refl _ _).drew));obtain ⟨x0, x1, x2, _, _, _⟩ := cells3 rB.out.d;clear m5 r5 v5;refine wp_region_any (by kernel_rfl) ?_
   change wpAny _ _ _ _ _ _ _ (World.drew _)
   refine wpAny_take (i := 1) (v := .pointer (some ⟨R, 0, none⟩)) rfl (by kernel_rfl) (by kernel_rfl) (by kernel_rfl) (fun _ _ _ h => h) (Or.inl ⟨by rfl, by intro w; go_simp⟩) ?_;refine wpAny_ready (rs := [0, 2]) (by kernel_rfl) (by simp) ?_;refine AllReady.cons rfl (fun K hK => ?_) (AllReady.cons rfl (fun K hK => ?_) AllReady.nil)
   · go_simp
     refine hK _ _ ?_;clear hK K;refine wpAny_ready (rs := [2]) (by kernel_rfl) (by simp) ?_;refine AllReady.cons rfl (fun K hK => ?_) AllReady.nil
     · go_simp
       go_wp2_with fail
       refine (cR5.out _ mC.out.pr mC.out.mo).mono ?_;rintro e' w99 ⟨rfl, hb99⟩;go_wp2_with fail
       exact ⟨rfl, rfl, mC.out.bad hb99⟩
   · go_simp
     go_wp2_with fail
     refine (cR5.out _ mC.out.pr mC.out.mo).mono ?_;rintro e' w99 ⟨rfl, hb99⟩;go_wp2_with fail
     exact ⟨rfl, rfl, mC.out.bad hb99⟩
set_option maxRecDepth 20000 in
set_option maxHeartbeats 2000000 in
theorem choice_three {R cap n : Nat} {a : Option Addr} {ks : List Tk} (hR : 2 ≠ R) {w : World} {i : Nat} (h : PR w R a cap n ks i) (hM : MakesOK w)
   (hq : markT ks i = B.ifW)
   {G1 : Nat → St Ch} (hP1 : DoesA 35 #[rp R] G1 R a cap n ks)
   {c : Ch} {j : Nat} (hg1 : G1 ((i + 1)) = .ok c j) (hn1 : c.n ≤ 10000000)
   {G2 : Nat → St Ch} (hP2 : DoesA 57 #[rp R] G2 R a cap n ks)
   {d : Ch} {k : Nat} (hg2 : G2 j = .ok d k) (hn2 : d.n ≤ 10000000)
   (hq_cM3 : markT ks k = B.elseW)
   {e : Ch} {l : Nat} (hg5 : G2 ((k + 1)) = .ok e l) (hn5 : e.n ≤ 10000000) :
   Calls Tryz.prog 106 #[rp R] w (Took (.ok (((c.then d).then e).under 6 0 []) l) w R a cap n ks) := by
 have m0 := Lib.hid ((Mid.start h hM).alloc chZ);have hRl := h.lt;have hml := hM.lt;have b0 := Lib.hid (heap_alloc_new w chZ);have cW0 := Lib.hid (fun W (hp : PR W R a cap n ks i) => want_ok hp (by decide) hq);have cR1 := Lib.hid (fun W (hp : PR W R a cap n ks (i + 1)) (hm : MakesOK W) => doesA_ok hP1 hp hm hg1);have cR2 := Lib.hid (fun W (hp : PR W R a cap n ks j) (hm : MakesOK W) => doesA_ok hP2 hp hm hg2);have cM3 := Lib.hid (fun W (h : Mid w W R a cap n ks k) => mark_call h hq_cM3);have cW4 := Lib.hid (fun W (hp : PR W R a cap n ks k) => want_ok hp (by decide) hq_cM3);have cR5 := Lib.hid (fun W (hp : PR W R a cap n ks (k + 1)) (hm : MakesOK W) => doesA_ok hP2 hp hm hg5);unfold rp B.ifW at cW0;unfold rp at cR1;unfold rp at cR2;unfold rp B.elseW at cM3;unfold rp B.elseW at cW4;unfold rp at cR5;clear h hM hq hP1 hg1 hP2 hg2 hq_cM3 hg5;unfold rp;go_enter Tryz.func106, Tryz.ntmps106
 go_wp2_with fail
 refine (cW0.out _ m0.out.pr).mono ?_;rintro e' w1 ⟨rfl, hp1, ho1⟩;have m1 := Lib.hid (m0.out.step hR hp1 ho1);have b1 := Lib.hid (heldB ho1 b0.out (by omega));clear b0;clear m0;clear hp1 ho1;go_wp2_with fail
 have hT2 := (Array.getElem?_eq_some_iff.1 b1.out).1;refine (cR1.out _ m1.out.pr m1.out.mo).mono ?_;rintro e' w2 ⟨z2, rfl, hv2, hp2, ho2⟩;obtain ⟨p1, p2, rfl⟩ := hv2.agg;have hs2 := ho2.size;have m2x := Lib.hid ((m1.out.step hR hp2 ho2).alloc (.cells #[.pointer p1, .pointer p2, .int .i64 (c.n : Int)] 83));have v2x := Lib.hid (show ChV (w2.alloc (.cells #[.pointer p1, .pointer p2, .int .i64 (c.n : Int)] 83)) (fun k => w.heap.size < k ∧ k ≠ w2.heap.size) (.agg #[.pointer p1, .pointer p2, .int .i64 (c.n : Int)]) c from (hv2.mono (fun k hk h => ⟨by omega, by omega⟩)).alloc _);have r2x := Lib.hid (show PairB w (w2.alloc (.cells #[.pointer p1, .pointer p2, .int .i64 (c.n : Int)] 83)) w2.heap.size p1 p2 c.n from ⟨heldA (heldB ho2 b1.out (by omega)) _, heap_alloc_new w2 _, by omega⟩);clear m1 b1 hp2 ho2 hv2;go_wp2_with fail
 generalize w2.alloc (.cells #[.pointer p1, .pointer p2, .int .i64 (c.n : Int)] 83) = w2B at *;generalize w2.heap.size = B7 at *;have m2 := m2x;have v2 := v2x;have r2 := r2x;clear m2x v2x r2x;have mC := Lib.hid (m2.out.below ((Below.refl _ _).drew));have rB := Lib.hid (r2.out.below ((Below.refl _ _).drew));have vC := Lib.hid (ChV.below v2.out ((Below.refl _ _).drew));obtain ⟨x0, x1, x2, _, _, _⟩ := cells3 rB.out.d;clear m2 r2 v2;go_region_law (first
   | (go_simp; refine (cR2.out _ mC.out.pr mC.out.mo).mono ?_; rintro e' w10 ⟨v10, rfl, hv10, hp10, ho10⟩; obtain ⟨q1, q2, rfl⟩ := hv10.agg; have hT := Lib.hid (Array.getElem?_eq_some_iff.1 rB.out.d).1; replace vC := Lib.hid (ChV.step (R := R) (ChV.cut vC.out) (fun k hk => by have := hk.1.1; omega) ho10); have dC := Lib.hid hv10; replace mC := Lib.hid (mC.out.step hR hp10 ho10); replace rB := Lib.hid (rB.out.step hRl ho10); obtain ⟨x0, x1, x2, _, _, _⟩ := cells3 rB.out.d)
   | (go_simp; go_at_call 56; refine (then_any vC.out dC.out (fun k h1 h2 => by have h3 := h1.2; omega) (by first | omega | (simp only [Ch.then]; omega))).mono ?_; rintro e' w12 ⟨z12, rfl, hv12, ho12⟩; obtain ⟨r1, r2, rfl⟩ := hv12.agg; have vT := Lib.hid hv12; replace mC := Lib.hid (mC.out.extF hml (fun k h => by have := h.1.1; omega) ho12); replace rB := Lib.hid (rB.out.only ho12 (fun h => by have := h.1.1; omega) (fun h => h.1.2 rfl)); obtain ⟨x0, x1, x2, x3, x4, x5⟩ := cells3 rB.out.d))
 all_goals
   obtain ⟨l1, l2⟩ := stored3 rB.out.d (.pointer r1) (.pointer r2) (.int .i64 ((c.then d).n : Int));have hl7 := rB.out.l;have m3 := Lib.hid (mC.out.ext (by omega) (by omega) l2);have r3 := Lib.hid (show PairB w _ B7 r1 r2 (c.then d).n from ⟨heldF l2 rB.out.b (by omega), l1, hl7⟩);have v3 := Lib.hid (show ChV _ (fun k => w.heap.size < k ∧ k ≠ B7) (.agg #[.pointer r1, .pointer r2, .int .i64 ((c.then d).n : Int)]) (c.then d) from (hv12.mono (G := fun k => w.heap.size < k ∧ k ≠ B7) (fun k _ hk => by
     have a1 := hT.out;rcases hk with hk | hk
     · exact hk.1
     · exact ⟨by omega, by omega⟩)).only l2 (fun k hk e => hk.2 e))
   obtain ⟨x0, x1, x2, x3, x4, x5⟩ := cells3 r3.out.d;replace l1 := Lib.hid l1; replace l2 := Lib.hid l2;clear mC rB vC dC vT hv12 ho12 ho10 hv10 hp10;go_wp2_with fail
   refine (cM3.out _ m3.out).mono ?_;rintro e' w4 ⟨rfl, hb4⟩;have m4 := Lib.hid (m3.out.below hb4);have r4 := Lib.hid (r3.out.below hb4);have v4 := Lib.hid (ChV.below v3.out hb4);clear r3 v3;clear m3;clear hb4;go_wp2_with fail
   refine (cW4.out _ m4.out.pr).mono ?_;rintro e' w5 ⟨rfl, hp5, ho5⟩;have m5 := Lib.hid (m4.out.step hR hp5 ho5);have r5 := Lib.hid (r4.out.step hRl ho5);have v5 := Lib.hid (ChV.step (R := R) v4.out (fun k hk => by have := hk.1; omega) ho5);clear r4 v4;clear m4;clear hp5 ho5;go_wp2_with fail
   have mC := Lib.hid (m5.out.below ((Below.refl _ _).drew));have rB := Lib.hid (r5.out.below ((Below.refl _ _).drew));have vC := Lib.hid (ChV.below v5.out ((Below.refl _ _).drew));obtain ⟨x0, x1, x2, _, _, _⟩ := cells3 rB.out.d;clear m5 r5 v5;go_region_law (first
     | (go_simp; refine (cR5.out _ mC.out.pr mC.out.mo).mono ?_; rintro e' w10 ⟨v10, rfl, hv10, hp10, ho10⟩; obtain ⟨q1, q2, rfl⟩ := hv10.agg; have hT := Lib.hid (Array.getElem?_eq_some_iff.1 rB.out.d).1; replace vC := Lib.hid (ChV.step (R := R) (ChV.cut vC.out) (fun k hk => by have := hk.1.1; omega) ho10); have dC := Lib.hid hv10; replace mC := Lib.hid (mC.out.step hR hp10 ho10); replace rB := Lib.hid (rB.out.step hRl ho10); obtain ⟨x0, x1, x2, _, _, _⟩ := cells3 rB.out.d)
     | (go_simp; go_at_call 56; refine (then_any vC.out dC.out (fun k h1 h2 => by have h3 := h1.2; omega) (by first | omega | (simp only [Ch.then]; omega))).mono ?_; rintro e' w12 ⟨z12, rfl, hv12, ho12⟩; obtain ⟨r1, r2, rfl⟩ := hv12.agg; have vT := Lib.hid hv12; replace mC := Lib.hid (mC.out.extF hml (fun k h => by have := h.1.1; omega) ho12); replace rB := Lib.hid (rB.out.only ho12 (fun h => by have := h.1.1; omega) (fun h => h.1.2 rfl)); obtain ⟨x0, x1, x2, x3, x4, x5⟩ := cells3 rB.out.d))
   all_goals
     obtain ⟨l1, l2⟩ := stored3 rB.out.d (.pointer r1) (.pointer r2) (.int .i64 (((c.then d).then e).n : Int));have hl7 := rB.out.l;have m6 := Lib.hid (mC.out.ext (by omega) (by omega) l2);have r6 := Lib.hid (show PairB w _ B7 r1 r2 ((c.then d).then e).n from ⟨heldF l2 rB.out.b (by omega), l1, hl7⟩);have v6 := Lib.hid (show ChV _ (fun k => w.heap.size < k ∧ k ≠ B7) (.agg #[.pointer r1, .pointer r2, .int .i64 (((c.then d).then e).n : Int)]) ((c.then d).then e) from (hv12.mono (G := fun k => w.heap.size < k ∧ k ≠ B7) (fun k _ hk => by
       have a1 := hT.out;rcases hk with hk | hk
       · exact hk.1
       · exact ⟨by omega, by omega⟩)).only l2 (fun k hk e => hk.2 e))
     obtain ⟨x0, x1, x2, x3, x4, x5⟩ := cells3 r6.out.d;replace l1 := Lib.hid l1; replace l2 := Lib.hid l2;clear mC rB vC dC vT hv12 ho12 ho10 hv10 hp10;go_wp2_with fail
     refine (under_any v6.out (by first | omega | (simp only [Ch.then]; omega)) 6 0 0 []).mono ?_;rintro e' w7 ⟨z7, rfl, hv7, hb7⟩;obtain ⟨s1, s2, rfl⟩ := hv7.agg;have hl8 := r6.out.l;have hT9 := (Array.getElem?_eq_some_iff.1 r6.out.d).1;have m7 := m6.out.below hb7;have r7 := r6.out.below hb7;obtain ⟨y0, y1, y2, y3, y4, y5⟩ := cells3 r7.b;obtain ⟨l1, l2⟩ := laid3 m7 (Nat.le_refl _) hml r7.b (hv7.mono (fun k _ hk => by
       rcases hk with hk | hk
       · have := hk.1; exact ⟨by omega, by omega⟩
       · exact ⟨by omega, by omega⟩))
     replace l1 := Lib.hid l1; replace l2 := Lib.hid l2;clear m6 r6 v6 m7 r7 hb7 hv7;go_wp2_with fail
     exact bodyPost_ret (ret_ch rfl rfl l1.out rfl) rfl l2.out
end Go.Proofs.YtjiemkidmlgbeaaGreatDoor
