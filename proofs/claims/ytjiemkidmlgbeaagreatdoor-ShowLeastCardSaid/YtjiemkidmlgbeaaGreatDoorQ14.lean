/- A part of the proof: PCmp. No condition. -/
import Derived.Test.YtjiemkidmlgbeaaGreatDoorQ13
set_option linter.unusedVariables false
set_option linter.unusedSimpArgs false
namespace Go.Proofs.YtjiemkidmlgbeaaGreatDoor
open Go.RowKit Go.Shelf Tok
set_option maxRecDepth 20000 in
set_option maxHeartbeats 1000000 in
theorem cmp_out {G : Nat → St Ch} {R cap n : Nat} {a : Option Addr} {ks : List Tk} (hP : Does 107 G R a cap n ks) (hR : 2 ≠ R) {w : World} {i : Nat} (h : PR w R a cap n ks i) (hM : MakesOK w) {c : Ch} {j : Nat} (hg : G i = .ok c j)
   (h1 : markT ks j ≠ B.eqq) (h2 : markT ks j ≠ B.neq) (h3 : markT ks j ≠ B.les) (h4 : markT ks j ≠ B.leq) :
   Calls Tryz.prog 96 #[rp R] w (Took (.ok c j) w R a cap n ks) := by
 have m0 := Lib.hid ((Mid.start h hM).alloc chZ);have hRl := h.lt;have hml := hM.lt;have b0 := Lib.hid (heap_alloc_new w chZ);clear h hM;have c1 := Lib.hid (does_ok hP m0.out.pr m0.out.mo hg);have e1 : (markT ks j == B.eqq) = false := beq_eq_false_iff_ne.2 h1;have e2 : (markT ks j == B.neq) = false := beq_eq_false_iff_ne.2 h2;have e3 : (markT ks j == B.les) = false := beq_eq_false_iff_ne.2 h3;have e4 : (markT ks j == B.leq) = false := beq_eq_false_iff_ne.2 h4;have kM := Lib.hid (fun W (h : Mid w W R a cap n ks j) => mark_call h rfl);unfold B.eqq at e1;unfold B.neq at e2;unfold B.les at e3;unfold B.leq at e4;clear h1 h2 h3 h4;generalize markT ks j = mk at *;clear hP;unfold rp at c1 ⊢;go_enter Tryz.func96, Tryz.ntmps96
 go_wp2_with fail
 refine c1.out.mono ?_;rintro e' w4 ⟨v4, rfl, hv4, hp4, ho4⟩;obtain ⟨p1, p2, rfl⟩ := hv4.agg;have hs4 := ho4.size;rw [World.size_alloc] at hs4;have m4 := Lib.hid ((m0.out.step hR hp4 ho4).alloc (.cells #[.pointer p1, .pointer p2, .int .i64 (c.n : Int)] 83));have v5 := Lib.hid (show ChV (w4.alloc (.cells #[.pointer p1, .pointer p2, .int .i64 (c.n : Int)] 83)) (fun k => w.heap.size < k ∧ k ≠ w4.heap.size) (.agg #[.pointer p1, .pointer p2, .int .i64 (c.n : Int)]) c from (hv4.mono (fun k hk h => by rw [World.size_alloc] at h; exact ⟨by omega, by omega⟩)).alloc _);have r4 := Lib.hid (show PairB w (w4.alloc (.cells #[.pointer p1, .pointer p2, .int .i64 (c.n : Int)] 83)) w4.heap.size p1 p2 c.n from
   ⟨heldA (heldB ho4 b0.out (by omega)) _, heap_alloc_new w4 _, by omega⟩)
 clear c1 m0 b0 hp4 ho4 hv4;go_wp2_with fail
 generalize w4.alloc (.cells #[.pointer p1, .pointer p2, .int .i64 (c.n : Int)] 83) = w5 at *;generalize w4.heap.size = B7 at *;refine (kM.out _ m4.out).mono ?_;rintro e' w6 ⟨rfl, hb6⟩;have m6 := m4.out.below hb6;have r6 := r4.out.below hb6;have v6 := ChV.below v5.out hb6;obtain ⟨x0, x1, x2, _, _, _⟩ := cells3 r6.d;obtain ⟨y0, y1, y2, y3, y4, y5⟩ := cells3 r6.b;obtain ⟨l1, l2⟩ := laid3 m6 (Nat.le_refl _) hml r6.b (v6.mono (fun k _ hk => ⟨by have := hk.1; omega, by have := hk.1; omega⟩));replace l1 := Lib.hid l1; replace l2 := Lib.hid l2;clear m4 r4 v5 m6 r6 v6 hb6 kM;go_wp2_with fail
 exact bodyPost_ret (ret_ch rfl rfl l1.out rfl) rfl l2.out
set_option maxRecDepth 20000 in
set_option maxHeartbeats 4000000 in
theorem cmp_in {G : Nat → St Ch} {R cap n : Nat} {a : Option Addr} {ks : List Tk} (hP : Does 107 G R a cap n ks) (hcn : ∀ i c j, G i = .ok c j → c.n ≤ 10000000) (hR : 2 ≠ R) {w : World} {i : Nat} (h : PR w R a cap n ks i) (hM : MakesOK w) {c : Ch} {j : Nat} (hg : G i = .ok c j) {mk : List UInt8} (hmk : markT ks j = mk)
   (hm : (mk == [61, 61]) = true ∨ ((mk == [61, 61]) = false ∧ (mk == [33, 61]) = true) ∨ ((mk == [61, 61]) = false ∧ (mk == [33, 61]) = false ∧ (mk == [60]) = true) ∨ ((mk == [61, 61]) = false ∧ (mk == [33, 61]) = false ∧ (mk == [60]) = false ∧ (mk == [60, 61]) = true)) (h0 : mk ≠ [])
   (hne : ((G (j + 1)).and fun d k => St.ok ((c.then d).under (opOfT mk) 0 []) k) ≠ .out) :
   Calls Tryz.prog 96 #[rp R] w (Took ((G (j + 1)).and fun d k => .ok ((c.then d).under (opOfT mk) 0 []) k) w R a cap n ks) := by
 have m0 := Lib.hid ((Mid.start h hM).alloc chZ);have hRl := h.lt;have hml := hM.lt;have b0 := Lib.hid (heap_alloc_new w chZ);clear h hM;have hcc := hcn _ _ _ hg;have c1 := Lib.hid (does_ok hP m0.out.pr m0.out.mo hg);have kM := Lib.hid (fun W (h : Mid w W R a cap n ks j) => mark_call h hmk);have k3 := Lib.hid (fun W (hp : PR W R a cap n ks j) => want_ok hp h0 hmk);unfold rp at k3;unfold St.and at hne ⊢;clear h0 hmk;cases hg2 : G (j + 1) with
 | out => rw [hg2] at hne; exact absurd rfl hne
 | bad k =>
   dsimp only;have cP := Lib.hid (fun W (hp : PR W R a cap n ks (j + 1)) (hm : MakesOK W) => does_bad hP hp hm hg2);clear hne hP hcn;unfold rp at c1 cP ⊢;rcases hm with e1 | ⟨e1, e2⟩ | ⟨e1, e2, e3⟩ | ⟨e1, e2, e3, e4⟩
   all_goals
     go_enter Tryz.func96, Tryz.ntmps96
     go_wp2_with fail
     refine c1.out.mono ?_;rintro e' w4 ⟨v4, rfl, hv4, hp4, ho4⟩;obtain ⟨p1, p2, rfl⟩ := hv4.agg;have hs4 := ho4.size;rw [World.size_alloc] at hs4;have m4 := Lib.hid ((m0.out.step hR hp4 ho4).alloc (.cells #[.pointer p1, .pointer p2, .int .i64 (c.n : Int)] 83));have v5 := Lib.hid (show ChV (w4.alloc (.cells #[.pointer p1, .pointer p2, .int .i64 (c.n : Int)] 83)) (fun k => w.heap.size < k ∧ k ≠ w4.heap.size) (.agg #[.pointer p1, .pointer p2, .int .i64 (c.n : Int)]) c from (hv4.mono (fun k hk h => by rw [World.size_alloc] at h; exact ⟨by omega, by omega⟩)).alloc _);have r4 := Lib.hid (show PairB w (w4.alloc (.cells #[.pointer p1, .pointer p2, .int .i64 (c.n : Int)] 83)) w4.heap.size p1 p2 c.n from
       ⟨heldA (heldB ho4 b0.out (by omega)) _, heap_alloc_new w4 _, by omega⟩)
     clear c1 m0 b0 hp4 ho4 hv4;go_wp2_with fail
     generalize w4.alloc (.cells #[.pointer p1, .pointer p2, .int .i64 (c.n : Int)] 83) = w5 at *;generalize w4.heap.size = B7 at *;refine (kM.out _ m4.out).mono ?_;rintro e' w6 ⟨rfl, hb6⟩;have m6 := Lib.hid (m4.out.below hb6);have r6 := Lib.hid (r4.out.below hb6);have v6 := Lib.hid (ChV.below v5.out hb6);clear m4 r4 v5 hb6;go_wp2_with fail
     refine (k3.out _ m6.out.pr).mono ?_;rintro e' w9 ⟨rfl, hp9, ho9⟩;have mC := Lib.hid ((m6.out.step hR hp9 ho9).below ((Below.refl _ w9).drew));have rB := Lib.hid ((r6.out.step hRl ho9).below ((Below.refl _ w9).drew));have vC := Lib.hid (ChV.below (ChV.step (R := R) v6.out (fun k hk => by have := hk.1; omega) ho9) ((Below.refl _ w9).drew));obtain ⟨x0, x1, x2, _, _, _⟩ := cells3 rB.out.d;clear m6 r6 v6 kM k3 hp9 ho9;go_wp2_with fail
     refine wp_region_any (by kernel_rfl) ?_
     change wpAny _ _ _ _ _ _ _ (World.drew _)
     refine wpAny_take (i := 1) (v := .pointer (some ⟨R, 0, none⟩)) rfl (by kernel_rfl) (by kernel_rfl) (by kernel_rfl) (fun _ _ _ h => h) (Or.inl ⟨by rfl, by intro w; go_simp⟩) ?_;refine wpAny_take (i := 4) (v := .string ⟨mk.toArray⟩) rfl (by kernel_rfl) (by kernel_rfl) (by kernel_rfl) (fun _ _ _ h => h) (Or.inl ⟨by rfl, by intro w; go_simp⟩) ?_;refine wpAny_ready (rs := [0, 2]) (by kernel_rfl) (by simp) ?_;refine AllReady.cons rfl (fun K hK => ?_) (AllReady.cons rfl (fun K hK => ?_) AllReady.nil)
     · go_simp
       refine hK _ _ ?_;clear hK K;refine wpAny_ready (rs := [2]) (by kernel_rfl) (by simp) ?_;refine AllReady.cons rfl (fun K hK => ?_) AllReady.nil
       · go_simp
         go_wp2_with fail
         refine (cP.out _ mC.out.pr mC.out.mo).mono ?_;rintro e' w10 ⟨rfl, hb10⟩;go_wp2_with fail
         exact ⟨rfl, rfl, mC.out.bad hb10⟩
     · go_simp
       go_wp2_with fail
       refine (cP.out _ mC.out.pr mC.out.mo).mono ?_;rintro e' w10 ⟨rfl, hb10⟩;go_wp2_with fail
       exact ⟨rfl, rfl, mC.out.bad hb10⟩
 | ok d k =>
   dsimp only;have hdn := hcn _ _ _ hg2;have cP := Lib.hid (fun W (hp : PR W R a cap n ks (j + 1)) (hm : MakesOK W) => does_ok hP hp hm hg2);clear hne hP hcn;unfold rp at c1 cP ⊢;rcases hm with e1 | ⟨e1, e2⟩ | ⟨e1, e2, e3⟩ | ⟨e1, e2, e3, e4⟩
   all_goals
     go_enter Tryz.func96, Tryz.ntmps96
     go_wp2_with fail
     refine c1.out.mono ?_;rintro e' w4 ⟨v4, rfl, hv4, hp4, ho4⟩;obtain ⟨p1, p2, rfl⟩ := hv4.agg;have hs4 := ho4.size;rw [World.size_alloc] at hs4;have m4 := Lib.hid ((m0.out.step hR hp4 ho4).alloc (.cells #[.pointer p1, .pointer p2, .int .i64 (c.n : Int)] 83));have v5 := Lib.hid (show ChV (w4.alloc (.cells #[.pointer p1, .pointer p2, .int .i64 (c.n : Int)] 83)) (fun k => w.heap.size < k ∧ k ≠ w4.heap.size) (.agg #[.pointer p1, .pointer p2, .int .i64 (c.n : Int)]) c from (hv4.mono (fun k hk h => by rw [World.size_alloc] at h; exact ⟨by omega, by omega⟩)).alloc _);have r4 := Lib.hid (show PairB w (w4.alloc (.cells #[.pointer p1, .pointer p2, .int .i64 (c.n : Int)] 83)) w4.heap.size p1 p2 c.n from
       ⟨heldA (heldB ho4 b0.out (by omega)) _, heap_alloc_new w4 _, by omega⟩)
     clear c1 m0 b0 hp4 ho4 hv4;go_wp2_with fail
     generalize w4.alloc (.cells #[.pointer p1, .pointer p2, .int .i64 (c.n : Int)] 83) = w5 at *;generalize w4.heap.size = B7 at *;refine (kM.out _ m4.out).mono ?_;rintro e' w6 ⟨rfl, hb6⟩;have m6 := Lib.hid (m4.out.below hb6);have r6 := Lib.hid (r4.out.below hb6);have v6 := Lib.hid (ChV.below v5.out hb6);clear m4 r4 v5 hb6;go_wp2_with fail
     refine (k3.out _ m6.out.pr).mono ?_;rintro e' w9 ⟨rfl, hp9, ho9⟩;have mC := Lib.hid ((m6.out.step hR hp9 ho9).below ((Below.refl _ w9).drew));have rB := Lib.hid ((r6.out.step hRl ho9).below ((Below.refl _ w9).drew));have vC := Lib.hid (ChV.below (ChV.step (R := R) v6.out (fun k hk => by have := hk.1; omega) ho9) ((Below.refl _ w9).drew));obtain ⟨x0, x1, x2, _, _, _⟩ := cells3 rB.out.d;clear m6 r6 v6 kM k3 hp9 ho9;go_wp2_with fail
     go_region_law (first
       | (go_simp; refine (cP.out _ mC.out.pr mC.out.mo).mono ?_; rintro e' w10 ⟨v10, rfl, hv10, hp10, ho10⟩; obtain ⟨q1, q2, rfl⟩ := hv10.agg; have hT := Lib.hid (Array.getElem?_eq_some_iff.1 rB.out.d).1; replace vC := Lib.hid (ChV.step (R := R) (ChV.cut vC.out) (fun k hk => by have := hk.1.1; omega) ho10); have dC := Lib.hid hv10; replace mC := Lib.hid (mC.out.step hR hp10 ho10); replace rB := Lib.hid (rB.out.step hRl ho10); obtain ⟨x0, x1, x2, _, _, _⟩ := cells3 rB.out.d)
       | (go_simp; go_at_call 83; refine (opOf_any mk mC.out.mo).mono ?_; rintro e' w11 ⟨rfl, hb11⟩; (first | (replace vT := Lib.hid (ChV.below vT.out hb11)) | (replace dC := Lib.hid (ChV.below dC.out hb11); replace vC := Lib.hid (ChV.below vC.out hb11)) | (replace vC := Lib.hid (ChV.below vC.out hb11))); replace mC := Lib.hid (mC.out.below hb11); replace rB := Lib.hid (rB.out.below hb11); obtain ⟨x0, x1, x2, _, _, _⟩ := cells3 rB.out.d)
       | (go_simp; go_at_call 56; refine (then_any vC.out dC.out (fun k h1 h2 => by have h3 := h1.2; omega) (by omega)).mono ?_; rintro e' w12 ⟨z12, rfl, hv12, ho12⟩; obtain ⟨r1, r2, rfl⟩ := hv12.agg; have vT := Lib.hid hv12; replace mC := Lib.hid (mC.out.extF hml (fun k h => by have := h.1.1; omega) ho12); replace rB := Lib.hid (rB.out.only ho12 (fun h => by have := h.1.1; omega) (fun h => h.1.2 rfl)))
       | (go_simp; go_at_call 58; refine (under_any vT.out (by unfold Ch.then; dsimp only; omega) (opOfT mk) 0 0 []).mono ?_; rintro e' w13 ⟨z13, rfl, hv13, hb13⟩; obtain ⟨s1, s2, rfl⟩ := hv13.agg; have hT3 := Lib.hid (Array.getElem?_eq_some_iff.1 rB.out.d).1; replace mC := Lib.hid (mC.out.below hb13); replace rB := Lib.hid (rB.out.below hb13); obtain ⟨y0, y1, y2, y3, y4, y5⟩ := cells3 rB.out.d))
     all_goals
       obtain ⟨l1, l2⟩ := stored3 rB.out.d (.pointer s1) (.pointer s2) (.int .i64 (((c.then d).under (opOfT mk) 0 []).n : Int));have hl7 := rB.out.l;have mE := mC.out.ext (by omega) (by omega) l2;have bE := heldF l2 rB.out.b (by omega);have vE := (hv13.mono (G := fun k => w.heap.size < k ∧ k ≠ B7) (fun k _ hk => by
         have a1 := hT.out;have a2 := hT3.out;rcases hk with (hk | hk) | hk
         · exact hk.1
         · exact ⟨by omega, by omega⟩
         · exact ⟨by omega, by omega⟩)).only l2 (fun k hk e => hk.2 e)
       obtain ⟨t0, t1, t2, t3, t4, t5⟩ := cells3 l1;obtain ⟨z0, z1, z2, z3, z4, z5⟩ := cells3 bE;obtain ⟨g1, g2⟩ := laid3 mE (Nat.le_refl _) hml bE (vE.mono (fun k _ hk => ⟨by have := hk.1; omega, by have := hk.1; omega⟩));replace g1 := Lib.hid g1; replace g2 := Lib.hid g2;replace l1 := Lib.hid l1; replace l2 := Lib.hid l2;clear mE bE vE;go_wp2_with fail
       exact bodyPost_ret (ret_ch rfl rfl g1.out rfl) rfl g2.out
end Go.Proofs.YtjiemkidmlgbeaaGreatDoor
