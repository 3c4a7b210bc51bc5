/- A part of the proof: PNot, PRows, PStmts, PFlow. No condition. -/
import Derived.Test.YtjiemkidmlgbeaaGreatDoorQ12
set_option linter.unusedVariables false
set_option linter.unusedSimpArgs false
namespace Go.Proofs.YtjiemkidmlgbeaaGreatDoor
open Go.RowKit Go.Shelf Tok
set_option maxRecDepth 20000 in
set_option maxHeartbeats 2000000 in
theorem not_any {G1 G2 : Nat → St Ch} {R cap n : Nat} {a : Option Addr} {ks : List Tk} (hN : Does 84 G1 R a cap n ks) (hC : Does 96 G2 R a cap n ks) (hcn : ∀ i c j, G1 i = .ok c j → c.n ≤ 100000000) (hR : 2 ≠ R) {w : World} {i : Nat} (h : PR w R a cap n ks i) (hM : MakesOK w)
   (hne : (if markT ks i = B.not then (wantT ks B.not i).and fun _ i => (G1 i).and fun c i => St.ok (c.under 43 0 []) i else G2 i) ≠ .out) :
   Calls Tryz.prog 84 #[rp R] w (Took (if markT ks i = B.not then (wantT ks B.not i).and fun _ i => (G1 i).and fun c i => .ok (c.under 43 0 []) i else G2 i) w R a cap n ks) := by
 have m0 := Lib.hid ((Mid.start h hM).alloc chZ);have hRl := h.lt;have hml := hM.lt;have b0 := Lib.hid (heap_alloc_new w chZ);clear h hM;unfold wantT at hne ⊢;by_cases hq : markT ks i = B.not
 · rw [if_pos hq, if_pos hq] at hne ⊢
   unfold St.and at hne ⊢;dsimp only at hne ⊢;have c0 := Lib.hid (mark_call m0.out hq);have c2 := Lib.hid (fun W (hp : PR W R a cap n ks i) => want_ok hp (by decide) hq);unfold rp B.not at c2;unfold B.not at c0;cases hg2 : G1 (i + 1) with
   | out => rw [hg2] at hne; exact absurd rfl hne
   | bad k =>
     dsimp only;have cP := Lib.hid (fun W (hp : PR W R a cap n ks (i + 1)) (hm : MakesOK W) => does_bad hN hp hm hg2);clear hne hN hC hcn;unfold rp at cP ⊢;go_enter Tryz.func84, Tryz.ntmps84
     go_wp2_with fail
     refine c0.out.mono ?_;rintro e' w2 ⟨rfl, hb2⟩;have m2 := Lib.hid (m0.out.below hb2);clear c0 m0 b0 hb2;go_wp2_with fail
     refine (c2.out _ m2.out.pr).mono ?_;rintro e' w3 ⟨rfl, hp3, ho3⟩;have m3 := Lib.hid (m2.out.step hR hp3 ho3);clear c2 m2 hp3 ho3;go_wp2_with fail
     refine (cP.out _ m3.out.pr m3.out.mo).mono ?_;rintro e' w4 ⟨rfl, hb4⟩;go_wp2_with fail
     exact ⟨rfl, rfl, m3.out.bad hb4⟩
   | ok c k =>
     dsimp only;have cP := Lib.hid (fun W (hp : PR W R a cap n ks (i + 1)) (hm : MakesOK W) => does_ok hN hp hm hg2);have hc := hcn _ _ _ hg2;clear hne hN hC hcn;unfold rp at cP ⊢;go_enter Tryz.func84, Tryz.ntmps84
     go_wp2_with fail
     refine c0.out.mono ?_;rintro e' w2 ⟨rfl, hb2⟩;have m2 := Lib.hid (m0.out.below hb2);have b2 := Lib.hid (heldF (Only.of_below (F := fun _ => False) hb2) b0.out (fun h => h));clear c0 m0 b0 hb2;go_wp2_with fail
     refine (c2.out _ m2.out.pr).mono ?_;rintro e' w3 ⟨rfl, hp3, ho3⟩;have m3 := Lib.hid (m2.out.step hR hp3 ho3);have b3 := Lib.hid (heldB ho3 b2.out (by omega));clear c2 m2 b2 hp3 ho3;go_wp2_with fail
     refine (cP.out _ m3.out.pr m3.out.mo).mono ?_;rintro e' w4 ⟨v4, rfl, hv4, hp4, ho4⟩;obtain ⟨q1, q2, rfl⟩ := hv4.agg;have hT3 := (Array.getElem?_eq_some_iff.1 b3.out).1;have m4 := Lib.hid (m3.out.step hR hp4 ho4);have b4 := Lib.hid (heldB ho4 b3.out (by omega));clear cP m3 b3 hp4 ho4;replace hv4 := Lib.hid hv4;go_wp2_with fail
     refine (under_any hv4.out (by omega) 43 0 0 []).mono ?_;rintro e' w5 ⟨z5, rfl, hv5, hb5⟩;obtain ⟨p1, p2, rfl⟩ := hv5.agg;have hT := (Array.getElem?_eq_some_iff.1 b4.out).1;have m5 := m4.out.below hb5;have b5 := heldF (Only.of_below (F := fun _ => False) hb5) b4.out (fun h => h);obtain ⟨y0, y1, y2, y3, y4, y5⟩ := cells3 b5;obtain ⟨l1, l2⟩ := laid3 m5 (Nat.le_refl _) hml b5 (hv5.mono (fun k _ hk => by
       rcases hk with hk | hk
       · exact ⟨by omega, by omega⟩
       · exact ⟨by omega, by omega⟩))
     replace l1 := Lib.hid l1; replace l2 := Lib.hid l2;clear m4 b4 m5 b5 hb5 hv4 hv5;go_wp2_with fail
     exact bodyPost_ret (ret_ch rfl rfl l1.out rfl) rfl l2.out
 · rw [if_neg hq] at hne ⊢
   have c0 := Lib.hid (mark_call m0.out rfl);have e1 : (markT ks i == B.not) = false := beq_eq_false_iff_ne.2 hq;unfold B.not at e1;clear hq;generalize markT ks i = mk at *;cases hg2 : G2 i with
   | out => rw [hg2] at hne; exact absurd rfl hne
   | bad k =>
     have cP := Lib.hid (fun W (hp : PR W R a cap n ks i) (hm : MakesOK W) => does_bad hC hp hm hg2);clear hne hN hC hcn;unfold rp at cP ⊢;go_enter Tryz.func84, Tryz.ntmps84
     go_wp2_with fail
     refine c0.out.mono ?_;rintro e' w2 ⟨rfl, hb2⟩;have m2 := Lib.hid (m0.out.below hb2);clear c0 m0 b0 hb2;go_wp2_with fail
     refine (cP.out _ m2.out.pr m2.out.mo).mono ?_;rintro e' w4 ⟨rfl, hb4⟩;go_wp2_with fail
     exact ⟨rfl, rfl, m2.out.bad hb4⟩
   | ok c k =>
     have cP := Lib.hid (fun W (hp : PR W R a cap n ks i) (hm : MakesOK W) => does_ok hC hp hm hg2);clear hne hN hC hcn;unfold rp at cP ⊢;go_enter Tryz.func84, Tryz.ntmps84
     go_wp2_with fail
     refine c0.out.mono ?_;rintro e' w2 ⟨rfl, hb2⟩;have m2 := Lib.hid (m0.out.below hb2);have b2 := Lib.hid (heldF (Only.of_below (F := fun _ => False) hb2) b0.out (fun h => h));clear c0 m0 b0 hb2;go_wp2_with fail
     refine (cP.out _ m2.out.pr m2.out.mo).mono ?_;rintro e' w4 ⟨v4, rfl, hv4, hp4, ho4⟩;obtain ⟨p1, p2, rfl⟩ := hv4.agg;have hT := (Array.getElem?_eq_some_iff.1 b2.out).1;have m4 := m2.out.step hR hp4 ho4;have b4 := heldB ho4 b2.out (by omega);obtain ⟨y0, y1, y2, y3, y4, y5⟩ := cells3 b4;obtain ⟨l1, l2⟩ := laid3 m4 (Nat.le_refl _) hml b4 (hv4.mono (fun k _ hk => ⟨by omega, by omega⟩));replace l1 := Lib.hid l1; replace l2 := Lib.hid l2;clear cP m2 b2 m4 b4 hp4 ho4 hv4;go_wp2_with fail
     exact bodyPost_ret (ret_ch rfl rfl l1.out rfl) rfl l2.out
end Go.Proofs.YtjiemkidmlgbeaaGreatDoor
namespace Go.Proofs.YtjiemkidmlgbeaaGreatDoor
open Go.RowKit Go.Shelf Tok
theorem strs_new (W : World) (ms : List (List UInt8)) (t : TypeId) : StrsIn (W.alloc (.cells (ms.map fun m => Value.string ⟨m.toArray⟩).toArray t (0, 0))) W.heap.size ms.length ms := by
 refine ⟨rfl, fun i hi => ?_⟩;unfold World.cell?;dsimp only;rw [heap_alloc_new];simp [hi]
set_option maxRecDepth 20000 in
set_option maxHeartbeats 400000 in
theorem and_any {R cap n : Nat} {a : Option Addr} {ks : List Tk} {s : St Ch} (hR : 2 ≠ R) {w : World} {i : Nat} (h : PR w R a cap n ks i) (hM : MakesOK w)
   (hC : ∀ W g, PR W R a cap n ks i → MakesOK W → StrsIn W g 1 [B.and] → g ≠ R → g < W.heap.size → s ≠ .out → Calls Tryz.prog 59 #[rp R, .func (.func 84) #[rp R] #[], .slice (some ⟨g, 0, none⟩) 1 1] W (Took s W R a cap n ks))
   (hne : s ≠ .out) :
   Calls Tryz.prog 60 #[rp R] w (Took s w R a cap n ks) := by
 have m0 := (Mid.start h hM).alloc chZ;have hRl := h.lt;have hml := hM.lt;have b0 := heap_alloc_new w chZ;have s1 := strs_new (w.alloc chZ) [B.and] 9;rw [World.size_alloc] at s1;have m1 := Lib.hid (m0.alloc (.cells (List.map (fun m => Value.string ⟨m.toArray⟩) [B.and]).toArray 9 (0, 0)));have b1 := Lib.hid (heldA b0 (.cells (List.map (fun m => Value.string ⟨m.toArray⟩) [B.and]).toArray 9 (0, 0)));have c1 := Lib.hid (hC _ _ m1.out.pr m1.out.mo s1 (by omega) (by simp only [World.size_alloc]; omega) hne);have hz : ((w.alloc chZ).alloc (.cells (List.map (fun m => Value.string ⟨m.toArray⟩) [B.and]).toArray 9 (0, 0))).heap.size = w.heap.size + 2 := by simp only [World.size_alloc]
 clear h hM hC m0 b0 s1;unfold rp at c1 ⊢;replace hz := Lib.hid hz;go_enter Tryz.func60, Tryz.ntmps60
 go_wp2_with fail
 refine Calls.mono c1.out ?_;intro e' w2 ht;cases s with
 | out => exact absurd rfl hne
 | bad k =>
   obtain ⟨rfl, hb⟩ := ht;have mb := Lib.hid (m1.out.bad hb);clear c1 m1 b1 hb;go_wp2_with fail
   exact ⟨rfl, rfl, mb.out⟩
 | ok c k =>
   obtain ⟨⟨v, rfl, hv⟩, hp, ho⟩ := ht;obtain ⟨p1, p2, rfl⟩ := hv.agg;have m2 := m1.out.step hR hp ho;have b2 := heldB ho b1.out (by omega);obtain ⟨y0, y1, y2, y3, y4, y5⟩ := cells3 b2;obtain ⟨l1, l2⟩ := laid3 m2 (Nat.le_refl _) hml b2 (hv.mono (fun k _ hk => by rw [hz.out] at hk; exact ⟨by omega, by omega⟩));replace l1 := Lib.hid l1; replace l2 := Lib.hid l2;clear c1 m1 b1 m2 b2 hp ho hv;go_wp2_with fail
   exact bodyPost_ret (ret_ch rfl rfl l1.out rfl) rfl l2.out
set_option maxRecDepth 20000 in
set_option maxHeartbeats 400000 in
theorem expr_any {R cap n : Nat} {a : Option Addr} {ks : List Tk} {s : St Ch} (hR : 2 ≠ R) {w : World} {i : Nat} (h : PR w R a cap n ks i) (hM : MakesOK w)
   (hC : ∀ W g, PR W R a cap n ks i → MakesOK W → StrsIn W g 1 [B.or] → g ≠ R → g < W.heap.size → s ≠ .out → Calls Tryz.prog 59 #[rp R, .func (.func 60) #[rp R] #[], .slice (some ⟨g, 0, none⟩) 1 1] W (Took s W R a cap n ks))
   (hne : s ≠ .out) :
   Calls Tryz.prog 35 #[rp R] w (Took s w R a cap n ks) := by
 have m0 := (Mid.start h hM).alloc chZ;have hRl := h.lt;have hml := hM.lt;have b0 := heap_alloc_new w chZ;have s1 := strs_new (w.alloc chZ) [B.or] 9;rw [World.size_alloc] at s1;have m1 := Lib.hid (m0.alloc (.cells (List.map (fun m => Value.string ⟨m.toArray⟩) [B.or]).toArray 9 (0, 0)));have b1 := Lib.hid (heldA b0 (.cells (List.map (fun m => Value.string ⟨m.toArray⟩) [B.or]).toArray 9 (0, 0)));have c1 := Lib.hid (hC _ _ m1.out.pr m1.out.mo s1 (by omega) (by simp only [World.size_alloc]; omega) hne);have hz : ((w.alloc chZ).alloc (.cells (List.map (fun m => Value.string ⟨m.toArray⟩) [B.or]).toArray 9 (0, 0))).heap.size = w.heap.size + 2 := by simp only [World.size_alloc]
 clear h hM hC m0 b0 s1;unfold rp at c1 ⊢;replace hz := Lib.hid hz;go_enter Tryz.func35, Tryz.ntmps35
 go_wp2_with fail
 refine Calls.mono c1.out ?_;intro e' w2 ht;cases s with
 | out => exact absurd rfl hne
 | bad k =>
   obtain ⟨rfl, hb⟩ := ht;have mb := Lib.hid (m1.out.bad hb);clear c1 m1 b1 hb;go_wp2_with fail
   exact ⟨rfl, rfl, mb.out⟩
 | ok c k =>
   obtain ⟨⟨v, rfl, hv⟩, hp, ho⟩ := ht;obtain ⟨p1, p2, rfl⟩ := hv.agg;have m2 := m1.out.step hR hp ho;have b2 := heldB ho b1.out (by omega);obtain ⟨y0, y1, y2, y3, y4, y5⟩ := cells3 b2;obtain ⟨l1, l2⟩ := laid3 m2 (Nat.le_refl _) hml b2 (hv.mono (fun k _ hk => by rw [hz.out] at hk; exact ⟨by omega, by omega⟩));replace l1 := Lib.hid l1; replace l2 := Lib.hid l2;clear c1 m1 b1 m2 b2 hp ho hv;go_wp2_with fail
   exact bodyPost_ret (ret_ch rfl rfl l1.out rfl) rfl l2.out
set_option maxRecDepth 20000 in
set_option maxHeartbeats 400000 in
theorem sum_any {R cap n : Nat} {a : Option Addr} {ks : List Tk} {s : St Ch} (hR : 2 ≠ R) {w : World} {i : Nat} (h : PR w R a cap n ks i) (hM : MakesOK w)
   (hC : ∀ W g, PR W R a cap n ks i → MakesOK W → StrsIn W g 2 addS → g ≠ R → g < W.heap.size → s ≠ .out → Calls Tryz.prog 59 #[rp R, .func (.func 119) #[rp R] #[], .slice (some ⟨g, 0, none⟩) 2 2] W (Took s W R a cap n ks))
   (hne : s ≠ .out) :
   Calls Tryz.prog 107 #[rp R] w (Took s w R a cap n ks) := by
 have m0 := (Mid.start h hM).alloc chZ;have hRl := h.lt;have hml := hM.lt;have b0 := heap_alloc_new w chZ;have s1 := strs_new (w.alloc chZ) addS 9;rw [World.size_alloc] at s1;have m1 := Lib.hid (m0.alloc (.cells (List.map (fun m => Value.string ⟨m.toArray⟩) addS).toArray 9 (0, 0)));have b1 := Lib.hid (heldA b0 (.cells (List.map (fun m => Value.string ⟨m.toArray⟩) addS).toArray 9 (0, 0)));have c1 := Lib.hid (hC _ _ m1.out.pr m1.out.mo s1 (by omega) (by simp only [World.size_alloc]; omega) hne);have hz : ((w.alloc chZ).alloc (.cells (List.map (fun m => Value.string ⟨m.toArray⟩) addS).toArray 9 (0, 0))).heap.size = w.heap.size + 2 := by simp only [World.size_alloc]
 clear h hM hC m0 b0 s1;unfold rp at c1 ⊢;replace hz := Lib.hid hz;go_enter Tryz.func107, Tryz.ntmps107
 go_wp2_with fail
 refine Calls.mono c1.out ?_;intro e' w2 ht;cases s with
 | out => exact absurd rfl hne
 | bad k =>
   obtain ⟨rfl, hb⟩ := ht;have mb := Lib.hid (m1.out.bad hb);clear c1 m1 b1 hb;go_wp2_with fail
   exact ⟨rfl, rfl, mb.out⟩
 | ok c k =>
   obtain ⟨⟨v, rfl, hv⟩, hp, ho⟩ := ht;obtain ⟨p1, p2, rfl⟩ := hv.agg;have m2 := m1.out.step hR hp ho;have b2 := heldB ho b1.out (by omega);obtain ⟨y0, y1, y2, y3, y4, y5⟩ := cells3 b2;obtain ⟨l1, l2⟩ := laid3 m2 (Nat.le_refl _) hml b2 (hv.mono (fun k _ hk => by rw [hz.out] at hk; exact ⟨by omega, by omega⟩));replace l1 := Lib.hid l1; replace l2 := Lib.hid l2;clear c1 m1 b1 m2 b2 hp ho hv;go_wp2_with fail
   exact bodyPost_ret (ret_ch rfl rfl l1.out rfl) rfl l2.out
set_option maxRecDepth 20000 in
set_option maxHeartbeats 400000 in
theorem term_any {R cap n : Nat} {a : Option Addr} {ks : List Tk} {s : St Ch} (hR : 2 ≠ R) {w : World} {i : Nat} (h : PR w R a cap n ks i) (hM : MakesOK w)
   (hC : ∀ W g, PR W R a cap n ks i → MakesOK W → StrsIn W g 3 mulS → g ≠ R → g < W.heap.size → s ≠ .out → Calls Tryz.prog 59 #[rp R, .func (.func 127) #[rp R] #[], .slice (some ⟨g, 0, none⟩) 3 3] W (Took s W R a cap n ks))
   (hne : s ≠ .out) :
   Calls Tryz.prog 119 #[rp R] w (Took s w R a cap n ks) := by
 have m0 := (Mid.start h hM).alloc chZ;have hRl := h.lt;have hml := hM.lt;have b0 := heap_alloc_new w chZ;have s1 := strs_new (w.alloc chZ) mulS 9;rw [World.size_alloc] at s1;have m1 := Lib.hid (m0.alloc (.cells (List.map (fun m => Value.string ⟨m.toArray⟩) mulS).toArray 9 (0, 0)));have b1 := Lib.hid (heldA b0 (.cells (List.map (fun m => Value.string ⟨m.toArray⟩) mulS).toArray 9 (0, 0)));have c1 := Lib.hid (hC _ _ m1.out.pr m1.out.mo s1 (by omega) (by simp only [World.size_alloc]; omega) hne);have hz : ((w.alloc chZ).alloc (.cells (List.map (fun m => Value.string ⟨m.toArray⟩) mulS).toArray 9 (0, 0))).heap.size = w.heap.size + 2 := by simp only [World.size_alloc]
 clear h hM hC m0 b0 s1;unfold rp at c1 ⊢;replace hz := Lib.hid hz;go_enter Tryz.func119, Tryz.ntmps119
 go_wp2_with fail
 refine Calls.mono c1.out ?_;intro e' w2 ht;cases s with
 | out => exact absurd rfl hne
 | bad k =>
   obtain ⟨rfl, hb⟩ := ht;have mb := Lib.hid (m1.out.bad hb);clear c1 m1 b1 hb;go_wp2_with fail
   exact ⟨rfl, rfl, mb.out⟩
 | ok c k =>
   obtain ⟨⟨v, rfl, hv⟩, hp, ho⟩ := ht;obtain ⟨p1, p2, rfl⟩ := hv.agg;have m2 := m1.out.step hR hp ho;have b2 := heldB ho b1.out (by omega);obtain ⟨y0, y1, y2, y3, y4, y5⟩ := cells3 b2;obtain ⟨l1, l2⟩ := laid3 m2 (Nat.le_refl _) hml b2 (hv.mono (fun k _ hk => by rw [hz.out] at hk; exact ⟨by omega, by omega⟩));replace l1 := Lib.hid l1; replace l2 := Lib.hid l2;clear c1 m1 b1 m2 b2 hp ho hv;go_wp2_with fail
   exact bodyPost_ret (ret_ch rfl rfl l1.out rfl) rfl l2.out
end Go.Proofs.YtjiemkidmlgbeaaGreatDoor
namespace Go.Proofs.YtjiemkidmlgbeaaGreatDoor
open Go.RowKit Go.Shelf Tok
set_option maxRecDepth 20000 in
set_option maxHeartbeats 2000000 in
theorem stmts_any {R cap n : Nat} {a : Option Addr} {ks : List Tk} (f : Nat) (hP : ∀ f', f' ≤ f → Does 94 (fun i => gP ks f' .stmt i) R a cap n ks)
   (hcn : ∀ f i c j, gP ks f .stmt i = .ok c j → c.n + i ≤ j) (hlt : ∀ f i c j, gP ks f .stmt i = .ok c j → i < j) (hR : 2 ≠ R) {w : World} {i : Nat} (h : PR w R a cap n ks i) (hM : MakesOK w)
   (hne : gP ks (f + 1) .stmts i ≠ .out) :
   Calls Tryz.prog 81 #[rp R] w (Took (gP ks (f + 1) .stmts i) w R a cap n ks) := by
 have m0 := Lib.hid ((Mid.start h hM).alloc chZ);have hRl := h.lt;have hml := hM.lt;have hil := h.le;have b0 := Lib.hid (show LstB w (w.alloc chZ) none none Ch.none from ⟨heap_alloc_new w chZ, ChV.nil _ _⟩);have hrow : gP ks (f + 1) .stmts i = gP ks f (.stmtsGo Ch.none) i := rfl;rw [hrow] at hne ⊢;clear h hM hrow;obtain ⟨Z, hZ⟩ := exHid (gP ks f (.stmtsGo Ch.none) i);rw [hZ.out] at hne ⊢;obtain ⟨y0, y1, y2, y3, y4, y5⟩ := cells3 b0.out.b;replace hP := Lib.hid hP; replace hcn := Lib.hid hcn; replace hlt := Lib.hid hlt;unfold rp;go_enter Tryz.func81, Tryz.ntmps81
 go_wp2_with fail
 clear y0 y1 y2 y3 y4 y5;go_loopw [] (fun wr => ∃ (f' j : Nat) (c : Ch) (p1 p2 : Option Addr), f' ≤ f ∧ c.n ≤ j ∧ j ≤ ks.length ∧ Hid (gP ks f' (.stmtsGo c) j = Z) ∧ Hid (Mid w wr R a cap n ks j) ∧ Hid (LstB w wr p1 p2 c)) (fun wr => ks.length - placeN wr R)
 case atStart => exact ⟨f, i, Ch.none, none, none, Nat.le_refl _, Nat.zero_le _, hil, hZ, m0, b0⟩
 case round =>
   obtain ⟨f', j, c, p1, p2, hf', hc1, hjl1, hZ1, hm, hb⟩ := hrel;cases f' with
   | zero => exact absurd hZ1.out.symm hne
   | succ f'' =>
   have hz := hZ1.out;clear hZ1;have hun : gP ks (f'' + 1) (.stmtsGo c) j = if markT ks j = B.rbr then .ok c j else (gP ks f'' .stmt j).and fun c' i => gP ks f'' (.stmtsGo (c.then c')) i := rfl;rw [hun] at hz;clear hun;obtain ⟨m, hmk⟩ := exHid (markT ks j);rw [hmk.out] at hz;have kM := Lib.hid (mark_call hm.out hmk.out);have hpl := Lib.hid (place_of hm.out);by_cases hcm : m = B.rbr
   · subst hcm
     rw [if_pos rfl] at hz;subst hz;unfold B.rbr at kM;go_wp2_with fail
     refine kM.out.mono ?_;rintro e' w7 ⟨rfl, hb7⟩;have m4 := hm.out.below hb7;have b4 := hb.out.below hb7;obtain ⟨y0, y1, y2, y3, y4, y5⟩ := cells3 b4.b;obtain ⟨l1, l2⟩ := laidL m4 hml b4;replace l1 := Lib.hid l1; replace l2 := Lib.hid l2;clear m4 b4;go_wp2_with fail
     exact bodyPost_ret (ret_ch rfl rfl l1.out rfl) rfl l2.out
   · rw [if_neg hcm] at hz
     have e2 : (m == B.rbr) = false := beq_eq_false_iff_ne.2 hcm;unfold B.rbr at e2;clear hcm;unfold St.and at hz;dsimp only at hz;cases hg2 : gP ks f'' .stmt j with
     | out => rw [hg2] at hz; exact absurd hz.symm hne
     | bad k =>
       rw [hg2] at hz;subst hz;have cP := Lib.hid (fun W (hp : PR W R a cap n ks j) (hm : MakesOK W) => does_bad (hP.out f'' (by omega)) hp hm hg2);unfold rp at cP;go_wp2_with fail
       refine kM.out.mono ?_;rintro e' w7 ⟨rfl, hb7⟩;have mC := Lib.hid ((hm.out.below hb7).below ((Below.refl _ w7).drew));have bC := Lib.hid ((hb.out.below hb7).below ((Below.refl _ w7).drew));obtain ⟨x0, x1, x2, _, _, _⟩ := cells3 bC.out.b;clear kM;go_wp2_with fail
       refine wp_region_any (by kernel_rfl) ?_
       change wpAny _ _ _ _ _ _ _ (World.drew _)
       refine wpAny_take (i := 1) (v := .pointer (some ⟨R, 0, none⟩)) rfl (by kernel_rfl) (by kernel_rfl) (by kernel_rfl) (fun _ _ _ h => h) (Or.inl ⟨by rfl, by intro w; go_simp⟩) ?_;refine wpAny_ready (rs := [0, 2]) (by kernel_rfl) (by simp) ?_;refine AllReady.cons rfl (fun K hK => ?_) (AllReady.cons rfl (fun K hK => ?_) AllReady.nil)
       · go_simp
         refine hK _ _ ?_;clear hK K;refine wpAny_ready (rs := [2]) (by kernel_rfl) (by simp) ?_;refine AllReady.cons rfl (fun K hK => ?_) AllReady.nil
         · go_simp
           go_wp2_with fail
           refine (cP.out _ mC.out.pr mC.out.mo).mono ?_;rintro e' w10 ⟨rfl, hb10⟩;go_wp2_with fail
           exact ⟨rfl, rfl, mC.out.bad hb10⟩
       · go_simp
         go_wp2_with fail
         refine (cP.out _ mC.out.pr mC.out.mo).mono ?_;rintro e' w10 ⟨rfl, hb10⟩;go_wp2_with fail
         exact ⟨rfl, rfl, mC.out.bad hb10⟩
     | ok d k =>
       rw [hg2] at hz;replace hz := Lib.hid hz;have hdn := hcn.out _ _ _ _ hg2;have hjk := hlt.out _ _ _ _ hg2;have cP := Lib.hid (fun W (hp : PR W R a cap n ks j) (hm : MakesOK W) => does_ok (hP.out f'' (by omega)) hp hm hg2);unfold rp at cP;go_wp2_with fail
       refine kM.out.mono ?_;rintro e' w7 ⟨rfl, hb7⟩;have mC := Lib.hid ((hm.out.below hb7).below ((Below.refl _ w7).drew));have bC := Lib.hid ((hb.out.below hb7).below ((Below.refl _ w7).drew));obtain ⟨x0, x1, x2, _, _, _⟩ := cells3 bC.out.b;clear kM hb;go_wp2_with fail
       go_region_law (first
         | (go_simp; refine (cP.out _ mC.out.pr mC.out.mo).mono ?_; rintro e' w10 ⟨v10, rfl, hv10, hp10, ho10⟩; obtain ⟨q1, q2, rfl⟩ := hv10.agg; have hT := Lib.hid (Array.getElem?_eq_some_iff.1 bC.out.b).1; have vC := Lib.hid (ChV.step (R := R) (ChV.cut bC.out.v) (fun k hk => by have := hk.1; omega) ho10); have dC := Lib.hid hv10; replace mC := Lib.hid (mC.out.step hR hp10 ho10); replace bC := Lib.hid (bC.out.step hRl ho10); have hlim := mC.out.pr.le; have hkl := mC.out.pr.kl; obtain ⟨x0, x1, x2, _, _, _⟩ := cells3 bC.out.b)
         | (go_simp; go_at_call 56; refine (then_any vC.out dC.out (fun k h1 h2 => by have h3 := h1.2; omega) (by omega)).mono ?_; rintro e' w12 ⟨z12, rfl, hv12, ho12⟩; obtain ⟨r1, r2, rfl⟩ := hv12.agg; replace mC := Lib.hid (mC.out.extF hml (fun k h => by have := h.1; omega) ho12); have cC := heldF ho12 bC.out.b (fun h => by have := h.1; omega); obtain ⟨y0, y1, y2, y3, y4, y5⟩ := cells3 cC; replace cC := Lib.hid cC))
       all_goals
         obtain ⟨l1, l2⟩ := stored3 cC.out (.pointer r1) (.pointer r2) (.int .i64 ((c.then d).n : Int));have hjl2 := mC.out.pr.le;have hmE := Lib.hid (mC.out.ext (Nat.le_refl _) (by omega) l2);have hbE := Lib.hid (show LstB w _ r1 r2 (c.then d) from ⟨l1, (hv12.mono (G := fun k => w.heap.size < k) (fun k _ hk => by
           have a1 := hT.out;rcases hk with hk | hk
           · exact hk.1
           · omega)).only l2 (fun k hk e => by omega)⟩)
         have hpe := Lib.hid (place_of hmE.out);replace l1 := Lib.hid l1; replace l2 := Lib.hid l2;go_wp2_with fail
         go_roundw
         case rel => exact ⟨f'', k, c.then d, r1, r2, by omega, by show c.n + d.n ≤ k; omega, hjl2, hz, hmE, hbE⟩
         case measure =>
           rw [hpe.out, hpl.out];omega
end Go.Proofs.YtjiemkidmlgbeaaGreatDoor
namespace Go.Proofs.YtjiemkidmlgbeaaGreatDoor
open Go.RowKit Go.Shelf Tok
structure PairB (w W : World) (B : Nat) (p1 p2 : Option Addr) (m : Nat) : Prop where
 b : W.heap[w.heap.size]? = some chZ
 d : W.heap[B]? = some (.cells #[.pointer p1, .pointer p2, .int .i64 (m : Int)] 83 (0, 0))
 l : w.heap.size < B
theorem PairB.only {w W W' : World} {F : Nat → Prop} {B m : Nat} {p1 p2 : Option Addr} (h : PairB w W B p1 p2 m) (ho : Only F W W') (h1 : ¬ F w.heap.size) (h2 : ¬ F B) : PairB w W' B p1 p2 m :=
 ⟨heldF ho h.b h1, heldF ho h.d h2, h.l⟩
theorem PairB.below {w W W' : World} {B m : Nat} {p1 p2 : Option Addr} (h : PairB w W B p1 p2 m) (hb : Below W.heap.size W W') : PairB w W' B p1 p2 m :=
 h.only (Only.of_below (F := fun _ => False) hb) (fun h => h) (fun h => h)
theorem PairB.step {w W W' : World} {R B m : Nat} {p1 p2 : Option Addr} (h : PairB w W B p1 p2 m) (hR : R < w.heap.size) (ho : Only (fun k => k = R) W W') : PairB w W' B p1 p2 m :=
 h.only ho (by omega) (by have := h.l; omega)
set_option maxRecDepth 20000 in
set_option maxHeartbeats 1000000 in
theorem flow_any {GL GB : Nat → St Ch} {R cap n : Nat} {a : Option Addr} {ks : List Tk}
   (hL : ∀ W j, PR W R a cap n ks j → MakesOK W → GL j ≠ .out → Calls Tryz.prog 54 #[rp R, .string ⟨B.opn.toArray⟩, .func (.func 55) #[rp R] #[], .string ⟨B.cls.toArray⟩] W (Took (GL j) W R a cap n ks))
   (hB : Does 57 GB R a cap n ks) (hcL : ∀ i c j, GL i = .ok c j → c.n ≤ 10000000) (hcB : ∀ i c j, GB i = .ok c j → c.n ≤ 10000000) (hR : 2 ≠ R) {w : World} {i : Nat} (h : PR w R a cap n ks i) (hM : MakesOK w)
   (hne : ((wantT ks B.flow i).and fun _ i => (ownT ks i).and fun nm i => (GL i).and fun ps i => (GB i).and fun b i => St.ok ((ps.then b).under 1 0 nm) i) ≠ .out) :
   Calls Tryz.prog 34 #[rp R] w (Took ((wantT ks B.flow i).and fun _ i => (ownT ks i).and fun nm i => (GL i).and fun ps i => (GB i).and fun b i => .ok ((ps.then b).under 1 0 nm) i) w R a cap n ks) := by
 have m0 := Lib.hid ((Mid.start h hM).alloc chZ);have hRl := h.lt;have hml := hM.lt;have b0 := Lib.hid (heap_alloc_new w chZ);clear h hM;unfold wantT at hne ⊢;by_cases hq : markT ks i = B.flow
 · rw [if_pos hq] at hne ⊢
   unfold St.and at hne ⊢;dsimp only at hne ⊢;have c1 := Lib.hid (want_ok m0.out.pr (by decide) hq);unfold rp B.flow at c1;cases hg : ownT ks (i + 1) with
   | out => rw [hg] at hne; exact absurd rfl hne
   | bad j =>
     dsimp only;have c2 := Lib.hid (fun W (hp : PR W R a cap n ks (i + 1)) => own_bad hp hg);clear hne hL hB hcL hcB;unfold rp at c2 ⊢;go_enter Tryz.func34, Tryz.ntmps34
     go_wp2_with fail
     refine c1.out.mono ?_;rintro e' w2 ⟨rfl, hp2, ho2⟩;have m2 := Lib.hid (m0.out.step hR hp2 ho2);clear c1 m0 b0 hp2 ho2;go_wp2_with fail
     refine (c2.out _ m2.out.pr).mono ?_;rintro e' w3 ⟨rfl, hb3⟩;go_wp2_with fail
     exact ⟨rfl, rfl, m2.out.bad hb3⟩
   | ok x j =>
     rw [hg] at hne;dsimp only at hne ⊢;have c2 := Lib.hid (fun W (hp : PR W R a cap n ks (i + 1)) => own_ok hp hg);unfold rp at c2;cases hgl : GL j with
     | out => rw [hgl] at hne; exact absurd rfl hne
     | bad k =>
       dsimp only;have cL := Lib.hid (fun W (hp : PR W R a cap n ks j) (hm : MakesOK W) => hL W j hp hm (by rw [hgl]; intro e; cases e));unfold rp B.opn B.cls at cL;simp only [hgl] at cL;clear hne hL hB hcL hcB;unfold rp;go_enter Tryz.func34, Tryz.ntmps34
       go_wp2_with fail
       refine c1.out.mono ?_;rintro e' w2 ⟨rfl, hp2, ho2⟩;have m2 := Lib.hid (m0.out.step hR hp2 ho2);clear c1 m0 b0 hp2 ho2;go_wp2_with fail
       refine (c2.out _ m2.out.pr).mono ?_;rintro e' w3 ⟨rfl, hp3, ho3⟩;have m3 := Lib.hid (m2.out.step hR hp3 ho3);clear c2 m2 hp3 ho3;go_wp2_with fail
       refine (cL.out _ m3.out.pr m3.out.mo).mono ?_;rintro e' w4 ⟨rfl, hb4⟩;go_wp2_with fail
       exact ⟨rfl, rfl, m3.out.bad hb4⟩
     | ok c k =>
       have hcl := hcL _ _ _ hgl;have cL := Lib.hid (fun W (hp : PR W R a cap n ks j) (hm : MakesOK W) => hL W j hp hm (by rw [hgl]; intro e; cases e));unfold rp B.opn B.cls at cL;simp only [hgl] at cL;unfold Took at cL;rw [hgl] at hne;dsimp only at hne ⊢ cL;cases hgb : GB k with
       | out => rw [hgb] at hne; exact absurd rfl hne
       | bad l =>
         dsimp only;have cP := Lib.hid (fun W (hp : PR W R a cap n ks k) (hm : MakesOK W) => does_bad hB hp hm hgb);unfold rp at cP;clear hne hL hB hcL hcB;unfold rp;go_enter Tryz.func34, Tryz.ntmps34
         go_wp2_with fail
         refine c1.out.mono ?_;rintro e' w2 ⟨rfl, hp2, ho2⟩;have m2 := Lib.hid (m0.out.step hR hp2 ho2);have b2 := Lib.hid (heldB ho2 b0.out (by omega));clear c1 m0 b0 hp2 ho2;go_wp2_with fail
         refine (c2.out _ m2.out.pr).mono ?_;rintro e' w3 ⟨rfl, hp3, ho3⟩;have m3 := Lib.hid (m2.out.step hR hp3 ho3);have b3 := Lib.hid (heldB ho3 b2.out (by omega));have hT3 := (Array.getElem?_eq_some_iff.1 b3.out).1;clear c2 m2 b2 hp3 ho3;go_wp2_with fail
         refine (cL.out _ m3.out.pr m3.out.mo).mono ?_;rintro e' w4 ⟨⟨v4, rfl, hv4⟩, hp4, ho4⟩;obtain ⟨p1, p2, rfl⟩ := hv4.agg;have hs4 := ho4.size;have m4 := Lib.hid ((m3.out.step hR hp4 ho4).alloc (.cells #[.pointer p1, .pointer p2, .int .i64 (c.n : Int)] 83));have v5 := Lib.hid (show ChV (w4.alloc (.cells #[.pointer p1, .pointer p2, .int .i64 (c.n : Int)] 83)) (fun k => w.heap.size < k ∧ k ≠ w4.heap.size) (.agg #[.pointer p1, .pointer p2, .int .i64 (c.n : Int)]) c from (hv4.mono (fun k hk h => ⟨by omega, by omega⟩)).alloc _);have r4 := Lib.hid (show PairB w (w4.alloc (.cells #[.pointer p1, .pointer p2, .int .i64 (c.n : Int)] 83)) w4.heap.size p1 p2 c.n from
           ⟨heldA (heldB ho4 b3.out (by omega)) _, heap_alloc_new w4 _, by omega⟩)
         clear cL m3 b3 hp4 ho4 hv4;go_wp2_with fail
         generalize w4.alloc (.cells #[.pointer p1, .pointer p2, .int .i64 (c.n : Int)] 83) = w5 at *;generalize w4.heap.size = B7 at *;have mC := Lib.hid (m4.out.below ((Below.refl _ w5).drew));have rB := Lib.hid (r4.out.below ((Below.refl _ w5).drew));have vC := Lib.hid (ChV.below v5.out ((Below.refl _ w5).drew));obtain ⟨x0, x1, x2, _, _, _⟩ := cells3 rB.out.d;clear m4 r4 v5;refine wp_region_any (by kernel_rfl) ?_
         change wpAny _ _ _ _ _ _ _ (World.drew _)
         refine wpAny_take (i := 1) (v := .pointer (some ⟨R, 0, none⟩)) rfl (by kernel_rfl) (by kernel_rfl) (by kernel_rfl) (fun _ _ _ h => h) (Or.inl ⟨by rfl, by intro w; go_simp⟩) ?_;refine wpAny_take (i := 4) (v := .string ⟨x.toArray⟩) rfl (by kernel_rfl) (by kernel_rfl) (by kernel_rfl) (fun _ _ _ h => h) (Or.inl ⟨by rfl, by intro w; go_simp⟩) ?_;refine wpAny_take (i := 5) (v := .agg #[.int .u8 1, .int .i64 0, .int .i64 0, .string ⟨x.toArray⟩]) rfl (by kernel_rfl) (by kernel_rfl) (by kernel_rfl) (fun _ _ _ h => h) (Or.inl ⟨by rfl, by intro w; go_simp⟩) ?_;refine wpAny_ready (rs := [0, 2]) (by kernel_rfl) (by simp) ?_;refine AllReady.cons rfl (fun K hK => ?_) (AllReady.cons rfl (fun K hK => ?_) AllReady.nil)
         · go_simp
           refine hK _ _ ?_;clear hK K;refine wpAny_ready (rs := [2]) (by kernel_rfl) (by simp) ?_;refine AllReady.cons rfl (fun K hK => ?_) AllReady.nil
           · go_simp
             go_wp2_with fail
             refine (cP.out _ mC.out.pr mC.out.mo).mono ?_;rintro e' w10 ⟨rfl, hb10⟩;go_wp2_with fail
             exact ⟨rfl, rfl, mC.out.bad hb10⟩
         · go_simp
           go_wp2_with fail
           refine (cP.out _ mC.out.pr mC.out.mo).mono ?_;rintro e' w10 ⟨rfl, hb10⟩;go_wp2_with fail
           exact ⟨rfl, rfl, mC.out.bad hb10⟩
       | ok d l =>
         dsimp only;have hdn := hcB _ _ _ hgb;have cP := Lib.hid (fun W (hp : PR W R a cap n ks k) (hm : MakesOK W) => does_ok hB hp hm hgb);unfold rp at cP;clear hne hL hB hcL hcB;unfold rp;go_enter Tryz.func34, Tryz.ntmps34
         go_wp2_with fail
         refine c1.out.mono ?_;rintro e' w2 ⟨rfl, hp2, ho2⟩;have m2 := Lib.hid (m0.out.step hR hp2 ho2);have b2 := Lib.hid (heldB ho2 b0.out (by omega));clear c1 m0 b0 hp2 ho2;go_wp2_with fail
         refine (c2.out _ m2.out.pr).mono ?_;rintro e' w3 ⟨rfl, hp3, ho3⟩;have m3 := Lib.hid (m2.out.step hR hp3 ho3);have b3 := Lib.hid (heldB ho3 b2.out (by omega));have hT3 := (Array.getElem?_eq_some_iff.1 b3.out).1;clear c2 m2 b2 hp3 ho3;go_wp2_with fail
         refine (cL.out _ m3.out.pr m3.out.mo).mono ?_;rintro e' w4 ⟨⟨v4, rfl, hv4⟩, hp4, ho4⟩;obtain ⟨p1, p2, rfl⟩ := hv4.agg;have hs4 := ho4.size;have m4 := Lib.hid ((m3.out.step hR hp4 ho4).alloc (.cells #[.pointer p1, .pointer p2, .int .i64 (c.n : Int)] 83));have v5 := Lib.hid (show ChV (w4.alloc (.cells #[.pointer p1, .pointer p2, .int .i64 (c.n : Int)] 83)) (fun k => w.heap.size < k ∧ k ≠ w4.heap.size) (.agg #[.pointer p1, .pointer p2, .int .i64 (c.n : Int)]) c from (hv4.mono (fun k hk h => ⟨by omega, by omega⟩)).alloc _);have r4 := Lib.hid (show PairB w (w4.alloc (.cells #[.pointer p1, .pointer p2, .int .i64 (c.n : Int)] 83)) w4.heap.size p1 p2 c.n from
           ⟨heldA (heldB ho4 b3.out (by omega)) _, heap_alloc_new w4 _, by omega⟩)
         clear cL m3 b3 hp4 ho4 hv4;go_wp2_with fail
         generalize w4.alloc (.cells #[.pointer p1, .pointer p2, .int .i64 (c.n : Int)] 83) = w5 at *;generalize w4.heap.size = B7 at *;have mC := Lib.hid (m4.out.below ((Below.refl _ w5).drew));have rB := Lib.hid (r4.out.below ((Below.refl _ w5).drew));have vC := Lib.hid (ChV.below v5.out ((Below.refl _ w5).drew));obtain ⟨x0, x1, x2, _, _, _⟩ := cells3 rB.out.d;clear m4 r4 v5;go_region_law (first
           | (go_simp; refine (cP.out _ mC.out.pr mC.out.mo).mono ?_; rintro e' w10 ⟨v10, rfl, hv10, hp10, ho10⟩; obtain ⟨q1, q2, rfl⟩ := hv10.agg; have hT := Lib.hid (Array.getElem?_eq_some_iff.1 rB.out.d).1; replace vC := Lib.hid (ChV.step (R := R) (ChV.cut vC.out) (fun k hk => by have := hk.1.1; omega) ho10); have dC := Lib.hid hv10; replace mC := Lib.hid (mC.out.step hR hp10 ho10); replace rB := Lib.hid (rB.out.step hRl ho10); obtain ⟨x0, x1, x2, _, _, _⟩ := cells3 rB.out.d)
           | (go_simp; go_at_call 56; refine (then_any vC.out dC.out (fun k h1 h2 => by have h3 := h1.2; omega) (by omega)).mono ?_; rintro e' w12 ⟨z12, rfl, hv12, ho12⟩; obtain ⟨r1, r2, rfl⟩ := hv12.agg; have vT := Lib.hid hv12; replace mC := Lib.hid (mC.out.extF hml (fun k h => by have := h.1.1; omega) ho12); replace rB := Lib.hid (rB.out.only ho12 (fun h => by have := h.1.1; omega) (fun h => h.1.2 rfl)))
           | (go_simp; go_at_call 58; refine (under_any vT.out (by unfold Ch.then; dsimp only; omega) 1 0 0 x).mono ?_; rintro e' w13 ⟨z13, rfl, hv13, hb13⟩; obtain ⟨s1, s2, rfl⟩ := hv13.agg; have hT3 := Lib.hid (Array.getElem?_eq_some_iff.1 rB.out.d).1; replace mC := Lib.hid (mC.out.below hb13); replace rB := Lib.hid (rB.out.below hb13); obtain ⟨y0, y1, y2, y3, y4, y5⟩ := cells3 rB.out.b))
         all_goals
           have hl7 := rB.out.l;obtain ⟨l1, l2⟩ := laid3 mC.out (Nat.le_refl _) hml rB.out.b (hv13.mono (fun k _ hk => by
             have a1 := hT.out;have a2 := hT3.out;rcases hk with (hk | hk) | hk
             · have := hk.1.1; exact ⟨by omega, by omega⟩
             · exact ⟨by omega, by omega⟩
             · exact ⟨by omega, by omega⟩))
           replace l1 := Lib.hid l1; replace l2 := Lib.hid l2;go_wp2_with fail
           exact bodyPost_ret (ret_ch rfl rfl l1.out rfl) rfl l2.out
 · rw [if_neg hq]
   unfold St.and;dsimp only;have c1 := Lib.hid (want_bad m0.out.pr (by decide) hq);unfold rp B.flow at c1;clear hne hL hB hcL hcB;unfold rp;go_enter Tryz.func34, Tryz.ntmps34
   go_wp2_with fail
   refine c1.out.mono ?_;rintro e' w2 ⟨rfl, hb2⟩;go_wp2_with fail
   exact ⟨rfl, rfl, m0.out.bad hb2⟩
end Go.Proofs.YtjiemkidmlgbeaaGreatDoor
