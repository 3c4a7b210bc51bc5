/- A part of the proof: PPrim1. No condition. -/
import Derived.Test.YtjiemkidmlgbeaaGreatDoorQ15
set_option linter.unusedVariables false
set_option linter.unusedSimpArgs false
namespace Go.Proofs.YtjiemkidmlgbeaaGreatDoor
open Go.RowKit Go.Shelf Tok
theorem cellOf {W : World} {b : Nat} {cs : Array Value} {t : TypeId} (h : W.heap[b]? = some (.cells cs t (0, 0))) (j : Nat) : W.cell? ⟨b, j, none⟩ = cs[j]? := by simp [World.cell?, h]
set_option maxRecDepth 20000 in
set_option maxHeartbeats 2000000 in
theorem prim_int {R cap n : Nat} {a : Option Addr} {ks : List Tk} (hR : 2 ≠ R) {w : World} {i : Nat} (h : PR w R a cap n ks i) (hM : MakesOK w)
   {tx : List UInt8} {nu at_ : Nat} (ht : tkAt ks i = ⟨2, tx, nu, at_⟩) (hil : i < ks.length) :
   Calls Tryz.prog 132 #[rp R] w (Took (.ok (Ch.none.under 23 nu []) (i + 1)) w R a cap n ks) := by
 have m0 := Lib.hid ((Mid.start h hM).alloc chZ);have hRl := h.lt;have hml := hM.lt;have b0 := Lib.hid (heap_alloc_new w chZ);have kA := ahead_any m0.out.pr;rw [ht] at kA;unfold tkV at kA;dsimp only at kA;replace kA := Lib.hid kA;clear h hM ht;unfold rp;go_enter Tryz.func132, Tryz.ntmps132
 go_wp2_with fail
 refine kA.out.mono ?_;rintro e' w1 ⟨rfl, hb1⟩;have m1 := Lib.hid ((m0.out.below hb1).alloc (.cells #[.int .u8 2, .string ⟨tx.toArray⟩, .int .i64 (nu : Int), .int .i64 (at_ : Int)] 54));have b1 := Lib.hid (heldA (heldF (Only.of_below (F := fun _ => False) hb1) b0.out (fun h => h)) (.cells #[.int .u8 2, .string ⟨tx.toArray⟩, .int .i64 (nu : Int), .int .i64 (at_ : Int)] 54));have d1 := heap_alloc_new w1 (.cells #[.int .u8 2, .string ⟨tx.toArray⟩, .int .i64 (nu : Int), .int .i64 (at_ : Int)] 54);have h1 := m1.out.pr;have c1 := h1.c1;have f1 := h1.fz 1;have kl := h1.kl;have ho := Lib.hid (show Only (fun k => k = R) (w1.alloc (.cells #[.int .u8 2, .string ⟨tx.toArray⟩, .int .i64 (nu : Int), .int .i64 (at_ : Int)] 54)) _ from (Only.refl (fun k => k = R) (w1.alloc (.cells #[.int .u8 2, .string ⟨tx.toArray⟩, .int .i64 (nu : Int), .int .i64 (at_ : Int)] 54))).setCell (p := ⟨R, 1, none⟩) (.inl rfl) (.int .i64 ((i : Int) + 1)));have m2 := Lib.hid (m1.out.step hR (h1.moved (q := i + 1) (by omega)) ho.out);have b2 := Lib.hid (heldB ho.out b1.out (by omega));have hs1 := hb1.size;rw [World.size_alloc] at hs1;have d2 := heldB ho.out d1 (by omega);have g0 : World.cell? _ ⟨w1.heap.size, 0, none⟩ = _ := cellOf d2 0;have g1 : World.cell? _ ⟨w1.heap.size, 1, none⟩ = _ := cellOf d2 1;have g2 : World.cell? _ ⟨w1.heap.size, 2, none⟩ = _ := cellOf d2 2;clear h1 hb1 d1 d2 kA m0 b0 m1 b1;go_wp2_with fail
 refine (leaf_any 23 0 nu []).mono ?_;rintro e' w3 ⟨z3, rfl, hv3, hb3⟩;obtain ⟨p1, p2, rfl⟩ := hv3.agg;have hT := (Array.getElem?_eq_some_iff.1 b2.out).1;have m3 := m2.out.below hb3;have b3 := heldF (Only.of_below (F := fun _ => False) hb3) b2.out (fun h => h);obtain ⟨y0, y1, y2, y3, y4, y5⟩ := cells3 b3;obtain ⟨l1, l2⟩ := laid3 m3 (Nat.le_refl _) hml b3 (hv3.mono (fun k _ hk => ⟨by omega, by omega⟩));replace l1 := Lib.hid l1; replace l2 := Lib.hid l2;clear m2 b2 m3 b3 hb3 hv3;go_wp2_with fail
 exact bodyPost_ret (ret_ch rfl rfl l1.out rfl) rfl l2.out
set_option maxRecDepth 20000 in
set_option maxHeartbeats 2000000 in
theorem prim_text {R cap n : Nat} {a : Option Addr} {ks : List Tk} (hR : 2 ≠ R) {w : World} {i : Nat} (h : PR w R a cap n ks i) (hM : MakesOK w)
   {tx : List UInt8} {nu at_ : Nat} (ht : tkAt ks i = ⟨3, tx, nu, at_⟩) (hil : i < ks.length) :
   Calls Tryz.prog 132 #[rp R] w (Took (.ok (Ch.none.under 24 0 tx) (i + 1)) w R a cap n ks) := by
 have m0 := Lib.hid ((Mid.start h hM).alloc chZ);have hRl := h.lt;have hml := hM.lt;have b0 := Lib.hid (heap_alloc_new w chZ);have kA := ahead_any m0.out.pr;rw [ht] at kA;unfold tkV at kA;dsimp only at kA;replace kA := Lib.hid kA;clear h hM ht;unfold rp;go_enter Tryz.func132, Tryz.ntmps132
 go_wp2_with fail
 refine kA.out.mono ?_;rintro e' w1 ⟨rfl, hb1⟩;have m1 := Lib.hid ((m0.out.below hb1).alloc (.cells #[.int .u8 3, .string ⟨tx.toArray⟩, .int .i64 (nu : Int), .int .i64 (at_ : Int)] 54));have b1 := Lib.hid (heldA (heldF (Only.of_below (F := fun _ => False) hb1) b0.out (fun h => h)) (.cells #[.int .u8 3, .string ⟨tx.toArray⟩, .int .i64 (nu : Int), .int .i64 (at_ : Int)] 54));have d1 := heap_alloc_new w1 (.cells #[.int .u8 3, .string ⟨tx.toArray⟩, .int .i64 (nu : Int), .int .i64 (at_ : Int)] 54);have h1 := m1.out.pr;have c1 := h1.c1;have f1 := h1.fz 1;have kl := h1.kl;have ho := Lib.hid (show Only (fun k => k = R) (w1.alloc (.cells #[.int .u8 3, .string ⟨tx.toArray⟩, .int .i64 (nu : Int), .int .i64 (at_ : Int)] 54)) _ from (Only.refl (fun k => k = R) (w1.alloc (.cells #[.int .u8 3, .string ⟨tx.toArray⟩, .int .i64 (nu : Int), .int .i64 (at_ : Int)] 54))).setCell (p := ⟨R, 1, none⟩) (.inl rfl) (.int .i64 ((i : Int) + 1)));have m2 := Lib.hid (m1.out.step hR (h1.moved (q := i + 1) (by omega)) ho.out);have b2 := Lib.hid (heldB ho.out b1.out (by omega));have hs1 := hb1.size;rw [World.size_alloc] at hs1;have d2 := heldB ho.out d1 (by omega);have g0 : World.cell? _ ⟨w1.heap.size, 0, none⟩ = _ := cellOf d2 0;have g1 : World.cell? _ ⟨w1.heap.size, 1, none⟩ = _ := cellOf d2 1;have g2 : World.cell? _ ⟨w1.heap.size, 2, none⟩ = _ := cellOf d2 2;clear h1 hb1 d1 d2 kA m0 b0 m1 b1;go_wp2_with fail
 refine (leaf_any 24 0 0 tx).mono ?_;rintro e' w3 ⟨z3, rfl, hv3, hb3⟩;obtain ⟨p1, p2, rfl⟩ := hv3.agg;have hT := (Array.getElem?_eq_some_iff.1 b2.out).1;have m3 := m2.out.below hb3;have b3 := heldF (Only.of_below (F := fun _ => False) hb3) b2.out (fun h => h);obtain ⟨y0, y1, y2, y3, y4, y5⟩ := cells3 b3;obtain ⟨l1, l2⟩ := laid3 m3 (Nat.le_refl _) hml b3 (hv3.mono (fun k _ hk => ⟨by omega, by omega⟩));replace l1 := Lib.hid l1; replace l2 := Lib.hid l2;clear m2 b2 m3 b3 hb3 hv3;go_wp2_with fail
 exact bodyPost_ret (ret_ch rfl rfl l1.out rfl) rfl l2.out
set_option maxRecDepth 20000 in
set_option maxHeartbeats 2000000 in
theorem prim_list_ok {R cap n : Nat} {a : Option Addr} {ks : List Tk} (hR : 2 ≠ R) {w : World} {i : Nat} (h : PR w R a cap n ks i) (hM : MakesOK w)
   {kd : Nat} {tx : List UInt8} {nu at_ : Nat} (ht : tkAt ks i = ⟨kd, tx, nu, at_⟩) (q2 : ((kd : Int) == 2) = false) (q3 : ((kd : Int) == 3) = false)
   (hq_cM0 : markT ks i = B.lsq)
   {G1 : Nat → St Ch} (hP1 : DoesA 54 #[rp R, .string ⟨B.lsq.toArray⟩, .func (.func 35) #[rp R] #[], .string ⟨B.rsq.toArray⟩] G1 R a cap n ks)
   {c : Ch} {j : Nat} (hg1 : G1 i = .ok c j) (hn1 : c.n ≤ 10000000) :
   Calls Tryz.prog 132 #[rp R] w (Took (.ok (c.under 25 0 []) j) w R a cap n ks) := by
 have m0 := Lib.hid ((Mid.start h hM).alloc chZ);have hRl := h.lt;have hml := hM.lt;have b0 := Lib.hid (heap_alloc_new w chZ);have kA := ahead_any m0.out.pr;rw [ht] at kA;unfold tkV at kA;dsimp only at kA;replace kA := Lib.hid kA;have cM0 := Lib.hid (fun W (h : Mid w W R a cap n ks i) => mark_call h hq_cM0);have cR1 := Lib.hid (fun W (hp : PR W R a cap n ks i) (hm : MakesOK W) => doesA_ok hP1 hp hm hg1);unfold rp B.lsq at cM0;unfold rp B.lsq B.rsq at cR1;clear h hM ht hq_cM0 hP1 hg1;unfold rp;go_enter Tryz.func132, Tryz.ntmps132
 go_wp2_with fail
 refine kA.out.mono ?_;rintro e' w1 ⟨rfl, hb1⟩;have m1 := Lib.hid ((m0.out.below hb1).alloc (.cells #[.int .u8 (kd : Int), .string ⟨tx.toArray⟩, .int .i64 (nu : Int), .int .i64 (at_ : Int)] 54));have b1 := Lib.hid (heldA (heldF (Only.of_below (F := fun _ => False) hb1) b0.out (fun h => h)) (.cells #[.int .u8 (kd : Int), .string ⟨tx.toArray⟩, .int .i64 (nu : Int), .int .i64 (at_ : Int)] 54));clear m0 b0 hb1 kA;go_wp2_with fail
 refine (cM0.out _ m1.out).mono ?_;rintro e' w2 ⟨rfl, hb2⟩;have m2 := Lib.hid (m1.out.below hb2);have b2 := Lib.hid (heldF (Only.of_below (F := fun _ => False) hb2) b1.out (fun h => h));clear b1;clear m1;clear hb2;go_wp2_with fail
 refine (cR1.out _ m2.out.pr m2.out.mo).mono ?_;rintro e' w3 ⟨z3, rfl, hv3, hp3, ho3⟩;obtain ⟨q3a, q3b, rfl⟩ := hv3.agg;have hT3 := (Array.getElem?_eq_some_iff.1 b2.out).1;have m3 := Lib.hid (m2.out.step hR hp3 ho3);have b3 := Lib.hid (heldB ho3 b2.out (by omega));clear m2 b2 hp3 ho3;replace hv3 := Lib.hid hv3;go_wp2_with fail
 refine (under_any hv3.out (by omega) 25 0 0 []).mono ?_;rintro e' w4 ⟨z4, rfl, hv4, hb4⟩;obtain ⟨p1, p2, rfl⟩ := hv4.agg;have hT := (Array.getElem?_eq_some_iff.1 b3.out).1;have m4 := m3.out.below hb4;have b4 := heldF (Only.of_below (F := fun _ => False) hb4) b3.out (fun h => h);obtain ⟨y0, y1, y2, y3, y4, y5⟩ := cells3 b4;obtain ⟨l1, l2⟩ := laid3 m4 (Nat.le_refl _) hml b4 (hv4.mono (fun k _ hk => by
   rcases hk with hk | hk
   · exact ⟨by omega, by omega⟩
   · exact ⟨by omega, by omega⟩))
 replace l1 := Lib.hid l1; replace l2 := Lib.hid l2;clear m3 b3 m4 b4 hb4 hv4 hv3;go_wp2_with fail
 exact bodyPost_ret (ret_ch rfl rfl l1.out rfl) rfl l2.out
set_option maxRecDepth 20000 in
set_option maxHeartbeats 2000000 in
theorem prim_paren_ok {R cap n : Nat} {a : Option Addr} {ks : List Tk} (hR : 2 ≠ R) {w : World} {i : Nat} (h : PR w R a cap n ks i) (hM : MakesOK w)
   {kd : Nat} {tx : List UInt8} {nu at_ : Nat} (ht : tkAt ks i = ⟨kd, tx, nu, at_⟩) (q2 : ((kd : Int) == 2) = false) (q3 : ((kd : Int) == 3) = false)
   (hq_cM0 : markT ks i = B.opn)
   {G1 : Nat → St Ch} (hP1 : DoesA 80 #[rp R, .string ⟨B.opn.toArray⟩, .func (.func 35) #[rp R] #[], .string ⟨B.cls.toArray⟩] G1 R a cap n ks)
   {c : Ch} {j : Nat} (hg1 : G1 i = .ok c j) (hn1 : c.n ≤ 10000000) :
   Calls Tryz.prog 132 #[rp R] w (Took (.ok c j) w R a cap n ks) := by
 have m0 := Lib.hid ((Mid.start h hM).alloc chZ);have hRl := h.lt;have hml := hM.lt;have b0 := Lib.hid (heap_alloc_new w chZ);have kA := ahead_any m0.out.pr;rw [ht] at kA;unfold tkV at kA;dsimp only at kA;replace kA := Lib.hid kA;have cM0 := Lib.hid (fun W (h : Mid w W R a cap n ks i) => mark_call h hq_cM0);have cR1 := Lib.hid (fun W (hp : PR W R a cap n ks i) (hm : MakesOK W) => doesA_ok hP1 hp hm hg1);unfold rp B.opn at cM0;unfold rp B.opn B.cls at cR1;clear h hM ht hq_cM0 hP1 hg1;unfold rp;go_enter Tryz.func132, Tryz.ntmps132
 go_wp2_with fail
 refine kA.out.mono ?_;rintro e' w1 ⟨rfl, hb1⟩;have m1 := Lib.hid ((m0.out.below hb1).alloc (.cells #[.int .u8 (kd : Int), .string ⟨tx.toArray⟩, .int .i64 (nu : Int), .int .i64 (at_ : Int)] 54));have b1 := Lib.hid (heldA (heldF (Only.of_below (F := fun _ => False) hb1) b0.out (fun h => h)) (.cells #[.int .u8 (kd : Int), .string ⟨tx.toArray⟩, .int .i64 (nu : Int), .int .i64 (at_ : Int)] 54));clear m0 b0 hb1 kA;go_wp2_with fail
 refine (cM0.out _ m1.out).mono ?_;rintro e' w2 ⟨rfl, hb2⟩;have m2 := Lib.hid (m1.out.below hb2);have b2 := Lib.hid (heldF (Only.of_below (F := fun _ => False) hb2) b1.out (fun h => h));clear b1;clear m1;clear hb2;go_wp2_with fail
 refine (cR1.out _ m2.out.pr m2.out.mo).mono ?_;rintro e' w3 ⟨z3, rfl, hv3, hp3, ho3⟩;obtain ⟨q3a, q3b, rfl⟩ := hv3.agg;have hT3 := (Array.getElem?_eq_some_iff.1 b2.out).1;have m3 := Lib.hid (m2.out.step hR hp3 ho3);have b3 := Lib.hid (heldB ho3 b2.out (by omega));clear m2 b2 hp3 ho3;replace hv3 := Lib.hid hv3;obtain ⟨y0, y1, y2, y3, y4, y5⟩ := cells3 b3.out;obtain ⟨l1, l2⟩ := laid3 m3.out (Nat.le_refl _) hml b3.out (hv3.out.mono (fun k _ hk => ⟨by omega, by omega⟩));replace l1 := Lib.hid l1; replace l2 := Lib.hid l2;clear m3 b3 hv3;go_wp2_with fail
 exact bodyPost_ret (ret_ch rfl rfl l1.out rfl) rfl l2.out
set_option maxRecDepth 20000 in
set_option maxHeartbeats 2000000 in
theorem prim_len_ok {R cap n : Nat} {a : Option Addr} {ks : List Tk} (hR : 2 ≠ R) {w : World} {i : Nat} (h : PR w R a cap n ks i) (hM : MakesOK w)
   {kd : Nat} {tx : List UInt8} {nu at_ : Nat} (ht : tkAt ks i = ⟨kd, tx, nu, at_⟩) (q2 : ((kd : Int) == 2) = false) (q3 : ((kd : Int) == 3) = false)
   (hq_cM0 : markT ks i = B.len)
   {G2 : Nat → St Ch} (hP2 : DoesA 80 #[rp R, .string ⟨B.opn.toArray⟩, .func (.func 35) #[rp R] #[], .string ⟨B.cls.toArray⟩] G2 R a cap n ks)
   {c : Ch} {j : Nat} (hg2 : G2 ((i + 1)) = .ok c j) (hn2 : c.n ≤ 10000000) :
   Calls Tryz.prog 132 #[rp R] w (Took (.ok (c.under (opOfT B.len) 0 []) j) w R a cap n ks) := by
 have m0 := Lib.hid ((Mid.start h hM).alloc chZ);have hRl := h.lt;have hml := hM.lt;have b0 := Lib.hid (heap_alloc_new w chZ);have kA := ahead_any m0.out.pr;rw [ht] at kA;unfold tkV at kA;dsimp only at kA;replace kA := Lib.hid kA;have cM0 := Lib.hid (fun W (h : Mid w W R a cap n ks i) => mark_call h hq_cM0);have cW1 := Lib.hid (fun W (hp : PR W R a cap n ks i) => want_ok hp (by decide) hq_cM0);have cR2 := Lib.hid (fun W (hp : PR W R a cap n ks (i + 1)) (hm : MakesOK W) => doesA_ok hP2 hp hm hg2);have cF3 := Lib.hid (fun W (h : Mid w W R a cap n ks j) => opOf_any B.len h.mo);unfold rp B.len at cM0;unfold rp B.len at cW1;unfold rp B.opn B.cls at cR2;unfold B.len at cF3;clear h hM ht hq_cM0 hP2 hg2;unfold rp;go_enter Tryz.func132, Tryz.ntmps132
 go_wp2_with fail
 refine kA.out.mono ?_;rintro e' w1 ⟨rfl, hb1⟩;have m1 := Lib.hid ((m0.out.below hb1).alloc (.cells #[.int .u8 (kd : Int), .string ⟨tx.toArray⟩, .int .i64 (nu : Int), .int .i64 (at_ : Int)] 54));have b1 := Lib.hid (heldA (heldF (Only.of_below (F := fun _ => False) hb1) b0.out (fun h => h)) (.cells #[.int .u8 (kd : Int), .string ⟨tx.toArray⟩, .int .i64 (nu : Int), .int .i64 (at_ : Int)] 54));clear m0 b0 hb1 kA;go_wp2_with fail
 refine (cM0.out _ m1.out).mono ?_;rintro e' w2 ⟨rfl, hb2⟩;have m2 := Lib.hid (m1.out.below hb2);have b2 := Lib.hid (heldF (Only.of_below (F := fun _ => False) hb2) b1.out (fun h => h));clear b1;clear m1;clear hb2;go_wp2_with fail
 refine (cW1.out _ m2.out.pr).mono ?_;rintro e' w3 ⟨rfl, hp3, ho3⟩;have m3 := Lib.hid (m2.out.step hR hp3 ho3);have b3 := Lib.hid (heldB ho3 b2.out (by omega));clear b2;clear m2;clear hp3 ho3;go_wp2_with fail
 refine (cR2.out _ m3.out.pr m3.out.mo).mono ?_;rintro e' w4 ⟨z4, rfl, hv4, hp4, ho4⟩;obtain ⟨q4a, q4b, rfl⟩ := hv4.agg;have hT4 := (Array.getElem?_eq_some_iff.1 b3.out).1;have m4 := Lib.hid (m3.out.step hR hp4 ho4);have b4 := Lib.hid (heldB ho4 b3.out (by omega));clear m3 b3 hp4 ho4;replace hv4 := Lib.hid hv4;go_wp2_with fail
 refine (cF3.out _ m4.out).mono ?_;rintro e' w5 ⟨rfl, hb5⟩;have m5 := Lib.hid (m4.out.below hb5);have b5 := Lib.hid (heldF (Only.of_below (F := fun _ => False) hb5) b4.out (fun h => h));clear b4;replace hv4 := Lib.hid (ChV.below hv4.out hb5);clear m4;clear hb5;go_wp2_with fail
 refine (under_any hv4.out (by omega) (opOfT B.len) 0 0 []).mono ?_;rintro e' w6 ⟨z6, rfl, hv6, hb6⟩;obtain ⟨p1, p2, rfl⟩ := hv6.agg;have hT := (Array.getElem?_eq_some_iff.1 b5.out).1;have m6 := m5.out.below hb6;have b6 := heldF (Only.of_below (F := fun _ => False) hb6) b5.out (fun h => h);obtain ⟨y0, y1, y2, y3, y4, y5⟩ := cells3 b6;obtain ⟨l1, l2⟩ := laid3 m6 (Nat.le_refl _) hml b6 (hv6.mono (fun k _ hk => by
   rcases hk with hk | hk
   · exact ⟨by omega, by omega⟩
   · exact ⟨by omega, by omega⟩))
 replace l1 := Lib.hid l1; replace l2 := Lib.hid l2;clear m5 b5 m6 b6 hb6 hv6 hv4;go_wp2_with fail
 exact bodyPost_ret (ret_ch rfl rfl l1.out rfl) rfl l2.out
set_option maxRecDepth 20000 in
set_option maxHeartbeats 2000000 in
theorem prim_re_ok {R cap n : Nat} {a : Option Addr} {ks : List Tk} (hR : 2 ≠ R) {w : World} {i : Nat} (h : PR w R a cap n ks i) (hM : MakesOK w)
   {kd : Nat} {tx : List UInt8} {nu at_ : Nat} (ht : tkAt ks i = ⟨kd, tx, nu, at_⟩) (q2 : ((kd : Int) == 2) = false) (q3 : ((kd : Int) == 3) = false)
   (hq_cM0 : markT ks i = B.re)
   {G2 : Nat → St Ch} (hP2 : DoesA 80 #[rp R, .string ⟨B.opn.toArray⟩, .func (.func 35) #[rp R] #[], .string ⟨B.cls.toArray⟩] G2 R a cap n ks)
   {c : Ch} {j : Nat} (hg2 : G2 ((i + 1)) = .ok c j) (hn2 : c.n ≤ 10000000) :
   Calls Tryz.prog 132 #[rp R] w (Took (.ok (c.under (opOfT B.re) 0 []) j) w R a cap n ks) := by
 have m0 := Lib.hid ((Mid.start h hM).alloc chZ);have hRl := h.lt;have hml := hM.lt;have b0 := Lib.hid (heap_alloc_new w chZ);have kA := ahead_any m0.out.pr;rw [ht] at kA;unfold tkV at kA;dsimp only at kA;replace kA := Lib.hid kA;have cM0 := Lib.hid (fun W (h : Mid w W R a cap n ks i) => mark_call h hq_cM0);have cW1 := Lib.hid (fun W (hp : PR W R a cap n ks i) => want_ok hp (by decide) hq_cM0);have cR2 := Lib.hid (fun W (hp : PR W R a cap n ks (i + 1)) (hm : MakesOK W) => doesA_ok hP2 hp hm hg2);have cF3 := Lib.hid (fun W (h : Mid w W R a cap n ks j) => opOf_any B.re h.mo);unfold rp B.re at cM0;unfold rp B.re at cW1;unfold rp B.opn B.cls at cR2;unfold B.re at cF3;clear h hM ht hq_cM0 hP2 hg2;unfold rp;go_enter Tryz.func132, Tryz.ntmps132
 go_wp2_with fail
 refine kA.out.mono ?_;rintro e' w1 ⟨rfl, hb1⟩;have m1 := Lib.hid ((m0.out.below hb1).alloc (.cells #[.int .u8 (kd : Int), .string ⟨tx.toArray⟩, .int .i64 (nu : Int), .int .i64 (at_ : Int)] 54));have b1 := Lib.hid (heldA (heldF (Only.of_below (F := fun _ => False) hb1) b0.out (fun h => h)) (.cells #[.int .u8 (kd : Int), .string ⟨tx.toArray⟩, .int .i64 (nu : Int), .int .i64 (at_ : Int)] 54));clear m0 b0 hb1 kA;go_wp2_with fail
 refine (cM0.out _ m1.out).mono ?_;rintro e' w2 ⟨rfl, hb2⟩;have m2 := Lib.hid (m1.out.below hb2);have b2 := Lib.hid (heldF (Only.of_below (F := fun _ => False) hb2) b1.out (fun h => h));clear b1;clear m1;clear hb2;go_wp2_with fail
 refine (cW1.out _ m2.out.pr).mono ?_;rintro e' w3 ⟨rfl, hp3, ho3⟩;have m3 := Lib.hid (m2.out.step hR hp3 ho3);have b3 := Lib.hid (heldB ho3 b2.out (by omega));clear b2;clear m2;clear hp3 ho3;go_wp2_with fail
 refine (cR2.out _ m3.out.pr m3.out.mo).mono ?_;rintro e' w4 ⟨z4, rfl, hv4, hp4, ho4⟩;obtain ⟨q4a, q4b, rfl⟩ := hv4.agg;have hT4 := (Array.getElem?_eq_some_iff.1 b3.out).1;have m4 := Lib.hid (m3.out.step hR hp4 ho4);have b4 := Lib.hid (heldB ho4 b3.out (by omega));clear m3 b3 hp4 ho4;replace hv4 := Lib.hid hv4;go_wp2_with fail
 refine (cF3.out _ m4.out).mono ?_;rintro e' w5 ⟨rfl, hb5⟩;have m5 := Lib.hid (m4.out.below hb5);have b5 := Lib.hid (heldF (Only.of_below (F := fun _ => False) hb5) b4.out (fun h => h));clear b4;replace hv4 := Lib.hid (ChV.below hv4.out hb5);clear m4;clear hb5;go_wp2_with fail
 refine (under_any hv4.out (by omega) (opOfT B.re) 0 0 []).mono ?_;rintro e' w6 ⟨z6, rfl, hv6, hb6⟩;obtain ⟨p1, p2, rfl⟩ := hv6.agg;have hT := (Array.getElem?_eq_some_iff.1 b5.out).1;have m6 := m5.out.below hb6;have b6 := heldF (Only.of_below (F := fun _ => False) hb6) b5.out (fun h => h);obtain ⟨y0, y1, y2, y3, y4, y5⟩ := cells3 b6;obtain ⟨l1, l2⟩ := laid3 m6 (Nat.le_refl _) hml b6 (hv6.mono (fun k _ hk => by
   rcases hk with hk | hk
   · exact ⟨by omega, by omega⟩
   · exact ⟨by omega, by omega⟩))
 replace l1 := Lib.hid l1; replace l2 := Lib.hid l2;clear m5 b5 m6 b6 hb6 hv6 hv4;go_wp2_with fail
 exact bodyPost_ret (ret_ch rfl rfl l1.out rfl) rfl l2.out
set_option maxRecDepth 20000 in
set_option maxHeartbeats 2000000 in
theorem prim_im_ok {R cap n : Nat} {a : Option Addr} {ks : List Tk} (hR : 2 ≠ R) {w : World} {i : Nat} (h : PR w R a cap n ks i) (hM : MakesOK w)
   {kd : Nat} {tx : List UInt8} {nu at_ : Nat} (ht : tkAt ks i = ⟨kd, tx, nu, at_⟩) (q2 : ((kd : Int) == 2) = false) (q3 : ((kd : Int) == 3) = false)
   (hq_cM0 : markT ks i = B.im)
   {G2 : Nat → St Ch} (hP2 : DoesA 80 #[rp R, .string ⟨B.opn.toArray⟩, .func (.func 35) #[rp R] #[], .string ⟨B.cls.toArray⟩] G2 R a cap n ks)
   {c : Ch} {j : Nat} (hg2 : G2 ((i + 1)) = .ok c j) (hn2 : c.n ≤ 10000000) :
   Calls Tryz.prog 132 #[rp R] w (Took (.ok (c.under (opOfT B.im) 0 []) j) w R a cap n ks) := by
 have m0 := Lib.hid ((Mid.start h hM).alloc chZ);have hRl := h.lt;have hml := hM.lt;have b0 := Lib.hid (heap_alloc_new w chZ);have kA := ahead_any m0.out.pr;rw [ht] at kA;unfold tkV at kA;dsimp only at kA;replace kA := Lib.hid kA;have cM0 := Lib.hid (fun W (h : Mid w W R a cap n ks i) => mark_call h hq_cM0);have cW1 := Lib.hid (fun W (hp : PR W R a cap n ks i) => want_ok hp (by decide) hq_cM0);have cR2 := Lib.hid (fun W (hp : PR W R a cap n ks (i + 1)) (hm : MakesOK W) => doesA_ok hP2 hp hm hg2);have cF3 := Lib.hid (fun W (h : Mid w W R a cap n ks j) => opOf_any B.im h.mo);unfold rp B.im at cM0;unfold rp B.im at cW1;unfold rp B.opn B.cls at cR2;unfold B.im at cF3;clear h hM ht hq_cM0 hP2 hg2;unfold rp;go_enter Tryz.func132, Tryz.ntmps132
 go_wp2_with fail
 refine kA.out.mono ?_;rintro e' w1 ⟨rfl, hb1⟩;have m1 := Lib.hid ((m0.out.below hb1).alloc (.cells #[.int .u8 (kd : Int), .string ⟨tx.toArray⟩, .int .i64 (nu : Int), .int .i64 (at_ : Int)] 54));have b1 := Lib.hid (heldA (heldF (Only.of_below (F := fun _ => False) hb1) b0.out (fun h => h)) (.cells #[.int .u8 (kd : Int), .string ⟨tx.toArray⟩, .int .i64 (nu : Int), .int .i64 (at_ : Int)] 54));clear m0 b0 hb1 kA;go_wp2_with fail
 refine (cM0.out _ m1.out).mono ?_;rintro e' w2 ⟨rfl, hb2⟩;have m2 := Lib.hid (m1.out.below hb2);have b2 := Lib.hid (heldF (Only.of_below (F := fun _ => False) hb2) b1.out (fun h => h));clear b1;clear m1;clear hb2;go_wp2_with fail
 refine (cW1.out _ m2.out.pr).mono ?_;rintro e' w3 ⟨rfl, hp3, ho3⟩;have m3 := Lib.hid (m2.out.step hR hp3 ho3);have b3 := Lib.hid (heldB ho3 b2.out (by omega));clear b2;clear m2;clear hp3 ho3;go_wp2_with fail
 refine (cR2.out _ m3.out.pr m3.out.mo).mono ?_;rintro e' w4 ⟨z4, rfl, hv4, hp4, ho4⟩;obtain ⟨q4a, q4b, rfl⟩ := hv4.agg;have hT4 := (Array.getElem?_eq_some_iff.1 b3.out).1;have m4 := Lib.hid (m3.out.step hR hp4 ho4);have b4 := Lib.hid (heldB ho4 b3.out (by omega));clear m3 b3 hp4 ho4;replace hv4 := Lib.hid hv4;go_wp2_with fail
 refine (cF3.out _ m4.out).mono ?_;rintro e' w5 ⟨rfl, hb5⟩;have m5 := Lib.hid (m4.out.below hb5);have b5 := Lib.hid (heldF (Only.of_below (F := fun _ => False) hb5) b4.out (fun h => h));clear b4;replace hv4 := Lib.hid (ChV.below hv4.out hb5);clear m4;clear hb5;go_wp2_with fail
 refine (under_any hv4.out (by omega) (opOfT B.im) 0 0 []).mono ?_;rintro e' w6 ⟨z6, rfl, hv6, hb6⟩;obtain ⟨p1, p2, rfl⟩ := hv6.agg;have hT := (Array.getElem?_eq_some_iff.1 b5.out).1;have m6 := m5.out.below hb6;have b6 := heldF (Only.of_below (F := fun _ => False) hb6) b5.out (fun h => h);obtain ⟨y0, y1, y2, y3, y4, y5⟩ := cells3 b6;obtain ⟨l1, l2⟩ := laid3 m6 (Nat.le_refl _) hml b6 (hv6.mono (fun k _ hk => by
   rcases hk with hk | hk
   · exact ⟨by omega, by omega⟩
   · exact ⟨by omega, by omega⟩))
 replace l1 := Lib.hid l1; replace l2 := Lib.hid l2;clear m5 b5 m6 b6 hb6 hv6 hv4;go_wp2_with fail
 exact bodyPost_ret (ret_ch rfl rfl l1.out rfl) rfl l2.out
set_option maxRecDepth 20000 in
set_option maxHeartbeats 2000000 in
theorem prim_conj_ok {R cap n : Nat} {a : Option Addr} {ks : List Tk} (hR : 2 ≠ R) {w : World} {i : Nat} (h : PR w R a cap n ks i) (hM : MakesOK w)
   {kd : Nat} {tx : List UInt8} {nu at_ : Nat} (ht : tkAt ks i = ⟨kd, tx, nu, at_⟩) (q2 : ((kd : Int) == 2) = false) (q3 : ((kd : Int) == 3) = false)
   (hq_cM0 : markT ks i = B.conj)
   {G2 : Nat → St Ch} (hP2 : DoesA 80 #[rp R, .string ⟨B.opn.toArray⟩, .func (.func 35) #[rp R] #[], .string ⟨B.cls.toArray⟩] G2 R a cap n ks)
   {c : Ch} {j : Nat} (hg2 : G2 ((i + 1)) = .ok c j) (hn2 : c.n ≤ 10000000) :
   Calls Tryz.prog 132 #[rp R] w (Took (.ok (c.under (opOfT B.conj) 0 []) j) w R a cap n ks) := by
 have m0 := Lib.hid ((Mid.start h hM).alloc chZ);have hRl := h.lt;have hml := hM.lt;have b0 := Lib.hid (heap_alloc_new w chZ);have kA := ahead_any m0.out.pr;rw [ht] at kA;unfold tkV at kA;dsimp only at kA;replace kA := Lib.hid kA;have cM0 := Lib.hid (fun W (h : Mid w W R a cap n ks i) => mark_call h hq_cM0);have cW1 := Lib.hid (fun W (hp : PR W R a cap n ks i) => want_ok hp (by decide) hq_cM0);have cR2 := Lib.hid (fun W (hp : PR W R a cap n ks (i + 1)) (hm : MakesOK W) => doesA_ok hP2 hp hm hg2);have cF3 := Lib.hid (fun W (h : Mid w W R a cap n ks j) => opOf_any B.conj h.mo);unfold rp B.conj at cM0;unfold rp B.conj at cW1;unfold rp B.opn B.cls at cR2;unfold B.conj at cF3;clear h hM ht hq_cM0 hP2 hg2;unfold rp;go_enter Tryz.func132, Tryz.ntmps132
 go_wp2_with fail
 refine kA.out.mono ?_;rintro e' w1 ⟨rfl, hb1⟩;have m1 := Lib.hid ((m0.out.below hb1).alloc (.cells #[.int .u8 (kd : Int), .string ⟨tx.toArray⟩, .int .i64 (nu : Int), .int .i64 (at_ : Int)] 54));have b1 := Lib.hid (heldA (heldF (Only.of_below (F := fun _ => False) hb1) b0.out (fun h => h)) (.cells #[.int .u8 (kd : Int), .string ⟨tx.toArray⟩, .int .i64 (nu : Int), .int .i64 (at_ : Int)] 54));clear m0 b0 hb1 kA;go_wp2_with fail
 refine (cM0.out _ m1.out).mono ?_;rintro e' w2 ⟨rfl, hb2⟩;have m2 := Lib.hid (m1.out.below hb2);have b2 := Lib.hid (heldF (Only.of_below (F := fun _ => False) hb2) b1.out (fun h => h));clear b1;clear m1;clear hb2;go_wp2_with fail
 refine (cW1.out _ m2.out.pr).mono ?_;rintro e' w3 ⟨rfl, hp3, ho3⟩;have m3 := Lib.hid (m2.out.step hR hp3 ho3);have b3 := Lib.hid (heldB ho3 b2.out (by omega));clear b2;clear m2;clear hp3 ho3;go_wp2_with fail
 refine (cR2.out _ m3.out.pr m3.out.mo).mono ?_;rintro e' w4 ⟨z4, rfl, hv4, hp4, ho4⟩;obtain ⟨q4a, q4b, rfl⟩ := hv4.agg;have hT4 := (Array.getElem?_eq_some_iff.1 b3.out).1;have m4 := Lib.hid (m3.out.step hR hp4 ho4);have b4 := Lib.hid (heldB ho4 b3.out (by omega));clear m3 b3 hp4 ho4;replace hv4 := Lib.hid hv4;go_wp2_with fail
 refine (cF3.out _ m4.out).mono ?_;rintro e' w5 ⟨rfl, hb5⟩;have m5 := Lib.hid (m4.out.below hb5);have b5 := Lib.hid (heldF (Only.of_below (F := fun _ => False) hb5) b4.out (fun h => h));clear b4;replace hv4 := Lib.hid (ChV.below hv4.out hb5);clear m4;clear hb5;go_wp2_with fail
 refine (under_any hv4.out (by omega) (opOfT B.conj) 0 0 []).mono ?_;rintro e' w6 ⟨z6, rfl, hv6, hb6⟩;obtain ⟨p1, p2, rfl⟩ := hv6.agg;have hT := (Array.getElem?_eq_some_iff.1 b5.out).1;have m6 := m5.out.below hb6;have b6 := heldF (Only.of_below (F := fun _ => False) hb6) b5.out (fun h => h);obtain ⟨y0, y1, y2, y3, y4, y5⟩ := cells3 b6;obtain ⟨l1, l2⟩ := laid3 m6 (Nat.le_refl _) hml b6 (hv6.mono (fun k _ hk => by
   rcases hk with hk | hk
   · exact ⟨by omega, by omega⟩
   · exact ⟨by omega, by omega⟩))
 replace l1 := Lib.hid l1; replace l2 := Lib.hid l2;clear m5 b5 m6 b6 hb6 hv6 hv4;go_wp2_with fail
 exact bodyPost_ret (ret_ch rfl rfl l1.out rfl) rfl l2.out
set_option maxRecDepth 20000 in
set_option maxHeartbeats 2000000 in
theorem prim_timer_ok {R cap n : Nat} {a : Option Addr} {ks : List Tk} (hR : 2 ≠ R) {w : World} {i : Nat} (h : PR w R a cap n ks i) (hM : MakesOK w)
   {kd : Nat} {tx : List UInt8} {nu at_ : Nat} (ht : tkAt ks i = ⟨kd, tx, nu, at_⟩) (q2 : ((kd : Int) == 2) = false) (q3 : ((kd : Int) == 3) = false)
   (hq_cM0 : markT ks i = B.timer)
   {G2 : Nat → St Ch} (hP2 : DoesA 80 #[rp R, .string ⟨B.opn.toArray⟩, .func (.func 35) #[rp R] #[], .string ⟨B.cls.toArray⟩] G2 R a cap n ks)
   {c : Ch} {j : Nat} (hg2 : G2 ((i + 1)) = .ok c j) (hn2 : c.n ≤ 10000000) :
   Calls Tryz.prog 132 #[rp R] w (Took (.ok (c.under (opOfT B.timer) 0 []) j) w R a cap n ks) := by
 have m0 := Lib.hid ((Mid.start h hM).alloc chZ);have hRl := h.lt;have hml := hM.lt;have b0 := Lib.hid (heap_alloc_new w chZ);have kA := ahead_any m0.out.pr;rw [ht] at kA;unfold tkV at kA;dsimp only at kA;replace kA := Lib.hid kA;have cM0 := Lib.hid (fun W (h : Mid w W R a cap n ks i) => mark_call h hq_cM0);have cW1 := Lib.hid (fun W (hp : PR W R a cap n ks i) => want_ok hp (by decide) hq_cM0);have cR2 := Lib.hid (fun W (hp : PR W R a cap n ks (i + 1)) (hm : MakesOK W) => doesA_ok hP2 hp hm hg2);have cF3 := Lib.hid (fun W (h : Mid w W R a cap n ks j) => opOf_any B.timer h.mo);unfold rp B.timer at cM0;unfold rp B.timer at cW1;unfold rp B.opn B.cls at cR2;unfold B.timer at cF3;clear h hM ht hq_cM0 hP2 hg2;unfold rp;go_enter Tryz.func132, Tryz.ntmps132
 go_wp2_with fail
 refine kA.out.mono ?_;rintro e' w1 ⟨rfl, hb1⟩;have m1 := Lib.hid ((m0.out.below hb1).alloc (.cells #[.int .u8 (kd : Int), .string ⟨tx.toArray⟩, .int .i64 (nu : Int), .int .i64 (at_ : Int)] 54));have b1 := Lib.hid (heldA (heldF (Only.of_below (F := fun _ => False) hb1) b0.out (fun h => h)) (.cells #[.int .u8 (kd : Int), .string ⟨tx.toArray⟩, .int .i64 (nu : Int), .int .i64 (at_ : Int)] 54));clear m0 b0 hb1 kA;go_wp2_with fail
 refine (cM0.out _ m1.out).mono ?_;rintro e' w2 ⟨rfl, hb2⟩;have m2 := Lib.hid (m1.out.below hb2);have b2 := Lib.hid (heldF (Only.of_below (F := fun _ => False) hb2) b1.out (fun h => h));clear b1;clear m1;clear hb2;go_wp2_with fail
 refine (cW1.out _ m2.out.pr).mono ?_;rintro e' w3 ⟨rfl, hp3, ho3⟩;have m3 := Lib.hid (m2.out.step hR hp3 ho3);have b3 := Lib.hid (heldB ho3 b2.out (by omega));clear b2;clear m2;clear hp3 ho3;go_wp2_with fail
 refine (cR2.out _ m3.out.pr m3.out.mo).mono ?_;rintro e' w4 ⟨z4, rfl, hv4, hp4, ho4⟩;obtain ⟨q4a, q4b, rfl⟩ := hv4.agg;have hT4 := (Array.getElem?_eq_some_iff.1 b3.out).1;have m4 := Lib.hid (m3.out.step hR hp4 ho4);have b4 := Lib.hid (heldB ho4 b3.out (by omega));clear m3 b3 hp4 ho4;replace hv4 := Lib.hid hv4;go_wp2_with fail
 refine (cF3.out _ m4.out).mono ?_;rintro e' w5 ⟨rfl, hb5⟩;have m5 := Lib.hid (m4.out.below hb5);have b5 := Lib.hid (heldF (Only.of_below (F := fun _ => False) hb5) b4.out (fun h => h));clear b4;replace hv4 := Lib.hid (ChV.below hv4.out hb5);clear m4;clear hb5;go_wp2_with fail
 refine (under_any hv4.out (by omega) (opOfT B.timer) 0 0 []).mono ?_;rintro e' w6 ⟨z6, rfl, hv6, hb6⟩;obtain ⟨p1, p2, rfl⟩ := hv6.agg;have hT := (Array.getElem?_eq_some_iff.1 b5.out).1;have m6 := m5.out.below hb6;have b6 := heldF (Only.of_below (F := fun _ => False) hb6) b5.out (fun h => h);obtain ⟨y0, y1, y2, y3, y4, y5⟩ := cells3 b6;obtain ⟨l1, l2⟩ := laid3 m6 (Nat.le_refl _) hml b6 (hv6.mono (fun k _ hk => by
   rcases hk with hk | hk
   · exact ⟨by omega, by omega⟩
   · exact ⟨by omega, by omega⟩))
 replace l1 := Lib.hid l1; replace l2 := Lib.hid l2;clear m5 b5 m6 b6 hb6 hv6 hv4;go_wp2_with fail
 exact bodyPost_ret (ret_ch rfl rfl l1.out rfl) rfl l2.out
set_option maxRecDepth 20000 in
set_option maxHeartbeats 2000000 in
theorem prim_num_ok {R cap n : Nat} {a : Option Addr} {ks : List Tk} (hR : 2 ≠ R) {w : World} {i : Nat} (h : PR w R a cap n ks i) (hM : MakesOK w)
   {kd : Nat} {tx : List UInt8} {nu at_ : Nat} (ht : tkAt ks i = ⟨kd, tx, nu, at_⟩) (q2 : ((kd : Int) == 2) = false) (q3 : ((kd : Int) == 3) = false)
   (hq_cM0 : markT ks i = B.num)
   {G2 : Nat → St Ch} (hP2 : DoesA 80 #[rp R, .string ⟨B.opn.toArray⟩, .func (.func 133) #[rp R] #[], .string ⟨B.cls.toArray⟩] G2 R a cap n ks)
   {c : Ch} {j : Nat} (hg2 : G2 ((i + 1)) = .ok c j) (hn2 : c.n ≤ 10000000) :
   Calls Tryz.prog 132 #[rp R] w (Took (.ok (c.under 41 0 []) j) w R a cap n ks) := by
 have m0 := Lib.hid ((Mid.start h hM).alloc chZ);have hRl := h.lt;have hml := hM.lt;have b0 := Lib.hid (heap_alloc_new w chZ);have kA := ahead_any m0.out.pr;rw [ht] at kA;unfold tkV at kA;dsimp only at kA;replace kA := Lib.hid kA;have cM0 := Lib.hid (fun W (h : Mid w W R a cap n ks i) => mark_call h hq_cM0);have cW1 := Lib.hid (fun W (hp : PR W R a cap n ks i) => want_ok hp (by decide) hq_cM0);have cR2 := Lib.hid (fun W (hp : PR W R a cap n ks (i + 1)) (hm : MakesOK W) => doesA_ok hP2 hp hm hg2);unfold rp B.num at cM0;unfold rp B.num at cW1;unfold rp B.opn B.cls at cR2;clear h hM ht hq_cM0 hP2 hg2;unfold rp;go_enter Tryz.func132, Tryz.ntmps132
 go_wp2_with fail
 refine kA.out.mono ?_;rintro e' w1 ⟨rfl, hb1⟩;have m1 := Lib.hid ((m0.out.below hb1).alloc (.cells #[.int .u8 (kd : Int), .string ⟨tx.toArray⟩, .int .i64 (nu : Int), .int .i64 (at_ : Int)] 54));have b1 := Lib.hid (heldA (heldF (Only.of_below (F := fun _ => False) hb1) b0.out (fun h => h)) (.cells #[.int .u8 (kd : Int), .string ⟨tx.toArray⟩, .int .i64 (nu : Int), .int .i64 (at_ : Int)] 54));clear m0 b0 hb1 kA;go_wp2_with fail
 refine (cM0.out _ m1.out).mono ?_;rintro e' w2 ⟨rfl, hb2⟩;have m2 := Lib.hid (m1.out.below hb2);have b2 := Lib.hid (heldF (Only.of_below (F := fun _ => False) hb2) b1.out (fun h => h));clear b1;clear m1;clear hb2;go_wp2_with fail
 refine (cW1.out _ m2.out.pr).mono ?_;rintro e' w3 ⟨rfl, hp3, ho3⟩;have m3 := Lib.hid (m2.out.step hR hp3 ho3);have b3 := Lib.hid (heldB ho3 b2.out (by omega));clear b2;clear m2;clear hp3 ho3;go_wp2_with fail
 refine (cR2.out _ m3.out.pr m3.out.mo).mono ?_;rintro e' w4 ⟨z4, rfl, hv4, hp4, ho4⟩;obtain ⟨q4a, q4b, rfl⟩ := hv4.agg;have hT4 := (Array.getElem?_eq_some_iff.1 b3.out).1;have m4 := Lib.hid (m3.out.step hR hp4 ho4);have b4 := Lib.hid (heldB ho4 b3.out (by omega));clear m3 b3 hp4 ho4;replace hv4 := Lib.hid hv4;go_wp2_with fail
 refine (under_any hv4.out (by omega) 41 0 0 []).mono ?_;rintro e' w5 ⟨z5, rfl, hv5, hb5⟩;obtain ⟨p1, p2, rfl⟩ := hv5.agg;have hT := (Array.getElem?_eq_some_iff.1 b4.out).1;have m5 := m4.out.below hb5;have b5 := heldF (Only.of_below (F := fun _ => False) hb5) b4.out (fun h => h);obtain ⟨y0, y1, y2, y3, y4, y5⟩ := cells3 b5;obtain ⟨l1, l2⟩ := laid3 m5 (Nat.le_refl _) hml b5 (hv5.mono (fun k _ hk => by
   rcases hk with hk | hk
   · exact ⟨by omega, by omega⟩
   · exact ⟨by omega, by omega⟩))
 replace l1 := Lib.hid l1; replace l2 := Lib.hid l2;clear m4 b4 m5 b5 hb5 hv5 hv4;go_wp2_with fail
 exact bodyPost_ret (ret_ch rfl rfl l1.out rfl) rfl l2.out
set_option maxRecDepth 20000 in
set_option maxHeartbeats 2000000 in
theorem prim_fork_ok {R cap n : Nat} {a : Option Addr} {ks : List Tk} (hR : 2 ≠ R) {w : World} {i : Nat} (h : PR w R a cap n ks i) (hM : MakesOK w)
   {kd : Nat} {tx : List UInt8} {nu at_ : Nat} (ht : tkAt ks i = ⟨kd, tx, nu, at_⟩) (q2 : ((kd : Int) == 2) = false) (q3 : ((kd : Int) == 3) = false)
   (hq_cM0 : markT ks i = B.fork)
   {G2 : Nat → St Ch} (hP2 : DoesA 57 #[rp R] G2 R a cap n ks)
   {c : Ch} {j : Nat} (hg2 : G2 ((i + 1)) = .ok c j) (hn2 : c.n ≤ 10000000) :
   Calls Tryz.prog 132 #[rp R] w (Took (.ok (c.under 53 0 []) j) w R a cap n ks) := by
 have m0 := Lib.hid ((Mid.start h hM).alloc chZ);have hRl := h.lt;have hml := hM.lt;have b0 := Lib.hid (heap_alloc_new w chZ);have kA := ahead_any m0.out.pr;rw [ht] at kA;unfold tkV at kA;dsimp only at kA;replace kA := Lib.hid kA;have cM0 := Lib.hid (fun W (h : Mid w W R a cap n ks i) => mark_call h hq_cM0);have cW1 := Lib.hid (fun W (hp : PR W R a cap n ks i) => want_ok hp (by decide) hq_cM0);have cR2 := Lib.hid (fun W (hp : PR W R a cap n ks (i + 1)) (hm : MakesOK W) => doesA_ok hP2 hp hm hg2);unfold rp B.fork at cM0;unfold rp B.fork at cW1;unfold rp at cR2;clear h hM ht hq_cM0 hP2 hg2;unfold rp;go_enter Tryz.func132, Tryz.ntmps132
 go_wp2_with fail
 refine kA.out.mono ?_;rintro e' w1 ⟨rfl, hb1⟩;have m1 := Lib.hid ((m0.out.below hb1).alloc (.cells #[.int .u8 (kd : Int), .string ⟨tx.toArray⟩, .int .i64 (nu : Int), .int .i64 (at_ : Int)] 54));have b1 := Lib.hid (heldA (heldF (Only.of_below (F := fun _ => False) hb1) b0.out (fun h => h)) (.cells #[.int .u8 (kd : Int), .string ⟨tx.toArray⟩, .int .i64 (nu : Int), .int .i64 (at_ : Int)] 54));clear m0 b0 hb1 kA;go_wp2_with fail
 refine (cM0.out _ m1.out).mono ?_;rintro e' w2 ⟨rfl, hb2⟩;have m2 := Lib.hid (m1.out.below hb2);have b2 := Lib.hid (heldF (Only.of_below (F := fun _ => False) hb2) b1.out (fun h => h));clear b1;clear m1;clear hb2;go_wp2_with fail
 refine (cW1.out _ m2.out.pr).mono ?_;rintro e' w3 ⟨rfl, hp3, ho3⟩;have m3 := Lib.hid (m2.out.step hR hp3 ho3);have b3 := Lib.hid (heldB ho3 b2.out (by omega));clear b2;clear m2;clear hp3 ho3;go_wp2_with fail
 refine (cR2.out _ m3.out.pr m3.out.mo).mono ?_;rintro e' w4 ⟨z4, rfl, hv4, hp4, ho4⟩;obtain ⟨q4a, q4b, rfl⟩ := hv4.agg;have hT4 := (Array.getElem?_eq_some_iff.1 b3.out).1;have m4 := Lib.hid (m3.out.step hR hp4 ho4);have b4 := Lib.hid (heldB ho4 b3.out (by omega));clear m3 b3 hp4 ho4;replace hv4 := Lib.hid hv4;go_wp2_with fail
 refine (under_any hv4.out (by omega) 53 0 0 []).mono ?_;rintro e' w5 ⟨z5, rfl, hv5, hb5⟩;obtain ⟨p1, p2, rfl⟩ := hv5.agg;have hT := (Array.getElem?_eq_some_iff.1 b4.out).1;have m5 := m4.out.below hb5;have b5 := heldF (Only.of_below (F := fun _ => False) hb5) b4.out (fun h => h);obtain ⟨y0, y1, y2, y3, y4, y5⟩ := cells3 b5;obtain ⟨l1, l2⟩ := laid3 m5 (Nat.le_refl _) hml b5 (hv5.mono (fun k _ hk => by
   rcases hk with hk | hk
   · exact ⟨by omega, by omega⟩
   · exact ⟨by omega, by omega⟩))
 replace l1 := Lib.hid l1; replace l2 := Lib.hid l2;clear m4 b4 m5 b5 hb5 hv5 hv4;go_wp2_with fail
 exact bodyPost_ret (ret_ch rfl rfl l1.out rfl) rfl l2.out
set_option maxRecDepth 20000 in
set_option maxHeartbeats 2000000 in
theorem prim_call_ok {R cap n : Nat} {a : Option Addr} {ks : List Tk} (hR : 2 ≠ R) {w : World} {i : Nat} (h : PR w R a cap n ks i) (hM : MakesOK w)
   {kd : Nat} {tx : List UInt8} {nu at_ : Nat} (ht : tkAt ks i = ⟨kd, tx, nu, at_⟩) (q2 : ((kd : Int) == 2) = false) (q3 : ((kd : Int) == 3) = false)
   (hq_cM0 : markT ks i = B.call)
   {x : List UInt8} {k : Nat} (ho_cO2 : ownT ks (i + 1) = .ok x k)
   {G3 : Nat → St Ch} (hP3 : DoesA 54 #[rp R, .string ⟨B.opn.toArray⟩, .func (.func 35) #[rp R] #[], .string ⟨B.cls.toArray⟩] G3 R a cap n ks)
   {c : Ch} {l : Nat} (hg3 : G3 k = .ok c l) (hn3 : c.n ≤ 10000000) :
   Calls Tryz.prog 132 #[rp R] w (Took (.ok (c.under (opOfT B.call) 0 x) l) w R a cap n ks) := by
 have m0 := Lib.hid ((Mid.start h hM).alloc chZ);have hRl := h.lt;have hml := hM.lt;have b0 := Lib.hid (heap_alloc_new w chZ);have kA := ahead_any m0.out.pr;rw [ht] at kA;unfold tkV at kA;dsimp only at kA;replace kA := Lib.hid kA;have cM0 := Lib.hid (fun W (h : Mid w W R a cap n ks i) => mark_call h hq_cM0);have cW1 := Lib.hid (fun W (hp : PR W R a cap n ks i) => want_ok hp (by decide) hq_cM0);have cO2 := Lib.hid (fun W (hp : PR W R a cap n ks (i + 1)) => own_ok hp ho_cO2);have cR3 := Lib.hid (fun W (hp : PR W R a cap n ks k) (hm : MakesOK W) => doesA_ok hP3 hp hm hg3);have cF4 := Lib.hid (fun W (h : Mid w W R a cap n ks l) => opOf_any B.call h.mo);unfold rp B.call at cM0;unfold rp B.call at cW1;unfold rp at cO2;unfold rp B.opn B.cls at cR3;unfold B.call at cF4;clear h hM ht hq_cM0 ho_cO2 hP3 hg3;unfold rp;go_enter Tryz.func132, Tryz.ntmps132
 go_wp2_with fail
 refine kA.out.mono ?_;rintro e' w1 ⟨rfl, hb1⟩;have m1 := Lib.hid ((m0.out.below hb1).alloc (.cells #[.int .u8 (kd : Int), .string ⟨tx.toArray⟩, .int .i64 (nu : Int), .int .i64 (at_ : Int)] 54));have b1 := Lib.hid (heldA (heldF (Only.of_below (F := fun _ => False) hb1) b0.out (fun h => h)) (.cells #[.int .u8 (kd : Int), .string ⟨tx.toArray⟩, .int .i64 (nu : Int), .int .i64 (at_ : Int)] 54));clear m0 b0 hb1 kA;go_wp2_with fail
 refine (cM0.out _ m1.out).mono ?_;rintro e' w2 ⟨rfl, hb2⟩;have m2 := Lib.hid (m1.out.below hb2);have b2 := Lib.hid (heldF (Only.of_below (F := fun _ => False) hb2) b1.out (fun h => h));clear b1;clear m1;clear hb2;go_wp2_with fail
 refine (cW1.out _ m2.out.pr).mono ?_;rintro e' w3 ⟨rfl, hp3, ho3⟩;have m3 := Lib.hid (m2.out.step hR hp3 ho3);have b3 := Lib.hid (heldB ho3 b2.out (by omega));clear b2;clear m2;clear hp3 ho3;go_wp2_with fail
 refine (cO2.out _ m3.out.pr).mono ?_;rintro e' w4 ⟨rfl, hp4, ho4⟩;have m4 := Lib.hid (m3.out.step hR hp4 ho4);have b4 := Lib.hid (heldB ho4 b3.out (by omega));clear b3;clear m3;clear hp4 ho4;go_wp2_with fail
 refine (cR3.out _ m4.out.pr m4.out.mo).mono ?_;rintro e' w5 ⟨z5, rfl, hv5, hp5, ho5⟩;obtain ⟨q5a, q5b, rfl⟩ := hv5.agg;have hT5 := (Array.getElem?_eq_some_iff.1 b4.out).1;have m5 := Lib.hid (m4.out.step hR hp5 ho5);have b5 := Lib.hid (heldB ho5 b4.out (by omega));clear m4 b4 hp5 ho5;replace hv5 := Lib.hid hv5;go_wp2_with fail
 refine (cF4.out _ m5.out).mono ?_;rintro e' w6 ⟨rfl, hb6⟩;have m6 := Lib.hid (m5.out.below hb6);have b6 := Lib.hid (heldF (Only.of_below (F := fun _ => False) hb6) b5.out (fun h => h));clear b5;replace hv5 := Lib.hid (ChV.below hv5.out hb6);clear m5;clear hb6;go_wp2_with fail
 refine (under_any hv5.out (by omega) (opOfT B.call) 0 0 x).mono ?_;rintro e' w7 ⟨z7, rfl, hv7, hb7⟩;obtain ⟨p1, p2, rfl⟩ := hv7.agg;have hT := (Array.getElem?_eq_some_iff.1 b6.out).1;have m7 := m6.out.below hb7;have b7 := heldF (Only.of_below (F := fun _ => False) hb7) b6.out (fun h => h);obtain ⟨y0, y1, y2, y3, y4, y5⟩ := cells3 b7;obtain ⟨l1, l2⟩ := laid3 m7 (Nat.le_refl _) hml b7 (hv7.mono (fun k _ hk => by
   rcases hk with hk | hk
   · exact ⟨by omega, by omega⟩
   · exact ⟨by omega, by omega⟩))
 replace l1 := Lib.hid l1; replace l2 := Lib.hid l2;clear m6 b6 m7 b7 hb7 hv7 hv5;go_wp2_with fail
 exact bodyPost_ret (ret_ch rfl rfl l1.out rfl) rfl l2.out
set_option maxRecDepth 20000 in
set_option maxHeartbeats 2000000 in
theorem prim_child_ok {R cap n : Nat} {a : Option Addr} {ks : List Tk} (hR : 2 ≠ R) {w : World} {i : Nat} (h : PR w R a cap n ks i) (hM : MakesOK w)
   {kd : Nat} {tx : List UInt8} {nu at_ : Nat} (ht : tkAt ks i = ⟨kd, tx, nu, at_⟩) (q2 : ((kd : Int) == 2) = false) (q3 : ((kd : Int) == 3) = false)
   (hq_cM0 : markT ks i = B.child)
   {x : List UInt8} {k : Nat} (ho_cO2 : ownT ks (i + 1) = .ok x k)
   {G3 : Nat → St Ch} (hP3 : DoesA 54 #[rp R, .string ⟨B.opn.toArray⟩, .func (.func 35) #[rp R] #[], .string ⟨B.cls.toArray⟩] G3 R a cap n ks)
   {c : Ch} {l : Nat} (hg3 : G3 k = .ok c l) (hn3 : c.n ≤ 10000000) :
   Calls Tryz.prog 132 #[rp R] w (Took (.ok (c.under (opOfT B.child) 0 x) l) w R a cap n ks) := by
 have m0 := Lib.hid ((Mid.start h hM).alloc chZ);have hRl := h.lt;have hml := hM.lt;have b0 := Lib.hid (heap_alloc_new w chZ);have kA := ahead_any m0.out.pr;rw [ht] at kA;unfold tkV at kA;dsimp only at kA;replace kA := Lib.hid kA;have cM0 := Lib.hid (fun W (h : Mid w W R a cap n ks i) => mark_call h hq_cM0);have cW1 := Lib.hid (fun W (hp : PR W R a cap n ks i) => want_ok hp (by decide) hq_cM0);have cO2 := Lib.hid (fun W (hp : PR W R a cap n ks (i + 1)) => own_ok hp ho_cO2);have cR3 := Lib.hid (fun W (hp : PR W R a cap n ks k) (hm : MakesOK W) => doesA_ok hP3 hp hm hg3);have cF4 := Lib.hid (fun W (h : Mid w W R a cap n ks l) => opOf_any B.child h.mo);unfold rp B.child at cM0;unfold rp B.child at cW1;unfold rp at cO2;unfold rp B.opn B.cls at cR3;unfold B.child at cF4;clear h hM ht hq_cM0 ho_cO2 hP3 hg3;unfold rp;go_enter Tryz.func132, Tryz.ntmps132
 go_wp2_with fail
 refine kA.out.mono ?_;rintro e' w1 ⟨rfl, hb1⟩;have m1 := Lib.hid ((m0.out.below hb1).alloc (.cells #[.int .u8 (kd : Int), .string ⟨tx.toArray⟩, .int .i64 (nu : Int), .int .i64 (at_ : Int)] 54));have b1 := Lib.hid (heldA (heldF (Only.of_below (F := fun _ => False) hb1) b0.out (fun h => h)) (.cells #[.int .u8 (kd : Int), .string ⟨tx.toArray⟩, .int .i64 (nu : Int), .int .i64 (at_ : Int)] 54));clear m0 b0 hb1 kA;go_wp2_with fail
 refine (cM0.out _ m1.out).mono ?_;rintro e' w2 ⟨rfl, hb2⟩;have m2 := Lib.hid (m1.out.below hb2);have b2 := Lib.hid (heldF (Only.of_below (F := fun _ => False) hb2) b1.out (fun h => h));clear b1;clear m1;clear hb2;go_wp2_with fail
 refine (cW1.out _ m2.out.pr).mono ?_;rintro e' w3 ⟨rfl, hp3, ho3⟩;have m3 := Lib.hid (m2.out.step hR hp3 ho3);have b3 := Lib.hid (heldB ho3 b2.out (by omega));clear b2;clear m2;clear hp3 ho3;go_wp2_with fail
 refine (cO2.out _ m3.out.pr).mono ?_;rintro e' w4 ⟨rfl, hp4, ho4⟩;have m4 := Lib.hid (m3.out.step hR hp4 ho4);have b4 := Lib.hid (heldB ho4 b3.out (by omega));clear b3;clear m3;clear hp4 ho4;go_wp2_with fail
 refine (cR3.out _ m4.out.pr m4.out.mo).mono ?_;rintro e' w5 ⟨z5, rfl, hv5, hp5, ho5⟩;obtain ⟨q5a, q5b, rfl⟩ := hv5.agg;have hT5 := (Array.getElem?_eq_some_iff.1 b4.out).1;have m5 := Lib.hid (m4.out.step hR hp5 ho5);have b5 := Lib.hid (heldB ho5 b4.out (by omega));clear m4 b4 hp5 ho5;replace hv5 := Lib.hid hv5;go_wp2_with fail
 refine (cF4.out _ m5.out).mono ?_;rintro e' w6 ⟨rfl, hb6⟩;have m6 := Lib.hid (m5.out.below hb6);have b6 := Lib.hid (heldF (Only.of_below (F := fun _ => False) hb6) b5.out (fun h => h));clear b5;replace hv5 := Lib.hid (ChV.below hv5.out hb6);clear m5;clear hb6;go_wp2_with fail
 refine (under_any hv5.out (by omega) (opOfT B.child) 0 0 x).mono ?_;rintro e' w7 ⟨z7, rfl, hv7, hb7⟩;obtain ⟨p1, p2, rfl⟩ := hv7.agg;have hT := (Array.getElem?_eq_some_iff.1 b6.out).1;have m7 := m6.out.below hb7;have b7 := heldF (Only.of_below (F := fun _ => False) hb7) b6.out (fun h => h);obtain ⟨y0, y1, y2, y3, y4, y5⟩ := cells3 b7;obtain ⟨l1, l2⟩ := laid3 m7 (Nat.le_refl _) hml b7 (hv7.mono (fun k _ hk => by
   rcases hk with hk | hk
   · exact ⟨by omega, by omega⟩
   · exact ⟨by omega, by omega⟩))
 replace l1 := Lib.hid l1; replace l2 := Lib.hid l2;clear m6 b6 m7 b7 hb7 hv7 hv5;go_wp2_with fail
 exact bodyPost_ret (ret_ch rfl rfl l1.out rfl) rfl l2.out
set_option maxRecDepth 20000 in
set_option maxHeartbeats 2000000 in
theorem prim_list_bad {R cap n : Nat} {a : Option Addr} {ks : List Tk} (hR : 2 ≠ R) {w : World} {i : Nat} (h : PR w R a cap n ks i) (hM : MakesOK w)
   {kd : Nat} {tx : List UInt8} {nu at_ : Nat} (ht : tkAt ks i = ⟨kd, tx, nu, at_⟩) (q2 : ((kd : Int) == 2) = false) (q3 : ((kd : Int) == 3) = false)
   (hq_cM0 : markT ks i = B.lsq)
   {G1 : Nat → St Ch} (hP1 : DoesA 54 #[rp R, .string ⟨B.lsq.toArray⟩, .func (.func 35) #[rp R] #[], .string ⟨B.rsq.toArray⟩] G1 R a cap n ks)
   {j : Nat} (hg1 : G1 i = .bad j) :
   Calls Tryz.prog 132 #[rp R] w (Took (.bad j) w R a cap n ks) := by
 have m0 := Lib.hid ((Mid.start h hM).alloc chZ);have hRl := h.lt;have hml := hM.lt;have b0 := Lib.hid (heap_alloc_new w chZ);have kA := ahead_any m0.out.pr;rw [ht] at kA;unfold tkV at kA;dsimp only at kA;replace kA := Lib.hid kA;have cM0 := Lib.hid (fun W (h : Mid w W R a cap n ks i) => mark_call h hq_cM0);have cR1 := Lib.hid (fun W (hp : PR W R a cap n ks i) (hm : MakesOK W) => doesA_bad hP1 hp hm hg1);unfold rp B.lsq at cM0;unfold rp B.lsq B.rsq at cR1;clear h hM ht hq_cM0 hP1 hg1;unfold rp;go_enter Tryz.func132, Tryz.ntmps132
 go_wp2_with fail
 refine kA.out.mono ?_;rintro e' w1 ⟨rfl, hb1⟩;have m1 := Lib.hid ((m0.out.below hb1).alloc (.cells #[.int .u8 (kd : Int), .string ⟨tx.toArray⟩, .int .i64 (nu : Int), .int .i64 (at_ : Int)] 54));have b1 := Lib.hid (heldA (heldF (Only.of_below (F := fun _ => False) hb1) b0.out (fun h => h)) (.cells #[.int .u8 (kd : Int), .string ⟨tx.toArray⟩, .int .i64 (nu : Int), .int .i64 (at_ : Int)] 54));clear m0 b0 hb1 kA;go_wp2_with fail
 refine (cM0.out _ m1.out).mono ?_;rintro e' w2 ⟨rfl, hb2⟩;have m2 := Lib.hid (m1.out.below hb2);have b2 := Lib.hid (heldF (Only.of_below (F := fun _ => False) hb2) b1.out (fun h => h));clear b1;clear m1;clear hb2;go_wp2_with fail
 refine (cR1.out _ m2.out.pr m2.out.mo).mono ?_;rintro e' w3 ⟨rfl, hb3⟩;go_wp2_with fail
 exact ⟨rfl, rfl, m2.out.bad hb3⟩
set_option maxRecDepth 20000 in
set_option maxHeartbeats 2000000 in
theorem prim_paren_bad {R cap n : Nat} {a : Option Addr} {ks : List Tk} (hR : 2 ≠ R) {w : World} {i : Nat} (h : PR w R a cap n ks i) (hM : MakesOK w)
   {kd : Nat} {tx : List UInt8} {nu at_ : Nat} (ht : tkAt ks i = ⟨kd, tx, nu, at_⟩) (q2 : ((kd : Int) == 2) = false) (q3 : ((kd : Int) == 3) = false)
   (hq_cM0 : markT ks i = B.opn)
   {G1 : Nat → St Ch} (hP1 : DoesA 80 #[rp R, .string ⟨B.opn.toArray⟩, .func (.func 35) #[rp R] #[], .string ⟨B.cls.toArray⟩] G1 R a cap n ks)
   {j : Nat} (hg1 : G1 i = .bad j) :
   Calls Tryz.prog 132 #[rp R] w (Took (.bad j) w R a cap n ks) := by
 have m0 := Lib.hid ((Mid.start h hM).alloc chZ);have hRl := h.lt;have hml := hM.lt;have b0 := Lib.hid (heap_alloc_new w chZ);have kA := ahead_any m0.out.pr;rw [ht] at kA;unfold tkV at kA;dsimp only at kA;replace kA := Lib.hid kA;have cM0 := Lib.hid (fun W (h : Mid w W R a cap n ks i) => mark_call h hq_cM0);have cR1 := Lib.hid (fun W (hp : PR W R a cap n ks i) (hm : MakesOK W) => doesA_bad hP1 hp hm hg1);unfold rp B.opn at cM0;unfold rp B.opn B.cls at cR1;clear h hM ht hq_cM0 hP1 hg1;unfold rp;go_enter Tryz.func132, Tryz.ntmps132
 go_wp2_with fail
 refine kA.out.mono ?_;rintro e' w1 ⟨rfl, hb1⟩;have m1 := Lib.hid ((m0.out.below hb1).alloc (.cells #[.int .u8 (kd : Int), .string ⟨tx.toArray⟩, .int .i64 (nu : Int), .int .i64 (at_ : Int)] 54));have b1 := Lib.hid (heldA (heldF (Only.of_below (F := fun _ => False) hb1) b0.out (fun h => h)) (.cells #[.int .u8 (kd : Int), .string ⟨tx.toArray⟩, .int .i64 (nu : Int), .int .i64 (at_ : Int)] 54));clear m0 b0 hb1 kA;go_wp2_with fail
 refine (cM0.out _ m1.out).mono ?_;rintro e' w2 ⟨rfl, hb2⟩;have m2 := Lib.hid (m1.out.below hb2);have b2 := Lib.hid (heldF (Only.of_below (F := fun _ => False) hb2) b1.out (fun h => h));clear b1;clear m1;clear hb2;go_wp2_with fail
 refine (cR1.out _ m2.out.pr m2.out.mo).mono ?_;rintro e' w3 ⟨rfl, hb3⟩;go_wp2_with fail
 exact ⟨rfl, rfl, m2.out.bad hb3⟩
set_option maxRecDepth 20000 in
set_option maxHeartbeats 2000000 in
theorem prim_len_bad {R cap n : Nat} {a : Option Addr} {ks : List Tk} (hR : 2 ≠ R) {w : World} {i : Nat} (h : PR w R a cap n ks i) (hM : MakesOK w)
   {kd : Nat} {tx : List UInt8} {nu at_ : Nat} (ht : tkAt ks i = ⟨kd, tx, nu, at_⟩) (q2 : ((kd : Int) == 2) = false) (q3 : ((kd : Int) == 3) = false)
   (hq_cM0 : markT ks i = B.len)
   {G2 : Nat → St Ch} (hP2 : DoesA 80 #[rp R, .string ⟨B.opn.toArray⟩, .func (.func 35) #[rp R] #[], .string ⟨B.cls.toArray⟩] G2 R a cap n ks)
   {j : Nat} (hg2 : G2 ((i + 1)) = .bad j) :
   Calls Tryz.prog 132 #[rp R] w (Took (.bad j) w R a cap n ks) := by
 have m0 := Lib.hid ((Mid.start h hM).alloc chZ);have hRl := h.lt;have hml := hM.lt;have b0 := Lib.hid (heap_alloc_new w chZ);have kA := ahead_any m0.out.pr;rw [ht] at kA;unfold tkV at kA;dsimp only at kA;replace kA := Lib.hid kA;have cM0 := Lib.hid (fun W (h : Mid w W R a cap n ks i) => mark_call h hq_cM0);have cW1 := Lib.hid (fun W (hp : PR W R a cap n ks i) => want_ok hp (by decide) hq_cM0);have cR2 := Lib.hid (fun W (hp : PR W R a cap n ks (i + 1)) (hm : MakesOK W) => doesA_bad hP2 hp hm hg2);unfold rp B.len at cM0;unfold rp B.len at cW1;unfold rp B.opn B.cls at cR2;clear h hM ht hq_cM0 hP2 hg2;unfold rp;go_enter Tryz.func132, Tryz.ntmps132
 go_wp2_with fail
 refine kA.out.mono ?_;rintro e' w1 ⟨rfl, hb1⟩;have m1 := Lib.hid ((m0.out.below hb1).alloc (.cells #[.int .u8 (kd : Int), .string ⟨tx.toArray⟩, .int .i64 (nu : Int), .int .i64 (at_ : Int)] 54));have b1 := Lib.hid (heldA (heldF (Only.of_below (F := fun _ => False) hb1) b0.out (fun h => h)) (.cells #[.int .u8 (kd : Int), .string ⟨tx.toArray⟩, .int .i64 (nu : Int), .int .i64 (at_ : Int)] 54));clear m0 b0 hb1 kA;go_wp2_with fail
 refine (cM0.out _ m1.out).mono ?_;rintro e' w2 ⟨rfl, hb2⟩;have m2 := Lib.hid (m1.out.below hb2);have b2 := Lib.hid (heldF (Only.of_below (F := fun _ => False) hb2) b1.out (fun h => h));clear b1;clear m1;clear hb2;go_wp2_with fail
 refine (cW1.out _ m2.out.pr).mono ?_;rintro e' w3 ⟨rfl, hp3, ho3⟩;have m3 := Lib.hid (m2.out.step hR hp3 ho3);have b3 := Lib.hid (heldB ho3 b2.out (by omega));clear b2;clear m2;clear hp3 ho3;go_wp2_with fail
 refine (cR2.out _ m3.out.pr m3.out.mo).mono ?_;rintro e' w4 ⟨rfl, hb4⟩;go_wp2_with fail
 exact ⟨rfl, rfl, m3.out.bad hb4⟩
set_option maxRecDepth 20000 in
set_option maxHeartbeats 2000000 in
theorem prim_re_bad {R cap n : Nat} {a : Option Addr} {ks : List Tk} (hR : 2 ≠ R) {w : World} {i : Nat} (h : PR w R a cap n ks i) (hM : MakesOK w)
   {kd : Nat} {tx : List UInt8} {nu at_ : Nat} (ht : tkAt ks i = ⟨kd, tx, nu, at_⟩) (q2 : ((kd : Int) == 2) = false) (q3 : ((kd : Int) == 3) = false)
   (hq_cM0 : markT ks i = B.re)
   {G2 : Nat → St Ch} (hP2 : DoesA 80 #[rp R, .string ⟨B.opn.toArray⟩, .func (.func 35) #[rp R] #[], .string ⟨B.cls.toArray⟩] G2 R a cap n ks)
   {j : Nat} (hg2 : G2 ((i + 1)) = .bad j) :
   Calls Tryz.prog 132 #[rp R] w (Took (.bad j) w R a cap n ks) := by
 have m0 := Lib.hid ((Mid.start h hM).alloc chZ);have hRl := h.lt;have hml := hM.lt;have b0 := Lib.hid (heap_alloc_new w chZ);have kA := ahead_any m0.out.pr;rw [ht] at kA;unfold tkV at kA;dsimp only at kA;replace kA := Lib.hid kA;have cM0 := Lib.hid (fun W (h : Mid w W R a cap n ks i) => mark_call h hq_cM0);have cW1 := Lib.hid (fun W (hp : PR W R a cap n ks i) => want_ok hp (by decide) hq_cM0);have cR2 := Lib.hid (fun W (hp : PR W R a cap n ks (i + 1)) (hm : MakesOK W) => doesA_bad hP2 hp hm hg2);unfold rp B.re at cM0;unfold rp B.re at cW1;unfold rp B.opn B.cls at cR2;clear h hM ht hq_cM0 hP2 hg2;unfold rp;go_enter Tryz.func132, Tryz.ntmps132
 go_wp2_with fail
 refine kA.out.mono ?_;rintro e' w1 ⟨rfl, hb1⟩;have m1 := Lib.hid ((m0.out.below hb1).alloc (.cells #[.int .u8 (kd : Int), .string ⟨tx.toArray⟩, .int .i64 (nu : Int), .int .i64 (at_ : Int)] 54));have b1 := Lib.hid (heldA (heldF (Only.of_below (F := fun _ => False) hb1) b0.out (fun h => h)) (.cells #[.int .u8 (kd : Int), .string ⟨tx.toArray⟩, .int .i64 (nu : Int), .int .i64 (at_ : Int)] 54));clear m0 b0 hb1 kA;go_wp2_with fail
 refine (cM0.out _ m1.out).mono ?_;rintro e' w2 ⟨rfl, hb2⟩;have m2 := Lib.hid (m1.out.below hb2);have b2 := Lib.hid (heldF (Only.of_below (F := fun _ => False) hb2) b1.out (fun h => h));clear b1;clear m1;clear hb2;go_wp2_with fail
 refine (cW1.out _ m2.out.pr).mono ?_;rintro e' w3 ⟨rfl, hp3, ho3⟩;have m3 := Lib.hid (m2.out.step hR hp3 ho3);have b3 := Lib.hid (heldB ho3 b2.out (by omega));clear b2;clear m2;clear hp3 ho3;go_wp2_with fail
 refine (cR2.out _ m3.out.pr m3.out.mo).mono ?_;rintro e' w4 ⟨rfl, hb4⟩;go_wp2_with fail
 exact ⟨rfl, rfl, m3.out.bad hb4⟩
end Go.Proofs.YtjiemkidmlgbeaaGreatDoor
