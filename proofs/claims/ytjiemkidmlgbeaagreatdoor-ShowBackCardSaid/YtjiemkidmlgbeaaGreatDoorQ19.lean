/- A part of the proof: PPrim2. No condition. -/
import Derived.Test.YtjiemkidmlgbeaaGreatDoorQ18
set_option linter.unusedVariables false
set_option linter.unusedSimpArgs false
namespace Go.Proofs.YtjiemkidmlgbeaaGreatDoor
open Go.RowKit Go.Shelf Tok
set_option maxRecDepth 20000 in
set_option maxHeartbeats 2000000 in
theorem prim_im_bad {R cap n : Nat} {a : Option Addr} {ks : List Tk} (hR : 2 ≠ R) {w : World} {i : Nat} (h : PR w R a cap n ks i) (hM : MakesOK w)
   {kd : Nat} {tx : List UInt8} {nu at_ : Nat} (ht : tkAt ks i = ⟨kd, tx, nu, at_⟩) (q2 : ((kd : Int) == 2) = false) (q3 : ((kd : Int) == 3) = false)
   (hq_cM0 : markT ks i = B.im)
   {G2 : Nat → St Ch} (hP2 : DoesA 80 #[rp R, .string ⟨B.opn.toArray⟩, .func (.func 35) #[rp R] #[], .string ⟨B.cls.toArray⟩] G2 R a cap n ks)
   {j : Nat} (hg2 : G2 ((i + 1)) = .bad j) :
   Calls Tryz.prog 132 #[rp R] w (Took (.bad j) w R a cap n ks) := by
 have m0 := Lib.hid ((Mid.start h hM).alloc chZ);have hRl := h.lt;have hml := hM.lt;have b0 := Lib.hid (heap_alloc_new w chZ);have kA := ahead_any m0.out.pr;rw [ht] at kA;unfold tkV at kA;dsimp only at kA;replace kA := Lib.hid kA;have cM0 := Lib.hid (fun W (h : Mid w W R a cap n ks i) => mark_call h hq_cM0);have cW1 := Lib.hid (fun W (hp : PR W R a cap n ks i) => want_ok hp (by decide) hq_cM0);have cR2 := Lib.hid (fun W (hp : PR W R a cap n ks (i + 1)) (hm : MakesOK W) => doesA_bad hP2 hp hm hg2);unfold rp B.im at cM0;unfold rp B.im at cW1;unfold rp B.opn B.cls at cR2;clear h hM ht hq_cM0 hP2 hg2;unfold rp;go_enter Tryz.func132, Tryz.ntmps132
 go_wp2_with fail
 refine kA.out.mono ?_;rintro e' w1 ⟨rfl, hb1⟩;have m1 := Lib.hid ((m0.out.below hb1).alloc (.cells #[.int .u8 (kd : Int), .string ⟨tx.toArray⟩, .int .i64 (nu : Int), .int .i64 (at_ : Int)] 54));have b1 := Lib.hid (heldA (heldF (Only.of_below (F := fun _ => False) hb1) b0.out (fun h => h)) (.cells #[.int .u8 (kd : Int), .string ⟨tx.toArray⟩, .int .i64 (nu : Int), .int .i64 (at_ : Int)] 54));clear m0 b0 hb1 kA;go_wp2_with fail
 refine (cM0.out _ m1.out).mono ?_;rintro e' w2 ⟨rfl, hb2⟩;have m2 := Lib.hid (m1.out.below hb2);have b2 := Lib.hid (heldF (Only.of_below (F := fun _ => False) hb2) b1.out (fun h => h));clear b1;clear m1;clear hb2;go_wp2_with fail
 refine (cW1.out _ m2.out.pr).mono ?_;rintro e' w3 ⟨rfl, hp3, ho3⟩;have m3 := Lib.hid (m2.out.step hR hp3 ho3);have b3 := Lib.hid (heldB ho3 b2.out (by omega));clear b2;clear m2;clear hp3 ho3;go_wp2_with fail
 refine (cR2.out _ m3.out.pr m3.out.mo).mono ?_;rintro e' w4 ⟨rfl, hb4⟩;go_wp2_with fail
 exact ⟨rfl, rfl, m3.out.bad hb4⟩
set_option maxRecDepth 20000 in
set_option maxHeartbeats 2000000 in
theorem prim_conj_bad {R cap n : Nat} {a : Option Addr} {ks : List Tk} (hR : 2 ≠ R) {w : World} {i : Nat} (h : PR w R a cap n ks i) (hM : MakesOK w)
   {kd : Nat} {tx : List UInt8} {nu at_ : Nat} (ht : tkAt ks i = ⟨kd, tx, nu, at_⟩) (q2 : ((kd : Int) == 2) = false) (q3 : ((kd : Int) == 3) = false)
   (hq_cM0 : markT ks i = B.conj)
   {G2 : Nat → St Ch} (hP2 : DoesA 80 #[rp R, .string ⟨B.opn.toArray⟩, .func (.func 35) #[rp R] #[], .string ⟨B.cls.toArray⟩] G2 R a cap n ks)
   {j : Nat} (hg2 : G2 ((i + 1)) = .bad j) :
   Calls Tryz.prog 132 #[rp R] w (Took (.bad j) w R a cap n ks) := by
 have m0 := Lib.hid ((Mid.start h hM).alloc chZ);have hRl := h.lt;have hml := hM.lt;have b0 := Lib.hid (heap_alloc_new w chZ);have kA := ahead_any m0.out.pr;rw [ht] at kA;unfold tkV at kA;dsimp only at kA;replace kA := Lib.hid kA;have cM0 := Lib.hid (fun W (h : Mid w W R a cap n ks i) => mark_call h hq_cM0);have cW1 := Lib.hid (fun W (hp : PR W R a cap n ks i) => want_ok hp (by decide) hq_cM0);have cR2 := Lib.hid (fun W (hp : PR W R a cap n ks (i + 1)) (hm : MakesOK W) => doesA_bad hP2 hp hm hg2);unfold rp B.conj at cM0;unfold rp B.conj at cW1;unfold rp B.opn B.cls at cR2;clear h hM ht hq_cM0 hP2 hg2;unfold rp;go_enter Tryz.func132, Tryz.ntmps132
 go_wp2_with fail
 refine kA.out.mono ?_;rintro e' w1 ⟨rfl, hb1⟩;have m1 := Lib.hid ((m0.out.below hb1).alloc (.cells #[.int .u8 (kd : Int), .string ⟨tx.toArray⟩, .int .i64 (nu : Int), .int .i64 (at_ : Int)] 54));have b1 := Lib.hid (heldA (heldF (Only.of_below (F := fun _ => False) hb1) b0.out (fun h => h)) (.cells #[.int .u8 (kd : Int), .string ⟨tx.toArray⟩, .int .i64 (nu : Int), .int .i64 (at_ : Int)] 54));clear m0 b0 hb1 kA;go_wp2_with fail
 refine (cM0.out _ m1.out).mono ?_;rintro e' w2 ⟨rfl, hb2⟩;have m2 := Lib.hid (m1.out.below hb2);have b2 := Lib.hid (heldF (Only.of_below (F := fun _ => False) hb2) b1.out (fun h => h));clear b1;clear m1;clear hb2;go_wp2_with fail
 refine (cW1.out _ m2.out.pr).mono ?_;rintro e' w3 ⟨rfl, hp3, ho3⟩;have m3 := Lib.hid (m2.out.step hR hp3 ho3);have b3 := Lib.hid (heldB ho3 b2.out (by omega));clear b2;clear m2;clear hp3 ho3;go_wp2_with fail
 refine (cR2.out _ m3.out.pr m3.out.mo).mono ?_;rintro e' w4 ⟨rfl, hb4⟩;go_wp2_with fail
 exact ⟨rfl, rfl, m3.out.bad hb4⟩
set_option maxRecDepth 20000 in
set_option maxHeartbeats 2000000 in
theorem prim_timer_bad {R cap n : Nat} {a : Option Addr} {ks : List Tk} (hR : 2 ≠ R) {w : World} {i : Nat} (h : PR w R a cap n ks i) (hM : MakesOK w)
   {kd : Nat} {tx : List UInt8} {nu at_ : Nat} (ht : tkAt ks i = ⟨kd, tx, nu, at_⟩) (q2 : ((kd : Int) == 2) = false) (q3 : ((kd : Int) == 3) = false)
   (hq_cM0 : markT ks i = B.timer)
   {G2 : Nat → St Ch} (hP2 : DoesA 80 #[rp R, .string ⟨B.opn.toArray⟩, .func (.func 35) #[rp R] #[], .string ⟨B.cls.toArray⟩] G2 R a cap n ks)
   {j : Nat} (hg2 : G2 ((i + 1)) = .bad j) :
   Calls Tryz.prog 132 #[rp R] w (Took (.bad j) w R a cap n ks) := by
 have m0 := Lib.hid ((Mid.start h hM).alloc chZ);have hRl := h.lt;have hml := hM.lt;have b0 := Lib.hid (heap_alloc_new w chZ);have kA := ahead_any m0.out.pr;rw [ht] at kA;unfold tkV at kA;dsimp only at kA;replace kA := Lib.hid kA;have cM0 := Lib.hid (fun W (h : Mid w W R a cap n ks i) => mark_call h hq_cM0);have cW1 := Lib.hid (fun W (hp : PR W R a cap n ks i) => want_ok hp (by decide) hq_cM0);have cR2 := Lib.hid (fun W (hp : PR W R a cap n ks (i + 1)) (hm : MakesOK W) => doesA_bad hP2 hp hm hg2);unfold rp B.timer at cM0;unfold rp B.timer at cW1;unfold rp B.opn B.cls at cR2;clear h hM ht hq_cM0 hP2 hg2;unfold rp;go_enter Tryz.func132, Tryz.ntmps132
 go_wp2_with fail
 refine kA.out.mono ?_;rintro e' w1 ⟨rfl, hb1⟩;have m1 := Lib.hid ((m0.out.below hb1).alloc (.cells #[.int .u8 (kd : Int), .string ⟨tx.toArray⟩, .int .i64 (nu : Int), .int .i64 (at_ : Int)] 54));have b1 := Lib.hid (heldA (heldF (Only.of_below (F := fun _ => False) hb1) b0.out (fun h => h)) (.cells #[.int .u8 (kd : Int), .string ⟨tx.toArray⟩, .int .i64 (nu : Int), .int .i64 (at_ : Int)] 54));clear m0 b0 hb1 kA;go_wp2_with fail
 refine (cM0.out _ m1.out).mono ?_;rintro e' w2 ⟨rfl, hb2⟩;have m2 := Lib.hid (m1.out.below hb2);have b2 := Lib.hid (heldF (Only.of_below (F := fun _ => False) hb2) b1.out (fun h => h));clear b1;clear m1;clear hb2;go_wp2_with fail
 refine (cW1.out _ m2.out.pr).mono ?_;rintro e' w3 ⟨rfl, hp3, ho3⟩;have m3 := Lib.hid (m2.out.step hR hp3 ho3);have b3 := Lib.hid (heldB ho3 b2.out (by omega));clear b2;clear m2;clear hp3 ho3;go_wp2_with fail
 refine (cR2.out _ m3.out.pr m3.out.mo).mono ?_;rintro e' w4 ⟨rfl, hb4⟩;go_wp2_with fail
 exact ⟨rfl, rfl, m3.out.bad hb4⟩
set_option maxRecDepth 20000 in
set_option maxHeartbeats 2000000 in
theorem prim_num_bad {R cap n : Nat} {a : Option Addr} {ks : List Tk} (hR : 2 ≠ R) {w : World} {i : Nat} (h : PR w R a cap n ks i) (hM : MakesOK w)
   {kd : Nat} {tx : List UInt8} {nu at_ : Nat} (ht : tkAt ks i = ⟨kd, tx, nu, at_⟩) (q2 : ((kd : Int) == 2) = false) (q3 : ((kd : Int) == 3) = false)
   (hq_cM0 : markT ks i = B.num)
   {G2 : Nat → St Ch} (hP2 : DoesA 80 #[rp R, .string ⟨B.opn.toArray⟩, .func (.func 133) #[rp R] #[], .string ⟨B.cls.toArray⟩] G2 R a cap n ks)
   {j : Nat} (hg2 : G2 ((i + 1)) = .bad j) :
   Calls Tryz.prog 132 #[rp R] w (Took (.bad j) w R a cap n ks) := by
 have m0 := Lib.hid ((Mid.start h hM).alloc chZ);have hRl := h.lt;have hml := hM.lt;have b0 := Lib.hid (heap_alloc_new w chZ);have kA := ahead_any m0.out.pr;rw [ht] at kA;unfold tkV at kA;dsimp only at kA;replace kA := Lib.hid kA;have cM0 := Lib.hid (fun W (h : Mid w W R a cap n ks i) => mark_call h hq_cM0);have cW1 := Lib.hid (fun W (hp : PR W R a cap n ks i) => want_ok hp (by decide) hq_cM0);have cR2 := Lib.hid (fun W (hp : PR W R a cap n ks (i + 1)) (hm : MakesOK W) => doesA_bad hP2 hp hm hg2);unfold rp B.num at cM0;unfold rp B.num at cW1;unfold rp B.opn B.cls at cR2;clear h hM ht hq_cM0 hP2 hg2;unfold rp;go_enter Tryz.func132, Tryz.ntmps132
 go_wp2_with fail
 refine kA.out.mono ?_;rintro e' w1 ⟨rfl, hb1⟩;have m1 := Lib.hid ((m0.out.below hb1).alloc (.cells #[.int .u8 (kd : Int), .string ⟨tx.toArray⟩, .int .i64 (nu : Int), .int .i64 (at_ : Int)] 54));have b1 := Lib.hid (heldA (heldF (Only.of_below (F := fun _ => False) hb1) b0.out (fun h => h)) (.cells #[.int .u8 (kd : Int), .string ⟨tx.toArray⟩, .int .i64 (nu : Int), .int .i64 (at_ : Int)] 54));clear m0 b0 hb1 kA;go_wp2_with fail
 refine (cM0.out _ m1.out).mono ?_;rintro e' w2 ⟨rfl, hb2⟩;have m2 := Lib.hid (m1.out.below hb2);have b2 := Lib.hid (heldF (Only.of_below (F := fun _ => False) hb2) b1.out (fun h => h));clear b1;clear m1;clear hb2;go_wp2_with fail
 refine (cW1.out _ m2.out.pr).mono ?_;rintro e' w3 ⟨rfl, hp3, ho3⟩;have m3 := Lib.hid (m2.out.step hR hp3 ho3);have b3 := Lib.hid (heldB ho3 b2.out (by omega));clear b2;clear m2;clear hp3 ho3;go_wp2_with fail
 refine (cR2.out _ m3.out.pr m3.out.mo).mono ?_;rintro e' w4 ⟨rfl, hb4⟩;go_wp2_with fail
 exact ⟨rfl, rfl, m3.out.bad hb4⟩
set_option maxRecDepth 20000 in
set_option maxHeartbeats 2000000 in
theorem prim_fork_bad {R cap n : Nat} {a : Option Addr} {ks : List Tk} (hR : 2 ≠ R) {w : World} {i : Nat} (h : PR w R a cap n ks i) (hM : MakesOK w)
   {kd : Nat} {tx : List UInt8} {nu at_ : Nat} (ht : tkAt ks i = ⟨kd, tx, nu, at_⟩) (q2 : ((kd : Int) == 2) = false) (q3 : ((kd : Int) == 3) = false)
   (hq_cM0 : markT ks i = B.fork)
   {G2 : Nat → St Ch} (hP2 : DoesA 57 #[rp R] G2 R a cap n ks)
   {j : Nat} (hg2 : G2 ((i + 1)) = .bad j) :
   Calls Tryz.prog 132 #[rp R] w (Took (.bad j) w R a cap n ks) := by
 have m0 := Lib.hid ((Mid.start h hM).alloc chZ);have hRl := h.lt;have hml := hM.lt;have b0 := Lib.hid (heap_alloc_new w chZ);have kA := ahead_any m0.out.pr;rw [ht] at kA;unfold tkV at kA;dsimp only at kA;replace kA := Lib.hid kA;have cM0 := Lib.hid (fun W (h : Mid w W R a cap n ks i) => mark_call h hq_cM0);have cW1 := Lib.hid (fun W (hp : PR W R a cap n ks i) => want_ok hp (by decide) hq_cM0);have cR2 := Lib.hid (fun W (hp : PR W R a cap n ks (i + 1)) (hm : MakesOK W) => doesA_bad hP2 hp hm hg2);unfold rp B.fork at cM0;unfold rp B.fork at cW1;unfold rp at cR2;clear h hM ht hq_cM0 hP2 hg2;unfold rp;go_enter Tryz.func132, Tryz.ntmps132
 go_wp2_with fail
 refine kA.out.mono ?_;rintro e' w1 ⟨rfl, hb1⟩;have m1 := Lib.hid ((m0.out.below hb1).alloc (.cells #[.int .u8 (kd : Int), .string ⟨tx.toArray⟩, .int .i64 (nu : Int), .int .i64 (at_ : Int)] 54));have b1 := Lib.hid (heldA (heldF (Only.of_below (F := fun _ => False) hb1) b0.out (fun h => h)) (.cells #[.int .u8 (kd : Int), .string ⟨tx.toArray⟩, .int .i64 (nu : Int), .int .i64 (at_ : Int)] 54));clear m0 b0 hb1 kA;go_wp2_with fail
 refine (cM0.out _ m1.out).mono ?_;rintro e' w2 ⟨rfl, hb2⟩;have m2 := Lib.hid (m1.out.below hb2);have b2 := Lib.hid (heldF (Only.of_below (F := fun _ => False) hb2) b1.out (fun h => h));clear b1;clear m1;clear hb2;go_wp2_with fail
 refine (cW1.out _ m2.out.pr).mono ?_;rintro e' w3 ⟨rfl, hp3, ho3⟩;have m3 := Lib.hid (m2.out.step hR hp3 ho3);have b3 := Lib.hid (heldB ho3 b2.out (by omega));clear b2;clear m2;clear hp3 ho3;go_wp2_with fail
 refine (cR2.out _ m3.out.pr m3.out.mo).mono ?_;rintro e' w4 ⟨rfl, hb4⟩;go_wp2_with fail
 exact ⟨rfl, rfl, m3.out.bad hb4⟩
set_option maxRecDepth 20000 in
set_option maxHeartbeats 2000000 in
theorem prim_call_bad {R cap n : Nat} {a : Option Addr} {ks : List Tk} (hR : 2 ≠ R) {w : World} {i : Nat} (h : PR w R a cap n ks i) (hM : MakesOK w)
   {kd : Nat} {tx : List UInt8} {nu at_ : Nat} (ht : tkAt ks i = ⟨kd, tx, nu, at_⟩) (q2 : ((kd : Int) == 2) = false) (q3 : ((kd : Int) == 3) = false)
   (hq_cM0 : markT ks i = B.call)
   {x : List UInt8} {k : Nat} (ho_cO2 : ownT ks (i + 1) = .ok x k)
   {G3 : Nat → St Ch} (hP3 : DoesA 54 #[rp R, .string ⟨B.opn.toArray⟩, .func (.func 35) #[rp R] #[], .string ⟨B.cls.toArray⟩] G3 R a cap n ks)
   {l : Nat} (hg3 : G3 k = .bad l) :
   Calls Tryz.prog 132 #[rp R] w (Took (.bad l) w R a cap n ks) := by
 have m0 := Lib.hid ((Mid.start h hM).alloc chZ);have hRl := h.lt;have hml := hM.lt;have b0 := Lib.hid (heap_alloc_new w chZ);have kA := ahead_any m0.out.pr;rw [ht] at kA;unfold tkV at kA;dsimp only at kA;replace kA := Lib.hid kA;have cM0 := Lib.hid (fun W (h : Mid w W R a cap n ks i) => mark_call h hq_cM0);have cW1 := Lib.hid (fun W (hp : PR W R a cap n ks i) => want_ok hp (by decide) hq_cM0);have cO2 := Lib.hid (fun W (hp : PR W R a cap n ks (i + 1)) => own_ok hp ho_cO2);have cR3 := Lib.hid (fun W (hp : PR W R a cap n ks k) (hm : MakesOK W) => doesA_bad hP3 hp hm hg3);unfold rp B.call at cM0;unfold rp B.call at cW1;unfold rp at cO2;unfold rp B.opn B.cls at cR3;clear h hM ht hq_cM0 ho_cO2 hP3 hg3;unfold rp;go_enter Tryz.func132, Tryz.ntmps132
 go_wp2_with fail
 refine kA.out.mono ?_;rintro e' w1 ⟨rfl, hb1⟩;have m1 := Lib.hid ((m0.out.below hb1).alloc (.cells #[.int .u8 (kd : Int), .string ⟨tx.toArray⟩, .int .i64 (nu : Int), .int .i64 (at_ : Int)] 54));have b1 := Lib.hid (heldA (heldF (Only.of_below (F := fun _ => False) hb1) b0.out (fun h => h)) (.cells #[.int .u8 (kd : Int), .string ⟨tx.toArray⟩, .int .i64 (nu : Int), .int .i64 (at_ : Int)] 54));clear m0 b0 hb1 kA;go_wp2_with fail
 refine (cM0.out _ m1.out).mono ?_;rintro e' w2 ⟨rfl, hb2⟩;have m2 := Lib.hid (m1.out.below hb2);have b2 := Lib.hid (heldF (Only.of_below (F := fun _ => False) hb2) b1.out (fun h => h));clear b1;clear m1;clear hb2;go_wp2_with fail
 refine (cW1.out _ m2.out.pr).mono ?_;rintro e' w3 ⟨rfl, hp3, ho3⟩;have m3 := Lib.hid (m2.out.step hR hp3 ho3);have b3 := Lib.hid (heldB ho3 b2.out (by omega));clear b2;clear m2;clear hp3 ho3;go_wp2_with fail
 refine (cO2.out _ m3.out.pr).mono ?_;rintro e' w4 ⟨rfl, hp4, ho4⟩;have m4 := Lib.hid (m3.out.step hR hp4 ho4);have b4 := Lib.hid (heldB ho4 b3.out (by omega));clear b3;clear m3;clear hp4 ho4;go_wp2_with fail
 refine (cR3.out _ m4.out.pr m4.out.mo).mono ?_;rintro e' w5 ⟨rfl, hb5⟩;go_wp2_with fail
 exact ⟨rfl, rfl, m4.out.bad hb5⟩
set_option maxRecDepth 20000 in
set_option maxHeartbeats 2000000 in
theorem prim_child_bad {R cap n : Nat} {a : Option Addr} {ks : List Tk} (hR : 2 ≠ R) {w : World} {i : Nat} (h : PR w R a cap n ks i) (hM : MakesOK w)
   {kd : Nat} {tx : List UInt8} {nu at_ : Nat} (ht : tkAt ks i = ⟨kd, tx, nu, at_⟩) (q2 : ((kd : Int) == 2) = false) (q3 : ((kd : Int) == 3) = false)
   (hq_cM0 : markT ks i = B.child)
   {x : List UInt8} {k : Nat} (ho_cO2 : ownT ks (i + 1) = .ok x k)
   {G3 : Nat → St Ch} (hP3 : DoesA 54 #[rp R, .string ⟨B.opn.toArray⟩, .func (.func 35) #[rp R] #[], .string ⟨B.cls.toArray⟩] G3 R a cap n ks)
   {l : Nat} (hg3 : G3 k = .bad l) :
   Calls Tryz.prog 132 #[rp R] w (Took (.bad l) w R a cap n ks) := by
 have m0 := Lib.hid ((Mid.start h hM).alloc chZ);have hRl := h.lt;have hml := hM.lt;have b0 := Lib.hid (heap_alloc_new w chZ);have kA := ahead_any m0.out.pr;rw [ht] at kA;unfold tkV at kA;dsimp only at kA;replace kA := Lib.hid kA;have cM0 := Lib.hid (fun W (h : Mid w W R a cap n ks i) => mark_call h hq_cM0);have cW1 := Lib.hid (fun W (hp : PR W R a cap n ks i) => want_ok hp (by decide) hq_cM0);have cO2 := Lib.hid (fun W (hp : PR W R a cap n ks (i + 1)) => own_ok hp ho_cO2);have cR3 := Lib.hid (fun W (hp : PR W R a cap n ks k) (hm : MakesOK W) => doesA_bad hP3 hp hm hg3);unfold rp B.child at cM0;unfold rp B.child at cW1;unfold rp at cO2;unfold rp B.opn B.cls at cR3;clear h hM ht hq_cM0 ho_cO2 hP3 hg3;unfold rp;go_enter Tryz.func132, Tryz.ntmps132
 go_wp2_with fail
 refine kA.out.mono ?_;rintro e' w1 ⟨rfl, hb1⟩;have m1 := Lib.hid ((m0.out.below hb1).alloc (.cells #[.int .u8 (kd : Int), .string ⟨tx.toArray⟩, .int .i64 (nu : Int), .int .i64 (at_ : Int)] 54));have b1 := Lib.hid (heldA (heldF (Only.of_below (F := fun _ => False) hb1) b0.out (fun h => h)) (.cells #[.int .u8 (kd : Int), .string ⟨tx.toArray⟩, .int .i64 (nu : Int), .int .i64 (at_ : Int)] 54));clear m0 b0 hb1 kA;go_wp2_with fail
 refine (cM0.out _ m1.out).mono ?_;rintro e' w2 ⟨rfl, hb2⟩;have m2 := Lib.hid (m1.out.below hb2);have b2 := Lib.hid (heldF (Only.of_below (F := fun _ => False) hb2) b1.out (fun h => h));clear b1;clear m1;clear hb2;go_wp2_with fail
 refine (cW1.out _ m2.out.pr).mono ?_;rintro e' w3 ⟨rfl, hp3, ho3⟩;have m3 := Lib.hid (m2.out.step hR hp3 ho3);have b3 := Lib.hid (heldB ho3 b2.out (by omega));clear b2;clear m2;clear hp3 ho3;go_wp2_with fail
 refine (cO2.out _ m3.out.pr).mono ?_;rintro e' w4 ⟨rfl, hp4, ho4⟩;have m4 := Lib.hid (m3.out.step hR hp4 ho4);have b4 := Lib.hid (heldB ho4 b3.out (by omega));clear b3;clear m3;clear hp4 ho4;go_wp2_with fail
 refine (cR3.out _ m4.out.pr m4.out.mo).mono ?_;rintro e' w5 ⟨rfl, hb5⟩;go_wp2_with fail
 exact ⟨rfl, rfl, m4.out.bad hb5⟩
set_option maxRecDepth 20000 in
set_option maxHeartbeats 2000000 in
theorem prim_call_own {R cap n : Nat} {a : Option Addr} {ks : List Tk} (hR : 2 ≠ R) {w : World} {i : Nat} (h : PR w R a cap n ks i) (hM : MakesOK w)
   {kd : Nat} {tx : List UInt8} {nu at_ : Nat} (ht : tkAt ks i = ⟨kd, tx, nu, at_⟩) (q2 : ((kd : Int) == 2) = false) (q3 : ((kd : Int) == 3) = false)
   (hq_cM0 : markT ks i = B.call)
   {k : Nat} (ho_cO2 : ownT ks (i + 1) = .bad k) :
   Calls Tryz.prog 132 #[rp R] w (Took (.bad k) w R a cap n ks) := by
 have m0 := Lib.hid ((Mid.start h hM).alloc chZ);have hRl := h.lt;have hml := hM.lt;have b0 := Lib.hid (heap_alloc_new w chZ);have kA := ahead_any m0.out.pr;rw [ht] at kA;unfold tkV at kA;dsimp only at kA;replace kA := Lib.hid kA;have cM0 := Lib.hid (fun W (h : Mid w W R a cap n ks i) => mark_call h hq_cM0);have cW1 := Lib.hid (fun W (hp : PR W R a cap n ks i) => want_ok hp (by decide) hq_cM0);have cO2 := Lib.hid (fun W (hp : PR W R a cap n ks (i + 1)) => own_bad hp ho_cO2);unfold rp B.call at cM0;unfold rp B.call at cW1;unfold rp at cO2;clear h hM ht hq_cM0 ho_cO2;unfold rp;go_enter Tryz.func132, Tryz.ntmps132
 go_wp2_with fail
 refine kA.out.mono ?_;rintro e' w1 ⟨rfl, hb1⟩;have m1 := Lib.hid ((m0.out.below hb1).alloc (.cells #[.int .u8 (kd : Int), .string ⟨tx.toArray⟩, .int .i64 (nu : Int), .int .i64 (at_ : Int)] 54));have b1 := Lib.hid (heldA (heldF (Only.of_below (F := fun _ => False) hb1) b0.out (fun h => h)) (.cells #[.int .u8 (kd : Int), .string ⟨tx.toArray⟩, .int .i64 (nu : Int), .int .i64 (at_ : Int)] 54));clear m0 b0 hb1 kA;go_wp2_with fail
 refine (cM0.out _ m1.out).mono ?_;rintro e' w2 ⟨rfl, hb2⟩;have m2 := Lib.hid (m1.out.below hb2);have b2 := Lib.hid (heldF (Only.of_below (F := fun _ => False) hb2) b1.out (fun h => h));clear b1;clear m1;clear hb2;go_wp2_with fail
 refine (cW1.out _ m2.out.pr).mono ?_;rintro e' w3 ⟨rfl, hp3, ho3⟩;have m3 := Lib.hid (m2.out.step hR hp3 ho3);have b3 := Lib.hid (heldB ho3 b2.out (by omega));clear b2;clear m2;clear hp3 ho3;go_wp2_with fail
 refine (cO2.out _ m3.out.pr).mono ?_;rintro e' w4 ⟨rfl, hb4⟩;go_wp2_with fail
 exact ⟨rfl, rfl, m3.out.bad hb4⟩
set_option maxRecDepth 20000 in
set_option maxHeartbeats 2000000 in
theorem prim_child_own {R cap n : Nat} {a : Option Addr} {ks : List Tk} (hR : 2 ≠ R) {w : World} {i : Nat} (h : PR w R a cap n ks i) (hM : MakesOK w)
   {kd : Nat} {tx : List UInt8} {nu at_ : Nat} (ht : tkAt ks i = ⟨kd, tx, nu, at_⟩) (q2 : ((kd : Int) == 2) = false) (q3 : ((kd : Int) == 3) = false)
   (hq_cM0 : markT ks i = B.child)
   {k : Nat} (ho_cO2 : ownT ks (i + 1) = .bad k) :
   Calls Tryz.prog 132 #[rp R] w (Took (.bad k) w R a cap n ks) := by
 have m0 := Lib.hid ((Mid.start h hM).alloc chZ);have hRl := h.lt;have hml := hM.lt;have b0 := Lib.hid (heap_alloc_new w chZ);have kA := ahead_any m0.out.pr;rw [ht] at kA;unfold tkV at kA;dsimp only at kA;replace kA := Lib.hid kA;have cM0 := Lib.hid (fun W (h : Mid w W R a cap n ks i) => mark_call h hq_cM0);have cW1 := Lib.hid (fun W (hp : PR W R a cap n ks i) => want_ok hp (by decide) hq_cM0);have cO2 := Lib.hid (fun W (hp : PR W R a cap n ks (i + 1)) => own_bad hp ho_cO2);unfold rp B.child at cM0;unfold rp B.child at cW1;unfold rp at cO2;clear h hM ht hq_cM0 ho_cO2;unfold rp;go_enter Tryz.func132, Tryz.ntmps132
 go_wp2_with fail
 refine kA.out.mono ?_;rintro e' w1 ⟨rfl, hb1⟩;have m1 := Lib.hid ((m0.out.below hb1).alloc (.cells #[.int .u8 (kd : Int), .string ⟨tx.toArray⟩, .int .i64 (nu : Int), .int .i64 (at_ : Int)] 54));have b1 := Lib.hid (heldA (heldF (Only.of_below (F := fun _ => False) hb1) b0.out (fun h => h)) (.cells #[.int .u8 (kd : Int), .string ⟨tx.toArray⟩, .int .i64 (nu : Int), .int .i64 (at_ : Int)] 54));clear m0 b0 hb1 kA;go_wp2_with fail
 refine (cM0.out _ m1.out).mono ?_;rintro e' w2 ⟨rfl, hb2⟩;have m2 := Lib.hid (m1.out.below hb2);have b2 := Lib.hid (heldF (Only.of_below (F := fun _ => False) hb2) b1.out (fun h => h));clear b1;clear m1;clear hb2;go_wp2_with fail
 refine (cW1.out _ m2.out.pr).mono ?_;rintro e' w3 ⟨rfl, hp3, ho3⟩;have m3 := Lib.hid (m2.out.step hR hp3 ho3);have b3 := Lib.hid (heldB ho3 b2.out (by omega));clear b2;clear m2;clear hp3 ho3;go_wp2_with fail
 refine (cO2.out _ m3.out.pr).mono ?_;rintro e' w4 ⟨rfl, hb4⟩;go_wp2_with fail
 exact ⟨rfl, rfl, m3.out.bad hb4⟩
set_option maxRecDepth 20000 in
set_option maxHeartbeats 2000000 in
theorem prim_none {R cap n : Nat} {a : Option Addr} {ks : List Tk} (hR : 2 ≠ R) {w : World} {i : Nat} (h : PR w R a cap n ks i) (hM : MakesOK w)
   {kd : Nat} {tx : List UInt8} {nu at_ : Nat} (ht : tkAt ks i = ⟨kd, tx, nu, at_⟩) (q2 : ((kd : Int) == 2) = false) (q3 : ((kd : Int) == 3) = false)
   (hq_cM0 : markT ks i = B.none) :
   Calls Tryz.prog 132 #[rp R] w (Took (.ok (Ch.none.under (opOfT B.none) 0 []) (i + 1)) w R a cap n ks) := by
 have m0 := Lib.hid ((Mid.start h hM).alloc chZ);have hRl := h.lt;have hml := hM.lt;have b0 := Lib.hid (heap_alloc_new w chZ);have kA := ahead_any m0.out.pr;rw [ht] at kA;unfold tkV at kA;dsimp only at kA;replace kA := Lib.hid kA;have cM0 := Lib.hid (fun W (h : Mid w W R a cap n ks i) => mark_call h hq_cM0);have cW1 := Lib.hid (fun W (hp : PR W R a cap n ks i) => want_ok hp (by decide) hq_cM0);have cF2 := Lib.hid (fun W (h : Mid w W R a cap n ks (i + 1)) => opOf_any B.none h.mo);unfold rp B.none at cM0;unfold rp B.none at cW1;unfold B.none at cF2;clear h hM ht hq_cM0;unfold rp;go_enter Tryz.func132, Tryz.ntmps132
 go_wp2_with fail
 refine kA.out.mono ?_;rintro e' w1 ⟨rfl, hb1⟩;have m1 := Lib.hid ((m0.out.below hb1).alloc (.cells #[.int .u8 (kd : Int), .string ⟨tx.toArray⟩, .int .i64 (nu : Int), .int .i64 (at_ : Int)] 54));have b1 := Lib.hid (heldA (heldF (Only.of_below (F := fun _ => False) hb1) b0.out (fun h => h)) (.cells #[.int .u8 (kd : Int), .string ⟨tx.toArray⟩, .int .i64 (nu : Int), .int .i64 (at_ : Int)] 54));clear m0 b0 hb1 kA;go_wp2_with fail
 refine (cM0.out _ m1.out).mono ?_;rintro e' w2 ⟨rfl, hb2⟩;have m2 := Lib.hid (m1.out.below hb2);have b2 := Lib.hid (heldF (Only.of_below (F := fun _ => False) hb2) b1.out (fun h => h));clear b1;clear m1;clear hb2;go_wp2_with fail
 refine (cW1.out _ m2.out.pr).mono ?_;rintro e' w3 ⟨rfl, hp3, ho3⟩;have m3 := Lib.hid (m2.out.step hR hp3 ho3);have b3 := Lib.hid (heldB ho3 b2.out (by omega));clear b2;clear m2;clear hp3 ho3;go_wp2_with fail
 refine (cF2.out _ m3.out).mono ?_;rintro e' w4 ⟨rfl, hb4⟩;have m4 := Lib.hid (m3.out.below hb4);have b4 := Lib.hid (heldF (Only.of_below (F := fun _ => False) hb4) b3.out (fun h => h));clear b3;clear m3;clear hb4;go_wp2_with fail
 refine (leaf_any (opOfT B.none) 0 0 []).mono ?_;rintro e' w5 ⟨z5, rfl, hv5, hb5⟩;obtain ⟨p1, p2, rfl⟩ := hv5.agg;have hT := (Array.getElem?_eq_some_iff.1 b4.out).1;have m5 := m4.out.below hb5;have b5 := heldF (Only.of_below (F := fun _ => False) hb5) b4.out (fun h => h);obtain ⟨y0, y1, y2, y3, y4, y5⟩ := cells3 b5;obtain ⟨l1, l2⟩ := laid3 m5 (Nat.le_refl _) hml b5 (hv5.mono (fun k _ hk => ⟨by omega, by omega⟩));replace l1 := Lib.hid l1; replace l2 := Lib.hid l2;clear m4 b4 m5 b5 hb5 hv5;go_wp2_with fail
 exact bodyPost_ret (ret_ch rfl rfl l1.out rfl) rfl l2.out
set_option maxRecDepth 20000 in
set_option maxHeartbeats 2000000 in
theorem prim_tru {R cap n : Nat} {a : Option Addr} {ks : List Tk} (hR : 2 ≠ R) {w : World} {i : Nat} (h : PR w R a cap n ks i) (hM : MakesOK w)
   {kd : Nat} {tx : List UInt8} {nu at_ : Nat} (ht : tkAt ks i = ⟨kd, tx, nu, at_⟩) (q2 : ((kd : Int) == 2) = false) (q3 : ((kd : Int) == 3) = false)
   (hq_cM0 : markT ks i = B.tru) :
   Calls Tryz.prog 132 #[rp R] w (Took (.ok (Ch.none.under (opOfT B.tru) 0 []) (i + 1)) w R a cap n ks) := by
 have m0 := Lib.hid ((Mid.start h hM).alloc chZ);have hRl := h.lt;have hml := hM.lt;have b0 := Lib.hid (heap_alloc_new w chZ);have kA := ahead_any m0.out.pr;rw [ht] at kA;unfold tkV at kA;dsimp only at kA;replace kA := Lib.hid kA;have cM0 := Lib.hid (fun W (h : Mid w W R a cap n ks i) => mark_call h hq_cM0);have cW1 := Lib.hid (fun W (hp : PR W R a cap n ks i) => want_ok hp (by decide) hq_cM0);have cF2 := Lib.hid (fun W (h : Mid w W R a cap n ks (i + 1)) => opOf_any B.tru h.mo);unfold rp B.tru at cM0;unfold rp B.tru at cW1;unfold B.tru at cF2;clear h hM ht hq_cM0;unfold rp;go_enter Tryz.func132, Tryz.ntmps132
 go_wp2_with fail
 refine kA.out.mono ?_;rintro e' w1 ⟨rfl, hb1⟩;have m1 := Lib.hid ((m0.out.below hb1).alloc (.cells #[.int .u8 (kd : Int), .string ⟨tx.toArray⟩, .int .i64 (nu : Int), .int .i64 (at_ : Int)] 54));have b1 := Lib.hid (heldA (heldF (Only.of_below (F := fun _ => False) hb1) b0.out (fun h => h)) (.cells #[.int .u8 (kd : Int), .string ⟨tx.toArray⟩, .int .i64 (nu : Int), .int .i64 (at_ : Int)] 54));clear m0 b0 hb1 kA;go_wp2_with fail
 refine (cM0.out _ m1.out).mono ?_;rintro e' w2 ⟨rfl, hb2⟩;have m2 := Lib.hid (m1.out.below hb2);have b2 := Lib.hid (heldF (Only.of_below (F := fun _ => False) hb2) b1.out (fun h => h));clear b1;clear m1;clear hb2;go_wp2_with fail
 refine (cW1.out _ m2.out.pr).mono ?_;rintro e' w3 ⟨rfl, hp3, ho3⟩;have m3 := Lib.hid (m2.out.step hR hp3 ho3);have b3 := Lib.hid (heldB ho3 b2.out (by omega));clear b2;clear m2;clear hp3 ho3;go_wp2_with fail
 refine (cF2.out _ m3.out).mono ?_;rintro e' w4 ⟨rfl, hb4⟩;have m4 := Lib.hid (m3.out.below hb4);have b4 := Lib.hid (heldF (Only.of_below (F := fun _ => False) hb4) b3.out (fun h => h));clear b3;clear m3;clear hb4;go_wp2_with fail
 refine (leaf_any (opOfT B.tru) 0 0 []).mono ?_;rintro e' w5 ⟨z5, rfl, hv5, hb5⟩;obtain ⟨p1, p2, rfl⟩ := hv5.agg;have hT := (Array.getElem?_eq_some_iff.1 b4.out).1;have m5 := m4.out.below hb5;have b5 := heldF (Only.of_below (F := fun _ => False) hb5) b4.out (fun h => h);obtain ⟨y0, y1, y2, y3, y4, y5⟩ := cells3 b5;obtain ⟨l1, l2⟩ := laid3 m5 (Nat.le_refl _) hml b5 (hv5.mono (fun k _ hk => ⟨by omega, by omega⟩));replace l1 := Lib.hid l1; replace l2 := Lib.hid l2;clear m4 b4 m5 b5 hb5 hv5;go_wp2_with fail
 exact bodyPost_ret (ret_ch rfl rfl l1.out rfl) rfl l2.out
set_option maxRecDepth 20000 in
set_option maxHeartbeats 2000000 in
theorem prim_fls {R cap n : Nat} {a : Option Addr} {ks : List Tk} (hR : 2 ≠ R) {w : World} {i : Nat} (h : PR w R a cap n ks i) (hM : MakesOK w)
   {kd : Nat} {tx : List UInt8} {nu at_ : Nat} (ht : tkAt ks i = ⟨kd, tx, nu, at_⟩) (q2 : ((kd : Int) == 2) = false) (q3 : ((kd : Int) == 3) = false)
   (hq_cM0 : markT ks i = B.fls) :
   Calls Tryz.prog 132 #[rp R] w (Took (.ok (Ch.none.under (opOfT B.fls) 0 []) (i + 1)) w R a cap n ks) := by
 have m0 := Lib.hid ((Mid.start h hM).alloc chZ);have hRl := h.lt;have hml := hM.lt;have b0 := Lib.hid (heap_alloc_new w chZ);have kA := ahead_any m0.out.pr;rw [ht] at kA;unfold tkV at kA;dsimp only at kA;replace kA := Lib.hid kA;have cM0 := Lib.hid (fun W (h : Mid w W R a cap n ks i) => mark_call h hq_cM0);have cW1 := Lib.hid (fun W (hp : PR W R a cap n ks i) => want_ok hp (by decide) hq_cM0);have cF2 := Lib.hid (fun W (h : Mid w W R a cap n ks (i + 1)) => opOf_any B.fls h.mo);unfold rp B.fls at cM0;unfold rp B.fls at cW1;unfold B.fls at cF2;clear h hM ht hq_cM0;unfold rp;go_enter Tryz.func132, Tryz.ntmps132
 go_wp2_with fail
 refine kA.out.mono ?_;rintro e' w1 ⟨rfl, hb1⟩;have m1 := Lib.hid ((m0.out.below hb1).alloc (.cells #[.int .u8 (kd : Int), .string ⟨tx.toArray⟩, .int .i64 (nu : Int), .int .i64 (at_ : Int)] 54));have b1 := Lib.hid (heldA (heldF (Only.of_below (F := fun _ => False) hb1) b0.out (fun h => h)) (.cells #[.int .u8 (kd : Int), .string ⟨tx.toArray⟩, .int .i64 (nu : Int), .int .i64 (at_ : Int)] 54));clear m0 b0 hb1 kA;go_wp2_with fail
 refine (cM0.out _ m1.out).mono ?_;rintro e' w2 ⟨rfl, hb2⟩;have m2 := Lib.hid (m1.out.below hb2);have b2 := Lib.hid (heldF (Only.of_below (F := fun _ => False) hb2) b1.out (fun h => h));clear b1;clear m1;clear hb2;go_wp2_with fail
 refine (cW1.out _ m2.out.pr).mono ?_;rintro e' w3 ⟨rfl, hp3, ho3⟩;have m3 := Lib.hid (m2.out.step hR hp3 ho3);have b3 := Lib.hid (heldB ho3 b2.out (by omega));clear b2;clear m2;clear hp3 ho3;go_wp2_with fail
 refine (cF2.out _ m3.out).mono ?_;rintro e' w4 ⟨rfl, hb4⟩;have m4 := Lib.hid (m3.out.below hb4);have b4 := Lib.hid (heldF (Only.of_below (F := fun _ => False) hb4) b3.out (fun h => h));clear b3;clear m3;clear hb4;go_wp2_with fail
 refine (leaf_any (opOfT B.fls) 0 0 []).mono ?_;rintro e' w5 ⟨z5, rfl, hv5, hb5⟩;obtain ⟨p1, p2, rfl⟩ := hv5.agg;have hT := (Array.getElem?_eq_some_iff.1 b4.out).1;have m5 := m4.out.below hb5;have b5 := heldF (Only.of_below (F := fun _ => False) hb5) b4.out (fun h => h);obtain ⟨y0, y1, y2, y3, y4, y5⟩ := cells3 b5;obtain ⟨l1, l2⟩ := laid3 m5 (Nat.le_refl _) hml b5 (hv5.mono (fun k _ hk => ⟨by omega, by omega⟩));replace l1 := Lib.hid l1; replace l2 := Lib.hid l2;clear m4 b4 m5 b5 hb5 hv5;go_wp2_with fail
 exact bodyPost_ret (ret_ch rfl rfl l1.out rfl) rfl l2.out
set_option maxRecDepth 20000 in
set_option maxHeartbeats 2000000 in
theorem prim_version {R cap n : Nat} {a : Option Addr} {ks : List Tk} (hR : 2 ≠ R) {w : World} {i : Nat} (h : PR w R a cap n ks i) (hM : MakesOK w)
   {kd : Nat} {tx : List UInt8} {nu at_ : Nat} (ht : tkAt ks i = ⟨kd, tx, nu, at_⟩) (q2 : ((kd : Int) == 2) = false) (q3 : ((kd : Int) == 3) = false)
   (hq_cM0 : markT ks i = B.version) :
   Calls Tryz.prog 132 #[rp R] w (Took (.ok (Ch.none.under (opOfT B.version) 0 []) (i + 1)) w R a cap n ks) := by
 have m0 := Lib.hid ((Mid.start h hM).alloc chZ);have hRl := h.lt;have hml := hM.lt;have b0 := Lib.hid (heap_alloc_new w chZ);have kA := ahead_any m0.out.pr;rw [ht] at kA;unfold tkV at kA;dsimp only at kA;replace kA := Lib.hid kA;have cM0 := Lib.hid (fun W (h : Mid w W R a cap n ks i) => mark_call h hq_cM0);have cW1 := Lib.hid (fun W (hp : PR W R a cap n ks i) => want_ok hp (by decide) hq_cM0);have cF2 := Lib.hid (fun W (h : Mid w W R a cap n ks (i + 1)) => opOf_any B.version h.mo);unfold rp B.version at cM0;unfold rp B.version at cW1;unfold B.version at cF2;clear h hM ht hq_cM0;unfold rp;go_enter Tryz.func132, Tryz.ntmps132
 go_wp2_with fail
 refine kA.out.mono ?_;rintro e' w1 ⟨rfl, hb1⟩;have m1 := Lib.hid ((m0.out.below hb1).alloc (.cells #[.int .u8 (kd : Int), .string ⟨tx.toArray⟩, .int .i64 (nu : Int), .int .i64 (at_ : Int)] 54));have b1 := Lib.hid (heldA (heldF (Only.of_below (F := fun _ => False) hb1) b0.out (fun h => h)) (.cells #[.int .u8 (kd : Int), .string ⟨tx.toArray⟩, .int .i64 (nu : Int), .int .i64 (at_ : Int)] 54));clear m0 b0 hb1 kA;go_wp2_with fail
 refine (cM0.out _ m1.out).mono ?_;rintro e' w2 ⟨rfl, hb2⟩;have m2 := Lib.hid (m1.out.below hb2);have b2 := Lib.hid (heldF (Only.of_below (F := fun _ => False) hb2) b1.out (fun h => h));clear b1;clear m1;clear hb2;go_wp2_with fail
 refine (cW1.out _ m2.out.pr).mono ?_;rintro e' w3 ⟨rfl, hp3, ho3⟩;have m3 := Lib.hid (m2.out.step hR hp3 ho3);have b3 := Lib.hid (heldB ho3 b2.out (by omega));clear b2;clear m2;clear hp3 ho3;go_wp2_with fail
 refine (cF2.out _ m3.out).mono ?_;rintro e' w4 ⟨rfl, hb4⟩;have m4 := Lib.hid (m3.out.below hb4);have b4 := Lib.hid (heldF (Only.of_below (F := fun _ => False) hb4) b3.out (fun h => h));clear b3;clear m3;clear hb4;go_wp2_with fail
 refine (leaf_any (opOfT B.version) 0 0 []).mono ?_;rintro e' w5 ⟨z5, rfl, hv5, hb5⟩;obtain ⟨p1, p2, rfl⟩ := hv5.agg;have hT := (Array.getElem?_eq_some_iff.1 b4.out).1;have m5 := m4.out.below hb5;have b5 := heldF (Only.of_below (F := fun _ => False) hb5) b4.out (fun h => h);obtain ⟨y0, y1, y2, y3, y4, y5⟩ := cells3 b5;obtain ⟨l1, l2⟩ := laid3 m5 (Nat.le_refl _) hml b5 (hv5.mono (fun k _ hk => ⟨by omega, by omega⟩));replace l1 := Lib.hid l1; replace l2 := Lib.hid l2;clear m4 b4 m5 b5 hb5 hv5;go_wp2_with fail
 exact bodyPost_ret (ret_ch rfl rfl l1.out rfl) rfl l2.out
set_option maxRecDepth 20000 in
set_option maxHeartbeats 2000000 in
theorem prim_take {R cap n : Nat} {a : Option Addr} {ks : List Tk} (hR : 2 ≠ R) {w : World} {i : Nat} (h : PR w R a cap n ks i) (hM : MakesOK w)
   {kd : Nat} {tx : List UInt8} {nu at_ : Nat} (ht : tkAt ks i = ⟨kd, tx, nu, at_⟩) (q2 : ((kd : Int) == 2) = false) (q3 : ((kd : Int) == 3) = false)
   (hq_cM0 : markT ks i = B.take)
   {x : List UInt8} {k : Nat} (ho_cO2 : ownT ks (i + 1) = .ok x k) :
   Calls Tryz.prog 132 #[rp R] w (Took (.ok (Ch.none.under 56 0 x) k) w R a cap n ks) := by
 have m0 := Lib.hid ((Mid.start h hM).alloc chZ);have hRl := h.lt;have hml := hM.lt;have b0 := Lib.hid (heap_alloc_new w chZ);have kA := ahead_any m0.out.pr;rw [ht] at kA;unfold tkV at kA;dsimp only at kA;replace kA := Lib.hid kA;have cM0 := Lib.hid (fun W (h : Mid w W R a cap n ks i) => mark_call h hq_cM0);have cW1 := Lib.hid (fun W (hp : PR W R a cap n ks i) => want_ok hp (by decide) hq_cM0);have cO2 := Lib.hid (fun W (hp : PR W R a cap n ks (i + 1)) => own_ok hp ho_cO2);unfold rp B.take at cM0;unfold rp B.take at cW1;unfold rp at cO2;clear h hM ht hq_cM0 ho_cO2;unfold rp;go_enter Tryz.func132, Tryz.ntmps132
 go_wp2_with fail
 refine kA.out.mono ?_;rintro e' w1 ⟨rfl, hb1⟩;have m1 := Lib.hid ((m0.out.below hb1).alloc (.cells #[.int .u8 (kd : Int), .string ⟨tx.toArray⟩, .int .i64 (nu : Int), .int .i64 (at_ : Int)] 54));have b1 := Lib.hid (heldA (heldF (Only.of_below (F := fun _ => False) hb1) b0.out (fun h => h)) (.cells #[.int .u8 (kd : Int), .string ⟨tx.toArray⟩, .int .i64 (nu : Int), .int .i64 (at_ : Int)] 54));clear m0 b0 hb1 kA;go_wp2_with fail
 refine (cM0.out _ m1.out).mono ?_;rintro e' w2 ⟨rfl, hb2⟩;have m2 := Lib.hid (m1.out.below hb2);have b2 := Lib.hid (heldF (Only.of_below (F := fun _ => False) hb2) b1.out (fun h => h));clear b1;clear m1;clear hb2;go_wp2_with fail
 refine (cW1.out _ m2.out.pr).mono ?_;rintro e' w3 ⟨rfl, hp3, ho3⟩;have m3 := Lib.hid (m2.out.step hR hp3 ho3);have b3 := Lib.hid (heldB ho3 b2.out (by omega));clear b2;clear m2;clear hp3 ho3;go_wp2_with fail
 refine (cO2.out _ m3.out.pr).mono ?_;rintro e' w4 ⟨rfl, hp4, ho4⟩;have m4 := Lib.hid (m3.out.step hR hp4 ho4);have b4 := Lib.hid (heldB ho4 b3.out (by omega));clear b3;clear m3;clear hp4 ho4;go_wp2_with fail
 refine (leaf_any 56 0 0 x).mono ?_;rintro e' w5 ⟨z5, rfl, hv5, hb5⟩;obtain ⟨p1, p2, rfl⟩ := hv5.agg;have hT := (Array.getElem?_eq_some_iff.1 b4.out).1;have m5 := m4.out.below hb5;have b5 := heldF (Only.of_below (F := fun _ => False) hb5) b4.out (fun h => h);obtain ⟨y0, y1, y2, y3, y4, y5⟩ := cells3 b5;obtain ⟨l1, l2⟩ := laid3 m5 (Nat.le_refl _) hml b5 (hv5.mono (fun k _ hk => ⟨by omega, by omega⟩));replace l1 := Lib.hid l1; replace l2 := Lib.hid l2;clear m4 b4 m5 b5 hb5 hv5;go_wp2_with fail
 exact bodyPost_ret (ret_ch rfl rfl l1.out rfl) rfl l2.out
set_option maxRecDepth 20000 in
set_option maxHeartbeats 2000000 in
theorem prim_take_own {R cap n : Nat} {a : Option Addr} {ks : List Tk} (hR : 2 ≠ R) {w : World} {i : Nat} (h : PR w R a cap n ks i) (hM : MakesOK w)
   {kd : Nat} {tx : List UInt8} {nu at_ : Nat} (ht : tkAt ks i = ⟨kd, tx, nu, at_⟩) (q2 : ((kd : Int) == 2) = false) (q3 : ((kd : Int) == 3) = false)
   (hq_cM0 : markT ks i = B.take)
   {k : Nat} (ho_cO2 : ownT ks (i + 1) = .bad k) :
   Calls Tryz.prog 132 #[rp R] w (Took (.bad k) w R a cap n ks) := by
 have m0 := Lib.hid ((Mid.start h hM).alloc chZ);have hRl := h.lt;have hml := hM.lt;have b0 := Lib.hid (heap_alloc_new w chZ);have kA := ahead_any m0.out.pr;rw [ht] at kA;unfold tkV at kA;dsimp only at kA;replace kA := Lib.hid kA;have cM0 := Lib.hid (fun W (h : Mid w W R a cap n ks i) => mark_call h hq_cM0);have cW1 := Lib.hid (fun W (hp : PR W R a cap n ks i) => want_ok hp (by decide) hq_cM0);have cO2 := Lib.hid (fun W (hp : PR W R a cap n ks (i + 1)) => own_bad hp ho_cO2);unfold rp B.take at cM0;unfold rp B.take at cW1;unfold rp at cO2;clear h hM ht hq_cM0 ho_cO2;unfold rp;go_enter Tryz.func132, Tryz.ntmps132
 go_wp2_with fail
 refine kA.out.mono ?_;rintro e' w1 ⟨rfl, hb1⟩;have m1 := Lib.hid ((m0.out.below hb1).alloc (.cells #[.int .u8 (kd : Int), .string ⟨tx.toArray⟩, .int .i64 (nu : Int), .int .i64 (at_ : Int)] 54));have b1 := Lib.hid (heldA (heldF (Only.of_below (F := fun _ => False) hb1) b0.out (fun h => h)) (.cells #[.int .u8 (kd : Int), .string ⟨tx.toArray⟩, .int .i64 (nu : Int), .int .i64 (at_ : Int)] 54));clear m0 b0 hb1 kA;go_wp2_with fail
 refine (cM0.out _ m1.out).mono ?_;rintro e' w2 ⟨rfl, hb2⟩;have m2 := Lib.hid (m1.out.below hb2);have b2 := Lib.hid (heldF (Only.of_below (F := fun _ => False) hb2) b1.out (fun h => h));clear b1;clear m1;clear hb2;go_wp2_with fail
 refine (cW1.out _ m2.out.pr).mono ?_;rintro e' w3 ⟨rfl, hp3, ho3⟩;have m3 := Lib.hid (m2.out.step hR hp3 ho3);have b3 := Lib.hid (heldB ho3 b2.out (by omega));clear b2;clear m2;clear hp3 ho3;go_wp2_with fail
 refine (cO2.out _ m3.out.pr).mono ?_;rintro e' w4 ⟨rfl, hb4⟩;go_wp2_with fail
 exact ⟨rfl, rfl, m3.out.bad hb4⟩
set_option maxRecDepth 20000 in
set_option maxHeartbeats 2000000 in
theorem prim_name {R cap n : Nat} {a : Option Addr} {ks : List Tk} (hR : 2 ≠ R) {w : World} {i : Nat} (h : PR w R a cap n ks i) (hM : MakesOK w)
   {kd : Nat} {tx : List UInt8} {nu at_ : Nat} (ht : tkAt ks i = ⟨kd, tx, nu, at_⟩) (q2 : ((kd : Int) == 2) = false) (q3 : ((kd : Int) == 3) = false)
   {mk : List UInt8}
   (hq_cM0 : markT ks i = mk)
   (e_lsq : (mk == [91]) = false) (e_opn : (mk == [40]) = false) (e_none : (mk == [110, 111, 110, 101]) = false) (e_tru : (mk == [116, 114, 117, 101]) = false) (e_fls : (mk == [102, 97, 108, 115, 101]) = false) (e_version : (mk == [118, 101, 114, 115, 105, 111, 110]) = false) (e_len : (mk == [108, 101, 110]) = false) (e_re : (mk == [114, 101]) = false) (e_im : (mk == [105, 109]) = false) (e_conj : (mk == [99, 111, 110, 106]) = false) (e_timer : (mk == [116, 105, 109, 101, 114]) = false) (e_num : (mk == [110, 117, 109]) = false) (e_call : (mk == [99, 97, 108, 108]) = false) (e_child : (mk == [99, 104, 105, 108, 100]) = false) (e_fork : (mk == [102, 111, 114, 107]) = false) (e_take : (mk == [116, 97, 107, 101]) = false)
   {x : List UInt8} {k : Nat} (ho_cO1 : ownT ks i = .ok x k) :
   Calls Tryz.prog 132 #[rp R] w (Took (.ok (Ch.none.under 26 0 x) k) w R a cap n ks) := by
 have m0 := Lib.hid ((Mid.start h hM).alloc chZ);have hRl := h.lt;have hml := hM.lt;have b0 := Lib.hid (heap_alloc_new w chZ);have kA := ahead_any m0.out.pr;rw [ht] at kA;unfold tkV at kA;dsimp only at kA;replace kA := Lib.hid kA;have cM0 := Lib.hid (fun W (h : Mid w W R a cap n ks i) => mark_call h hq_cM0);have cO1 := Lib.hid (fun W (hp : PR W R a cap n ks i) => own_ok hp ho_cO1);unfold rp at cO1;clear h hM ht hq_cM0 ho_cO1;unfold rp;go_enter Tryz.func132, Tryz.ntmps132
 go_wp2_with fail
 refine kA.out.mono ?_;rintro e' w1 ⟨rfl, hb1⟩;have m1 := Lib.hid ((m0.out.below hb1).alloc (.cells #[.int .u8 (kd : Int), .string ⟨tx.toArray⟩, .int .i64 (nu : Int), .int .i64 (at_ : Int)] 54));have b1 := Lib.hid (heldA (heldF (Only.of_below (F := fun _ => False) hb1) b0.out (fun h => h)) (.cells #[.int .u8 (kd : Int), .string ⟨tx.toArray⟩, .int .i64 (nu : Int), .int .i64 (at_ : Int)] 54));clear m0 b0 hb1 kA;go_wp2_with fail
 refine (cM0.out _ m1.out).mono ?_;rintro e' w2 ⟨rfl, hb2⟩;have m2 := Lib.hid (m1.out.below hb2);have b2 := Lib.hid (heldF (Only.of_below (F := fun _ => False) hb2) b1.out (fun h => h));clear b1;clear m1;clear hb2;go_wp2_with fail
 refine (cO1.out _ m2.out.pr).mono ?_;rintro e' w3 ⟨rfl, hp3, ho3⟩;have m3 := Lib.hid (m2.out.step hR hp3 ho3);have b3 := Lib.hid (heldB ho3 b2.out (by omega));clear b2;clear m2;clear hp3 ho3;go_wp2_with fail
 refine (leaf_any 26 0 0 x).mono ?_;rintro e' w4 ⟨z4, rfl, hv4, hb4⟩;obtain ⟨p1, p2, rfl⟩ := hv4.agg;have hT := (Array.getElem?_eq_some_iff.1 b3.out).1;have m4 := m3.out.below hb4;have b4 := heldF (Only.of_below (F := fun _ => False) hb4) b3.out (fun h => h);obtain ⟨y0, y1, y2, y3, y4, y5⟩ := cells3 b4;obtain ⟨l1, l2⟩ := laid3 m4 (Nat.le_refl _) hml b4 (hv4.mono (fun k _ hk => ⟨by omega, by omega⟩));replace l1 := Lib.hid l1; replace l2 := Lib.hid l2;clear m3 b3 m4 b4 hb4 hv4;go_wp2_with fail
 exact bodyPost_ret (ret_ch rfl rfl l1.out rfl) rfl l2.out
set_option maxRecDepth 20000 in
set_option maxHeartbeats 2000000 in
theorem prim_name_own {R cap n : Nat} {a : Option Addr} {ks : List Tk} (hR : 2 ≠ R) {w : World} {i : Nat} (h : PR w R a cap n ks i) (hM : MakesOK w)
   {kd : Nat} {tx : List UInt8} {nu at_ : Nat} (ht : tkAt ks i = ⟨kd, tx, nu, at_⟩) (q2 : ((kd : Int) == 2) = false) (q3 : ((kd : Int) == 3) = false)
   {mk : List UInt8}
   (hq_cM0 : markT ks i = mk)
   (e_lsq : (mk == [91]) = false) (e_opn : (mk == [40]) = false) (e_none : (mk == [110, 111, 110, 101]) = false) (e_tru : (mk == [116, 114, 117, 101]) = false) (e_fls : (mk == [102, 97, 108, 115, 101]) = false) (e_version : (mk == [118, 101, 114, 115, 105, 111, 110]) = false) (e_len : (mk == [108, 101, 110]) = false) (e_re : (mk == [114, 101]) = false) (e_im : (mk == [105, 109]) = false) (e_conj : (mk == [99, 111, 110, 106]) = false) (e_timer : (mk == [116, 105, 109, 101, 114]) = false) (e_num : (mk == [110, 117, 109]) = false) (e_call : (mk == [99, 97, 108, 108]) = false) (e_child : (mk == [99, 104, 105, 108, 100]) = false) (e_fork : (mk == [102, 111, 114, 107]) = false) (e_take : (mk == [116, 97, 107, 101]) = false)
   {k : Nat} (ho_cO1 : ownT ks i = .bad k) :
   Calls Tryz.prog 132 #[rp R] w (Took (.bad k) w R a cap n ks) := by
 have m0 := Lib.hid ((Mid.start h hM).alloc chZ);have hRl := h.lt;have hml := hM.lt;have b0 := Lib.hid (heap_alloc_new w chZ);have kA := ahead_any m0.out.pr;rw [ht] at kA;unfold tkV at kA;dsimp only at kA;replace kA := Lib.hid kA;have cM0 := Lib.hid (fun W (h : Mid w W R a cap n ks i) => mark_call h hq_cM0);have cO1 := Lib.hid (fun W (hp : PR W R a cap n ks i) => own_bad hp ho_cO1);unfold rp at cO1;clear h hM ht hq_cM0 ho_cO1;unfold rp;go_enter Tryz.func132, Tryz.ntmps132
 go_wp2_with fail
 refine kA.out.mono ?_;rintro e' w1 ⟨rfl, hb1⟩;have m1 := Lib.hid ((m0.out.below hb1).alloc (.cells #[.int .u8 (kd : Int), .string ⟨tx.toArray⟩, .int .i64 (nu : Int), .int .i64 (at_ : Int)] 54));have b1 := Lib.hid (heldA (heldF (Only.of_below (F := fun _ => False) hb1) b0.out (fun h => h)) (.cells #[.int .u8 (kd : Int), .string ⟨tx.toArray⟩, .int .i64 (nu : Int), .int .i64 (at_ : Int)] 54));clear m0 b0 hb1 kA;go_wp2_with fail
 refine (cM0.out _ m1.out).mono ?_;rintro e' w2 ⟨rfl, hb2⟩;have m2 := Lib.hid (m1.out.below hb2);have b2 := Lib.hid (heldF (Only.of_below (F := fun _ => False) hb2) b1.out (fun h => h));clear b1;clear m1;clear hb2;go_wp2_with fail
 refine (cO1.out _ m2.out.pr).mono ?_;rintro e' w3 ⟨rfl, hb3⟩;go_wp2_with fail
 exact ⟨rfl, rfl, m2.out.bad hb3⟩
end Go.Proofs.YtjiemkidmlgbeaaGreatDoor
