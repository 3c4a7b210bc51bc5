/- A part of the proof: PRead, PList, PStm. No condition. -/
import Derived.Test.YtngbekhegnmfaaaGreatDoorQ10
import Derived.Test.YtngbekhegnmfaaaGreatDoorQ21
import Derived.Test.YtngbekhegnmfaaaGreatDoorQ29
set_option linter.unusedVariables false
set_option linter.unusedSimpArgs false
namespace Go.Proofs.YtngbekhegnmfaaaGreatDoor
open Go.RowKit Go.Shelf Tok
def plOf (ks : List Tk) (n j : Nat) : Nat × Nat := if j = ks.length then (n, 4) else ((tkAt ks j).at_, 9)
theorem faultOf_pl (ks : List Tk) (n j : Nat) : faultOf ks n j = .iface 67 (.agg #[.int .i64 (plOf ks n j).2, .int .i64 (plOf ks n j).1]) := by
 unfold faultOf plOf faultV;split <;> rfl
def fuelP (ks : List Tk) (q : NT) : Nat := 32 * ks.length + q.rank + 1
def readK (ks : List Tk) (n : Nat) (q : NT) : List Tw × Int × Int := match gP ks (fuelP ks q) q 0 with
 | .ok c j => if j < ks.length then ([], (plOf ks n j).1, (plOf ks n j).2) else if (lookF c.ts).2.2 = 0 then (c.ts, 0, 0) else ([], 0, (lookF c.ts).2.2)
 | .bad j => ([], (plOf ks n j).1, (plOf ks n j).2)
 | .out => ([], 0, 0)
def readR (l : List UInt8) (q : NT) : List Tw × Int × Int := if (allT l).code ≠ 0 then ([], (allT l).at_, (allT l).code) else readK (allT l).toks l.length q
def ReadP (r : List Tw × Int × Int) (w : World) (e : Ending) (w' : World) : Prop :=
 ∃ v, e = .returned (.tuple #[v, .int .i64 r.2.1, .int .i64 r.2.2]) ∧ TwsAt w' w.heap.size v r.1 ∧ Below w.heap.size w w'
structure RB (w W : World) (x : Value) (y z : Int) : Prop where
 t : W.heap[w.heap.size]? = some (.cells #[x] 23 (0, 0))
 a : W.heap[w.heap.size + 1]? = some (.cells #[.int .i64 y] 3 (0, 0))
 e : W.heap[w.heap.size + 1 + 1]? = some (.cells #[.int .i64 z] 24 (0, 0))
 b : Below w.heap.size w W
section
variable {w W W' : World} {x : Value} {y z : Int}
theorem RB.new (w : World) : RB w (((w.alloc (.cells #[.slice none 0 0] 23)).alloc (.cells #[.int .i64 0] 3)).alloc (.cells #[.int .i64 0] 24)) (.slice none 0 0) 0 0 := by
 have s1 : (w.alloc (.cells #[.slice none 0 0] 23)).heap.size = w.heap.size + 1 := by simp
 have s2 : ((w.alloc (.cells #[.slice none 0 0] 23)).alloc (.cells #[.int .i64 0] 3)).heap.size = w.heap.size + 1 + 1 := by simp
 refine ⟨?_, ?_, ?_, (((Below.refl _ w).alloc (Nat.le_refl _) _).alloc (by omega) _).alloc (by omega) _⟩
 · rw [Below.heap_alloc _ _ _ (by omega), Below.heap_alloc _ _ _ (by omega)]
   exact heap_alloc_new w _
 · rw [Below.heap_alloc _ _ _ (by omega), ← s1]
   exact heap_alloc_new _ _
 · rw [← s2]
   exact heap_alloc_new _ _
theorem RB.kept {F : Nat → Prop} (h : RB w W x y z) (ho : Only F W W') (hF : ∀ k, F k → w.heap.size + 1 + 1 < k) : RB w W' x y z := by
 have hs : w.heap.size + 1 + 1 < W.heap.size := (Array.getElem?_eq_some_iff.1 h.e).1;exact ⟨(ho.block _ (by omega) (fun k => by have := hF _ k; omega)).trans h.t, (ho.block _ (by omega) (fun k => by have := hF _ k; omega)).trans h.a, (ho.block _ (by omega) (fun k => by have := hF _ k; omega)).trans h.e,
   h.b.trans (ho.below (by omega) (fun k _ hk => by have := hF _ hk; omega))⟩
theorem RB.below (h : RB w W x y z) (hb : Below W.heap.size W W') : RB w W' x y z := h.kept (F := fun _ => False) (Only.of_below hb) (fun _ k => k.elim)
theorem RB.size (h : RB w W x y z) : w.heap.size + 1 + 1 < W.heap.size := (Array.getElem?_eq_some_iff.1 h.e).1
theorem RB.cells (h : RB w W x y z) : W.cell? ⟨w.heap.size, 0, none⟩ = some x ∧ W.cell? ⟨w.heap.size + 1, 0, none⟩ = some (.int .i64 y) ∧ W.cell? ⟨w.heap.size + 1 + 1, 0, none⟩ = some (.int .i64 z) ∧
   W.frozen? ⟨w.heap.size, 0, none⟩ = false ∧ W.frozen? ⟨w.heap.size + 1, 0, none⟩ = false ∧ W.frozen? ⟨w.heap.size + 1 + 1, 0, none⟩ = false := by
 refine ⟨?_, ?_, ?_, ?_, ?_, ?_⟩
 · simp [World.cell?, h.t]
 · simp [World.cell?, h.a]
 · simp [World.cell?, h.e]
 · simp [World.frozen?, h.t]
 · simp [World.frozen?, h.a]
 · simp [World.frozen?, h.e]
theorem RB.low {R : Nat} (h : RB w W x y z) (hb : Below R W W') (hR : w.heap.size + 1 + 1 < R) : RB w W' x y z :=
 ⟨(hb.block _ (by omega)).trans h.t, (hb.block _ (by omega)).trans h.a, (hb.block _ (by omega)).trans h.e, h.b.trans (hb.mono (by omega))⟩
theorem RB.drew (h : RB w W x y z) : RB w W.drew x y z := ⟨h.t, h.a, h.e, h.b.trans ((Below.refl _ W).drew.mono (Nat.le_refl _))⟩
theorem RB.setE (h : RB w W x y z) (v : Int) : RB w (W.setCell ⟨w.heap.size + 1 + 1, 0, none⟩ (.int .i64 v)) x y v := by
 have ho : Only (fun k => k = w.heap.size + 1 + 1) W (W.setCell ⟨w.heap.size + 1 + 1, 0, none⟩ (.int .i64 v)) := (Only.refl (fun k => k = w.heap.size + 1 + 1) W).setCell (p := ⟨w.heap.size + 1 + 1, 0, none⟩) (.inl rfl) _;have hs := h.size;exact ⟨(ho.block _ (by omega) (by omega)).trans h.t, (ho.block _ (by omega) (by omega)).trans h.a, by simpa using heap_setCell_same W _ 0 _ _ (.int .i64 v) h.e, h.b.trans (ho.below (by omega) (fun k _ hk => by omega))⟩
theorem RB.setA (h : RB w W x y z) (v : Int) : RB w (W.setCell ⟨w.heap.size + 1, 0, none⟩ (.int .i64 v)) x v z := by
 have ho : Only (fun k => k = w.heap.size + 1) W (W.setCell ⟨w.heap.size + 1, 0, none⟩ (.int .i64 v)) := (Only.refl (fun k => k = w.heap.size + 1) W).setCell (p := ⟨w.heap.size + 1, 0, none⟩) (.inl rfl) _;have hs := h.size;exact ⟨(ho.block _ (by omega) (by omega)).trans h.t, by simpa using heap_setCell_same W _ 0 _ _ (.int .i64 v) h.a, (ho.block _ (by omega) (by omega)).trans h.e, h.b.trans (ho.below (by omega) (fun k _ hk => by omega))⟩
theorem RB.setT (h : RB w W x y z) (v : Value) : RB w (W.setCell ⟨w.heap.size, 0, none⟩ v) v y z := by
 have ho : Only (fun k => k = w.heap.size) W (W.setCell ⟨w.heap.size, 0, none⟩ v) := (Only.refl (fun k => k = w.heap.size) W).setCell (p := ⟨w.heap.size, 0, none⟩) (.inl rfl) _;have hs := h.size;exact ⟨by simpa using heap_setCell_same W _ 0 _ _ v h.t, (ho.block _ (by omega) (by omega)).trans h.a, (ho.block _ (by omega) (by omega)).trans h.e, h.b.trans (ho.below (by omega) (fun k _ hk => by omega))⟩
end
theorem tw_none (W : World) (b : Nat) : TwsAt W b (.slice none 0 0) [] := World.ownsRow_nil _ _ _ _
set_option maxRecDepth 20000 in
set_option maxHeartbeats 1000000 in
theorem read_tok {f : Value} (s : ByteArray) (w : World) (hs : s.size ≤ 140737488351232) (hA : ErrR w) (hS : SignsOK w) (hc : (allT s.data.toList).code ≠ 0) :
   Calls Tryz.prog 22 #[.string s, f] w (ReadP ([], (allT s.data.toList).at_, (allT s.data.toList).code) w) := by
 have r0 := RB.new w;have k1 := All_every s _ hs (hA.below (r0.b)) (hS.below (r0.b));unfold AllPost at k1;replace k1 := Lib.hid k1;replace r0 := Lib.hid r0;clear hA hS;generalize allT s.data.toList = T at *;obtain ⟨ks, at_, cd⟩ := T;dsimp only at hc ⊢;have hc1 : ((cd : Int) == 0) = false := beq_eq_false_iff_ne.2 (by omega);go_enter_defers Tryz.func22, Tryz.ntmps22
 go_wp2_with fail
 refine k1.out.mono ?_;rintro e' w1 ⟨v1, rfl, hk1, hb1⟩;have r1 := r0.out.below hb1;obtain ⟨ct, ca, ce, ft, fa, fe⟩ := r1.cells;have r2 := (r1.setA (at_ : Int)).setE (cd : Int);obtain ⟨dt, da, de, gt, ga, ge⟩ := r2.cells;replace r2 := Lib.hid r2;have hz := r1.size;clear k1 r0 r1 hk1 hb1;go_wp2_with fail
 go_region
 have r3 := (((r2.out.setT (.slice none 0 0)).setA (at_ : Int)).setE (cd : Int));clear dt da de gt ga ge ct ca ce ft fa fe;go_wp2_with fail
 obtain ⟨dt, da, de, _, _, _⟩ := r3.drew.cells;refine ⟨.tuple #[.slice none 0 0, .int .i64 at_, .int .i64 cd], ?_, _, rfl, tw_none _ _, r3.drew.b⟩;clear r3;simp [results, Tryz.results22, go_sem, dt, da, de]
theorem made_rd {w w1 : World} {s : ByteArray} {ks : List Tk} {v : Value} (r : RB w w1 (.slice none 0 0) 0 0) (ht : TksAt w1 (w.heap.size + 1 + 1 + 1) v ks) (hk : ks.length ≤ 16384) (hM : MakesOK w) :
   ∃ a cap, v = .slice a ks.length cap ∧ 1 ≠ w1.heap.size ∧ w.heap.size + 1 + 1 < w1.heap.size ∧
     RB w (((w1.setCell ⟨w.heap.size + 1, 0, none⟩ (.int .i64 0)).setCell ⟨w.heap.size + 1 + 1, 0, none⟩ (.int .i64 0)).alloc (.cells #[.slice a ks.length cap, .int .i64 0, .int .i64 s.size] 69)) (.slice none 0 0) 0 0 ∧
     PR (((w1.setCell ⟨w.heap.size + 1, 0, none⟩ (.int .i64 0)).setCell ⟨w.heap.size + 1 + 1, 0, none⟩ (.int .i64 0)).alloc (.cells #[.slice a ks.length cap, .int .i64 0, .int .i64 s.size] 69)) w1.heap.size a cap s.size ks 0 ∧
     MakesOK (((w1.setCell ⟨w.heap.size + 1, 0, none⟩ (.int .i64 0)).setCell ⟨w.heap.size + 1 + 1, 0, none⟩ (.int .i64 0)).alloc (.cells #[.slice a ks.length cap, .int .i64 0, .int .i64 s.size] 69)) := by
 obtain ⟨a, cap, rfl, _, _⟩ := ht.shape;have hz := r.size;have hml := hM.lt;have r2 := (r.setA 0).setE 0;have ho : Only (fun k => k = w.heap.size + 1 ∨ k = w.heap.size + 1 + 1) w1 ((w1.setCell ⟨w.heap.size + 1, 0, none⟩ (.int .i64 0)).setCell ⟨w.heap.size + 1 + 1, 0, none⟩ (.int .i64 0)) :=
   ((Only.refl _ w1).setCell (p := ⟨w.heap.size + 1, 0, none⟩) (.inl (.inl rfl)) _).setCell (p := ⟨w.heap.size + 1 + 1, 0, none⟩) (.inl (.inr rfl)) _
 have hs : ((w1.setCell ⟨w.heap.size + 1, 0, none⟩ (.int .i64 0)).setCell ⟨w.heap.size + 1 + 1, 0, none⟩ (.int .i64 0)).heap.size = w1.heap.size := by simp
 have t2 : TksAt ((w1.setCell ⟨w.heap.size + 1, 0, none⟩ (.int .i64 0)).setCell ⟨w.heap.size + 1 + 1, 0, none⟩ (.int .i64 0)) (w.heap.size + 1 + 1 + 1) (.slice a ks.length cap) ks := by
   refine ownsRow_only ht ho (fun k hk h => ?_);rcases ht.2 with ⟨hv, _⟩ | ⟨g, cap', cur, hv, hb, _⟩
   · rw [hv] at hk
     simp [Value.ownBlock] at hk
   · rw [hv] at hk
     simp [Value.ownBlock] at hk
     omega
 generalize (w1.setCell ⟨w.heap.size + 1, 0, none⟩ (.int .i64 0)).setCell ⟨w.heap.size + 1 + 1, 0, none⟩ (.int .i64 0) = W at *;have hal := (Below.refl W.heap.size W).alloc (Nat.le_refl _) (.cells #[.slice a ks.length cap, .int .i64 0, .int .i64 s.size] 69);have t3 := t2.below hal;refine ⟨a, cap, rfl, by omega, hz, r2.below hal, ⟨?_, t3.tkIn, ?_, Nat.zero_le _, by omega⟩, ?_⟩
 · rw [← hs]
   exact heap_alloc_new W _
 · intro q hq h0
   obtain ⟨a', cap', e, _, _, h3⟩ := t2.tkIn;injection e with e _ _;obtain ⟨g, off, e2, hg, _⟩ := h3 h0;rw [hq] at e;rw [← e] at e2;injection e2 with e2;rw [e2, ← hs];exact Nat.ne_of_lt hg
 · exact hM.below hml ((r2.below hal).b)
set_option maxRecDepth 20000 in
set_option maxHeartbeats 1000000 in
theorem read_bad {N : Nat} (hE : ∀ R, Enters N R) {G : Nat → St Ch} {ks : List Tk} {at_ j : Nat} (s : ByteArray) (w : World) (hs : s.size ≤ 140737488351232) (hA : ErrR w) (hS : SignsOK w) (hM : MakesOK w) (hT : allT s.data.toList = ⟨ks, at_, 0⟩)
   (hD : ∀ R a cap, 1 ≠ R → Does N G R a cap s.size ks) (hg : G 0 = .bad j) :
   Calls Tryz.prog 22 #[.string s, .func (.func N) #[] #[]] w (ReadP ([], (plOf ks s.size j).1, (plOf ks s.size j).2) w) := by
 have hmf : ∀ (fn : Fn) (first cap : Array Value) (w : World), (Instr.makeFunc fn first cap).run Tryz.prog w = .ok (.func fn first cap) w := fun _ _ _ _ => rfl;obtain ⟨hk, rfl⟩ := Cut.allT_few hT;have r0 := RB.new w;have k1 := All_every s _ hs (hA.below (r0.b)) (hS.below (r0.b));unfold AllPost at k1;rw [hT] at k1;dsimp only at k1;replace k1 := Lib.hid k1;replace r0 := Lib.hid r0;replace hD := Lib.hid hD;unfold Enters at hE;clear hA hS hT;go_enter_defers Tryz.func22, Tryz.ntmps22
 go_wp2_with fail
 refine k1.out.mono ?_;rintro e' w1 ⟨v1, rfl, hk1, hb1⟩;have r1 := r0.out.below hb1;simp only [World.size_alloc] at hk1;obtain ⟨ct, ca, ce, ft, fa, fe⟩ := r1.cells;have r2 := (r1.setA 0).setE 0;obtain ⟨dt, da, de, gt, ga, ge⟩ := r2.cells;obtain ⟨a, cap, rfl, hR, hz, r3, p3, m3⟩ := made_rd (s := s) r1 hk1 hk hM;have c3 := (does_bad (hD.out _ a cap hR) p3 m3 hg).mono (fun e w' h => by rw [faultOf_pl] at h; exact h);replace c3 := Lib.hid c3;replace r3 := Lib.hid r3;clear k1 r0 r1 hk1 hb1 r2 p3 m3 hD;go_wp2_with fail
 refine c3.out.mono ?_;rintro e' w5 ⟨rfl, hb5⟩;have r5 := r3.out.low hb5 hz;obtain ⟨xt, xa, xe, yt, ya, ye⟩ := r5.cells;go_wp2_with fail
 refine leaves_cons (f := 33) (args := #[.pointer (some ⟨w.heap.size, 0, none⟩), .pointer (some ⟨w.heap.size + 1, 0, none⟩), .pointer (some ⟨w.heap.size + 1 + 1, 0, none⟩)]) (by simp) (by simp [go_sem]) ?_;refine (catchP w.heap.size (w.heap.size + 1) (w.heap.size + 1 + 1) (plOf ks s.size j).2 (plOf ks s.size j).1 _ _ _ _ xt xa xe yt ya ye (by omega) (by omega) (by omega)).mono ?_;rintro e u' w'' ⟨rfl, rfl, d1, d2, d3, hO2⟩;have hz5 := r5.size;refine ⟨.tuple #[.slice none 0 0, .int .i64 (plOf ks s.size j).1, .int .i64 (plOf ks s.size j).2], ?_, _, rfl, tw_none _ _, r5.b.trans (hO2.below (by omega) (fun k hk h => by omega))⟩;simp [results, Tryz.results22, go_sem, d1, d2, d3]
set_option maxRecDepth 20000 in
set_option maxHeartbeats 1000000 in
theorem read_left {N : Nat} (hE : ∀ R, Enters N R) {G : Nat → St Ch} {ks : List Tk} {at_ j : Nat} (s : ByteArray) (w : World) (hs : s.size ≤ 140737488351232) (hA : ErrR w) (hS : SignsOK w) (hM : MakesOK w) (hT : allT s.data.toList = ⟨ks, at_, 0⟩)
   (hD : ∀ R a cap, 1 ≠ R → Does N G R a cap s.size ks) {c : Ch} (hg : G 0 = .ok c j) (hc : c.n ≤ 10000000) (hj : j < ks.length) :
   Calls Tryz.prog 22 #[.string s, .func (.func N) #[] #[]] w (ReadP ([], (plOf ks s.size j).1, (plOf ks s.size j).2) w) := by
 have hmf : ∀ (fn : Fn) (first cap : Array Value) (w : World), (Instr.makeFunc fn first cap).run Tryz.prog w = .ok (.func fn first cap) w := fun _ _ _ _ => rfl;obtain ⟨hk, rfl⟩ := Cut.allT_few hT;have r0 := RB.new w;have k1 := All_every s _ hs (hA.below (r0.b)) (hS.below (r0.b));unfold AllPost at k1;rw [hT] at k1;dsimp only at k1;replace k1 := Lib.hid k1;replace r0 := Lib.hid r0;replace hD := Lib.hid hD;unfold Enters at hE;clear hA hS hT;go_enter_defers Tryz.func22, Tryz.ntmps22
 go_wp2_with fail
 refine k1.out.mono ?_;rintro e' w1 ⟨v1, rfl, hk1, hb1⟩;have r1 := r0.out.below hb1;simp only [World.size_alloc] at hk1;obtain ⟨ct, ca, ce, ft, fa, fe⟩ := r1.cells;have r2 := (r1.setA 0).setE 0;obtain ⟨dt, da, de, gt, ga, ge⟩ := r2.cells;obtain ⟨a, cap, rfl, hR, hz, r3, p3, m3⟩ := made_rd (s := s) r1 hk1 hk hM;have c3 := Lib.hid (does_ok (hD.out _ a cap hR) p3 m3 hg);have hsz : (((w1.setCell ⟨w.heap.size + 1, 0, none⟩ (.int .i64 0)).setCell ⟨w.heap.size + 1 + 1, 0, none⟩ (.int .i64 0)).alloc (.cells #[.slice a ks.length cap, .int .i64 0, .int .i64 s.size] 69)).heap.size = w1.heap.size + 1 := by simp
 replace r3 := Lib.hid r3;clear k1 r0 r1 hk1 hb1 r2 p3 m3 hD;go_wp2_with fail
 refine c3.out.mono ?_;rintro e' w5 ⟨v5, rfl, hv5, hp5, ho5⟩;obtain ⟨p1, p2, rfl⟩ := hv5.agg;rw [hsz] at hv5;have r5 := (r3.out.kept ho5 (fun k hk => by omega)).below ((Below.refl _ w5).alloc (Nat.le_refl _) (.cells #[.pointer p1, .pointer p2, .int .i64 (c.n : Int)] 72));have q5 := hp5.below ((Below.refl _ w5).alloc (Nat.le_refl _) (.cells #[.pointer p1, .pointer p2, .int .i64 (c.n : Int)] 72));have v6 := Lib.hid (hv5.alloc (.cells #[.pointer p1, .pointer p2, .int .i64 (c.n : Int)] 72));have d6 := Lib.hid (heap_alloc_new w5 (.cells #[.pointer p1, .pointer p2, .int .i64 (c.n : Int)] 72));have hs5 := ho5.size;rw [hsz] at hs5;have e0 := q5.c0;have e1 := q5.c1;have kl := q5.kl;replace r5 := Lib.hid r5;replace q5 := Lib.hid q5;clear c3 r3 hv5 hp5 ho5;have hlt : (j : Int) < (ks.length : Int) := by omega
 go_wp2_with fail
 go_quiet (fail)
 have hdn := below_dn (Below.refl (w5.alloc (.cells #[.pointer p1, .pointer p2, .int .i64 (c.n : Int)] 72)).heap.size (w5.alloc (.cells #[.pointer p1, .pointer p2, .int .i64 (c.n : Int)] 72))) nq;have q6 := q5.out.below hdn;have r6 := Lib.hid (r5.out.below hdn);have cG := Lib.hid ((giveUp_any q6).mono (fun e w' h => by unfold GaveP at h; rw [faultOf_pl] at h; exact h));clear e0 e1 q5 q6 r5 v6 d6 hdn;generalize (w5.alloc (.cells #[.pointer p1, .pointer p2, .int .i64 (c.n : Int)] 72)).drewN nq = w6 at *;go_wp2_with fail
 refine cG.out.mono ?_;rintro e' w7 ⟨rfl, hb7⟩;have r7 := r6.out.below hb7;obtain ⟨xt, xa, xe, yt, ya, ye⟩ := r7.cells;go_wp2_with fail
 refine leaves_cons (f := 33) (args := #[.pointer (some ⟨w.heap.size, 0, none⟩), .pointer (some ⟨w.heap.size + 1, 0, none⟩), .pointer (some ⟨w.heap.size + 1 + 1, 0, none⟩)]) (by simp) (by simp [go_sem]) ?_;refine (catchP w.heap.size (w.heap.size + 1) (w.heap.size + 1 + 1) (plOf ks s.size j).2 (plOf ks s.size j).1 _ _ _ _ xt xa xe yt ya ye (by omega) (by omega) (by omega)).mono ?_;rintro e u' w'' ⟨rfl, rfl, d1, d2, d3, hO2⟩;have hz5 := r7.size;refine ⟨.tuple #[.slice none 0 0, .int .i64 (plOf ks s.size j).1, .int .i64 (plOf ks s.size j).2], ?_, _, rfl, tw_none _ _, r7.b.trans (hO2.below (by omega) (fun k hk h => by omega))⟩;simp [results, Tryz.results22, go_sem, d1, d2, d3]
theorem TwsAt.far {w W : World} {base k0 : Nat} {v : Value} {ts : List Tw} (h : TwsAt w base v ts) (ho : Only (fun k => k = k0) w W) (hb : k0 < base) : TwsAt W base v ts := by
 refine ownsRow_only h ho (fun k hk e => ?_);rcases h.2 with ⟨hv, _⟩ | ⟨g, cap', cur, hv, hg, _⟩
 · rw [hv] at hk
   simp [Value.ownBlock] at hk
 · rw [hv] at hk
   simp [Value.ownBlock] at hk
   omega
theorem TwsAt.low {W : World} {base b : Nat} {v : Value} {ts : List Tw} (h : TwsAt W base v ts) (hb : b ≤ base) : TwsAt W b v ts := by
 refine ownsRow_base h (fun k hk => ?_);rcases h.2 with ⟨hv, _⟩ | ⟨g, cap', cur, hv, hg, _⟩
 · rw [hv] at hk
   simp [Value.ownBlock] at hk
 · rw [hv] at hk
   simp [Value.ownBlock] at hk
   omega
set_option maxRecDepth 20000 in
set_option maxHeartbeats 1000000 in
theorem read_tree {N : Nat} (hE : ∀ R, Enters N R) {G : Nat → St Ch} {ks : List Tk} {at_ : Nat} (s : ByteArray) (w : World) (hs : s.size ≤ 140737488351232) (hA : ErrR w) (hS : SignsOK w) (hM : MakesOK w) (hT : allT s.data.toList = ⟨ks, at_, 0⟩)
   (hD : ∀ R a cap, 1 ≠ R → Does N G R a cap s.size ks) {c : Ch} (hg : G 0 = .ok c ks.length) (hc : c.n ≤ 10000000) (hl : c.ts.length ≤ 100000000) (hf : ∀ x ∈ c.ts, FitT x) :
   Calls Tryz.prog 22 #[.string s, .func (.func N) #[] #[]] w (ReadP (if (lookF c.ts).2.2 = 0 then (c.ts, 0, 0) else ([], 0, (lookF c.ts).2.2)) w) := by
 have kC := Lib.hid (fun (v : Value) (W : World) (hT : TwIn W v c.ts) => Check_any W hT hf);clear hf;obtain ⟨Z, hZ⟩ := exHid (lookF c.ts);rw [hZ.out] at kC ⊢;obtain ⟨zp, zd, zc⟩ := Z;clear hZ;dsimp only at kC ⊢;obtain ⟨Y, hY⟩ := exHid (if zc = 0 then (c.ts, (0 : Int), (0 : Int)) else ([], 0, zc));rw [hY.out];have hmf : ∀ (fn : Fn) (first cap : Array Value) (w : World), (Instr.makeFunc fn first cap).run Tryz.prog w = .ok (.func fn first cap) w := fun _ _ _ _ => rfl;obtain ⟨hk, rfl⟩ := Cut.allT_few hT;have r0 := RB.new w;have k1 := All_every s _ hs (hA.below (r0.b)) (hS.below (r0.b));unfold AllPost at k1;rw [hT] at k1;dsimp only at k1;replace k1 := Lib.hid k1;replace r0 := Lib.hid r0;replace hD := Lib.hid hD;unfold Enters at hE;clear hA hS hT;go_enter_defers Tryz.func22, Tryz.ntmps22
 go_wp2_with fail
 refine k1.out.mono ?_;rintro e' w1 ⟨v1, rfl, hk1, hb1⟩;have r1 := r0.out.below hb1;simp only [World.size_alloc] at hk1;obtain ⟨ct, ca, ce, ft, fa, fe⟩ := r1.cells;have r2 := (r1.setA 0).setE 0;obtain ⟨dt, da, de, gt, ga, ge⟩ := r2.cells;obtain ⟨a, cap, rfl, hR, hz, r3, p3, m3⟩ := made_rd (s := s) r1 hk1 hk hM;have c3 := Lib.hid (does_ok (hD.out _ a cap hR) p3 m3 hg);have hsz : (((w1.setCell ⟨w.heap.size + 1, 0, none⟩ (.int .i64 0)).setCell ⟨w.heap.size + 1 + 1, 0, none⟩ (.int .i64 0)).alloc (.cells #[.slice a ks.length cap, .int .i64 0, .int .i64 s.size] 69)).heap.size = w1.heap.size + 1 := by simp
 replace r3 := Lib.hid r3;clear k1 r0 r1 hk1 hb1 r2 p3 m3 hD;go_wp2_with fail
 refine c3.out.mono ?_;rintro e' w5 ⟨v5, rfl, hv5, hp5, ho5⟩;obtain ⟨p1, p2, rfl⟩ := hv5.agg;rw [hsz] at hv5;have r5 := (r3.out.kept ho5 (fun k hk => by omega)).below ((Below.refl _ w5).alloc (Nat.le_refl _) (.cells #[.pointer p1, .pointer p2, .int .i64 (c.n : Int)] 72));have q5 := hp5.below ((Below.refl _ w5).alloc (Nat.le_refl _) (.cells #[.pointer p1, .pointer p2, .int .i64 (c.n : Int)] 72));have v6 := Lib.hid (hv5.alloc (.cells #[.pointer p1, .pointer p2, .int .i64 (c.n : Int)] 72));have d6 := Lib.hid (heap_alloc_new w5 (.cells #[.pointer p1, .pointer p2, .int .i64 (c.n : Int)] 72));have hs5 := ho5.size;rw [hsz] at hs5;have e0 := q5.c0;have e1 := q5.c1;have kl := q5.kl;replace r5 := Lib.hid r5;replace q5 := Lib.hid q5;clear c3 r3 hv5 hp5 ho5;have hlt : ¬ ((ks.length : Int) < (ks.length : Int)) := by omega
 go_wp2_with fail
 go_quiet (fail)
 have hdn := below_dn (Below.refl (w5.alloc (.cells #[.pointer p1, .pointer p2, .int .i64 (c.n : Int)] 72)).heap.size (w5.alloc (.cells #[.pointer p1, .pointer p2, .int .i64 (c.n : Int)] 72))) nq;have q6 := q5.out.below hdn;have r6 := Lib.hid (r5.out.below hdn);have v7 := Lib.hid (ChV.below v6.out hdn);have d7 := heldF (Only.of_below (F := fun _ => False) hdn) d6.out (fun h => h);have hz6 : w1.heap.size + 1 ≤ ((w5.alloc (.cells #[.pointer p1, .pointer p2, .int .i64 (c.n : Int)] 72)).drewN nq).heap.size := by
   show w1.heap.size + 1 ≤ (w5.alloc _).heap.size
   simp
   omega
 clear e0 e1 q5 q6 r5 v6 d6 hdn;generalize (w5.alloc (.cells #[.pointer p1, .pointer p2, .int .i64 (c.n : Int)] 72)).drewN nq = w6 at *;obtain ⟨x0, x1, x2, _, _, _⟩ := cells3 d7;have kT := Lib.hid (tree_any v7.out hl);clear v7 d7;go_wp2_with fail
 refine kT.out.mono ?_;rintro e' w7 ⟨u, rfl, hu, hb7⟩;obtain ⟨ua, uc, rfl, _, _⟩ := hu.shape;have r7 := r6.out.below hb7;obtain ⟨xt, xa, xe, yt, ya, ye⟩ := r7.cells;have r8 := r7.setT (.slice ua c.ts.length uc);have u8 := Lib.hid (TwsAt.far hu ((Only.refl (fun k => k = w.heap.size) w7).setCell (p := ⟨w.heap.size, 0, none⟩) (.inl rfl) (.slice ua c.ts.length uc)) (by omega));obtain ⟨x8t, x8a, x8e, y8t, y8a, y8e⟩ := r8.cells;replace r8 := Lib.hid r8;have k8 := Lib.hid (kC.out _ _ u8.out.twIn);clear kT kC x0 x1 x2 hu hb7 r6 r7 xa xe ya ye;go_wp2_with fail
 refine k8.out.mono ?_;rintro e' w9 ⟨rfl, hb9⟩;have r9 := r8.out.below hb9;have u9 := Lib.hid (u8.out.below hb9);obtain ⟨x9t, x9a, x9e, y9t, y9a, y9e⟩ := r9.cells;replace r9 := Lib.hid r9;clear k8 r8 u8 hb9 xt yt x8t x8a x8e y8t y8a y8e;have hy := hY.out;clear hY;by_cases hc0 : zc = 0
 · subst hc0
   rw [if_pos rfl] at hy;subst hy;have r10 := (((r9.out.setT (.slice ua c.ts.length uc)).setA 0).setE 0);have u10 : TwsAt (((w9.setCell ⟨w.heap.size, 0, none⟩ (.slice ua c.ts.length uc)).setCell ⟨w.heap.size + 1, 0, none⟩ (.int .i64 0)).setCell ⟨w.heap.size + 1 + 1, 0, none⟩ (.int .i64 0)) w6.heap.size (.slice ua c.ts.length uc) c.ts :=
     ((u9.out.far ((Only.refl (fun k => k = w.heap.size) _).setCell (p := ⟨w.heap.size, 0, none⟩) (.inl rfl) _) (by omega)).far ((Only.refl (fun k => k = w.heap.size + 1) _).setCell (p := ⟨w.heap.size + 1, 0, none⟩) (.inl rfl) _) (by omega)).far ((Only.refl (fun k => k = w.heap.size + 1 + 1) _).setCell (p := ⟨w.heap.size + 1 + 1, 0, none⟩) (.inl rfl) _) (by omega)
   obtain ⟨dt, da, de, _, _, _⟩ := r10.cells;replace r10 := Lib.hid r10;replace u10 := Lib.hid u10;go_wp2_with fail
   refine leaves_cons (f := 33) (args := #[.pointer (some ⟨w.heap.size, 0, none⟩), .pointer (some ⟨w.heap.size + 1, 0, none⟩), .pointer (some ⟨w.heap.size + 1 + 1, 0, none⟩)]) (by simp) (by simp [go_sem]) ?_;refine (idleP _ _ _ _).mono ?_;rintro e u' w'' ⟨rfl, rfl, rfl⟩;refine ⟨.tuple #[.slice ua c.ts.length uc, .int .i64 0, .int .i64 0], ?_, _, rfl, u10.out.low (by omega), r10.out.b⟩;simp [results, Tryz.results22, go_sem, dt, da, de]
 · rw [if_neg hc0] at hy
   subst hy;have hc1 : (zc == 0) = false := beq_eq_false_iff_ne.2 hc0;have r10 := (((r9.out.setT (.slice none 0 0)).setA 0).setE zc);obtain ⟨dt, da, de, _, _, _⟩ := r10.cells;replace r10 := Lib.hid r10;go_wp2_with fail
   refine leaves_cons (f := 33) (args := #[.pointer (some ⟨w.heap.size, 0, none⟩), .pointer (some ⟨w.heap.size + 1, 0, none⟩), .pointer (some ⟨w.heap.size + 1 + 1, 0, none⟩)]) (by simp) (by simp [go_sem]) ?_;refine (idleP _ _ _ _).mono ?_;rintro e u' w'' ⟨rfl, rfl, rfl⟩;refine ⟨.tuple #[.slice none 0 0, .int .i64 0, .int .i64 zc], ?_, _, rfl, tw_none _ _, r10.out.b⟩;simp [results, Tryz.results22, go_sem, dt, da, de]
end Go.Proofs.YtngbekhegnmfaaaGreatDoor
namespace Go.Proofs.YtngbekhegnmfaaaGreatDoor
open Go.RowKit Go.Shelf Tok
structure LstB (w W : World) (p1 p2 : Option Addr) (c : Ch) : Prop where
 b : W.heap[w.heap.size]? = some (.cells #[.pointer p1, .pointer p2, .int .i64 (c.n : Int)] 72 (0, 0))
 v : ChV W (fun k => w.heap.size < k) (.agg #[.pointer p1, .pointer p2, .int .i64 (c.n : Int)]) c
theorem LstB.below {w W W' : World} {p1 p2 : Option Addr} {c : Ch} (h : LstB w W p1 p2 c) (hb : Below W.heap.size W W') : LstB w W' p1 p2 c :=
 ⟨heldF (Only.of_below (F := fun _ => False) hb) h.b (fun h => h), h.v.below hb⟩
theorem LstB.step {w W W' : World} {R : Nat} {p1 p2 : Option Addr} {c : Ch} (h : LstB w W p1 p2 c) (hR : R < w.heap.size) (ho : Only (fun k => k = R) W W') : LstB w W' p1 p2 c :=
 ⟨heldB ho h.b (by omega), ChV.step (R := R) h.v (fun k hk => by omega) ho⟩
theorem laidL {w W : World} {R cap n j : Nat} {a : Option Addr} {ks : List Tk} (h : Mid w W R a cap n ks j) (hg : 1 < w.heap.size) {p q : Option Addr} {c : Ch} (hb : LstB w W p q c) :
   (((W.setCell ⟨w.heap.size, 0, none⟩ (.pointer p)).setCell ⟨w.heap.size, 1, none⟩ (.pointer q)).setCell ⟨w.heap.size, 2, none⟩ (.int .i64 (c.n : Int))).heap[w.heap.size]? = some (.cells #[.pointer p, .pointer q, .int .i64 (c.n : Int)] 72 (0, 0)) ∧
   Took (.ok c j) w R a cap n ks (.returned (.agg #[.pointer p, .pointer q, .int .i64 (c.n : Int)])) (((W.setCell ⟨w.heap.size, 0, none⟩ (.pointer p)).setCell ⟨w.heap.size, 1, none⟩ (.pointer q)).setCell ⟨w.heap.size, 2, none⟩ (.int .i64 (c.n : Int))) :=
 laid3 h (Nat.le_refl _) hg hb.b (hb.v.mono (fun k _ hk => ⟨by omega, by omega⟩))
set_option maxRecDepth 20000 in
set_option maxHeartbeats 8000000 in
theorem list_any {N : Nat} {q : NT} {o e : List UInt8} {R cap n : Nat} {a : Option Addr} {ks : List Tk} (hE : Enters N R) (f : Nat) (hP : ∀ f', f' ≤ f → Does N (fun i => gP ks f' q i) R a cap n ks)
   (hcn : ∀ f i c j, gP ks f q i = .ok c j → c.n + i ≤ j) (hR : 1 ≠ R) (ho : o ≠ []) (he : e ≠ []) {w : World} {i : Nat} (h : PR w R a cap n ks i) (hM : MakesOK w)
   (hne : gP ks (f + 1) (.list o q e) i ≠ .out) :
   Calls Tryz.prog 38 #[rp R, .string ⟨o.toArray⟩, .func (.func N) #[rp R] #[], .string ⟨e.toArray⟩] w (Took (gP ks (f + 1) (.list o q e) i) w R a cap n ks) := by
 have m0 := Lib.hid ((Mid.start h hM).alloc chZ);have hRl := h.lt;have hml := hM.lt;have b0 := Lib.hid (show LstB w (w.alloc chZ) none none Ch.none from ⟨heap_alloc_new w chZ, ChV.nil _ _⟩);unfold Enters at hE;have hrow : gP ks (f + 1) (.list o q e) i = (wantT ks o i).and fun _ i => if markT ks i = e then (wantT ks e i).and fun _ i => .ok Ch.none i else (gP ks f q i).and fun c i => gP ks f (.listGo q e c) i := rfl;rw [hrow] at hne ⊢;unfold wantT at hne ⊢;clear h hM hrow;by_cases hq : markT ks i = o
 · rw [if_pos hq] at hne ⊢
   unfold St.and at hne ⊢;dsimp only at hne ⊢;have c1 := Lib.hid (want_ok m0.out.pr ho hq);unfold rp at c1 ⊢;by_cases hq2 : markT ks (i + 1) = e
   · rw [if_pos hq2, if_pos hq2]
     dsimp only;have kM := Lib.hid (fun W (h : Mid w W R a cap n ks (i + 1)) => mark_call h hq2);have k3 := Lib.hid (fun W (hp : PR W R a cap n ks (i + 1)) => want_ok hp he hq2);unfold rp at k3;have e1 : (e == e) = true := beq_self_eq_true _;clear hP hne hcn;go_enter Tryz.func38, Tryz.ntmps38
     go_wp2_with fail
     refine c1.out.mono ?_;rintro e' w2 ⟨rfl, hp2, ho2⟩;have m2 := Lib.hid (m0.out.step hR hp2 ho2);have b2 := Lib.hid (b0.out.step hRl ho2);clear c1 m0 b0 hp2 ho2;go_wp2_with fail
     refine (kM.out _ m2.out).mono ?_;rintro e' w3 ⟨rfl, hb3⟩;have m3 := Lib.hid (m2.out.below hb3);have b3 := Lib.hid (b2.out.below hb3);clear m2 b2 hb3;go_wp2_with fail
     refine (k3.out _ m3.out.pr).mono ?_;rintro e' w4 ⟨rfl, hp4, ho4⟩;have m4 := m3.out.step hR hp4 ho4;have b4 := b3.out.step hRl ho4;obtain ⟨y0, y1, y2, y3, y4, y5⟩ := cells3 b4.b;obtain ⟨l1, l2⟩ := laidL m4 hml b4;replace l1 := Lib.hid l1; replace l2 := Lib.hid l2;clear m3 b3 m4 b4 hp4 ho4;go_wp2_with fail
     exact bodyPost_ret (ret_ch rfl rfl l1.out rfl) rfl l2.out
   · rw [if_neg hq2] at hne ⊢
     have kM := Lib.hid (fun W (h : Mid w W R a cap n ks (i + 1)) => mark_call h rfl);have e1 : (markT ks (i + 1) == e) = false := beq_eq_false_iff_ne.2 hq2;generalize markT ks (i + 1) = mk at *;cases hg : gP ks f q (i + 1) with
     | out => rw [hg] at hne; exact absurd rfl hne
     | bad j =>
       dsimp only;have cP := Lib.hid (fun W (hp : PR W R a cap n ks (i + 1)) (hm : MakesOK W) => does_bad (hP f (Nat.le_refl _)) hp hm hg);unfold rp at cP;clear hP hne hcn;go_enter Tryz.func38, Tryz.ntmps38
       go_wp2_with fail
       refine c1.out.mono ?_;rintro e' w2 ⟨rfl, hp2, ho2⟩;have m2 := Lib.hid (m0.out.step hR hp2 ho2);clear c1 m0 b0 hp2 ho2;go_wp2_with fail
       refine (kM.out _ m2.out).mono ?_;rintro e' w3 ⟨rfl, hb3⟩;have m3 := Lib.hid (m2.out.below hb3);clear m2 hb3;go_wp2_with fail
       refine (cP.out _ m3.out.pr m3.out.mo).mono ?_;rintro e' w4 ⟨rfl, hb4⟩;go_wp2_with fail
       exact ⟨rfl, rfl, m3.out.bad hb4⟩
     | ok c j =>
       rw [hg] at hne;dsimp only at hne ⊢;obtain ⟨Z, hZ⟩ := exHid (gP ks f (.listGo q e c) j);rw [hZ.out] at hne ⊢;have hc0 := hcn _ _ _ _ hg;have cP := Lib.hid (fun W (hp : PR W R a cap n ks (i + 1)) (hm : MakesOK W) => does_ok (hP f (Nat.le_refl _)) hp hm hg);unfold rp at cP;replace hP := Lib.hid hP; replace hcn := Lib.hid hcn;go_enter Tryz.func38, Tryz.ntmps38
       go_wp2_with fail
       refine c1.out.mono ?_;rintro e' w2 ⟨rfl, hp2, ho2⟩;have m2 := Lib.hid (m0.out.step hR hp2 ho2);have b2 := Lib.hid (b0.out.step hRl ho2);have hs2 := ho2.size;rw [World.size_alloc] at hs2;clear c1 m0 b0 hp2 ho2;go_wp2_with fail
       refine (kM.out _ m2.out).mono ?_;rintro e' w3 ⟨rfl, hb3⟩;have m3 := Lib.hid (m2.out.below hb3);have b3 := Lib.hid (b2.out.below hb3);have hs3 := hb3.size;clear m2 b2 hb3;go_wp2_with fail
       refine (cP.out _ m3.out.pr m3.out.mo).mono ?_;rintro e' w4 ⟨v4, rfl, hv4, hp4, ho4⟩;obtain ⟨p1, p2, rfl⟩ := hv4.agg;have m4 := m3.out.step hR hp4 ho4;have b4 := b3.out.step hRl ho4;obtain ⟨y0, y1, y2, y3, y4, y5⟩ := cells3 b4.b;obtain ⟨l1, l2⟩ := stored3 b4.b (.pointer p1) (.pointer p2) (.int .i64 (c.n : Int));have m5 := Lib.hid (m4.ext (Nat.le_refl _) (by omega) l2);have b5 := Lib.hid (show LstB w _ p1 p2 c from ⟨l1, (hv4.mono (G := fun k => w.heap.size < k) (fun k _ hk => by omega)).only l2 (fun k hk e => by omega)⟩);have hjl := m5.out.pr.le;clear m3 b3 m4 b4 hp4 ho4 hv4 cP kM;replace l1 := Lib.hid l1; replace l2 := Lib.hid l2;go_wp2_with fail
       clear y0 y1 y2 y3 y4 y5 l1 l2;generalize ((w4.setCell ⟨w.heap.size, 0, none⟩ (.pointer p1)).setCell ⟨w.heap.size, 1, none⟩ (.pointer p2)).setCell ⟨w.heap.size, 2, none⟩ (.int .i64 (c.n : Int)) = w6 at *;go_loopw [] (fun wr => ∃ (f' j : Nat) (c : Ch) (p1 p2 : Option Addr), f' ≤ f ∧ c.n ≤ j ∧ j ≤ ks.length ∧ Hid (gP ks f' (.listGo q e c) j = Z) ∧ Hid (Mid w wr R a cap n ks j) ∧ Hid (LstB w wr p1 p2 c)) (fun wr => ks.length - placeN wr R)
       case atStart => exact ⟨f, j, c, p1, p2, Nat.le_refl _, by omega, hjl, hZ, m5, b5⟩
       case round =>
         obtain ⟨f', j, c, p1, p2, hf', hc1, hjl1, hZ1, hm, hb⟩ := hrel;cases f' with
         | zero => exact absurd hZ1.out.symm hne
         | succ f'' =>
         have hz := hZ1.out;clear hZ1;have hun : gP ks (f'' + 1) (.listGo q e c) j = if markT ks j = B.com then (wantT ks B.com j).and fun _ i => (gP ks f'' q i).and fun c' i => gP ks f'' (.listGo q e (c.then c')) i else (wantT ks e j).and fun _ i => .ok c i := rfl;rw [hun] at hz;clear hun;unfold wantT at hz;obtain ⟨m, hmk⟩ := exHid (markT ks j);rw [hmk.out] at hz;have kM := Lib.hid (mark_call hm.out hmk.out);have hpl := Lib.hid (place_of hm.out);by_cases hcm : m = B.com
         · subst hcm
           rw [if_pos rfl, if_pos rfl] at hz;unfold St.and at hz;dsimp only at hz;have k3 := Lib.hid (fun W (hp : PR W R a cap n ks j) => want_ok hp (by decide : B.com ≠ []) hmk.out);unfold rp B.com at k3;unfold B.com at kM;cases hg2 : gP ks f'' q (j + 1) with
           | out => rw [hg2] at hz; exact absurd hz.symm hne
           | bad k =>
             rw [hg2] at hz;subst hz;have cP := Lib.hid (fun W (hp : PR W R a cap n ks (j + 1)) (hm : MakesOK W) => does_bad (hP.out f'' (by omega)) hp hm hg2);unfold rp at cP;go_wp2_with fail
             refine kM.out.mono ?_;rintro e' w7 ⟨rfl, hb7⟩;have hm7 := Lib.hid (hm.out.below hb7);have bB7 := Lib.hid (hb.out.below hb7);go_wp2_with fail
             refine (k3.out _ hm7.out.pr).mono ?_;rintro e' w9 ⟨rfl, hp9, ho9⟩;have mC := Lib.hid ((hm7.out.step hR hp9 ho9).below ((Below.refl _ w9).drew));have bC := Lib.hid ((bB7.out.step hRl ho9).below ((Below.refl _ w9).drew));obtain ⟨x0, x1, x2, _, _, _⟩ := cells3 bC.out.b;clear hm7 bB7 kM k3;go_wp2_with fail
             refine wp_region_any (by kernel_rfl) ?_
             change wpAny _ _ _ _ _ _ _ (World.drew _)
             refine wpAny_take (i := 1) (v := .func (.func N) #[.pointer (some ⟨R, 0, none⟩)] #[]) rfl (by kernel_rfl) (by kernel_rfl) (by kernel_rfl) (fun _ _ _ h => h) (Or.inl ⟨by rfl, by intro w; go_simp⟩) ?_;refine wpAny_ready (rs := [0, 2]) (by kernel_rfl) (by simp) ?_;refine AllReady.cons rfl (fun K hK => ?_) (AllReady.cons rfl (fun K hK => ?_) AllReady.nil)
             · go_simp
               refine hK _ _ ?_;clear hK K;refine wpAny_ready (rs := [2]) (by kernel_rfl) (by simp) ?_;refine AllReady.cons rfl (fun K hK => ?_) AllReady.nil
               · go_simp
                 go_wp2_with fail
                 refine (cP.out _ mC.out.pr mC.out.mo).mono ?_;rintro e' w10 ⟨rfl, hb10⟩;go_wp2_with fail
                 exact ⟨rfl, rfl, mC.out.bad hb10⟩
             · go_simp
               go_wp2_with fail
               refine (cP.out _ mC.out.pr mC.out.mo).mono ?_;rintro e' w10 ⟨rfl, hb10⟩;go_wp2_with fail
               exact ⟨rfl, rfl, mC.out.bad hb10⟩
           | ok d k =>
             rw [hg2] at hz;replace hz := Lib.hid hz;have hdn := hcn.out _ _ _ _ hg2;have cP := Lib.hid (fun W (hp : PR W R a cap n ks (j + 1)) (hm : MakesOK W) => does_ok (hP.out f'' (by omega)) hp hm hg2);unfold rp at cP;go_wp2_with fail
             refine kM.out.mono ?_;rintro e' w7 ⟨rfl, hb7⟩;have hm7 := Lib.hid (hm.out.below hb7);have bB7 := Lib.hid (hb.out.below hb7);go_wp2_with fail
             refine (k3.out _ hm7.out.pr).mono ?_;rintro e' w9 ⟨rfl, hp9, ho9⟩;have mC := Lib.hid ((hm7.out.step hR hp9 ho9).below ((Below.refl _ w9).drew));have bC := Lib.hid ((bB7.out.step hRl ho9).below ((Below.refl _ w9).drew));obtain ⟨x0, x1, x2, _, _, _⟩ := cells3 bC.out.b;clear hm7 bB7 kM k3 hb;go_wp2_with fail
             go_region_law (first
               | (go_simp; refine (cP.out _ mC.out.pr mC.out.mo).mono ?_; rintro e' w10 ⟨v10, rfl, hv10, hp10, ho10⟩; obtain ⟨q1, q2, rfl⟩ := hv10.agg; have hT := Lib.hid (Array.getElem?_eq_some_iff.1 bC.out.b).1; have vC := Lib.hid (ChV.step (R := R) (ChV.cut bC.out.v) (fun k hk => by have := hk.1; omega) ho10); have dC := Lib.hid hv10; replace mC := Lib.hid (mC.out.step hR hp10 ho10); replace bC := Lib.hid (bC.out.step hRl ho10); have hlim := mC.out.pr.le; have hkl := mC.out.pr.kl; obtain ⟨x0, x1, x2, _, _, _⟩ := cells3 bC.out.b)
               | (go_simp; go_at_call 40; refine (then_any vC.out dC.out (fun k h1 h2 => by have h3 := h1.2; omega) (by omega)).mono ?_; rintro e' w12 ⟨z12, rfl, hv12, ho12⟩; obtain ⟨r1, r2, rfl⟩ := hv12.agg; replace mC := Lib.hid (mC.out.extF hml (fun k h => by have := h.1; omega) ho12); have cC := heldF ho12 bC.out.b (fun h => by have := h.1; omega); obtain ⟨y0, y1, y2, y3, y4, y5⟩ := cells3 cC; replace cC := Lib.hid cC))
             all_goals
               obtain ⟨l1, l2⟩ := stored3 cC.out (.pointer r1) (.pointer r2) (.int .i64 ((c.then d).n : Int));have hjl2 := mC.out.pr.le;have hmE := Lib.hid (mC.out.ext (Nat.le_refl _) (by omega) l2);have hbE := Lib.hid (show LstB w _ r1 r2 (c.then d) from ⟨l1, (hv12.mono (G := fun k => w.heap.size < k) (fun k _ hk => by
                 have a1 := hT.out;rcases hk with hk | hk
                 · exact hk.1
                 · omega)).only l2 (fun k hk e => by omega)⟩)
               have hpe := Lib.hid (place_of hmE.out);replace l1 := Lib.hid l1; replace l2 := Lib.hid l2;go_wp2_with fail
               go_roundw
               case rel => exact ⟨f'', k, c.then d, r1, r2, by omega, by show c.n + d.n ≤ k; omega, hjl2, hz, hmE, hbE⟩
               case measure =>
                 rw [hpe.out, hpl.out];omega
         · rw [if_neg hcm] at hz
           have e2 : (m == B.com) = false := beq_eq_false_iff_ne.2 hcm;unfold B.com at e2;by_cases hme : m = e
           · subst hme
             rw [if_pos rfl] at hz;unfold St.and at hz;dsimp only at hz;subst hz;have k3 := Lib.hid (fun W (hp : PR W R a cap n ks j) => want_ok hp he hmk.out);unfold rp at k3;go_wp2_with fail
             refine kM.out.mono ?_;rintro e' w7 ⟨rfl, hb7⟩;have hm7 := Lib.hid (hm.out.below hb7);have bB7 := Lib.hid (hb.out.below hb7);go_wp2_with fail
             refine (k3.out _ hm7.out.pr).mono ?_;rintro e' w9 ⟨rfl, hp9, ho9⟩;have m4 := hm7.out.step hR hp9 ho9;have b4 := bB7.out.step hRl ho9;obtain ⟨y0, y1, y2, y3, y4, y5⟩ := cells3 b4.b;obtain ⟨l1, l2⟩ := laidL m4 hml b4;replace l1 := Lib.hid l1; replace l2 := Lib.hid l2;clear hm7 m4 b4;go_wp2_with fail
             exact bodyPost_ret (ret_ch rfl rfl l1.out rfl) rfl l2.out
           · rw [if_neg hme] at hz
             unfold St.and at hz;dsimp only at hz;subst hz;have k3 := Lib.hid (fun W (hp : PR W R a cap n ks j) => want_bad hp he (fun h => hme (hmk.out.symm.trans h)));clear hme;unfold rp at k3;go_wp2_with fail
             refine kM.out.mono ?_;rintro e' w7 ⟨rfl, hb7⟩;have hm7 := Lib.hid (hm.out.below hb7);go_wp2_with fail
             refine (k3.out _ hm7.out.pr).mono ?_;rintro e' w9 ⟨rfl, hb9⟩;go_wp2_with fail
             exact ⟨rfl, rfl, hm7.out.bad hb9⟩
 · rw [if_neg hq] at hne ⊢
   unfold St.and;dsimp only;have c1 := Lib.hid (want_bad m0.out.pr ho hq);clear hP hne hcn;unfold rp at c1 ⊢;go_enter Tryz.func38, Tryz.ntmps38
   go_wp2_with fail
   refine c1.out.mono ?_;rintro e w2 ⟨rfl, hb⟩;go_wp2_with fail
   exact ⟨rfl, rfl, m0.out.bad hb⟩
end Go.Proofs.YtngbekhegnmfaaaGreatDoor
namespace Go.Proofs.YtngbekhegnmfaaaGreatDoor
open Go.RowKit Go.Shelf Tok
section
variable {w : World} {R cap n i : Nat} {a : Option Addr} {ks : List Tk}
theorem own_ok (h : PR w R a cap n ks i) {x : List UInt8} {j : Nat} (hq : ownT ks i = .ok x j) :
   Calls Tryz.prog 37 #[rp R] w fun e w' => e = .returned (.string ⟨x.toArray⟩) ∧ PR w' R a cap n ks j ∧ Only (fun k => k = R) w w' := by
 refine (own_any h).mono ?_;intro e w' ht;rw [hq] at ht;obtain ⟨⟨v, he, hv⟩, h2, h3⟩ := ht;exact ⟨by rw [he, hv], h2, h3⟩
theorem own_bad (h : PR w R a cap n ks i) {j : Nat} (hq : ownT ks i = .bad j) :
   Calls Tryz.prog 37 #[rp R] w fun e w' => e = .panicked [{ v := faultOf ks n j, recovered := false }] ∧ Below R w w' := by
 refine (own_any h).mono ?_;intro e w' ht;rw [hq] at ht;exact ht
end
set_option maxRecDepth 20000 in
set_option maxHeartbeats 2000000 in
theorem param_any {R cap n : Nat} {a : Option Addr} {ks : List Tk} (hR : 1 ≠ R) {w : World} {i : Nat} (h : PR w R a cap n ks i) (hM : MakesOK w)
   (hne : ((ownT ks i).and fun nm i => St.ok (Ch.none.under 2 0 nm) i) ≠ .out) :
   Calls Tryz.prog 39 #[rp R] w (Took ((ownT ks i).and fun nm i => .ok (Ch.none.under 2 0 nm) i) w R a cap n ks) := by
 have m0 := Lib.hid ((Mid.start h hM).alloc chZ);have hRl := h.lt;have hml := hM.lt;have b0 := Lib.hid (heap_alloc_new w chZ);clear h hM;unfold St.and at hne ⊢;cases hg : ownT ks i with
 | out => rw [hg] at hne; exact absurd rfl hne
 | bad j =>
   dsimp only;have c1 := Lib.hid (own_bad m0.out.pr hg);clear hne;unfold rp at c1 ⊢;go_enter Tryz.func39, Tryz.ntmps39
   go_wp2_with fail
   refine c1.out.mono ?_;rintro e' w3 ⟨rfl, hb3⟩;go_wp2_with fail
   exact ⟨rfl, rfl, m0.out.bad hb3⟩
 | ok x j =>
   dsimp only;have c1 := Lib.hid (own_ok m0.out.pr hg);clear hne;unfold rp at c1 ⊢;go_enter Tryz.func39, Tryz.ntmps39
   go_wp2_with fail
   refine c1.out.mono ?_;rintro e' w2 ⟨rfl, hp2, ho2⟩;have m2 := Lib.hid (m0.out.step hR hp2 ho2);have b2 := Lib.hid (heldB ho2 b0.out (by omega));clear c1 m0 b0 hp2 ho2;go_wp2_with fail
   refine (leaf_any 2 0 0 x).mono ?_;rintro e' w3 ⟨z3, rfl, hv3, hb3⟩;obtain ⟨p1, p2, rfl⟩ := hv3.agg;have hT := (Array.getElem?_eq_some_iff.1 b2.out).1;have m3 := m2.out.below hb3;have b3 := heldF (Only.of_below (F := fun _ => False) hb3) b2.out (fun h => h);obtain ⟨y0, y1, y2, y3, y4, y5⟩ := cells3 b3;obtain ⟨l1, l2⟩ := laid3 m3 (Nat.le_refl _) hml b3 (hv3.mono (fun k _ hk => ⟨by omega, by omega⟩));replace l1 := Lib.hid l1; replace l2 := Lib.hid l2;clear m2 b2 m3 b3 hb3 hv3;go_wp2_with fail
   exact bodyPost_ret (ret_ch rfl rfl l1.out rfl) rfl l2.out
set_option maxRecDepth 20000 in
set_option maxHeartbeats 2000000 in
theorem block_any {R cap n : Nat} {a : Option Addr} {ks : List Tk} (hR : 1 ≠ R) {w : World} {i : Nat} {s : St Ch} (h : PR w R a cap n ks i) (hM : MakesOK w)
   (hB : ∀ W, PR W R a cap n ks i → MakesOK W → s ≠ .out → Calls Tryz.prog 80 #[rp R, .string ⟨B.lbr.toArray⟩, .func (.func 81) #[rp R] #[], .string ⟨B.rbr.toArray⟩] W (Took s W R a cap n ks))
   (hcn : ∀ c j, s = .ok c j → c.n ≤ 100000000) (hne : (s.and fun c i => St.ok (c.under 3 0 []) i) ≠ .out) :
   Calls Tryz.prog 41 #[rp R] w (Took (s.and fun c i => .ok (c.under 3 0 []) i) w R a cap n ks) := by
 have m0 := Lib.hid ((Mid.start h hM).alloc chZ);have hRl := h.lt;have hml := hM.lt;have b0 := Lib.hid (heap_alloc_new w chZ);clear h hM;unfold St.and at hne ⊢;cases s with
 | out => exact absurd rfl hne
 | bad j =>
   dsimp only;have c1 := Lib.hid (hB _ m0.out.pr m0.out.mo (fun e => by cases e));clear hne hB hcn;unfold rp B.lbr B.rbr at c1;unfold rp;go_enter Tryz.func41, Tryz.ntmps41
   go_wp2_with fail
   refine c1.out.mono ?_;rintro e' w3 ⟨rfl, hb3⟩;go_wp2_with fail
   exact ⟨rfl, rfl, m0.out.bad hb3⟩
 | ok c j =>
   dsimp only;have c1 := Lib.hid (hB _ m0.out.pr m0.out.mo (fun e => by cases e));have hc := hcn c j rfl;clear hne hB hcn;unfold rp B.lbr B.rbr at c1;unfold rp;go_enter Tryz.func41, Tryz.ntmps41
   go_wp2_with fail
   refine c1.out.mono ?_;rintro e' w2 ⟨⟨v2, rfl, hv2⟩, hp2, ho2⟩;rw [World.size_alloc] at hv2;obtain ⟨q1, q2, rfl⟩ := hv2.agg;have m2 := Lib.hid (m0.out.step hR hp2 ho2);have b2 := Lib.hid (heldB ho2 b0.out (by omega));clear c1 m0 b0 hp2 ho2;replace hv2 := Lib.hid hv2;go_wp2_with fail
   refine (under_any hv2.out (by omega) 3 0 0 []).mono ?_;rintro e' w3 ⟨z3, rfl, hv3, hb3⟩;obtain ⟨p1, p2, rfl⟩ := hv3.agg;have hT := (Array.getElem?_eq_some_iff.1 b2.out).1;have m3 := m2.out.below hb3;have b3 := heldF (Only.of_below (F := fun _ => False) hb3) b2.out (fun h => h);obtain ⟨y0, y1, y2, y3, y4, y5⟩ := cells3 b3;obtain ⟨l1, l2⟩ := laid3 m3 (Nat.le_refl _) hml b3 (hv3.mono (fun k _ hk => by
     rcases hk with hk | hk
     · exact ⟨by omega, by omega⟩
     · exact ⟨by omega, by omega⟩))
   replace l1 := Lib.hid l1; replace l2 := Lib.hid l2;clear m2 b2 m3 b3 hb3 hv3 hv2;go_wp2_with fail
   exact bodyPost_ret (ret_ch rfl rfl l1.out rfl) rfl l2.out
end Go.Proofs.YtngbekhegnmfaaaGreatDoor
