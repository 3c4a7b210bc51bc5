/- A part of the proof: RChk, PRead, PCont. No condition. -/
import Derived.Test.YtjiemkidmlgbeaaGreatDoorQ05
import Derived.Test.YtjiemkidmlgbeaaGreatDoorQ06
import Derived.Test.YtjiemkidmlgbeaaGreatDoorQ09
import Derived.Test.YtjiemkidmlgbeaaGreatDoorQ10
set_option linter.unusedVariables false
set_option linter.unusedSimpArgs false
namespace Go.Proofs.YtjiemkidmlgbeaaGreatDoor
open Go.RowKit Go.Shelf
set_option maxRecDepth 20000 in
theorem Check_any {v : Value} {ts : List Tw} (w : World) (hT : TwIn w v ts) (hf : ∀ x ∈ ts, FitT x) :
   Calls Tryz.prog 7 #[v] w fun e w' => e = .returned (.tuple #[.int .i64 (lookF ts).1, .int .i64 (lookF ts).2.2]) ∧ Below w.heap.size w w' := by
 obtain ⟨Z, hZ⟩ := exHid (lookF ts);have hl : ∀ W b, TwIn W v ts → KMap W b tabL → Calls Tryz.prog 16 #[.map (some b), v] W fun e w' => e = .returned (.tuple #[.int .i64 Z.1, .int .i64 Z.2.1, .int .i64 Z.2.2]) ∧ Below W.heap.size W w' := fun W b h1 h2 => by rw [← hZ.out]; exact look_any W h1 hf h2
 rw [hZ.out];replace hl := Lib.hid hl;replace hf := Lib.hid hf;have hTT := Lib.hid hT;obtain ⟨a, cap, rfl, _, _, _⟩ := hT;go_enter Tryz.func7, Tryz.ntmps7
 go_wp2_with fail
 refine (table_any w).mono ?_;rintro e w1 ⟨b, rfl, hK, hb⟩;go_wp2_with fail
 refine (hl.out w1 b (hTT.out.below hb) hK).mono ?_;rintro e w2 ⟨rfl, hb2⟩;have hb3 : Below w.heap.size w w2 := hb.trans (hb2.mono hb.size);go_wp2_with fail
 go_ret2
 exact ⟨rfl, hb3⟩
end Go.Proofs.YtjiemkidmlgbeaaGreatDoor
namespace Go.Proofs.YtjiemkidmlgbeaaGreatDoor
open Go.RowKit Go.Shelf Tok
def plOf (ks : List Tk) (n j : Nat) : Nat × Nat := if j = ks.length then (n, 4) else ((tkAt ks j).at_, 9)
theorem faultOf_pl (ks : List Tk) (n j : Nat) : faultOf ks n j = .iface 78 (.agg #[.int .i64 (plOf ks n j).2, .int .i64 (plOf ks n j).1]) := by
 unfold faultOf plOf faultV;split <;> rfl
def fuelP (ks : List Tk) (q : NT) : Nat := 32 * ks.length + q.rank + 1
def readK (ks : List Tk) (n : Nat) (q : NT) : List Tw × Int × Int := match gP ks (fuelP ks q) q 0 with
 | .ok c j => if j < ks.length then ([], (plOf ks n j).1, (plOf ks n j).2) else if (lookF c.ts).2.2 = 0 then (c.ts, 0, 0) else ([], 0, (lookF c.ts).2.2)
 | .bad j => ([], (plOf ks n j).1, (plOf ks n j).2)
 | .out => ([], 0, 0)
def readR (l : List UInt8) (q : NT) : List Tw × Int × Int := if (allT l).code ≠ 0 then ([], (allT l).at_, (allT l).code) else readK (allT l).toks l.length q
def ReadP (r : List Tw × Int × Int) (w : World) (e : Ending) (w' : World) : Prop :=
 ∃ v, e = .returned (.tuple #[v, .int .i64 r.2.1, .int .i64 r.2.2]) ∧ TwsAt w' w.heap.size v r.1 ∧ Below w.heap.size w w'
structure RB (w W : World) (x : Value) (y z : Int) : Prop where
 t : W.heap[w.heap.size]? = some (.cells #[x] 23 (0, 0))
 a : W.heap[w.heap.size + 1]? = some (.cells #[.int .i64 y] 3 (0, 0))
 e : W.heap[w.heap.size + 1 + 1]? = some (.cells #[.int .i64 z] 25 (0, 0))
 b : Below w.heap.size w W
section
variable {w W W' : World} {x : Value} {y z : Int}
theorem RB.new (w : World) : RB w (((w.alloc (.cells #[.slice none 0 0] 23)).alloc (.cells #[.int .i64 0] 3)).alloc (.cells #[.int .i64 0] 25)) (.slice none 0 0) 0 0 := by
 have s1 : (w.alloc (.cells #[.slice none 0 0] 23)).heap.size = w.heap.size + 1 := by simp
 have s2 : ((w.alloc (.cells #[.slice none 0 0] 23)).alloc (.cells #[.int .i64 0] 3)).heap.size = w.heap.size + 1 + 1 := by simp
 refine ⟨?_, ?_, ?_, (((Below.refl _ w).alloc (Nat.le_refl _) _).alloc (by omega) _).alloc (by omega) _⟩
 · rw [Below.heap_alloc _ _ _ (by omega), Below.heap_alloc _ _ _ (by omega)]
   exact heap_alloc_new w _
 · rw [Below.heap_alloc _ _ _ (by omega), ← s1]
   exact heap_alloc_new _ _
 · rw [← s2]
   exact heap_alloc_new _ _
theorem RB.kept {F : Nat → Prop} (h : RB w W x y z) (ho : Only F W W') (hF : ∀ k, F k → w.heap.size + 1 + 1 < k) : RB w W' x y z := by
 have hs : w.heap.size + 1 + 1 < W.heap.size := (Array.getElem?_eq_some_iff.1 h.e).1;exact ⟨(ho.block _ (by omega) (fun k => by have := hF _ k; omega)).trans h.t, (ho.block _ (by omega) (fun k => by have := hF _ k; omega)).trans h.a, (ho.block _ (by omega) (fun k => by have := hF _ k; omega)).trans h.e,
   h.b.trans (ho.below (by omega) (fun k _ hk => by have := hF _ hk; omega))⟩
theorem RB.below (h : RB w W x y z) (hb : Below W.heap.size W W') : RB w W' x y z := h.kept (F := fun _ => False) (Only.of_below hb) (fun _ k => k.elim)
theorem RB.size (h : RB w W x y z) : w.heap.size + 1 + 1 < W.heap.size := (Array.getElem?_eq_some_iff.1 h.e).1
theorem RB.cells (h : RB w W x y z) : W.cell? ⟨w.heap.size, 0, none⟩ = some x ∧ W.cell? ⟨w.heap.size + 1, 0, none⟩ = some (.int .i64 y) ∧ W.cell? ⟨w.heap.size + 1 + 1, 0, none⟩ = some (.int .i64 z) ∧
   W.frozen? ⟨w.heap.size, 0, none⟩ = false ∧ W.frozen? ⟨w.heap.size + 1, 0, none⟩ = false ∧ W.frozen? ⟨w.heap.size + 1 + 1, 0, none⟩ = false := by
 refine ⟨?_, ?_, ?_, ?_, ?_, ?_⟩
 · simp [World.cell?, h.t]
 · simp [World.cell?, h.a]
 · simp [World.cell?, h.e]
 · simp [World.frozen?, h.t]
 · simp [World.frozen?, h.a]
 · simp [World.frozen?, h.e]
theorem RB.low {R : Nat} (h : RB w W x y z) (hb : Below R W W') (hR : w.heap.size + 1 + 1 < R) : RB w W' x y z :=
 ⟨(hb.block _ (by omega)).trans h.t, (hb.block _ (by omega)).trans h.a, (hb.block _ (by omega)).trans h.e, h.b.trans (hb.mono (by omega))⟩
theorem RB.drew (h : RB w W x y z) : RB w W.drew x y z := ⟨h.t, h.a, h.e, h.b.trans ((Below.refl _ W).drew.mono (Nat.le_refl _))⟩
theorem RB.setE (h : RB w W x y z) (v : Int) : RB w (W.setCell ⟨w.heap.size + 1 + 1, 0, none⟩ (.int .i64 v)) x y v := by
 have ho : Only (fun k => k = w.heap.size + 1 + 1) W (W.setCell ⟨w.heap.size + 1 + 1, 0, none⟩ (.int .i64 v)) := (Only.refl (fun k => k = w.heap.size + 1 + 1) W).setCell (p := ⟨w.heap.size + 1 + 1, 0, none⟩) (.inl rfl) _;have hs := h.size;exact ⟨(ho.block _ (by omega) (by omega)).trans h.t, (ho.block _ (by omega) (by omega)).trans h.a, by simpa using heap_setCell_same W _ 0 _ _ (.int .i64 v) h.e, h.b.trans (ho.below (by omega) (fun k _ hk => by omega))⟩
theorem RB.setA (h : RB w W x y z) (v : Int) : RB w (W.setCell ⟨w.heap.size + 1, 0, none⟩ (.int .i64 v)) x v z := by
 have ho : Only (fun k => k = w.heap.size + 1) W (W.setCell ⟨w.heap.size + 1, 0, none⟩ (.int .i64 v)) := (Only.refl (fun k => k = w.heap.size + 1) W).setCell (p := ⟨w.heap.size + 1, 0, none⟩) (.inl rfl) _;have hs := h.size;exact ⟨(ho.block _ (by omega) (by omega)).trans h.t, by simpa using heap_setCell_same W _ 0 _ _ (.int .i64 v) h.a, (ho.block _ (by omega) (by omega)).trans h.e, h.b.trans (ho.below (by omega) (fun k _ hk => by omega))⟩
theorem RB.setT (h : RB w W x y z) (v : Value) : RB w (W.setCell ⟨w.heap.size, 0, none⟩ v) v y z := by
 have ho : Only (fun k => k = w.heap.size) W (W.setCell ⟨w.heap.size, 0, none⟩ v) := (Only.refl (fun k => k = w.heap.size) W).setCell (p := ⟨w.heap.size, 0, none⟩) (.inl rfl) _;have hs := h.size;exact ⟨by simpa using heap_setCell_same W _ 0 _ _ v h.t, (ho.block _ (by omega) (by omega)).trans h.a, (ho.block _ (by omega) (by omega)).trans h.e, h.b.trans (ho.below (by omega) (fun k _ hk => by omega))⟩
end
theorem tw_none (W : World) (b : Nat) : TwsAt W b (.slice none 0 0) [] := World.ownsRow_nil _ _ _ _
set_option maxRecDepth 20000 in
set_option maxHeartbeats 1000000 in
theorem read_tok {f : Value} (s : ByteArray) (w : World) (hs : s.size ≤ 140737488351232) (hA : ErrR w) (hS : SignsOK w) (hc : (allT s.data.toList).code ≠ 0) :
   Calls Tryz.prog 33 #[.string s, f] w (ReadP ([], (allT s.data.toList).at_, (allT s.data.toList).code) w) := by
 have r0 := RB.new w;have k1 := All_every s _ hs (hA.below (r0.b)) (hS.below (r0.b));unfold AllPost at k1;replace k1 := Lib.hid k1;replace r0 := Lib.hid r0;clear hA hS;generalize allT s.data.toList = T at *;obtain ⟨ks, at_, cd⟩ := T;dsimp only at hc ⊢;have hc1 : ((cd : Int) == 0) = false := beq_eq_false_iff_ne.2 (by omega);go_enter_defers Tryz.func33, Tryz.ntmps33
 go_wp2_with fail
 refine k1.out.mono ?_;rintro e' w1 ⟨v1, rfl, hk1, hb1⟩;have r1 := r0.out.below hb1;obtain ⟨ct, ca, ce, ft, fa, fe⟩ := r1.cells;have r2 := (r1.setA (at_ : Int)).setE (cd : Int);obtain ⟨dt, da, de, gt, ga, ge⟩ := r2.cells;replace r2 := Lib.hid r2;have hz := r1.size;clear k1 r0 r1 hk1 hb1;go_wp2_with fail
 go_region
 have r3 := (((r2.out.setT (.slice none 0 0)).setA (at_ : Int)).setE (cd : Int));clear dt da de gt ga ge ct ca ce ft fa fe;go_wp2_with fail
 obtain ⟨dt, da, de, _, _, _⟩ := r3.drew.cells;refine ⟨.tuple #[.slice none 0 0, .int .i64 at_, .int .i64 cd], ?_, _, rfl, tw_none _ _, r3.drew.b⟩;clear r3;simp [results, Tryz.results33, go_sem, dt, da, de]
theorem made_rd {w w1 : World} {s : ByteArray} {ks : List Tk} {v : Value} (r : RB w w1 (.slice none 0 0) 0 0) (ht : TksAt w1 (w.heap.size + 1 + 1 + 1) v ks) (hk : ks.length ≤ 16384) (hM : MakesOK w) :
   ∃ a cap, v = .slice a ks.length cap ∧ 2 ≠ w1.heap.size ∧ w.heap.size + 1 + 1 < w1.heap.size ∧
     RB w (((w1.setCell ⟨w.heap.size + 1, 0, none⟩ (.int .i64 0)).setCell ⟨w.heap.size + 1 + 1, 0, none⟩ (.int .i64 0)).alloc (.cells #[.slice a ks.length cap, .int .i64 0, .int .i64 s.size] 80)) (.slice none 0 0) 0 0 ∧
     PR (((w1.setCell ⟨w.heap.size + 1, 0, none⟩ (.int .i64 0)).setCell ⟨w.heap.size + 1 + 1, 0, none⟩ (.int .i64 0)).alloc (.cells #[.slice a ks.length cap, .int .i64 0, .int .i64 s.size] 80)) w1.heap.size a cap s.size ks 0 ∧
     MakesOK (((w1.setCell ⟨w.heap.size + 1, 0, none⟩ (.int .i64 0)).setCell ⟨w.heap.size + 1 + 1, 0, none⟩ (.int .i64 0)).alloc (.cells #[.slice a ks.length cap, .int .i64 0, .int .i64 s.size] 80)) := by
 obtain ⟨a, cap, rfl, _, _⟩ := ht.shape;have hz := r.size;have hml := hM.lt;have r2 := (r.setA 0).setE 0;have ho : Only (fun k => k = w.heap.size + 1 ∨ k = w.heap.size + 1 + 1) w1 ((w1.setCell ⟨w.heap.size + 1, 0, none⟩ (.int .i64 0)).setCell ⟨w.heap.size + 1 + 1, 0, none⟩ (.int .i64 0)) :=
   ((Only.refl _ w1).setCell (p := ⟨w.heap.size + 1, 0, none⟩) (.inl (.inl rfl)) _).setCell (p := ⟨w.heap.size + 1 + 1, 0, none⟩) (.inl (.inr rfl)) _
 have hs : ((w1.setCell ⟨w.heap.size + 1, 0, none⟩ (.int .i64 0)).setCell ⟨w.heap.size + 1 + 1, 0, none⟩ (.int .i64 0)).heap.size = w1.heap.size := by simp
 have t2 : TksAt ((w1.setCell ⟨w.heap.size + 1, 0, none⟩ (.int .i64 0)).setCell ⟨w.heap.size + 1 + 1, 0, none⟩ (.int .i64 0)) (w.heap.size + 1 + 1 + 1) (.slice a ks.length cap) ks := by
   refine ownsRow_only ht ho (fun k hk h => ?_);rcases ht.2 with ⟨hv, _⟩ | ⟨g, cap', cur, hv, hb, _⟩
   · rw [hv] at hk
     simp [Value.ownBlock] at hk
   · rw [hv] at hk
     simp [Value.ownBlock] at hk
     omega
 generalize (w1.setCell ⟨w.heap.size + 1, 0, none⟩ (.int .i64 0)).setCell ⟨w.heap.size + 1 + 1, 0, none⟩ (.int .i64 0) = W at *;have hal := (Below.refl W.heap.size W).alloc (Nat.le_refl _) (.cells #[.slice a ks.length cap, .int .i64 0, .int .i64 s.size] 80);have t3 := t2.below hal;refine ⟨a, cap, rfl, by omega, hz, r2.below hal, ⟨?_, t3.tkIn, ?_, Nat.zero_le _, by omega⟩, ?_⟩
 · rw [← hs]
   exact heap_alloc_new W _
 · intro q hq h0
   obtain ⟨a', cap', e, _, _, h3⟩ := t2.tkIn;injection e with e _ _;obtain ⟨g, off, e2, hg, _⟩ := h3 h0;rw [hq] at e;rw [← e] at e2;injection e2 with e2;rw [e2, ← hs];exact Nat.ne_of_lt hg
 · exact hM.below hml ((r2.below hal).b)
set_option maxRecDepth 20000 in
set_option maxHeartbeats 1000000 in
theorem read_bad {N : Nat} (hE : ∀ R, Enters N R) {G : Nat → St Ch} {ks : List Tk} {at_ j : Nat} (s : ByteArray) (w : World) (hs : s.size ≤ 140737488351232) (hA : ErrR w) (hS : SignsOK w) (hM : MakesOK w) (hT : allT s.data.toList = ⟨ks, at_, 0⟩)
   (hD : ∀ R a cap, 2 ≠ R → Does N G R a cap s.size ks) (hg : G 0 = .bad j) :
   Calls Tryz.prog 33 #[.string s, .func (.func N) #[] #[]] w (ReadP ([], (plOf ks s.size j).1, (plOf ks s.size j).2) w) := by
 have hmf : ∀ (fn : Fn) (first cap : Array Value) (w : World), (Instr.makeFunc fn first cap).run Tryz.prog w = .ok (.func fn first cap) w := fun _ _ _ _ => rfl;obtain ⟨hk, rfl⟩ := Cut.allT_few hT;have r0 := RB.new w;have k1 := All_every s _ hs (hA.below (r0.b)) (hS.below (r0.b));unfold AllPost at k1;rw [hT] at k1;dsimp only at k1;replace k1 := Lib.hid k1;replace r0 := Lib.hid r0;replace hD := Lib.hid hD;unfold Enters at hE;clear hA hS hT;go_enter_defers Tryz.func33, Tryz.ntmps33
 go_wp2_with fail
 refine k1.out.mono ?_;rintro e' w1 ⟨v1, rfl, hk1, hb1⟩;have r1 := r0.out.below hb1;simp only [World.size_alloc] at hk1;obtain ⟨ct, ca, ce, ft, fa, fe⟩ := r1.cells;have r2 := (r1.setA 0).setE 0;obtain ⟨dt, da, de, gt, ga, ge⟩ := r2.cells;obtain ⟨a, cap, rfl, hR, hz, r3, p3, m3⟩ := made_rd (s := s) r1 hk1 hk hM;have c3 := (does_bad (hD.out _ a cap hR) p3 m3 hg).mono (fun e w' h => by rw [faultOf_pl] at h; exact h);replace c3 := Lib.hid c3;replace r3 := Lib.hid r3;clear k1 r0 r1 hk1 hb1 r2 p3 m3 hD;go_wp2_with fail
 refine c3.out.mono ?_;rintro e' w5 ⟨rfl, hb5⟩;have r5 := r3.out.low hb5 hz;obtain ⟨xt, xa, xe, yt, ya, ye⟩ := r5.cells;go_wp2_with fail
 refine leaves_cons (f := 49) (args := #[.pointer (some ⟨w.heap.size, 0, none⟩), .pointer (some ⟨w.heap.size + 1, 0, none⟩), .pointer (some ⟨w.heap.size + 1 + 1, 0, none⟩)]) (by simp) (by simp [go_sem]) ?_;refine (catchP w.heap.size (w.heap.size + 1) (w.heap.size + 1 + 1) (plOf ks s.size j).2 (plOf ks s.size j).1 _ _ _ _ xt xa xe yt ya ye (by omega) (by omega) (by omega)).mono ?_;rintro e u' w'' ⟨rfl, rfl, d1, d2, d3, hO2⟩;have hz5 := r5.size;refine ⟨.tuple #[.slice none 0 0, .int .i64 (plOf ks s.size j).1, .int .i64 (plOf ks s.size j).2], ?_, _, rfl, tw_none _ _, r5.b.trans (hO2.below (by omega) (fun k hk h => by omega))⟩;simp [results, Tryz.results33, go_sem, d1, d2, d3]
set_option maxRecDepth 20000 in
set_option maxHeartbeats 1000000 in
theorem read_left {N : Nat} (hE : ∀ R, Enters N R) {G : Nat → St Ch} {ks : List Tk} {at_ j : Nat} (s : ByteArray) (w : World) (hs : s.size ≤ 140737488351232) (hA : ErrR w) (hS : SignsOK w) (hM : MakesOK w) (hT : allT s.data.toList = ⟨ks, at_, 0⟩)
   (hD : ∀ R a cap, 2 ≠ R → Does N G R a cap s.size ks) {c : Ch} (hg : G 0 = .ok c j) (hc : c.n ≤ 10000000) (hj : j < ks.length) :
   Calls Tryz.prog 33 #[.string s, .func (.func N) #[] #[]] w (ReadP ([], (plOf ks s.size j).1, (plOf ks s.size j).2) w) := by
 have hmf : ∀ (fn : Fn) (first cap : Array Value) (w : World), (Instr.makeFunc fn first cap).run Tryz.prog w = .ok (.func fn first cap) w := fun _ _ _ _ => rfl;obtain ⟨hk, rfl⟩ := Cut.allT_few hT;have r0 := RB.new w;have k1 := All_every s _ hs (hA.below (r0.b)) (hS.below (r0.b));unfold AllPost at k1;rw [hT] at k1;dsimp only at k1;replace k1 := Lib.hid k1;replace r0 := Lib.hid r0;replace hD := Lib.hid hD;unfold Enters at hE;clear hA hS hT;go_enter_defers Tryz.func33, Tryz.ntmps33
 go_wp2_with fail
 refine k1.out.mono ?_;rintro e' w1 ⟨v1, rfl, hk1, hb1⟩;have r1 := r0.out.below hb1;simp only [World.size_alloc] at hk1;obtain ⟨ct, ca, ce, ft, fa, fe⟩ := r1.cells;have r2 := (r1.setA 0).setE 0;obtain ⟨dt, da, de, gt, ga, ge⟩ := r2.cells;obtain ⟨a, cap, rfl, hR, hz, r3, p3, m3⟩ := made_rd (s := s) r1 hk1 hk hM;have c3 := Lib.hid (does_ok (hD.out _ a cap hR) p3 m3 hg);have hsz : (((w1.setCell ⟨w.heap.size + 1, 0, none⟩ (.int .i64 0)).setCell ⟨w.heap.size + 1 + 1, 0, none⟩ (.int .i64 0)).alloc (.cells #[.slice a ks.length cap, .int .i64 0, .int .i64 s.size] 80)).heap.size = w1.heap.size + 1 := by simp
 replace r3 := Lib.hid r3;clear k1 r0 r1 hk1 hb1 r2 p3 m3 hD;go_wp2_with fail
 refine c3.out.mono ?_;rintro e' w5 ⟨v5, rfl, hv5, hp5, ho5⟩;obtain ⟨p1, p2, rfl⟩ := hv5.agg;rw [hsz] at hv5;have r5 := (r3.out.kept ho5 (fun k hk => by omega)).below ((Below.refl _ w5).alloc (Nat.le_refl _) (.cells #[.pointer p1, .pointer p2, .int .i64 (c.n : Int)] 83));have q5 := hp5.below ((Below.refl _ w5).alloc (Nat.le_refl _) (.cells #[.pointer p1, .pointer p2, .int .i64 (c.n : Int)] 83));have v6 := Lib.hid (hv5.alloc (.cells #[.pointer p1, .pointer p2, .int .i64 (c.n : Int)] 83));have d6 := Lib.hid (heap_alloc_new w5 (.cells #[.pointer p1, .pointer p2, .int .i64 (c.n : Int)] 83));have hs5 := ho5.size;rw [hsz] at hs5;have e0 := q5.c0;have e1 := q5.c1;have kl := q5.kl;replace r5 := Lib.hid r5;replace q5 := Lib.hid q5;clear c3 r3 hv5 hp5 ho5;have hlt : (j : Int) < (ks.length : Int) := by omega
 go_wp2_with fail
 go_quiet (fail)
 have hdn := below_dn (Below.refl (w5.alloc (.cells #[.pointer p1, .pointer p2, .int .i64 (c.n : Int)] 83)).heap.size (w5.alloc (.cells #[.pointer p1, .pointer p2, .int .i64 (c.n : Int)] 83))) nq;have q6 := q5.out.below hdn;have r6 := Lib.hid (r5.out.below hdn);have cG := Lib.hid ((giveUp_any q6).mono (fun e w' h => by unfold GaveP at h; rw [faultOf_pl] at h; exact h));clear e0 e1 q5 q6 r5 v6 d6 hdn;generalize (w5.alloc (.cells #[.pointer p1, .pointer p2, .int .i64 (c.n : Int)] 83)).drewN nq = w6 at *;go_wp2_with fail
 refine cG.out.mono ?_;rintro e' w7 ⟨rfl, hb7⟩;have r7 := r6.out.below hb7;obtain ⟨xt, xa, xe, yt, ya, ye⟩ := r7.cells;go_wp2_with fail
 refine leaves_cons (f := 49) (args := #[.pointer (some ⟨w.heap.size, 0, none⟩), .pointer (some ⟨w.heap.size + 1, 0, none⟩), .pointer (some ⟨w.heap.size + 1 + 1, 0, none⟩)]) (by simp) (by simp [go_sem]) ?_;refine (catchP w.heap.size (w.heap.size + 1) (w.heap.size + 1 + 1) (plOf ks s.size j).2 (plOf ks s.size j).1 _ _ _ _ xt xa xe yt ya ye (by omega) (by omega) (by omega)).mono ?_;rintro e u' w'' ⟨rfl, rfl, d1, d2, d3, hO2⟩;have hz5 := r7.size;refine ⟨.tuple #[.slice none 0 0, .int .i64 (plOf ks s.size j).1, .int .i64 (plOf ks s.size j).2], ?_, _, rfl, tw_none _ _, r7.b.trans (hO2.below (by omega) (fun k hk h => by omega))⟩;simp [results, Tryz.results33, go_sem, d1, d2, d3]
theorem TwsAt.far {w W : World} {base k0 : Nat} {v : Value} {ts : List Tw} (h : TwsAt w base v ts) (ho : Only (fun k => k = k0) w W) (hb : k0 < base) : TwsAt W base v ts := by
 refine ownsRow_only h ho (fun k hk e => ?_);rcases h.2 with ⟨hv, _⟩ | ⟨g, cap', cur, hv, hg, _⟩
 · rw [hv] at hk
   simp [Value.ownBlock] at hk
 · rw [hv] at hk
   simp [Value.ownBlock] at hk
   omega
theorem TwsAt.low {W : World} {base b : Nat} {v : Value} {ts : List Tw} (h : TwsAt W base v ts) (hb : b ≤ base) : TwsAt W b v ts := by
 refine ownsRow_base h (fun k hk => ?_);rcases h.2 with ⟨hv, _⟩ | ⟨g, cap', cur, hv, hg, _⟩
 · rw [hv] at hk
   simp [Value.ownBlock] at hk
 · rw [hv] at hk
   simp [Value.ownBlock] at hk
   omega
set_option maxRecDepth 20000 in
set_option maxHeartbeats 1000000 in
theorem read_tree {N : Nat} (hE : ∀ R, Enters N R) {G : Nat → St Ch} {ks : List Tk} {at_ : Nat} (s : ByteArray) (w : World) (hs : s.size ≤ 140737488351232) (hA : ErrR w) (hS : SignsOK w) (hM : MakesOK w) (hT : allT s.data.toList = ⟨ks, at_, 0⟩)
   (hD : ∀ R a cap, 2 ≠ R → Does N G R a cap s.size ks) {c : Ch} (hg : G 0 = .ok c ks.length) (hc : c.n ≤ 10000000) (hl : c.ts.length ≤ 100000000) (hf : ∀ x ∈ c.ts, FitT x) :
   Calls Tryz.prog 33 #[.string s, .func (.func N) #[] #[]] w (ReadP (if (lookF c.ts).2.2 = 0 then (c.ts, 0, 0) else ([], 0, (lookF c.ts).2.2)) w) := by
 have kC := Lib.hid (fun (v : Value) (W : World) (hT : TwIn W v c.ts) => Check_any W hT hf);clear hf;obtain ⟨Z, hZ⟩ := exHid (lookF c.ts);rw [hZ.out] at kC ⊢;obtain ⟨zp, zd, zc⟩ := Z;clear hZ;dsimp only at kC ⊢;obtain ⟨Y, hY⟩ := exHid (if zc = 0 then (c.ts, (0 : Int), (0 : Int)) else ([], 0, zc));rw [hY.out];have hmf : ∀ (fn : Fn) (first cap : Array Value) (w : World), (Instr.makeFunc fn first cap).run Tryz.prog w = .ok (.func fn first cap) w := fun _ _ _ _ => rfl;obtain ⟨hk, rfl⟩ := Cut.allT_few hT;have r0 := RB.new w;have k1 := All_every s _ hs (hA.below (r0.b)) (hS.below (r0.b));unfold AllPost at k1;rw [hT] at k1;dsimp only at k1;replace k1 := Lib.hid k1;replace r0 := Lib.hid r0;replace hD := Lib.hid hD;unfold Enters at hE;clear hA hS hT;go_enter_defers Tryz.func33, Tryz.ntmps33
 go_wp2_with fail
 refine k1.out.mono ?_;rintro e' w1 ⟨v1, rfl, hk1, hb1⟩;have r1 := r0.out.below hb1;simp only [World.size_alloc] at hk1;obtain ⟨ct, ca, ce, ft, fa, fe⟩ := r1.cells;have r2 := (r1.setA 0).setE 0;obtain ⟨dt, da, de, gt, ga, ge⟩ := r2.cells;obtain ⟨a, cap, rfl, hR, hz, r3, p3, m3⟩ := made_rd (s := s) r1 hk1 hk hM;have c3 := Lib.hid (does_ok (hD.out _ a cap hR) p3 m3 hg);have hsz : (((w1.setCell ⟨w.heap.size + 1, 0, none⟩ (.int .i64 0)).setCell ⟨w.heap.size + 1 + 1, 0, none⟩ (.int .i64 0)).alloc (.cells #[.slice a ks.length cap, .int .i64 0, .int .i64 s.size] 80)).heap.size = w1.heap.size + 1 := by simp
 replace r3 := Lib.hid r3;clear k1 r0 r1 hk1 hb1 r2 p3 m3 hD;go_wp2_with fail
 refine c3.out.mono ?_;rintro e' w5 ⟨v5, rfl, hv5, hp5, ho5⟩;obtain ⟨p1, p2, rfl⟩ := hv5.agg;rw [hsz] at hv5;have r5 := (r3.out.kept ho5 (fun k hk => by omega)).below ((Below.refl _ w5).alloc (Nat.le_refl _) (.cells #[.pointer p1, .pointer p2, .int .i64 (c.n : Int)] 83));have q5 := hp5.below ((Below.refl _ w5).alloc (Nat.le_refl _) (.cells #[.pointer p1, .pointer p2, .int .i64 (c.n : Int)] 83));have v6 := Lib.hid (hv5.alloc (.cells #[.pointer p1, .pointer p2, .int .i64 (c.n : Int)] 83));have d6 := Lib.hid (heap_alloc_new w5 (.cells #[.pointer p1, .pointer p2, .int .i64 (c.n : Int)] 83));have hs5 := ho5.size;rw [hsz] at hs5;have e0 := q5.c0;have e1 := q5.c1;have kl := q5.kl;replace r5 := Lib.hid r5;replace q5 := Lib.hid q5;clear c3 r3 hv5 hp5 ho5;have hlt : ¬ ((ks.length : Int) < (ks.length : Int)) := by omega
 go_wp2_with fail
 go_quiet (fail)
 have hdn := below_dn (Below.refl (w5.alloc (.cells #[.pointer p1, .pointer p2, .int .i64 (c.n : Int)] 83)).heap.size (w5.alloc (.cells #[.pointer p1, .pointer p2, .int .i64 (c.n : Int)] 83))) nq;have q6 := q5.out.below hdn;have r6 := Lib.hid (r5.out.below hdn);have v7 := Lib.hid (ChV.below v6.out hdn);have d7 := heldF (Only.of_below (F := fun _ => False) hdn) d6.out (fun h => h);have hz6 : w1.heap.size + 1 ≤ ((w5.alloc (.cells #[.pointer p1, .pointer p2, .int .i64 (c.n : Int)] 83)).drewN nq).heap.size := by
   show w1.heap.size + 1 ≤ (w5.alloc _).heap.size
   simp
   omega
 clear e0 e1 q5 q6 r5 v6 d6 hdn;generalize (w5.alloc (.cells #[.pointer p1, .pointer p2, .int .i64 (c.n : Int)] 83)).drewN nq = w6 at *;obtain ⟨x0, x1, x2, _, _, _⟩ := cells3 d7;have kT := Lib.hid (tree_any v7.out hl);clear v7 d7;go_wp2_with fail
 refine kT.out.mono ?_;rintro e' w7 ⟨u, rfl, hu, hb7⟩;obtain ⟨ua, uc, rfl, _, _⟩ := hu.shape;have r7 := r6.out.below hb7;obtain ⟨xt, xa, xe, yt, ya, ye⟩ := r7.cells;have r8 := r7.setT (.slice ua c.ts.length uc);have u8 := Lib.hid (TwsAt.far hu ((Only.refl (fun k => k = w.heap.size) w7).setCell (p := ⟨w.heap.size, 0, none⟩) (.inl rfl) (.slice ua c.ts.length uc)) (by omega));obtain ⟨x8t, x8a, x8e, y8t, y8a, y8e⟩ := r8.cells;replace r8 := Lib.hid r8;have k8 := Lib.hid (kC.out _ _ u8.out.twIn);clear kT kC x0 x1 x2 hu hb7 r6 r7 xa xe ya ye;go_wp2_with fail
 refine k8.out.mono ?_;rintro e' w9 ⟨rfl, hb9⟩;have r9 := r8.out.below hb9;have u9 := Lib.hid (u8.out.below hb9);obtain ⟨x9t, x9a, x9e, y9t, y9a, y9e⟩ := r9.cells;replace r9 := Lib.hid r9;clear k8 r8 u8 hb9 xt yt x8t x8a x8e y8t y8a y8e;have hy := hY.out;clear hY;by_cases hc0 : zc = 0
 · subst hc0
   rw [if_pos rfl] at hy;subst hy;have r10 := (((r9.out.setT (.slice ua c.ts.length uc)).setA 0).setE 0);have u10 : TwsAt (((w9.setCell ⟨w.heap.size, 0, none⟩ (.slice ua c.ts.length uc)).setCell ⟨w.heap.size + 1, 0, none⟩ (.int .i64 0)).setCell ⟨w.heap.size + 1 + 1, 0, none⟩ (.int .i64 0)) w6.heap.size (.slice ua c.ts.length uc) c.ts :=
     ((u9.out.far ((Only.refl (fun k => k = w.heap.size) _).setCell (p := ⟨w.heap.size, 0, none⟩) (.inl rfl) _) (by omega)).far ((Only.refl (fun k => k = w.heap.size + 1) _).setCell (p := ⟨w.heap.size + 1, 0, none⟩) (.inl rfl) _) (by omega)).far ((Only.refl (fun k => k = w.heap.size + 1 + 1) _).setCell (p := ⟨w.heap.size + 1 + 1, 0, none⟩) (.inl rfl) _) (by omega)
   obtain ⟨dt, da, de, _, _, _⟩ := r10.cells;replace r10 := Lib.hid r10;replace u10 := Lib.hid u10;go_wp2_with fail
   refine leaves_cons (f := 49) (args := #[.pointer (some ⟨w.heap.size, 0, none⟩), .pointer (some ⟨w.heap.size + 1, 0, none⟩), .pointer (some ⟨w.heap.size + 1 + 1, 0, none⟩)]) (by simp) (by simp [go_sem]) ?_;refine (idleP _ _ _ _).mono ?_;rintro e u' w'' ⟨rfl, rfl, rfl⟩;refine ⟨.tuple #[.slice ua c.ts.length uc, .int .i64 0, .int .i64 0], ?_, _, rfl, u10.out.low (by omega), r10.out.b⟩;simp [results, Tryz.results33, go_sem, dt, da, de]
 · rw [if_neg hc0] at hy
   subst hy;have hc1 : (zc == 0) = false := beq_eq_false_iff_ne.2 hc0;have r10 := (((r9.out.setT (.slice none 0 0)).setA 0).setE zc);obtain ⟨dt, da, de, _, _, _⟩ := r10.cells;replace r10 := Lib.hid r10;go_wp2_with fail
   refine leaves_cons (f := 49) (args := #[.pointer (some ⟨w.heap.size, 0, none⟩), .pointer (some ⟨w.heap.size + 1, 0, none⟩), .pointer (some ⟨w.heap.size + 1 + 1, 0, none⟩)]) (by simp) (by simp [go_sem]) ?_;refine (idleP _ _ _ _).mono ?_;rintro e u' w'' ⟨rfl, rfl, rfl⟩;refine ⟨.tuple #[.slice none 0 0, .int .i64 0, .int .i64 zc], ?_, _, rfl, tw_none _ _, r10.out.b⟩;simp [results, Tryz.results33, go_sem, dt, da, de]
end Go.Proofs.YtjiemkidmlgbeaaGreatDoor
namespace Go.Proofs.YtjiemkidmlgbeaaGreatDoor
open Go.RowKit Go.Shelf Tok
def StrsIn (w : World) (g n : Nat) (ms : List (List UInt8)) : Prop := n = ms.length ∧ ∀ i (h : i < ms.length), w.cell? ⟨g, i, none⟩ = some (.string ⟨ms[i].toArray⟩)
theorem StrsIn.keep {w W : World} {F : Nat → Prop} {g n : Nat} {ms : List (List UInt8)} (h : StrsIn w g n ms) (ho : Only F w W) (hF : ¬ F g) : StrsIn W g n ms :=
 ⟨h.1, fun i hi => (ho.cell (p := ⟨g, i, none⟩) (World.block_lt_of_cell? w _ (h.2 i hi)) hF).trans (h.2 i hi)⟩
set_option maxRecDepth 20000 in
set_option maxHeartbeats 1000000 in
theorem index_any {w : World} {g n : Nat} {ms : List (List UInt8)} (h : StrsIn w g n ms) (hn : n ≤ 1000) (m : List UInt8) :
   Calls Tryz.prog 95 #[.slice (some ⟨g, 0, none⟩) n n, .string ⟨m.toArray⟩] w fun e w' => ∃ r : Int, e = .returned (.int .i64 r) ∧ (m ∈ ms ↔ 0 ≤ r) ∧ w' = w := by
 obtain ⟨hl, hc⟩ := h;replace hc := Lib.hid hc;go_enter Tryz.func95, Tryz.ntmps95
 go_wp2_with fail
 go_loop [5, 8] (fun t5 t8 => ∃ i : Nat, i ≤ n ∧ t8 = .int .i64 i ∧ Hid (∀ j (h : j < ms.length), j < i → ms[j] ≠ m)) (fun _ t8 => n - (intOf t8).toNat)
 case atStart => exact ⟨0, by omega, by go_num, Lib.hid (fun j h h0 => by omega)⟩
 case round =>
   obtain ⟨i, hi, rfl, hno⟩ := hrel;rcases Nat.lt_or_ge i n with hlt | hge
   · have hlti : (i : Int) < (n : Int) := by omega
     have hil : i < ms.length := by omega
     have hci := hc.out i hil;by_cases hq : ms[i] = m
     · have hmem : m ∈ ms := by rw [← hq]; exact List.getElem_mem hil
       rw [hq] at hci;have e1 : (m == m) = true := beq_self_eq_true _;replace hmem := Lib.hid hmem; replace hq := Lib.hid hq;go_wp2_with fail
       go_ret
       exact ⟨_, rfl, ⟨fun _ => by omega, fun _ => hmem.out⟩, rfl⟩
     · have hno2 := Lib.hid (fun j (h : j < ms.length) (h0 : j < i + 1) => (show ms[j] ≠ m from by
         rcases Nat.lt_or_ge j i with h1 | h1
         · exact hno.out j h h1
         · obtain rfl : j = i := by omega
           exact hq))
       generalize ms[i] = T at *;have e1 : (m == T) = false := beq_eq_false_iff_ne.2 (fun e => hq e.symm);replace hq := Lib.hid hq;go_wp2_with fail
       go_round
       case rel => exact ⟨i + 1, by omega, by go_num, hno2⟩
       case measure => simp [intOf]; omega
   · obtain rfl : i = n := by omega
     have hlti : ¬ ((i : Int) < (i : Int)) := by omega
     have hnm := Lib.hid (fun hm : m ∈ ms => by
       obtain ⟨j, hj, e⟩ := List.getElem_of_mem hm;exact hno.out j hj (by omega) e)
     go_wp2_with fail
     go_ret
     exact ⟨-1, rfl, ⟨fun hm => (hnm.out hm).elim, fun h => by omega⟩, rfl⟩
set_option maxRecDepth 20000 in
set_option maxHeartbeats 1000000 in
theorem contains_any {w : World} {g n : Nat} {ms : List (List UInt8)} (h : StrsIn w g n ms) (hn : n ≤ 1000) (m : List UInt8) {b : Bool} (hb : decide (m ∈ ms) = b) :
   Calls Tryz.prog 82 #[.slice (some ⟨g, 0, none⟩) n n, .string ⟨m.toArray⟩] w fun e w' => e = .returned (.bool b) ∧ w' = w := by
 have c := Lib.hid (index_any h hn m);clear h;go_enter Tryz.func82, Tryz.ntmps82
 go_wp2_with fail
 refine c.out.mono ?_;rintro e w1 ⟨r, rfl, hr, rfl⟩;have hb2 : decide ((0 : Int) ≤ r) = b := by rw [← hb]; exact decide_eq_decide.2 hr.symm
 replace hr := Lib.hid hr; replace hb := Lib.hid hb;go_wp2_with fail
 go_ret
 exact ⟨rfl, rfl⟩
end Go.Proofs.YtjiemkidmlgbeaaGreatDoor
