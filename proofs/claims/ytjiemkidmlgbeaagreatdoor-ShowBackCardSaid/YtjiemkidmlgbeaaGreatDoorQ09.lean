/- A part of the proof: PBtw, PTwo, PFuel. No condition. -/
import Derived.Deep.RegionWith
import Derived.Deep.RegionLaw
import Derived.Test.YtjiemkidmlgbeaaGreatDoorQ03
import Derived.Test.YtjiemkidmlgbeaaGreatDoorQ06
import Derived.Test.YtjiemkidmlgbeaaGreatDoorQ08
set_option linter.unusedVariables false
set_option linter.unusedSimpArgs false
namespace Go.Proofs.YtjiemkidmlgbeaaGreatDoor
open Go.RowKit Go.Shelf Tok
def rp (R : Nat) : Value := .pointer (some ⟨R, 0, none⟩)
def Took (s : St Ch) (w : World) (R : Nat) (a : Option Addr) (cap n : Nat) (ks : List Tk) (e : Ending) (w' : World) : Prop :=
 match s with
 | .ok c j => (∃ v, e = .returned v ∧ ChV w' (fun k => w.heap.size ≤ k) v c) ∧ PR w' R a cap n ks j ∧ Only (fun k => k = R) w w'
 | .bad j => GaveP ks n j e ∧ Below R w w'
 | .out => True
def Does (N : Nat) (G : Nat → St Ch) (R : Nat) (a : Option Addr) (cap n : Nat) (ks : List Tk) : Prop :=
 ∀ W i, PR W R a cap n ks i → MakesOK W → G i ≠ .out → Calls Tryz.prog N #[rp R] W (Took (G i) W R a cap n ks)
def Enters (N R : Nat) : Prop := ∀ w, (callFunc N #[.pointer (some ⟨R, 0, none⟩)]).run Tryz.prog w = .ok (.enter N #[.pointer (some ⟨R, 0, none⟩)]) w
theorem MakesOK.only {w W : World} {R : Nat} (h : MakesOK w) (hR : 2 ≠ R) (ho : Only (fun k => k = R) w W) : MakesOK W := fun j v hv =>
 (ho.cell (p := ⟨2, 0 + j, none⟩) (World.block_lt_of_cell? w _ (h j v hv)) hR).trans (h j v hv)
theorem MakesOK.lt {w : World} (h : MakesOK w) : 2 < w.heap.size := World.block_lt_of_cell? w ⟨2, 0 + 0, none⟩ (h 0 _ rfl)
section
variable {w : World} {R cap n i : Nat} {a : Option Addr} {ks : List Tk}
theorem want_ok (h : PR w R a cap n ks i) {m : List UInt8} (hm : m ≠ []) (hq : markT ks i = m) :
   Calls Tryz.prog 52 #[rp R, .string ⟨m.toArray⟩] w fun e w' => e = .returned (.tuple #[]) ∧ PR w' R a cap n ks (i + 1) ∧ Only (fun k => k = R) w w' := by
 refine (want_any h hm).mono ?_;intro e w' ht;unfold wantT at ht;rw [if_pos hq] at ht;obtain ⟨⟨v, he, hv⟩, h2, h3⟩ := ht;exact ⟨by rw [he, hv], h2, h3⟩
theorem want_bad (h : PR w R a cap n ks i) {m : List UInt8} (hm : m ≠ []) (hq : markT ks i ≠ m) :
   Calls Tryz.prog 52 #[rp R, .string ⟨m.toArray⟩] w fun e w' => e = .panicked [{ v := faultOf ks n i, recovered := false }] ∧ Below R w w' := by
 refine (want_any h hm).mono ?_;intro e w' ht;unfold wantT at ht;rw [if_neg hq] at ht;exact ht
theorem does_ok {N : Nat} {G : Nat → St Ch} (hP : Does N G R a cap n ks) (h : PR w R a cap n ks i) (hM : MakesOK w) {c : Ch} {j : Nat} (hq : G i = .ok c j) :
   Calls Tryz.prog N #[rp R] w fun e w' => ∃ v, e = .returned v ∧ ChV w' (fun k => w.heap.size ≤ k) v c ∧ PR w' R a cap n ks j ∧ Only (fun k => k = R) w w' := by
 refine (hP w i h hM (by rw [hq]; intro e; cases e)).mono ?_;intro e w' ht;rw [hq] at ht;obtain ⟨⟨v, he, hv⟩, h2, h3⟩ := ht;exact ⟨v, he, hv, h2, h3⟩
theorem does_bad {N : Nat} {G : Nat → St Ch} (hP : Does N G R a cap n ks) (h : PR w R a cap n ks i) (hM : MakesOK w) {j : Nat} (hq : G i = .bad j) :
   Calls Tryz.prog N #[rp R] w fun e w' => e = .panicked [{ v := faultOf ks n j, recovered := false }] ∧ Below R w w' := by
 refine (hP w i h hM (by rw [hq]; intro e; cases e)).mono ?_;intro e w' ht;rw [hq] at ht;exact ht
end
theorem PR.far {w : World} {R cap n i : Nat} {a : Option Addr} {ks : List Tk} (h : PR w R a cap n ks i) : ∀ q, a = some q → 0 < ks.length → q.block < w.heap.size := by
 intro q hq h0;obtain ⟨a', c', e, _, _, h3⟩ := h.tk;injection e with e _ _;obtain ⟨g, off, e2, hg, _⟩ := h3 h0;rw [hq] at e;rw [← e] at e2;injection e2 with e2;rw [e2];exact hg
structure Mid (w W : World) (R : Nat) (a : Option Addr) (cap n : Nat) (ks : List Tk) (j : Nat) : Prop where
 pr : PR W R a cap n ks j
 mo : MakesOK W
 on : Only (fun k => k = R) w W
 rl : R < w.heap.size
 fa : ∀ q, a = some q → 0 < ks.length → q.block < w.heap.size
section
variable {w W W' : World} {R cap n i j : Nat} {a : Option Addr} {ks : List Tk}
theorem Mid.start (h : PR w R a cap n ks i) (hM : MakesOK w) : Mid w w R a cap n ks i := ⟨h, hM, Only.refl _ _, h.lt, h.far⟩
theorem Mid.below (h : Mid w W R a cap n ks j) (hb : Below W.heap.size W W') : Mid w W' R a cap n ks j := ⟨h.pr.below hb, h.mo.below h.mo.lt hb, h.on.then (Only.of_below hb), h.rl, h.fa⟩
theorem Mid.alloc (h : Mid w W R a cap n ks j) (o : Obj) : Mid w (W.alloc o) R a cap n ks j := h.below ((Below.refl _ W).alloc (Nat.le_refl _) o)
theorem Mid.step (h : Mid w W R a cap n ks i) (hR : 2 ≠ R) (hp : PR W' R a cap n ks j) (ho : Only (fun k => k = R) W W') : Mid w W' R a cap n ks j := ⟨hp, h.mo.only hR ho, h.on.then ho, h.rl, h.fa⟩
theorem Mid.ext (h : Mid w W R a cap n ks j) {B : Nat} (hB : w.heap.size ≤ B) (hg : 2 ≠ B) (ho : Only (fun k => k = B) W W') : Mid w W' R a cap n ks j :=
 ⟨h.pr.kept ho (by have := h.rl; omega) (fun q hq h0 e => by have := h.fa q hq h0; omega), h.mo.only hg ho, h.on.trans ho (fun _ _ e => e) (fun k hk e => by omega), h.rl, h.fa⟩
theorem Mid.bad (h : Mid w W R a cap n ks i) (hb : Below R W W') : Below R w W' := (h.on.below (Nat.le_of_lt h.rl) (fun k hk e => by omega)).trans hb
theorem heldB (ho : Only (fun k => k = R) W W') {B : Nat} {o : Obj} (h : W.heap[B]? = some o) (hB : B ≠ R) : W'.heap[B]? = some o := (ho.block B (Array.getElem?_eq_some_iff.1 h).1 hB).trans h
theorem heldA {B : Nat} {o : Obj} (h : W.heap[B]? = some o) (p : Obj) : (W.alloc p).heap[B]? = some o := (Below.heap_alloc _ _ _ (Array.getElem?_eq_some_iff.1 h).1).trans h
theorem ChV.step {F : Nat → Prop} {v : Value} {c : Ch} (h : ChV W F v c) (hF : ∀ k, F k → k ≠ R) (ho : Only (fun k => k = R) W W') : ChV W' F v c := h.only ho hF
theorem ChV.alloc {F : Nat → Prop} {v : Value} {c : Ch} (h : ChV W F v c) (o : Obj) : ChV (W.alloc o) F v c := h.below ((Below.refl _ W).alloc (Nat.le_refl _) o)
theorem laid3 (h : Mid w W R a cap n ks j) {B : Nat} (hB : w.heap.size ≤ B) (hg : 2 < w.heap.size) {x0 x1 x2 : Value} {t : TypeId} (hb : W.heap[B]? = some (.cells #[x0, x1, x2] t (0, 0))) {p q : Option Addr} {c : Ch} {m : Int}
   (hv : ChV W (fun k => w.heap.size ≤ k ∧ k ≠ B) (.agg #[.pointer p, .pointer q, .int .i64 m]) c) :
   (((W.setCell ⟨B, 0, none⟩ (.pointer p)).setCell ⟨B, 1, none⟩ (.pointer q)).setCell ⟨B, 2, none⟩ (.int .i64 m)).heap[B]? = some (.cells #[.pointer p, .pointer q, .int .i64 m] t (0, 0)) ∧
   Took (.ok c j) w R a cap n ks (.returned (.agg #[.pointer p, .pointer q, .int .i64 m])) (((W.setCell ⟨B, 0, none⟩ (.pointer p)).setCell ⟨B, 1, none⟩ (.pointer q)).setCell ⟨B, 2, none⟩ (.int .i64 m)) := by
 obtain ⟨s1, s2⟩ := stored3 hb (.pointer p) (.pointer q) (.int .i64 m);have hm := h.ext hB (by omega) s2;exact ⟨s1, ⟨_, rfl, (hv.only s2 (fun k hk e => hk.2 e)).mono (fun k _ hk => hk.1)⟩, hm.pr, hm.on⟩
theorem cells3 {W : World} {b : Nat} {x0 x1 x2 : Value} {t : TypeId} (h : W.heap[b]? = some (.cells #[x0, x1, x2] t (0, 0))) : W.cell? ⟨b, 0, none⟩ = some x0 ∧ W.cell? ⟨b, 1, none⟩ = some x1 ∧ W.cell? ⟨b, 2, none⟩ = some x2 ∧ W.frozen? ⟨b, 0, none⟩ = false ∧ W.frozen? ⟨b, 1, none⟩ = false ∧ W.frozen? ⟨b, 2, none⟩ = false := by
 refine ⟨?_, ?_, ?_, ?_, ?_, ?_⟩ <;> simp [World.cell?, World.frozen?, h]
end
abbrev chZ : Obj := .cells #[.pointer none, .pointer none, .int .i64 0] 83
set_option maxRecDepth 20000 in
set_option maxHeartbeats 1000000 in
theorem btw_any {N : Nat} {G : Nat → St Ch} {R cap n : Nat} {a : Option Addr} {ks : List Tk} (hE : Enters N R) (hP : Does N G R a cap n ks) (hR : 2 ≠ R) {o e : List UInt8} (ho : o ≠ []) (he : e ≠ []) {w : World} {i : Nat} (h : PR w R a cap n ks i) (hM : MakesOK w)
   (hne : ((wantT ks o i).and fun _ i => (G i).and fun c i => (wantT ks e i).and fun _ i => .ok c i) ≠ .out) :
   Calls Tryz.prog 80 #[rp R, .string ⟨o.toArray⟩, .func (.func N) #[rp R] #[], .string ⟨e.toArray⟩] w (Took ((wantT ks o i).and fun _ i => (G i).and fun c i => (wantT ks e i).and fun _ i => .ok c i) w R a cap n ks) := by
 have m0 := Lib.hid ((Mid.start h hM).alloc chZ);have hRl := h.lt;have hgl := hM.lt;have b0 := Lib.hid (heap_alloc_new w chZ);unfold Enters at hE;unfold wantT at hne ⊢;clear h hM;by_cases hq : markT ks i = o
 · rw [if_pos hq] at hne ⊢
   unfold St.and at hne ⊢;dsimp only at hne ⊢;have c1 := Lib.hid (want_ok m0.out.pr ho hq);cases hg : G (i + 1) with
   | out => rw [hg] at hne; exact absurd rfl hne
   | bad j =>
     dsimp only;have cP := Lib.hid (fun W (hp : PR W R a cap n ks (i + 1)) (hm : MakesOK W) => does_bad hP hp hm hg);clear hP hne;unfold rp at c1 cP ⊢;go_enter Tryz.func80, Tryz.ntmps80
     go_wp2_with fail
     refine c1.out.mono ?_;rintro e' w2 ⟨rfl, hp2, ho2⟩;have m2 := Lib.hid (m0.out.step hR hp2 ho2);go_wp2_with fail
     refine (cP.out _ m2.out.pr m2.out.mo).mono ?_;rintro e' w3 ⟨rfl, hb3⟩;go_wp2_with fail
     exact ⟨rfl, rfl, m2.out.bad hb3⟩
   | ok c j =>
     rw [hg] at hne;dsimp only at hne ⊢;have cP := Lib.hid (fun W (hp : PR W R a cap n ks (i + 1)) (hm : MakesOK W) => does_ok hP hp hm hg);by_cases hq2 : markT ks j = e
     · rw [if_pos hq2]
       dsimp only;have c2 := Lib.hid (fun W (hp : PR W R a cap n ks j) => want_ok hp he hq2);clear hP hne;unfold rp at c1 cP c2 ⊢;go_enter Tryz.func80, Tryz.ntmps80
       go_wp2_with fail
       refine c1.out.mono ?_;rintro e' w2 ⟨rfl, hp2, ho2⟩;have m2 := Lib.hid (m0.out.step hR hp2 ho2);have b2 := Lib.hid (heldB ho2 b0.out (by omega));go_wp2_with fail
       refine (cP.out _ m2.out.pr m2.out.mo).mono ?_;rintro e' w3 ⟨v, rfl, hv, hp3, ho3⟩;obtain ⟨p1, p2, rfl⟩ := hv.agg;have hs2 := ho2.size;have hs3 := ho3.size;rw [World.size_alloc] at hs2;have m3 := Lib.hid ((m2.out.step hR hp3 ho3).alloc (.cells #[.pointer p1, .pointer p2, .int .i64 (c.n : Int)] 83));have b3 := Lib.hid (heldA (heldB ho3 b2.out (by omega)) (.cells #[.pointer p1, .pointer p2, .int .i64 (c.n : Int)] 83));have d3 := Lib.hid (heap_alloc_new w3 (.cells #[.pointer p1, .pointer p2, .int .i64 (c.n : Int)] 83));have v3 := Lib.hid ((hv.mono (G := fun k => w.heap.size ≤ k ∧ k ≠ w.heap.size) (fun k _ hk => by omega)).alloc (.cells #[.pointer p1, .pointer p2, .int .i64 (c.n : Int)] 83));have c4 := Lib.hid (c2.out _ m3.out.pr);clear cP c1 c2 m0 m2 b0 b2 hp2 ho2 hp3 ho3 hv;go_wp2_with fail
       refine c4.out.mono ?_;rintro e' w4 ⟨rfl, hp4, ho4⟩;have m4 := Lib.hid (m3.out.step hR hp4 ho4);have b4 := heldB ho4 b3.out (by omega);have d4 := heldB ho4 d3.out (by omega);have v4 := Lib.hid (v3.out.step (fun k hk => by omega) ho4);obtain ⟨y0, y1, y2, y3, y4, y5⟩ := cells3 b4;obtain ⟨z0, z1, z2, _, _, _⟩ := cells3 d4;obtain ⟨l1, l2⟩ := laid3 m4.out (Nat.le_refl _) hgl b4 v4.out;replace l1 := Lib.hid l1; replace l2 := Lib.hid l2;clear c4 m3 b3 d3 v3 hp4 ho4 b4 d4 m4 v4;go_wp2_with fail
       exact bodyPost_ret (ret_ch rfl rfl l1.out rfl) rfl l2.out
     · rw [if_neg hq2]
       dsimp only;have c2 := Lib.hid (fun W (hp : PR W R a cap n ks j) => want_bad hp he hq2);clear hP hne;unfold rp at c1 cP c2 ⊢;go_enter Tryz.func80, Tryz.ntmps80
       go_wp2_with fail
       refine c1.out.mono ?_;rintro e' w2 ⟨rfl, hp2, ho2⟩;have m2 := Lib.hid (m0.out.step hR hp2 ho2);go_wp2_with fail
       refine (cP.out _ m2.out.pr m2.out.mo).mono ?_;rintro e' w3 ⟨v, rfl, hv, hp3, ho3⟩;obtain ⟨p1, p2, rfl⟩ := hv.agg;have m3 := Lib.hid ((m2.out.step hR hp3 ho3).alloc (.cells #[.pointer p1, .pointer p2, .int .i64 (c.n : Int)] 83));have c4 := Lib.hid (c2.out _ m3.out.pr);clear cP c1 c2 m0 m2 b0 hp2 ho2 hp3 ho3 hv;go_wp2_with fail
       refine c4.out.mono ?_;rintro e' w4 ⟨rfl, hb4⟩;go_wp2_with fail
       exact ⟨rfl, rfl, m3.out.bad hb4⟩
 · rw [if_neg hq] at hne ⊢
   unfold St.and;dsimp only;have c1 := Lib.hid (want_bad m0.out.pr ho hq);clear hP hne;unfold rp at c1 ⊢;go_enter Tryz.func80, Tryz.ntmps80
   go_wp2_with fail
   refine c1.out.mono ?_;rintro e w2 ⟨rfl, hb⟩;go_wp2_with fail
   exact ⟨rfl, rfl, m0.out.bad hb⟩
end Go.Proofs.YtjiemkidmlgbeaaGreatDoor
namespace Go.Proofs.YtjiemkidmlgbeaaGreatDoor
open Go.RowKit Go.Shelf Tok
section
variable {w W W' : World} {R cap n i j : Nat} {a : Option Addr} {ks : List Tk}
theorem Mid.extF {F : Nat → Prop} (h : Mid w W R a cap n ks j) (hg : 2 < w.heap.size) (hF : ∀ k, F k → w.heap.size ≤ k) (ho : Only F W W') : Mid w W' R a cap n ks j :=
 ⟨h.pr.kept ho (fun e => by have := h.rl; have := hF _ e; omega) (fun q hq h0 e => by have := h.fa q hq h0; have := hF _ e; omega), fun z v hv => (ho.cell (p := ⟨2, 0 + z, none⟩) (World.block_lt_of_cell? W _ (h.mo z v hv)) (fun e => by have : w.heap.size ≤ 2 := hF _ e; omega)).trans (h.mo z v hv), h.on.trans ho (fun _ _ e => e) (fun k hk e => by have := hF _ e; omega), h.rl, h.fa⟩
theorem heldF {F : Nat → Prop} (ho : Only F W W') {B : Nat} {o : Obj} (h : W.heap[B]? = some o) (hB : ¬ F B) : W'.heap[B]? = some o := (ho.block B (Array.getElem?_eq_some_iff.1 h).1 hB).trans h
end
set_option maxRecDepth 20000 in
set_option maxHeartbeats 1000000 in
theorem two_any {G : Nat → St Ch} {R cap n : Nat} {a : Option Addr} {ks : List Tk} (hP : Does 35 G R a cap n ks) (hn : ∀ i c j, G i = .ok c j → c.n ≤ 100000000) (hR : 2 ≠ R) {w : World} {i : Nat} (h : PR w R a cap n ks i) (hM : MakesOK w)
   (hne : ((G i).and fun c i => (wantT ks B.com i).and fun _ i => (G i).and fun d i => .ok (c.then d) i) ≠ .out) :
   Calls Tryz.prog 133 #[rp R] w (Took ((G i).and fun c i => (wantT ks B.com i).and fun _ i => (G i).and fun d i => .ok (c.then d) i) w R a cap n ks) := by
 have m0 := Lib.hid ((Mid.start h hM).alloc chZ);have hRl := h.lt;have hgl := hM.lt;have b0 := Lib.hid (heap_alloc_new w chZ);unfold wantT at hne ⊢;clear h hM;cases hg : G i with
 | out => rw [hg] at hne; exact absurd rfl hne
 | bad j =>
   have c1 := Lib.hid (does_bad hP m0.out.pr m0.out.mo hg);unfold St.and;dsimp only;clear hP hne;unfold rp at c1 ⊢;go_enter Tryz.func133, Tryz.ntmps133
   go_wp2_with fail
   refine c1.out.mono ?_;rintro e' w3 ⟨rfl, hb3⟩;go_wp2_with fail
   exact ⟨rfl, rfl, m0.out.bad hb3⟩
 | ok c j =>
   rw [hg] at hne;unfold St.and at hne ⊢;dsimp only at hne ⊢;have c1 := Lib.hid (does_ok hP m0.out.pr m0.out.mo hg);have hcn := hn _ _ _ hg;by_cases hq : markT ks j = B.com
   · rw [if_pos hq] at hne ⊢
     dsimp only at hne ⊢;have c2 := Lib.hid (fun W (hp : PR W R a cap n ks j) => want_ok hp (by decide) hq);cases hg2 : G (j + 1) with
     | out => rw [hg2] at hne; exact absurd rfl hne
     | bad k =>
       dsimp only;have c3 := Lib.hid (fun W (hp : PR W R a cap n ks (j + 1)) (hm : MakesOK W) => does_bad hP hp hm hg2);clear hP hne;unfold rp B.com at c2;unfold rp at c1 c3 ⊢;go_enter Tryz.func133, Tryz.ntmps133
       go_wp2_with fail
       refine c1.out.mono ?_;rintro e' w2 ⟨v, rfl, hv, hp2, ho2⟩;obtain ⟨p1, p2, rfl⟩ := hv.agg;have hs2 := ho2.size;rw [World.size_alloc] at hs2;have m2 := Lib.hid ((m0.out.step hR hp2 ho2).alloc (.cells #[.pointer p1, .pointer p2, .int .i64 (c.n : Int)] 83));have d2 := Lib.hid (heap_alloc_new w2 (.cells #[.pointer p1, .pointer p2, .int .i64 (c.n : Int)] 83));have c4 := Lib.hid (c2.out _ m2.out.pr);clear c1 c2 m0 b0 hp2 ho2 hv;go_wp2_with fail
       refine c4.out.mono ?_;rintro e' w4 ⟨rfl, hp4, ho4⟩;have m4 := Lib.hid ((m2.out.step hR hp4 ho4).below ((Below.refl _ w4).drew));have d4 := Lib.hid (show w4.drew.heap[w2.heap.size]? = _ from heldB ho4 d2.out (by omega));have c5 := Lib.hid (c3.out _ m4.out.pr m4.out.mo);clear c3 c4 m2 d2 hp4 ho4;obtain ⟨z0, z1, z2, _, _, _⟩ := cells3 d4.out;go_wp2_with fail
       refine wp_region_any (by kernel_rfl) ?_
       change wpAny _ _ _ _ _ _ _ (World.drew _)
       refine wpAny_take (i := 1) (v := .pointer (some ⟨R, 0, none⟩)) rfl (by kernel_rfl) (by kernel_rfl) (by kernel_rfl) (fun _ _ _ h => h) (Or.inl ⟨by rfl, by intro w; go_simp⟩) ?_;refine wpAny_ready (rs := [0, 2]) (by kernel_rfl) (by simp) ?_;refine AllReady.cons rfl (fun K hK => ?_) (AllReady.cons rfl (fun K hK => ?_) AllReady.nil)
       · go_simp
         refine hK _ _ ?_;clear hK K;refine wpAny_ready (rs := [2]) (by kernel_rfl) (by simp) ?_;refine AllReady.cons rfl (fun K hK => ?_) AllReady.nil;go_simp
         go_wp2_with fail
         refine c5.out.mono ?_;rintro e' w5 ⟨rfl, hb5⟩;go_wp2_with fail
         exact ⟨rfl, rfl, m4.out.bad hb5⟩
       · go_simp
         go_wp2_with fail
         refine c5.out.mono ?_;rintro e' w5 ⟨rfl, hb5⟩;go_wp2_with fail
         exact ⟨rfl, rfl, m4.out.bad hb5⟩
     | ok d k =>
       dsimp only;have hdn := hn _ _ _ hg2;have c3 := Lib.hid (fun W (hp : PR W R a cap n ks (j + 1)) (hm : MakesOK W) => does_ok hP hp hm hg2);clear hP hne;unfold rp B.com at c2;unfold rp at c1 c3 ⊢;go_enter Tryz.func133, Tryz.ntmps133
       go_wp2_with fail
       refine c1.out.mono ?_;rintro e' w2 ⟨v, rfl, hv, hp2, ho2⟩;obtain ⟨p1, p2, rfl⟩ := hv.agg;have hs2 := ho2.size;rw [World.size_alloc] at hs2;have m2 := Lib.hid ((m0.out.step hR hp2 ho2).alloc (.cells #[.pointer p1, .pointer p2, .int .i64 (c.n : Int)] 83));have b2 := Lib.hid (heldA (heldB ho2 b0.out (by omega)) (.cells #[.pointer p1, .pointer p2, .int .i64 (c.n : Int)] 83));have d2 := Lib.hid (heap_alloc_new w2 (.cells #[.pointer p1, .pointer p2, .int .i64 (c.n : Int)] 83));have v2 := Lib.hid ((hv.mono (G := fun k => w.heap.size + 1 ≤ k ∧ k < w2.heap.size) (fun k hk h => by rw [World.size_alloc] at h; omega)).alloc (.cells #[.pointer p1, .pointer p2, .int .i64 (c.n : Int)] 83));have c4 := Lib.hid (c2.out _ m2.out.pr);clear c1 c2 m0 b0 hp2 ho2 hv;go_wp2_with fail
       refine c4.out.mono ?_;rintro e' w4 ⟨rfl, hp4, ho4⟩;have hs4 := ho4.size;rw [World.size_alloc] at hs4;have m4 := Lib.hid ((m2.out.step hR hp4 ho4).below ((Below.refl _ w4).drew));have b4 := Lib.hid (show w4.drew.heap[w.heap.size]? = _ from heldB ho4 b2.out (by omega));have d4 := Lib.hid (show w4.drew.heap[w2.heap.size]? = _ from heldB ho4 d2.out (by omega));have v4 := Lib.hid (show ChV w4.drew (fun k => w.heap.size + 1 ≤ k ∧ k < w2.heap.size) _ c from ChV.step (R := R) (F := fun k => w.heap.size + 1 ≤ k ∧ k < w2.heap.size) v2.out (fun k hk => by have := hk.1; omega) ho4.drew);have c5 := Lib.hid (c3.out _ m4.out.pr m4.out.mo);clear c3 c4 m2 b2 d2 v2 hp4 ho4;obtain ⟨z0, z1, z2, _, _, _⟩ := cells3 d4.out;go_wp2_with fail
       go_region_law (first
         | (go_simp; go_at_call 35; refine c5.out.mono ?_; rintro e' w5 ⟨v5, rfl, hv5, hp5, ho5⟩; obtain ⟨q1, q2, rfl⟩ := hv5.agg; obtain ⟨x0, x1, x2, _, _, _⟩ := cells3 (heldB ho5 d4.out (by omega)); have t5 := Lib.hid (then_any (ChV.step (R := R) (F := fun k => w.heap.size + 1 ≤ k ∧ k < w2.heap.size) v4.out (fun k hk => by have := hk.1; omega) ho5) hv5 (fun k h1 h2 => by have h3 : w4.heap.size ≤ k := h2; have := h1.2; omega) (by omega)))
         | (go_simp; go_at_call 56; refine t5.out.mono ?_; rintro e' w6 ⟨z6, rfl, hv6, ho6⟩; obtain ⟨r1, r2, rfl⟩ := hv6.agg; have b6 := heldF ho6 (heldB ho5 b4.out (by omega)) (fun h => by have := h.1; omega); obtain ⟨y0, y1, y2, y3, y4, y5⟩ := cells3 b6))
       all_goals
         have m6 := (m4.out.step hR hp5 ho5).extF hgl (fun k h => by have := h.1; omega) ho6;have hz4 : w4.drew.heap.size = w4.heap.size := rfl;obtain ⟨l1, l2⟩ := laid3 m6 (Nat.le_refl _) hgl b6 (hv6.mono (fun k _ h => by
           rcases h with h | h
           · have := h.1; omega
           · have h3 : w4.heap.size ≤ k := h; omega))
         replace l1 := Lib.hid l1; replace l2 := Lib.hid l2;go_wp2_with fail
         exact bodyPost_ret (ret_ch rfl rfl l1.out rfl) rfl l2.out
   · rw [if_neg hq]
     dsimp only;have c2 := Lib.hid (fun W (hp : PR W R a cap n ks j) => want_bad hp (by decide) hq);clear hP hne;unfold rp B.com at c2;unfold rp at c1 ⊢;go_enter Tryz.func133, Tryz.ntmps133
     go_wp2_with fail
     refine c1.out.mono ?_;rintro e' w2 ⟨v, rfl, hv, hp2, ho2⟩;obtain ⟨p1, p2, rfl⟩ := hv.agg;have m2 := Lib.hid ((m0.out.step hR hp2 ho2).alloc (.cells #[.pointer p1, .pointer p2, .int .i64 (c.n : Int)] 83));have c4 := Lib.hid (c2.out _ m2.out.pr);clear c1 c2 m0 b0 hp2 ho2 hv;go_wp2_with fail
     refine c4.out.mono ?_;rintro e' w4 ⟨rfl, hb4⟩;go_wp2_with fail
     exact ⟨rfl, rfl, m2.out.bad hb4⟩
end Go.Proofs.YtjiemkidmlgbeaaGreatDoor
namespace Go.Proofs.YtjiemkidmlgbeaaGreatDoor
open Go.RowKit Tok
def NT.rank : NT → Nat
 | .prim => 1 | .post => 2 | .pre => 3 | .term => 5 | .sum => 7 | .cmp => 8 | .not => 9 | .and => 11 | .expr => 13 | .two => 14
 | .stmt => 1 | .stmtsGo _ => 2 | .stmts => 3 | .block => 1
 | .postGo _ => 1
 | .row p _ => (match p with | .pre => 4 | .term => 6 | .not => 10 | .and => 12 | _ => 30)
 | _ => 0
def NT.wf : NT → Prop
 | .row p ms | .rowGo p ms _ => (p = .pre ∨ p = .term ∨ p = .not ∨ p = .and) ∧ ∀ m ∈ ms, m ≠ []
 | .list o p e => o ≠ [] ∧ e ≠ [] ∧ (p = .param ∨ p = .expr)
 | .listGo p e _ => e ≠ [] ∧ (p = .param ∨ p = .expr)
 | .between o p e => o ≠ [] ∧ e ≠ [] ∧ (p = .stmts ∨ p = .expr ∨ p = .two)
 | _ => True
def NT.least : NT → Nat
 | .stmt => 1 | .set _ => 1 | .choice => 1 | .list _ _ _ => 1 | .between _ _ _ => 1 | _ => 0
def Fine {α : Type} (ks : List Tk) (s : St α) (i b : Nat) : Prop := s ≠ .out ∧ ∀ c j, s = .ok c j → i + b ≤ j ∧ j ≤ ks.length
section
variable {ks : List Tk} {α β : Type} {s : St α} {i b c d : Nat}
theorem Fine.and {f : α → Nat → St β} (h : Fine ks s i b) (hf : ∀ a k, i + b ≤ k → k ≤ ks.length → Fine ks (f a k) k c) (hd : d ≤ b + c) : Fine ks (s.and f) i d := by
 obtain ⟨h1, h2⟩ := h;cases s with
 | ok a j =>
   obtain ⟨h3, h4⟩ := h2 a j rfl;obtain ⟨h5, h6⟩ := hf a j h3 h4;exact ⟨h5, fun x k e => by obtain ⟨y1, y2⟩ := h6 x k e; exact ⟨by omega, y2⟩⟩
 | bad j => exact ⟨fun e => (by cases e), fun x k e => (by cases e)⟩
 | out => exact absurd rfl h1
theorem Fine.ok {a : α} (hi : i ≤ ks.length) : Fine ks (.ok a i) i 0 := ⟨fun e => (by cases e), fun x k e => by cases e; exact ⟨Nat.le_refl _, hi⟩⟩
theorem Fine.less (h : Fine ks s i b) (hc : c ≤ b) : Fine ks s i c := ⟨h.1, fun x k e => by obtain ⟨y1, y2⟩ := h.2 x k e; exact ⟨by omega, y2⟩⟩
theorem mark_lt {m : List UInt8} (h : markT ks i = m) (hm : m ≠ []) : i < ks.length := by
 unfold markT at h;rcases Nat.lt_or_ge i ks.length with hl | hl
 · exact hl
 · rw [List.getElem?_eq_none hl] at h
   exact absurd h.symm hm
theorem want_fine {m : List UInt8} (hm : m ≠ []) : Fine ks (wantT ks m i) i 1 := by
 unfold wantT;split
 · rename_i h
   have := mark_lt h hm;exact ⟨fun e => (by cases e), fun x k e => by cases e; exact ⟨Nat.le_refl _, this⟩⟩
 · exact ⟨fun e => (by cases e), fun x k e => (by cases e)⟩
theorem own_fine : Fine ks (ownT ks i) i 1 := by
 unfold ownT;split
 · rename_i x h
   have := (List.getElem?_eq_some_iff.1 h).1;split
   · exact ⟨fun e => (by cases e), fun x k e => by cases e; exact ⟨Nat.le_refl _, this⟩⟩
   · exact ⟨fun e => (by cases e), fun x k e => (by cases e)⟩
 · exact ⟨fun e => (by cases e), fun x k e => (by cases e)⟩
end
theorem gP_fine (ks : List Tk) : ∀ f q i, q.wf → i ≤ ks.length → 32 * (ks.length - i) + q.rank + 1 ≤ f → Fine ks (gP ks f q i) i q.least
 | 0, q, i, _, _, h => by omega
 | f + 1, q, i, hw, hi, h => by
   have ih := gP_fine ks f;have hM : ∀ m, NT.rank .prim = 1 → 32 * (ks.length - i) + 2 ≤ f + 1 → Fine ks (gM ks (gP ks f) m i) i 0 := by
     intro m _ hf;unfold gM;split
     · exact (ih (.list B.lsq .expr B.rsq) i ⟨by decide, by decide, .inr rfl⟩ hi (by simp only [NT.rank]; omega)).and (fun _ k h1 h2 => Fine.ok h2) (by simp [NT.least])
     split
     · exact (ih (.between B.opn .expr B.cls) i ⟨by decide, by decide, .inr (.inl rfl)⟩ hi (by simp only [NT.rank]; omega)).less (Nat.zero_le _)
     split
     · rename_i hm
       exact (want_fine (by rcases hm with rfl | rfl | rfl | rfl <;> decide)).and (fun _ k h1 h2 => Fine.ok h2) (by omega)
     split
     · rename_i hm
       exact (want_fine (by rcases hm with rfl | rfl | rfl | rfl | rfl <;> decide)).and (fun _ k h1 h2 => (ih (.between B.opn .expr B.cls) k ⟨by decide, by decide, .inr (.inl rfl)⟩ h2 (by simp only [NT.rank]; omega)).and (fun _ k h1 h2 => Fine.ok h2) (Nat.zero_le _)) (by omega)
     split
     · rename_i hm
       exact (want_fine (by rw [hm]; decide)).and (fun _ k h1 h2 => (ih (.between B.opn .two B.cls) k ⟨by decide, by decide, .inr (.inr rfl)⟩ h2 (by simp only [NT.rank]; omega)).and (fun _ k h1 h2 => Fine.ok h2) (Nat.zero_le _)) (by omega)
     split
     · rename_i hm
       exact (want_fine (by rcases hm with rfl | rfl <;> decide)).and (fun _ k h1 h2 => own_fine.and (fun _ k h3 h4 => (ih (.list B.opn .expr B.cls) k ⟨by decide, by decide, .inr rfl⟩ h4 (by simp only [NT.rank]; omega)).and (fun _ k h1 h2 => Fine.ok h2) (Nat.zero_le _)) (Nat.zero_le _)) (by omega)
     split
     · rename_i hm
       exact (want_fine (by rw [hm]; decide)).and (fun _ k h1 h2 => (ih .block k trivial h2 (by simp only [NT.rank]; omega)).and (fun _ k h1 h2 => Fine.ok h2) (Nat.zero_le _)) (by omega)
     split
     · rename_i hm
       exact (want_fine (by rw [hm]; decide)).and (fun _ k h1 h2 => own_fine.and (fun _ k h1 h2 => Fine.ok h2) (Nat.zero_le _)) (by omega)
     · exact own_fine.and (fun _ k h1 h2 => Fine.ok h2) (by omega)
   cases q with
   | flow =>
     show Fine ks ((wantT ks B.flow i).and _) i 0
     exact (want_fine (by decide)).and (fun _ k h1 h2 => own_fine.and (fun _ k h3 h4 => (ih (.list B.opn .param B.cls) k ⟨by decide, by decide, .inl rfl⟩ h4 (by simp only [NT.rank]; omega)).and (fun _ k h5 h6 => (ih .block k trivial h6 (by simp only [NT.rank, NT.least] at *; omega)).and (fun _ k h1 h2 => Fine.ok h2) (Nat.zero_le _)) (Nat.zero_le _)) (Nat.zero_le _)) (Nat.zero_le _)
   | param =>
     show Fine ks ((ownT ks i).and _) i 0
     exact own_fine.and (fun _ k h1 h2 => Fine.ok h2) (by omega)
   | block =>
     show Fine ks ((gP ks f (.between B.lbr .stmts B.rbr) i).and _) i 0
     exact (ih (.between B.lbr .stmts B.rbr) i ⟨by decide, by decide, .inl rfl⟩ hi (by simp only [NT.rank] at *; omega)).and (fun _ k h1 h2 => Fine.ok h2) (Nat.zero_le _)
   | stmts =>
     show Fine ks (gP ks f (.stmtsGo Ch.none) i) i 0
     exact ih (.stmtsGo Ch.none) i trivial hi (by simp only [NT.rank] at *; omega)
   | stmtsGo a =>
     unfold gP;dsimp only;split
     · exact Fine.ok hi
     · exact (ih .stmt i trivial hi (by simp only [NT.rank] at *; omega)).and (fun _ k h1 h2 => (ih (.stmtsGo _) k trivial h2 (by simp only [NT.rank, NT.least] at *; omega))) (Nat.zero_le _)
   | stmt =>
     unfold gP;dsimp only;simp only [NT.rank] at h;split
     · exact (want_fine (by decide)).and (fun _ k h1 h2 => (ih (.set 4) k trivial h2 (by simp only [NT.rank]; omega))) (by simp [NT.least])
     split
     · exact ih .choice i trivial hi (by simp only [NT.rank]; omega)
     split
     · exact (want_fine (by decide)).and (fun _ k h1 h2 => (ih .expr k trivial h2 (by simp only [NT.rank]; omega)).and (fun _ k h3 h4 => (ih .block k trivial h4 (by simp only [NT.rank, NT.least] at *; omega)).and (fun _ k h1 h2 => Fine.ok h2) (Nat.zero_le _)) (Nat.zero_le _)) (by simp [NT.least])
     split
     · rename_i hm
       exact (want_fine (by rcases hm with hm | hm | hm | hm <;> rw [hm] <;> decide)).and (fun _ k h1 h2 => (ih .expr k trivial h2 (by simp only [NT.rank]; omega)).and (fun _ k h1 h2 => Fine.ok h2) (Nat.zero_le _)) (by simp [NT.least])
     · exact ih (.set 5) i trivial hi (by simp only [NT.rank]; omega)
   | choice =>
     show Fine ks ((wantT ks B.ifW i).and _) i 1
     simp only [NT.rank] at h;refine (want_fine (by decide)).and (fun _ k h1 h2 => (ih .expr k trivial h2 (by simp only [NT.rank]; omega)).and (fun _ k h3 h4 => (ih .block k trivial h4 (by simp only [NT.rank, NT.least] at *; omega)).and (c := 0) (fun _ k h5 h6 => ?_) (Nat.zero_le _)) (Nat.zero_le _)) (by omega);simp only [NT.least] at h3 h5;split
     · exact (want_fine (by decide)).and (fun _ k h7 h8 => (ih .block k trivial h8 (by simp only [NT.rank] at *; omega)).and (fun _ k h1 h2 => Fine.ok h2) (Nat.zero_le _)) (Nat.zero_le _)
     · exact Fine.ok h6
   | expr =>
     show Fine ks (gP ks f (.row .and [B.or]) i) i 0
     exact ih (.row .and [B.or]) i ⟨.inr (.inr (.inr rfl)), by decide⟩ hi (by simp only [NT.rank] at *; omega)
   | and =>
     show Fine ks (gP ks f (.row .not [B.and]) i) i 0
     exact ih (.row .not [B.and]) i ⟨.inr (.inr (.inl rfl)), by decide⟩ hi (by simp only [NT.rank] at *; omega)
   | not =>
     unfold gP;dsimp only;simp only [NT.rank] at h;split
     · exact (want_fine (by decide)).and (fun _ k h1 h2 => (ih .not k trivial h2 (by simp only [NT.rank]; omega)).and (fun _ k h1 h2 => Fine.ok h2) (Nat.zero_le _)) (by simp [NT.least])
     · exact ih .cmp i trivial hi (by simp only [NT.rank]; omega)
   | cmp =>
     show Fine ks ((gP ks f .sum i).and _) i 0
     simp only [NT.rank] at h;refine (ih .sum i trivial hi (by simp only [NT.rank]; omega)).and (c := 0) (fun _ k h1 h2 => ?_) (Nat.zero_le _);simp only [NT.least] at h1;split
     · rename_i hm
       exact (want_fine (by rcases hm with hm | hm | hm | hm <;> rw [hm] <;> decide)).and (fun _ k h1 h2 => (ih .sum k trivial h2 (by simp only [NT.rank]; omega)).and (fun _ k h1 h2 => Fine.ok h2) (Nat.zero_le _)) (Nat.zero_le _)
     · exact Fine.ok h2
   | sum =>
     show Fine ks (gP ks f (.row .term addS) i) i 0
     exact ih (.row .term addS) i ⟨.inr (.inl rfl), by decide⟩ hi (by simp only [NT.rank] at *; omega)
   | term =>
     show Fine ks (gP ks f (.row .pre mulS) i) i 0
     exact ih (.row .pre mulS) i ⟨.inl rfl, by decide⟩ hi (by simp only [NT.rank] at *; omega)
   | pre =>
     unfold gP;dsimp only;simp only [NT.rank] at h;split
     · exact (want_fine (by decide)).and (fun _ k h1 h2 => (ih .pre k trivial h2 (by simp only [NT.rank]; omega)).and (fun _ k h1 h2 => Fine.ok h2) (Nat.zero_le _)) (by simp [NT.least])
     split
     · rename_i hm
       exact (want_fine (by rcases hm with hm | hm <;> rw [hm] <;> decide)).and (fun _ k h1 h2 => (ih .pre k trivial h2 (by simp only [NT.rank]; omega)).and (fun _ k h1 h2 => Fine.ok h2) (Nat.zero_le _)) (by simp [NT.least])
     · exact ih .post i trivial hi (by simp only [NT.rank]; omega)
   | post =>
     show Fine ks ((gP ks f .prim i).and _) i 0
     simp only [NT.rank] at h;exact (ih .prim i trivial hi (by simp only [NT.rank]; omega)).and (fun _ k h1 h2 => (ih (.postGo _) k trivial h2 (by simp only [NT.rank, NT.least] at *; omega))) (Nat.zero_le _)
   | postGo a =>
     unfold gP;dsimp only;simp only [NT.rank] at h;split
     · rename_i hm
       exact (ih (.between B.lsq .expr B.rsq) i ⟨by decide, by decide, .inr (.inl rfl)⟩ hi (by simp only [NT.rank]; omega)).and (fun _ k h1 h2 => (ih (.postGo _) k trivial h2 (by simp only [NT.rank, NT.least] at *; omega))) (Nat.zero_le _)
     · exact Fine.ok hi
   | prim =>
     unfold gP;dsimp only;simp only [NT.rank] at h;split
     · rename_i x hx
       have hl := (List.getElem?_eq_some_iff.1 hx).1;have hok : ∀ c : Ch, Fine ks (.ok c (i + 1)) i 0 := fun c => ⟨fun e => (by cases e), fun x k e => by cases e; exact ⟨by omega, hl⟩⟩;split
       · exact hok _
       split
       · exact hok _
       · exact hM _ rfl h
     · exact hM _ rfl h
   | two =>
     show Fine ks ((gP ks f .expr i).and _) i 0
     simp only [NT.rank] at h;exact (ih .expr i trivial hi (by simp only [NT.rank]; omega)).and (fun _ k h1 h2 => (want_fine (by decide)).and (fun _ k h3 h4 => (ih .expr k trivial h4 (by simp only [NT.rank, NT.least] at *; omega)).and (fun _ k h1 h2 => Fine.ok h2) (Nat.zero_le _)) (Nat.zero_le _)) (Nat.zero_le _)
   | set op =>
     show Fine ks ((ownT ks i).and _) i 1
     simp only [NT.rank] at h;exact own_fine.and (fun _ k h1 h2 => (want_fine (by decide)).and (fun _ k h3 h4 => (ih .expr k trivial h4 (by simp only [NT.rank]; omega)).and (fun _ k h1 h2 => Fine.ok h2) (Nat.zero_le _)) (Nat.zero_le _)) (by omega)
   | list o p e =>
     obtain ⟨ho, he, hp⟩ := hw;show Fine ks ((wantT ks o i).and _) i 1
     simp only [NT.rank] at h;have hpr : p.rank ≤ 13 ∧ p.wf := by rcases hp with rfl | rfl <;> exact ⟨by decide, trivial⟩
     refine (want_fine ho).and (c := 0) (fun _ k h1 h2 => ?_) (by omega);split
     · exact (want_fine he).and (fun _ k h1 h2 => Fine.ok h2) (Nat.zero_le _)
     · exact (ih p k hpr.2 h2 (by omega)).and (fun _ k h3 h4 => (ih (.listGo p e _) k ⟨he, hp⟩ h4 (by simp only [NT.rank]; omega))) (Nat.zero_le _)
   | listGo p e a =>
     obtain ⟨he, hp⟩ := hw;unfold gP;dsimp only;simp only [NT.rank] at h;have hpr : p.rank ≤ 13 ∧ p.wf := by rcases hp with rfl | rfl <;> exact ⟨by decide, trivial⟩
     split
     · exact (want_fine (by decide)).and (fun _ k h1 h2 => (ih p k hpr.2 h2 (by omega)).and (fun _ k h3 h4 => (ih (.listGo p e _) k ⟨he, hp⟩ h4 (by simp only [NT.rank]; omega))) (Nat.zero_le _)) (Nat.zero_le _)
     · exact (want_fine he).and (fun _ k h1 h2 => Fine.ok h2) (Nat.zero_le _)
   | between o p e =>
     obtain ⟨ho, he, hp⟩ := hw;show Fine ks ((wantT ks o i).and _) i 1
     simp only [NT.rank] at h;have hpr : p.rank ≤ 14 ∧ p.wf := by rcases hp with rfl | rfl | rfl <;> exact ⟨by decide, trivial⟩
     exact (want_fine ho).and (fun _ k h1 h2 => (ih p k hpr.2 h2 (by omega)).and (fun _ k h3 h4 => (want_fine he).and (fun _ k h1 h2 => Fine.ok h2) (Nat.zero_le _)) (Nat.zero_le _)) (by omega)
   | row p ms =>
     show Fine ks ((gP ks f p i).and _) i 0
     have hpr : p.rank + 1 ≤ (NT.row p ms).rank ∧ p.wf := by rcases hw.1 with rfl | rfl | rfl | rfl <;> exact ⟨by simp [NT.rank], trivial⟩
     exact (ih p i hpr.2 hi (by omega)).and (fun _ k h1 h2 => (ih (.rowGo p ms _) k hw h2 (by simp only [NT.rank]; have := hpr.1; omega))) (Nat.zero_le _)
   | rowGo p ms a =>
     unfold gP;dsimp only;simp only [NT.rank] at h;have hpr : p.rank ≤ 11 ∧ p.wf := by rcases hw.1 with rfl | rfl | rfl | rfl <;> exact ⟨by decide, trivial⟩
     split
     · rename_i hm
       exact (want_fine (hw.2 _ hm)).and (fun _ k h1 h2 => (ih p k hpr.2 h2 (by omega)).and (fun _ k h3 h4 => (ih (.rowGo p ms _) k hw h4 (by simp only [NT.rank]; omega))) (Nat.zero_le _)) (Nat.zero_le _)
     · exact Fine.ok hi
end Go.Proofs.YtjiemkidmlgbeaaGreatDoor
