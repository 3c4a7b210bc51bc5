/- A part of the proof: PRow, PList, PStm, PSet. No condition. -/
import Derived.Test.YtjiemkidmlgbeaaGreatDoorQ09
import Derived.Test.YtjiemkidmlgbeaaGreatDoorQ11
set_option linter.unusedVariables false
set_option linter.unusedSimpArgs false
namespace Go.Proofs.YtjiemkidmlgbeaaGreatDoor
open Go.RowKit Go.Shelf Tok
def placeN (w : World) (R : Nat) : Nat := (intOf ((w.cell? ⟨R, 1, none⟩).getD undef)).toNat
theorem place_of {w W : World} {R cap n j : Nat} {a : Option Addr} {ks : List Tk} (h : Mid w W R a cap n ks j) : placeN W R = j := by
 unfold placeN;rw [h.pr.c1];simp [intOf]
theorem mark_call {w W : World} {R cap n j : Nat} {a : Option Addr} {ks : List Tk} (h : Mid w W R a cap n ks j) {m : List UInt8} (hm : markT ks j = m) :
   Calls Tryz.prog 77 #[.pointer (some ⟨R, 0, none⟩)] W fun e w' => e = .returned (.string ⟨m.toArray⟩) ∧ Below W.heap.size W w' := by
 subst hm;exact mark_any h.pr
theorem ChV.cut {W : World} {F : Nat → Prop} {v : Value} {c : Ch} (h : ChV W F v c) : ChV W (fun k => F k ∧ k < W.heap.size) v c := h.mono (fun k hk h => ⟨h, hk⟩)
structure RowB (w W : World) (B7 g nm : Nat) (ms : List (List UInt8)) (p1 p2 : Option Addr) (m : Nat) : Prop where
 b : W.heap[w.heap.size]? = some chZ
 d : W.heap[B7]? = some (.cells #[.pointer p1, .pointer p2, .int .i64 (m : Int)] 83 (0, 0))
 s : StrsIn W g nm ms
 l : w.heap.size < B7
 gl : g < w.heap.size
theorem RowB.below {w W W' : World} {B7 g nm m : Nat} {ms : List (List UInt8)} {p1 p2 : Option Addr} (h : RowB w W B7 g nm ms p1 p2 m) (hb : Below W.heap.size W W') : RowB w W' B7 g nm ms p1 p2 m :=
 ⟨heldF (Only.of_below (F := fun _ => False) hb) h.b (fun h => h), heldF (Only.of_below (F := fun _ => False) hb) h.d (fun h => h), h.s.keep (Only.of_below (F := fun _ => False) hb) (fun h => h), h.l, h.gl⟩
theorem RowB.only {w W W' : World} {F : Nat → Prop} {B7 g nm m : Nat} {ms : List (List UInt8)} {p1 p2 : Option Addr} (h : RowB w W B7 g nm ms p1 p2 m) (ho : Only F W W') (h1 : ¬ F w.heap.size) (h2 : ¬ F B7) (h3 : ¬ F g) : RowB w W' B7 g nm ms p1 p2 m :=
 ⟨heldF ho h.b h1, heldF ho h.d h2, h.s.keep ho h3, h.l, h.gl⟩
theorem RowB.step {w W W' : World} {R B7 g nm m : Nat} {ms : List (List UInt8)} {p1 p2 : Option Addr} (h : RowB w W B7 g nm ms p1 p2 m) (hR : R < w.heap.size) (hg : g ≠ R) (ho : Only (fun k => k = R) W W') : RowB w W' B7 g nm ms p1 p2 m :=
 h.only ho (by omega) (by have := h.l; omega) hg
def RowV (w W : World) (B7 : Nat) (p1 p2 : Option Addr) (c : Ch) : Prop := ChV W (fun k => w.heap.size < k ∧ k ≠ B7) (.agg #[.pointer p1, .pointer p2, .int .i64 (c.n : Int)]) c
set_option maxRecDepth 20000 in
set_option maxHeartbeats 2000000 in
theorem row_any {N : Nat} {q : NT} {ms : List (List UInt8)} {R cap n g nm : Nat} {a : Option Addr} {ks : List Tk} (hE : Enters N R) (f : Nat) (hP : ∀ f', f' ≤ f → Does N (fun i => gP ks f' q i) R a cap n ks)
   (hcn : ∀ f i c j, gP ks f q i = .ok c j → c.n ≤ 10000000) (hmo : ∀ f i c j, gP ks f q i = .ok c j → i ≤ j) (hR : 2 ≠ R) {w : World} {i : Nat} (h : PR w R a cap n ks i) (hM : MakesOK w) (hS : StrsIn w g nm ms) (hgR : g ≠ R) (hgl : g < w.heap.size) (hnm : nm ≤ 1000) (hms : ∀ m ∈ ms, m ≠ [])
   (hne : gP ks (f + 1) (.row q ms) i ≠ .out) :
   Calls Tryz.prog 59 #[rp R, .func (.func N) #[rp R] #[], .slice (some ⟨g, 0, none⟩) nm nm] w (Took (gP ks (f + 1) (.row q ms) i) w R a cap n ks) := by
 have m0 := Lib.hid ((Mid.start h hM).alloc chZ);have hRl := h.lt;have hml := hM.lt;have b0 := Lib.hid (heap_alloc_new w chZ);have s0 := Lib.hid (hS.keep (Only.of_below (F := fun _ => False) ((Below.refl w.heap.size w).alloc (Nat.le_refl _) chZ)) (fun h => h));unfold Enters at hE;have hrow : gP ks (f + 1) (.row q ms) i = (gP ks f q i).and fun c i => gP ks f (.rowGo q ms c) i := rfl;rw [hrow] at hne ⊢;clear h hM hS hrow;cases hg : gP ks f q i with
 | out => rw [hg] at hne; exact absurd rfl hne
 | bad j =>
   have c1 := Lib.hid (does_bad (hP f (Nat.le_refl _)) m0.out.pr m0.out.mo hg);unfold St.and;dsimp only;clear hP hne hcn hmo;unfold rp at c1 ⊢;go_enter Tryz.func59, Tryz.ntmps59
   go_wp2_with fail
   refine c1.out.mono ?_;rintro e' w3 ⟨rfl, hb3⟩;go_wp2_with fail
   exact ⟨rfl, rfl, m0.out.bad hb3⟩
 | ok c j =>
   rw [hg] at hne;unfold St.and at hne ⊢;dsimp only at hne ⊢;obtain ⟨Z, hZ⟩ := exHid (gP ks f (.rowGo q ms c) j);rw [hZ.out] at hne ⊢;have c1 := Lib.hid (does_ok (hP f (Nat.le_refl _)) m0.out.pr m0.out.mo hg);have hc0 := hcn _ _ _ _ hg;replace hP := Lib.hid hP; replace hcn := Lib.hid hcn; replace hmo := Lib.hid hmo; replace hms := Lib.hid hms;unfold rp at c1 ⊢;go_enter Tryz.func59, Tryz.ntmps59
   go_wp2_with fail
   refine c1.out.mono ?_;rintro e' w2 ⟨v, rfl, hv, hp2, ho2⟩;obtain ⟨p1, p2, rfl⟩ := hv.agg;have hs2 := ho2.size;rw [World.size_alloc] at hs2;have m2 := Lib.hid ((m0.out.step hR hp2 ho2).alloc (.cells #[.pointer p1, .pointer p2, .int .i64 (c.n : Int)] 83));have v2 := Lib.hid (show RowV w (w2.alloc (.cells #[.pointer p1, .pointer p2, .int .i64 (c.n : Int)] 83)) w2.heap.size p1 p2 c from (hv.mono (fun k hk h => by rw [World.size_alloc] at h; exact ⟨by omega, by omega⟩)).alloc _);have r2 := Lib.hid (show RowB w (w2.alloc (.cells #[.pointer p1, .pointer p2, .int .i64 (c.n : Int)] 83)) w2.heap.size g nm ms p1 p2 c.n from
     ⟨heldA (heldB ho2 b0.out (by omega)) _, heap_alloc_new w2 _, (s0.out.keep ho2 hgR).keep (Only.of_below (F := fun _ => False) ((Below.refl w2.heap.size w2).alloc (Nat.le_refl _) _)) (fun h => h), by omega, hgl⟩)
   clear c1 m0 b0 s0 hv hp2 ho2;go_wp2_with fail
   generalize w2.alloc (.cells #[.pointer p1, .pointer p2, .int .i64 (c.n : Int)] 83) = w3 at *;generalize w2.heap.size = B7 at *;go_loopw [8] (fun t8 wr => ∃ (f' j : Nat) (c : Ch) (p1 p2 : Option Addr), f' ≤ f ∧ c.n ≤ 10000000 ∧ j ≤ ks.length ∧ Hid (gP ks f' (.rowGo q ms c) j = Z) ∧ Hid (Mid w wr R a cap n ks j) ∧ Hid (RowB w wr B7 g nm ms p1 p2 c.n) ∧ Hid (RowV w wr B7 p1 p2 c)) (fun _ wr => ks.length - placeN wr R)
   case atStart => exact ⟨f, j, c, p1, p2, Nat.le_refl _, hc0, m2.out.pr.le, hZ, m2, r2, v2⟩
   case round =>
     clear m2 r2 v2 hZ hg hc0;obtain ⟨f', j, c, p1, p2, hf', hc0, hjl, hZ, hm, hr, hv⟩ := hrel;cases f' with
     | zero => exact absurd hZ.out.symm hne
     | succ f'' =>
       have hz := hZ.out;unfold gP at hz;dsimp only at hz;obtain ⟨m, hmk⟩ := exHid (markT ks j);rw [hmk.out] at hz;have k1 := Lib.hid (mark_call hm.out hmk.out);by_cases hin : m ∈ ms
       · rw [if_pos hin] at hz
         have hmne := hms.out m hin;have hd : decide (m ∈ ms) = true := decide_eq_true hin;unfold wantT at hz;rw [if_pos hmk.out] at hz;unfold St.and at hz;dsimp only at hz;have k3 := Lib.hid (fun W (hp : PR W R a cap n ks j) => want_ok hp hmne hmk.out);have kM := Lib.hid (fun W (h : Mid w W R a cap n ks j) => mark_call h hmk.out);replace hin := Lib.hid hin;unfold rp at k3;cases hg2 : gP ks f'' q (j + 1) with
         | out => rw [hg2] at hz; exact absurd hz.symm hne
         | bad k =>
           rw [hg2] at hz;subst hz;have cP := Lib.hid (fun W (hp : PR W R a cap n ks (j + 1)) (hm : MakesOK W) => does_bad (hP.out f'' (by omega)) hp hm hg2);unfold rp at cP;go_wp2_with fail
           refine k1.out.mono ?_;rintro e' w5 ⟨rfl, hb5⟩;have hm5 := Lib.hid (hm.out.below hb5);have hr5 := Lib.hid (hr.out.below hb5);have k2 := Lib.hid (contains_any hr5.out.s hnm m hd);clear k1 hr hv;go_wp2_with fail
           refine k2.out.mono ?_;rintro e' w6 ⟨rfl, rfl⟩;go_wp2_with fail
           refine (kM.out _ hm5.out).mono ?_;rintro e' w7 ⟨rfl, hb7⟩;have hm7 := Lib.hid (hm5.out.below hb7);have hr7 := Lib.hid (hr5.out.below hb7);clear k2 hm5 hr5;go_wp2_with fail
           refine (k3.out _ hm7.out.pr).mono ?_;rintro e' w9 ⟨rfl, hp9, ho9⟩;have mC := Lib.hid ((hm7.out.step hR hp9 ho9).below ((Below.refl _ w9).drew));have rB := Lib.hid ((hr7.out.step hRl hgR ho9).below ((Below.refl _ w9).drew));obtain ⟨x0, x1, x2, _, _, _⟩ := cells3 rB.out.d;clear hm7 hr7 kM k3;go_wp2_with fail
           refine wp_region_any (by kernel_rfl) ?_
           change wpAny _ _ _ _ _ _ _ (World.drew _)
           refine wpAny_take (i := 1) (v := .func (.func N) #[.pointer (some ⟨R, 0, none⟩)] #[]) rfl (by kernel_rfl) (by kernel_rfl) (by kernel_rfl) (fun _ _ _ h => h) (Or.inl ⟨by rfl, by intro w; go_simp⟩) ?_;refine wpAny_take (i := 4) (v := .string ⟨m.toArray⟩) rfl (by kernel_rfl) (by kernel_rfl) (by kernel_rfl) (fun _ _ _ h => h) (Or.inl ⟨by rfl, by intro w; go_simp⟩) ?_;refine wpAny_ready (rs := [0, 2]) (by kernel_rfl) (by simp) ?_;refine AllReady.cons rfl (fun K hK => ?_) (AllReady.cons rfl (fun K hK => ?_) AllReady.nil)
           · go_simp
             refine hK _ _ ?_;clear hK K;refine wpAny_ready (rs := [2]) (by kernel_rfl) (by simp) ?_;refine AllReady.cons rfl (fun K hK => ?_) AllReady.nil
             · go_simp
               go_wp2_with fail
               refine (cP.out _ mC.out.pr mC.out.mo).mono ?_;rintro e' w10 ⟨rfl, hb10⟩;go_wp2_with fail
               exact ⟨rfl, rfl, mC.out.bad hb10⟩
           · go_simp
             go_wp2_with fail
             refine (cP.out _ mC.out.pr mC.out.mo).mono ?_;rintro e' w10 ⟨rfl, hb10⟩;go_wp2_with fail
             exact ⟨rfl, rfl, mC.out.bad hb10⟩
         | ok d k =>
           rw [hg2] at hz;replace hz := Lib.hid hz;have hdn := hcn.out _ _ _ _ hg2;have cP := Lib.hid (fun W (hp : PR W R a cap n ks (j + 1)) (hm : MakesOK W) => does_ok (hP.out f'' (by omega)) hp hm hg2);unfold rp at cP;go_wp2_with fail
           refine k1.out.mono ?_;rintro e' w5 ⟨rfl, hb5⟩;have hm5 := Lib.hid (hm.out.below hb5);have hr5 := Lib.hid (hr.out.below hb5);have hv5 := Lib.hid (ChV.below hv.out hb5);have k2 := Lib.hid (contains_any hr5.out.s hnm m hd);clear k1 hr hv;go_wp2_with fail
           refine k2.out.mono ?_;rintro e' w6 ⟨rfl, rfl⟩;go_wp2_with fail
           refine (kM.out _ hm5.out).mono ?_;rintro e' w7 ⟨rfl, hb7⟩;have hm7 := Lib.hid (hm5.out.below hb7);have hr7 := Lib.hid (hr5.out.below hb7);have hv7 := Lib.hid (ChV.below hv5.out hb7);clear k2 hm5 hr5 hv5;go_wp2_with fail
           refine (k3.out _ hm7.out.pr).mono ?_;rintro e' w9 ⟨rfl, hp9, ho9⟩;have mC := Lib.hid ((hm7.out.step hR hp9 ho9).below ((Below.refl _ w9).drew));have rB := Lib.hid ((hr7.out.step hRl hgR ho9).below ((Below.refl _ w9).drew));have vC := Lib.hid (ChV.below (ChV.step (R := R) hv7.out (fun k hk => by have := hk.1; omega) ho9) ((Below.refl _ w9).drew));obtain ⟨x0, x1, x2, _, _, _⟩ := cells3 rB.out.d;clear hm7 hr7 hv7 kM k3;go_wp2_with fail
           go_region_law (first
             | (go_simp; refine (cP.out _ mC.out.pr mC.out.mo).mono ?_; rintro e' w10 ⟨v10, rfl, hv10, hp10, ho10⟩; obtain ⟨q1, q2, rfl⟩ := hv10.agg; have hT := Lib.hid (Array.getElem?_eq_some_iff.1 rB.out.d).1; replace vC := Lib.hid (ChV.step (R := R) (ChV.cut vC.out) (fun k hk => by have := hk.1.1; omega) ho10); have dC := Lib.hid hv10; replace mC := Lib.hid (mC.out.step hR hp10 ho10); replace rB := Lib.hid (rB.out.step hRl hgR ho10); obtain ⟨x0, x1, x2, _, _, _⟩ := cells3 rB.out.d)
             | (go_simp; go_at_call 83; refine (opOf_any m mC.out.mo).mono ?_; rintro e' w11 ⟨rfl, hb11⟩; (first | (replace vT := Lib.hid (ChV.below vT.out hb11)) | (replace dC := Lib.hid (ChV.below dC.out hb11); replace vC := Lib.hid (ChV.below vC.out hb11)) | (replace vC := Lib.hid (ChV.below vC.out hb11))); replace mC := Lib.hid (mC.out.below hb11); replace rB := Lib.hid (rB.out.below hb11); obtain ⟨x0, x1, x2, _, _, _⟩ := cells3 rB.out.d)
             | (go_simp; go_at_call 56; refine (then_any vC.out dC.out (fun k h1 h2 => by have h3 := h1.2; omega) (by omega)).mono ?_; rintro e' w12 ⟨z12, rfl, hv12, ho12⟩; obtain ⟨r1, r2, rfl⟩ := hv12.agg; have vT := Lib.hid hv12; replace mC := Lib.hid (mC.out.extF hml (fun k h => by have := h.1.1; omega) ho12); replace rB := Lib.hid (rB.out.only ho12 (fun h => by have := h.1.1; omega) (fun h => h.1.2 rfl) (fun h => by have := h.1.1; omega)))
             | (go_simp; go_at_call 58; refine (under_any vT.out (by unfold Ch.then; dsimp only; omega) (opOfT m) 0 0 []).mono ?_; rintro e' w13 ⟨z13, rfl, hv13, hb13⟩; obtain ⟨s1, s2, rfl⟩ := hv13.agg; have hT3 := Lib.hid (Array.getElem?_eq_some_iff.1 rB.out.d).1; replace mC := Lib.hid (mC.out.below hb13); replace rB := Lib.hid (rB.out.below hb13); obtain ⟨y0, y1, y2, y3, y4, y5⟩ := cells3 rB.out.d))
           all_goals
             obtain ⟨l1, l2⟩ := stored3 rB.out.d (.pointer s1) (.pointer s2) (.int .i64 (((c.then d).under (opOfT m) 0 []).n : Int));have hl7 := rB.out.l;have hBg : g ≠ B7 := by omega
             have hjk := hmo.out _ _ _ _ hg2;have hjl2 := mC.out.pr.le;have hmE := Lib.hid (mC.out.ext (by omega) (by omega) l2);have hrE := Lib.hid (show RowB w _ B7 g nm ms s1 s2 ((c.then d).under (opOfT m) 0 []).n from ⟨heldF l2 rB.out.b (by omega), l1, rB.out.s.keep l2 hBg, hl7, hgl⟩);have hvE := Lib.hid (show RowV w _ B7 s1 s2 ((c.then d).under (opOfT m) 0 []) from (hv13.mono (fun k _ hk => by
               have a1 := hT.out;have a2 := hT3.out;rcases hk with (hk | hk) | hk
               · exact hk.1
               · exact ⟨by omega, by omega⟩
               · exact ⟨by omega, by omega⟩)).only l2 (fun k hk e => hk.2 e))
             have hpl := Lib.hid (place_of hm.out);have hpe := Lib.hid (place_of hmE.out);replace l1 := Lib.hid l1; replace l2 := Lib.hid l2;go_wp2_with fail
             go_roundw
             case rel => exact ⟨f'', k, (c.then d).under (opOfT m) 0 [], s1, s2, by omega, by show 1 ≤ 10000000; omega, hjl2, hz, hmE, hrE, hvE⟩
             case measure =>
               rw [hpe.out, hpl.out];omega
       · rw [if_neg hin] at hz
         subst hz;have hd : decide (m ∈ ms) = false := decide_eq_false hin;replace hin := Lib.hid hin;obtain ⟨x0, x1, x2, _, _, _⟩ := cells3 hr.out.d;go_wp2_with fail
         refine k1.out.mono ?_;rintro e' w5 ⟨rfl, hb5⟩;have hm5 := Lib.hid (hm.out.below hb5);have hr5 := Lib.hid (hr.out.below hb5);have k2 := Lib.hid (contains_any hr5.out.s hnm m hd);clear x0 x1 x2;obtain ⟨x0, x1, x2, _, _, _⟩ := cells3 hr5.out.d;obtain ⟨y0, y1, y2, y3, y4, y5⟩ := cells3 hr5.out.b;go_wp2_with fail
         refine k2.out.mono ?_;rintro e' w6 ⟨rfl, rfl⟩;obtain ⟨l1, l2⟩ := laid3 hm5.out (Nat.le_refl _) hml hr5.out.b ((hv.out.below hb5).mono (fun k _ hk => ⟨Nat.le_of_lt hk.1, by have := hk.1; omega⟩));replace l1 := Lib.hid l1; replace l2 := Lib.hid l2;go_wp2_with fail
         exact bodyPost_ret (ret_ch rfl rfl l1.out rfl) rfl l2.out
end Go.Proofs.YtjiemkidmlgbeaaGreatDoor
namespace Go.Proofs.YtjiemkidmlgbeaaGreatDoor
open Go.RowKit Go.Shelf Tok
structure LstB (w W : World) (p1 p2 : Option Addr) (c : Ch) : Prop where
 b : W.heap[w.heap.size]? = some (.cells #[.pointer p1, .pointer p2, .int .i64 (c.n : Int)] 83 (0, 0))
 v : ChV W (fun k => w.heap.size < k) (.agg #[.pointer p1, .pointer p2, .int .i64 (c.n : Int)]) c
theorem LstB.below {w W W' : World} {p1 p2 : Option Addr} {c : Ch} (h : LstB w W p1 p2 c) (hb : Below W.heap.size W W') : LstB w W' p1 p2 c :=
 ⟨heldF (Only.of_below (F := fun _ => False) hb) h.b (fun h => h), h.v.below hb⟩
theorem LstB.step {w W W' : World} {R : Nat} {p1 p2 : Option Addr} {c : Ch} (h : LstB w W p1 p2 c) (hR : R < w.heap.size) (ho : Only (fun k => k = R) W W') : LstB w W' p1 p2 c :=
 ⟨heldB ho h.b (by omega), ChV.step (R := R) h.v (fun k hk => by omega) ho⟩
theorem laidL {w W : World} {R cap n j : Nat} {a : Option Addr} {ks : List Tk} (h : Mid w W R a cap n ks j) (hg : 2 < w.heap.size) {p q : Option Addr} {c : Ch} (hb : LstB w W p q c) :
   (((W.setCell ⟨w.heap.size, 0, none⟩ (.pointer p)).setCell ⟨w.heap.size, 1, none⟩ (.pointer q)).setCell ⟨w.heap.size, 2, none⟩ (.int .i64 (c.n : Int))).heap[w.heap.size]? = some (.cells #[.pointer p, .pointer q, .int .i64 (c.n : Int)] 83 (0, 0)) ∧
   Took (.ok c j) w R a cap n ks (.returned (.agg #[.pointer p, .pointer q, .int .i64 (c.n : Int)])) (((W.setCell ⟨w.heap.size, 0, none⟩ (.pointer p)).setCell ⟨w.heap.size, 1, none⟩ (.pointer q)).setCell ⟨w.heap.size, 2, none⟩ (.int .i64 (c.n : Int))) :=
 laid3 h (Nat.le_refl _) hg hb.b (hb.v.mono (fun k _ hk => ⟨by omega, by omega⟩))
set_option maxRecDepth 20000 in
set_option maxHeartbeats 8000000 in
theorem list_any {N : Nat} {q : NT} {o e : List UInt8} {R cap n : Nat} {a : Option Addr} {ks : List Tk} (hE : Enters N R) (f : Nat) (hP : ∀ f', f' ≤ f → Does N (fun i => gP ks f' q i) R a cap n ks)
   (hcn : ∀ f i c j, gP ks f q i = .ok c j → c.n + i ≤ j) (hR : 2 ≠ R) (ho : o ≠ []) (he : e ≠ []) {w : World} {i : Nat} (h : PR w R a cap n ks i) (hM : MakesOK w)
   (hne : gP ks (f + 1) (.list o q e) i ≠ .out) :
   Calls Tryz.prog 54 #[rp R, .string ⟨o.toArray⟩, .func (.func N) #[rp R] #[], .string ⟨e.toArray⟩] w (Took (gP ks (f + 1) (.list o q e) i) w R a cap n ks) := by
 have m0 := Lib.hid ((Mid.start h hM).alloc chZ);have hRl := h.lt;have hml := hM.lt;have b0 := Lib.hid (show LstB w (w.alloc chZ) none none Ch.none from ⟨heap_alloc_new w chZ, ChV.nil _ _⟩);unfold Enters at hE;have hrow : gP ks (f + 1) (.list o q e) i = (wantT ks o i).and fun _ i => if markT ks i = e then (wantT ks e i).and fun _ i => .ok Ch.none i else (gP ks f q i).and fun c i => gP ks f (.listGo q e c) i := rfl;rw [hrow] at hne ⊢;unfold wantT at hne ⊢;clear h hM hrow;by_cases hq : markT ks i = o
 · rw [if_pos hq] at hne ⊢
   unfold St.and at hne ⊢;dsimp only at hne ⊢;have c1 := Lib.hid (want_ok m0.out.pr ho hq);unfold rp at c1 ⊢;by_cases hq2 : markT ks (i + 1) = e
   · rw [if_pos hq2, if_pos hq2]
     dsimp only;have kM := Lib.hid (fun W (h : Mid w W R a cap n ks (i + 1)) => mark_call h hq2);have k3 := Lib.hid (fun W (hp : PR W R a cap n ks (i + 1)) => want_ok hp he hq2);unfold rp at k3;have e1 : (e == e) = true := beq_self_eq_true _;clear hP hne hcn;go_enter Tryz.func54, Tryz.ntmps54
     go_wp2_with fail
     refine c1.out.mono ?_;rintro e' w2 ⟨rfl, hp2, ho2⟩;have m2 := Lib.hid (m0.out.step hR hp2 ho2);have b2 := Lib.hid (b0.out.step hRl ho2);clear c1 m0 b0 hp2 ho2;go_wp2_with fail
     refine (kM.out _ m2.out).mono ?_;rintro e' w3 ⟨rfl, hb3⟩;have m3 := Lib.hid (m2.out.below hb3);have b3 := Lib.hid (b2.out.below hb3);clear m2 b2 hb3;go_wp2_with fail
     refine (k3.out _ m3.out.pr).mono ?_;rintro e' w4 ⟨rfl, hp4, ho4⟩;have m4 := m3.out.step hR hp4 ho4;have b4 := b3.out.step hRl ho4;obtain ⟨y0, y1, y2, y3, y4, y5⟩ := cells3 b4.b;obtain ⟨l1, l2⟩ := laidL m4 hml b4;replace l1 := Lib.hid l1; replace l2 := Lib.hid l2;clear m3 b3 m4 b4 hp4 ho4;go_wp2_with fail
     exact bodyPost_ret (ret_ch rfl rfl l1.out rfl) rfl l2.out
   · rw [if_neg hq2] at hne ⊢
     have kM := Lib.hid (fun W (h : Mid w W R a cap n ks (i + 1)) => mark_call h rfl);have e1 : (markT ks (i + 1) == e) = false := beq_eq_false_iff_ne.2 hq2;generalize markT ks (i + 1) = mk at *;cases hg : gP ks f q (i + 1) with
     | out => rw [hg] at hne; exact absurd rfl hne
     | bad j =>
       dsimp only;have cP := Lib.hid (fun W (hp : PR W R a cap n ks (i + 1)) (hm : MakesOK W) => does_bad (hP f (Nat.le_refl _)) hp hm hg);unfold rp at cP;clear hP hne hcn;go_enter Tryz.func54, Tryz.ntmps54
       go_wp2_with fail
       refine c1.out.mono ?_;rintro e' w2 ⟨rfl, hp2, ho2⟩;have m2 := Lib.hid (m0.out.step hR hp2 ho2);clear c1 m0 b0 hp2 ho2;go_wp2_with fail
       refine (kM.out _ m2.out).mono ?_;rintro e' w3 ⟨rfl, hb3⟩;have m3 := Lib.hid (m2.out.below hb3);clear m2 hb3;go_wp2_with fail
       refine (cP.out _ m3.out.pr m3.out.mo).mono ?_;rintro e' w4 ⟨rfl, hb4⟩;go_wp2_with fail
       exact ⟨rfl, rfl, m3.out.bad hb4⟩
     | ok c j =>
       rw [hg] at hne;dsimp only at hne ⊢;obtain ⟨Z, hZ⟩ := exHid (gP ks f (.listGo q e c) j);rw [hZ.out] at hne ⊢;have hc0 := hcn _ _ _ _ hg;have cP := Lib.hid (fun W (hp : PR W R a cap n ks (i + 1)) (hm : MakesOK W) => does_ok (hP f (Nat.le_refl _)) hp hm hg);unfold rp at cP;replace hP := Lib.hid hP; replace hcn := Lib.hid hcn;go_enter Tryz.func54, Tryz.ntmps54
       go_wp2_with fail
       refine c1.out.mono ?_;rintro e' w2 ⟨rfl, hp2, ho2⟩;have m2 := Lib.hid (m0.out.step hR hp2 ho2);have b2 := Lib.hid (b0.out.step hRl ho2);have hs2 := ho2.size;rw [World.size_alloc] at hs2;clear c1 m0 b0 hp2 ho2;go_wp2_with fail
       refine (kM.out _ m2.out).mono ?_;rintro e' w3 ⟨rfl, hb3⟩;have m3 := Lib.hid (m2.out.below hb3);have b3 := Lib.hid (b2.out.below hb3);have hs3 := hb3.size;clear m2 b2 hb3;go_wp2_with fail
       refine (cP.out _ m3.out.pr m3.out.mo).mono ?_;rintro e' w4 ⟨v4, rfl, hv4, hp4, ho4⟩;obtain ⟨p1, p2, rfl⟩ := hv4.agg;have m4 := m3.out.step hR hp4 ho4;have b4 := b3.out.step hRl ho4;obtain ⟨y0, y1, y2, y3, y4, y5⟩ := cells3 b4.b;obtain ⟨l1, l2⟩ := stored3 b4.b (.pointer p1) (.pointer p2) (.int .i64 (c.n : Int));have m5 := Lib.hid (m4.ext (Nat.le_refl _) (by omega) l2);have b5 := Lib.hid (show LstB w _ p1 p2 c from ⟨l1, (hv4.mono (G := fun k => w.heap.size < k) (fun k _ hk => by omega)).only l2 (fun k hk e => by omega)⟩);have hjl := m5.out.pr.le;clear m3 b3 m4 b4 hp4 ho4 hv4 cP kM;replace l1 := Lib.hid l1; replace l2 := Lib.hid l2;go_wp2_with fail
       clear y0 y1 y2 y3 y4 y5 l1 l2;generalize ((w4.setCell ⟨w.heap.size, 0, none⟩ (.pointer p1)).setCell ⟨w.heap.size, 1, none⟩ (.pointer p2)).setCell ⟨w.heap.size, 2, none⟩ (.int .i64 (c.n : Int)) = w6 at *;go_loopw [] (fun wr => ∃ (f' j : Nat) (c : Ch) (p1 p2 : Option Addr), f' ≤ f ∧ c.n ≤ j ∧ j ≤ ks.length ∧ Hid (gP ks f' (.listGo q e c) j = Z) ∧ Hid (Mid w wr R a cap n ks j) ∧ Hid (LstB w wr p1 p2 c)) (fun wr => ks.length - placeN wr R)
       case atStart => exact ⟨f, j, c, p1, p2, Nat.le_refl _, by omega, hjl, hZ, m5, b5⟩
       case round =>
         obtain ⟨f', j, c, p1, p2, hf', hc1, hjl1, hZ1, hm, hb⟩ := hrel;cases f' with
         | zero => exact absurd hZ1.out.symm hne
         | succ f'' =>
         have hz := hZ1.out;clear hZ1;have hun : gP ks (f'' + 1) (.listGo q e c) j = if markT ks j = B.com then (wantT ks B.com j).and fun _ i => (gP ks f'' q i).and fun c' i => gP ks f'' (.listGo q e (c.then c')) i else (wantT ks e j).and fun _ i => .ok c i := rfl;rw [hun] at hz;clear hun;unfold wantT at hz;obtain ⟨m, hmk⟩ := exHid (markT ks j);rw [hmk.out] at hz;have kM := Lib.hid (mark_call hm.out hmk.out);have hpl := Lib.hid (place_of hm.out);by_cases hcm : m = B.com
         · subst hcm
           rw [if_pos rfl, if_pos rfl] at hz;unfold St.and at hz;dsimp only at hz;have k3 := Lib.hid (fun W (hp : PR W R a cap n ks j) => want_ok hp (by decide : B.com ≠ []) hmk.out);unfold rp B.com at k3;unfold B.com at kM;cases hg2 : gP ks f'' q (j + 1) with
           | out => rw [hg2] at hz; exact absurd hz.symm hne
           | bad k =>
             rw [hg2] at hz;subst hz;have cP := Lib.hid (fun W (hp : PR W R a cap n ks (j + 1)) (hm : MakesOK W) => does_bad (hP.out f'' (by omega)) hp hm hg2);unfold rp at cP;go_wp2_with fail
             refine kM.out.mono ?_;rintro e' w7 ⟨rfl, hb7⟩;have hm7 := Lib.hid (hm.out.below hb7);have bB7 := Lib.hid (hb.out.below hb7);go_wp2_with fail
             refine (k3.out _ hm7.out.pr).mono ?_;rintro e' w9 ⟨rfl, hp9, ho9⟩;have mC := Lib.hid ((hm7.out.step hR hp9 ho9).below ((Below.refl _ w9).drew));have bC := Lib.hid ((bB7.out.step hRl ho9).below ((Below.refl _ w9).drew));obtain ⟨x0, x1, x2, _, _, _⟩ := cells3 bC.out.b;clear hm7 bB7 kM k3;go_wp2_with fail
             refine wp_region_any (by kernel_rfl) ?_
             change wpAny _ _ _ _ _ _ _ (World.drew _)
             refine wpAny_take (i := 1) (v := .func (.func N) #[.pointer (some ⟨R, 0, none⟩)] #[]) rfl (by kernel_rfl) (by kernel_rfl) (by kernel_rfl) (fun _ _ _ h => h) (Or.inl ⟨by rfl, by intro w; go_simp⟩) ?_;refine wpAny_ready (rs := [0, 2]) (by kernel_rfl) (by simp) ?_;refine AllReady.cons rfl (fun K hK => ?_) (AllReady.cons rfl (fun K hK => ?_) AllReady.nil)
             · go_simp
               refine hK _ _ ?_;clear hK K;refine wpAny_ready (rs := [2]) (by kernel_rfl) (by simp) ?_;refine AllReady.cons rfl (fun K hK => ?_) AllReady.nil
               · go_simp
                 go_wp2_with fail
                 refine (cP.out _ mC.out.pr mC.out.mo).mono ?_;rintro e' w10 ⟨rfl, hb10⟩;go_wp2_with fail
                 exact ⟨rfl, rfl, mC.out.bad hb10⟩
             · go_simp
               go_wp2_with fail
               refine (cP.out _ mC.out.pr mC.out.mo).mono ?_;rintro e' w10 ⟨rfl, hb10⟩;go_wp2_with fail
               exact ⟨rfl, rfl, mC.out.bad hb10⟩
           | ok d k =>
             rw [hg2] at hz;replace hz := Lib.hid hz;have hdn := hcn.out _ _ _ _ hg2;have cP := Lib.hid (fun W (hp : PR W R a cap n ks (j + 1)) (hm : MakesOK W) => does_ok (hP.out f'' (by omega)) hp hm hg2);unfold rp at cP;go_wp2_with fail
             refine kM.out.mono ?_;rintro e' w7 ⟨rfl, hb7⟩;have hm7 := Lib.hid (hm.out.below hb7);have bB7 := Lib.hid (hb.out.below hb7);go_wp2_with fail
             refine (k3.out _ hm7.out.pr).mono ?_;rintro e' w9 ⟨rfl, hp9, ho9⟩;have mC := Lib.hid ((hm7.out.step hR hp9 ho9).below ((Below.refl _ w9).drew));have bC := Lib.hid ((bB7.out.step hRl ho9).below ((Below.refl _ w9).drew));obtain ⟨x0, x1, x2, _, _, _⟩ := cells3 bC.out.b;clear hm7 bB7 kM k3 hb;go_wp2_with fail
             go_region_law (first
               | (go_simp; refine (cP.out _ mC.out.pr mC.out.mo).mono ?_; rintro e' w10 ⟨v10, rfl, hv10, hp10, ho10⟩; obtain ⟨q1, q2, rfl⟩ := hv10.agg; have hT := Lib.hid (Array.getElem?_eq_some_iff.1 bC.out.b).1; have vC := Lib.hid (ChV.step (R := R) (ChV.cut bC.out.v) (fun k hk => by have := hk.1; omega) ho10); have dC := Lib.hid hv10; replace mC := Lib.hid (mC.out.step hR hp10 ho10); replace bC := Lib.hid (bC.out.step hRl ho10); have hlim := mC.out.pr.le; have hkl := mC.out.pr.kl; obtain ⟨x0, x1, x2, _, _, _⟩ := cells3 bC.out.b)
               | (go_simp; go_at_call 56; refine (then_any vC.out dC.out (fun k h1 h2 => by have h3 := h1.2; omega) (by omega)).mono ?_; rintro e' w12 ⟨z12, rfl, hv12, ho12⟩; obtain ⟨r1, r2, rfl⟩ := hv12.agg; replace mC := Lib.hid (mC.out.extF hml (fun k h => by have := h.1; omega) ho12); have cC := heldF ho12 bC.out.b (fun h => by have := h.1; omega); obtain ⟨y0, y1, y2, y3, y4, y5⟩ := cells3 cC; replace cC := Lib.hid cC))
             all_goals
               obtain ⟨l1, l2⟩ := stored3 cC.out (.pointer r1) (.pointer r2) (.int .i64 ((c.then d).n : Int));have hjl2 := mC.out.pr.le;have hmE := Lib.hid (mC.out.ext (Nat.le_refl _) (by omega) l2);have hbE := Lib.hid (show LstB w _ r1 r2 (c.then d) from ⟨l1, (hv12.mono (G := fun k => w.heap.size < k) (fun k _ hk => by
                 have a1 := hT.out;rcases hk with hk | hk
                 · exact hk.1
                 · omega)).only l2 (fun k hk e => by omega)⟩)
               have hpe := Lib.hid (place_of hmE.out);replace l1 := Lib.hid l1; replace l2 := Lib.hid l2;go_wp2_with fail
               go_roundw
               case rel => exact ⟨f'', k, c.then d, r1, r2, by omega, by show c.n + d.n ≤ k; omega, hjl2, hz, hmE, hbE⟩
               case measure =>
                 rw [hpe.out, hpl.out];omega
         · rw [if_neg hcm] at hz
           have e2 : (m == B.com) = false := beq_eq_false_iff_ne.2 hcm;unfold B.com at e2;by_cases hme : m = e
           · subst hme
             rw [if_pos rfl] at hz;unfold St.and at hz;dsimp only at hz;subst hz;have k3 := Lib.hid (fun W (hp : PR W R a cap n ks j) => want_ok hp he hmk.out);unfold rp at k3;go_wp2_with fail
             refine kM.out.mono ?_;rintro e' w7 ⟨rfl, hb7⟩;have hm7 := Lib.hid (hm.out.below hb7);have bB7 := Lib.hid (hb.out.below hb7);go_wp2_with fail
             refine (k3.out _ hm7.out.pr).mono ?_;rintro e' w9 ⟨rfl, hp9, ho9⟩;have m4 := hm7.out.step hR hp9 ho9;have b4 := bB7.out.step hRl ho9;obtain ⟨y0, y1, y2, y3, y4, y5⟩ := cells3 b4.b;obtain ⟨l1, l2⟩ := laidL m4 hml b4;replace l1 := Lib.hid l1; replace l2 := Lib.hid l2;clear hm7 m4 b4;go_wp2_with fail
             exact bodyPost_ret (ret_ch rfl rfl l1.out rfl) rfl l2.out
           · rw [if_neg hme] at hz
             unfold St.and at hz;dsimp only at hz;subst hz;have k3 := Lib.hid (fun W (hp : PR W R a cap n ks j) => want_bad hp he (fun h => hme (hmk.out.symm.trans h)));clear hme;unfold rp at k3;go_wp2_with fail
             refine kM.out.mono ?_;rintro e' w7 ⟨rfl, hb7⟩;have hm7 := Lib.hid (hm.out.below hb7);go_wp2_with fail
             refine (k3.out _ hm7.out.pr).mono ?_;rintro e' w9 ⟨rfl, hb9⟩;go_wp2_with fail
             exact ⟨rfl, rfl, hm7.out.bad hb9⟩
 · rw [if_neg hq] at hne ⊢
   unfold St.and;dsimp only;have c1 := Lib.hid (want_bad m0.out.pr ho hq);clear hP hne hcn;unfold rp at c1 ⊢;go_enter Tryz.func54, Tryz.ntmps54
   go_wp2_with fail
   refine c1.out.mono ?_;rintro e w2 ⟨rfl, hb⟩;go_wp2_with fail
   exact ⟨rfl, rfl, m0.out.bad hb⟩
end Go.Proofs.YtjiemkidmlgbeaaGreatDoor
namespace Go.Proofs.YtjiemkidmlgbeaaGreatDoor
open Go.RowKit Go.Shelf Tok
section
variable {w : World} {R cap n i : Nat} {a : Option Addr} {ks : List Tk}
theorem own_ok (h : PR w R a cap n ks i) {x : List UInt8} {j : Nat} (hq : ownT ks i = .ok x j) :
   Calls Tryz.prog 53 #[rp R] w fun e w' => e = .returned (.string ⟨x.toArray⟩) ∧ PR w' R a cap n ks j ∧ Only (fun k => k = R) w w' := by
 refine (own_any h).mono ?_;intro e w' ht;rw [hq] at ht;obtain ⟨⟨v, he, hv⟩, h2, h3⟩ := ht;exact ⟨by rw [he, hv], h2, h3⟩
theorem own_bad (h : PR w R a cap n ks i) {j : Nat} (hq : ownT ks i = .bad j) :
   Calls Tryz.prog 53 #[rp R] w fun e w' => e = .panicked [{ v := faultOf ks n j, recovered := false }] ∧ Below R w w' := by
 refine (own_any h).mono ?_;intro e w' ht;rw [hq] at ht;exact ht
end
set_option maxRecDepth 20000 in
set_option maxHeartbeats 2000000 in
theorem param_any {R cap n : Nat} {a : Option Addr} {ks : List Tk} (hR : 2 ≠ R) {w : World} {i : Nat} (h : PR w R a cap n ks i) (hM : MakesOK w)
   (hne : ((ownT ks i).and fun nm i => St.ok (Ch.none.under 2 0 nm) i) ≠ .out) :
   Calls Tryz.prog 55 #[rp R] w (Took ((ownT ks i).and fun nm i => .ok (Ch.none.under 2 0 nm) i) w R a cap n ks) := by
 have m0 := Lib.hid ((Mid.start h hM).alloc chZ);have hRl := h.lt;have hml := hM.lt;have b0 := Lib.hid (heap_alloc_new w chZ);clear h hM;unfold St.and at hne ⊢;cases hg : ownT ks i with
 | out => rw [hg] at hne; exact absurd rfl hne
 | bad j =>
   dsimp only;have c1 := Lib.hid (own_bad m0.out.pr hg);clear hne;unfold rp at c1 ⊢;go_enter Tryz.func55, Tryz.ntmps55
   go_wp2_with fail
   refine c1.out.mono ?_;rintro e' w3 ⟨rfl, hb3⟩;go_wp2_with fail
   exact ⟨rfl, rfl, m0.out.bad hb3⟩
 | ok x j =>
   dsimp only;have c1 := Lib.hid (own_ok m0.out.pr hg);clear hne;unfold rp at c1 ⊢;go_enter Tryz.func55, Tryz.ntmps55
   go_wp2_with fail
   refine c1.out.mono ?_;rintro e' w2 ⟨rfl, hp2, ho2⟩;have m2 := Lib.hid (m0.out.step hR hp2 ho2);have b2 := Lib.hid (heldB ho2 b0.out (by omega));clear c1 m0 b0 hp2 ho2;go_wp2_with fail
   refine (leaf_any 2 0 0 x).mono ?_;rintro e' w3 ⟨z3, rfl, hv3, hb3⟩;obtain ⟨p1, p2, rfl⟩ := hv3.agg;have hT := (Array.getElem?_eq_some_iff.1 b2.out).1;have m3 := m2.out.below hb3;have b3 := heldF (Only.of_below (F := fun _ => False) hb3) b2.out (fun h => h);obtain ⟨y0, y1, y2, y3, y4, y5⟩ := cells3 b3;obtain ⟨l1, l2⟩ := laid3 m3 (Nat.le_refl _) hml b3 (hv3.mono (fun k _ hk => ⟨by omega, by omega⟩));replace l1 := Lib.hid l1; replace l2 := Lib.hid l2;clear m2 b2 m3 b3 hb3 hv3;go_wp2_with fail
   exact bodyPost_ret (ret_ch rfl rfl l1.out rfl) rfl l2.out
set_option maxRecDepth 20000 in
set_option maxHeartbeats 2000000 in
theorem block_any {R cap n : Nat} {a : Option Addr} {ks : List Tk} (hR : 2 ≠ R) {w : World} {i : Nat} {s : St Ch} (h : PR w R a cap n ks i) (hM : MakesOK w)
   (hB : ∀ W, PR W R a cap n ks i → MakesOK W → s ≠ .out → Calls Tryz.prog 80 #[rp R, .string ⟨B.lbr.toArray⟩, .func (.func 81) #[rp R] #[], .string ⟨B.rbr.toArray⟩] W (Took s W R a cap n ks))
   (hcn : ∀ c j, s = .ok c j → c.n ≤ 100000000) (hne : (s.and fun c i => St.ok (c.under 3 0 []) i) ≠ .out) :
   Calls Tryz.prog 57 #[rp R] w (Took (s.and fun c i => .ok (c.under 3 0 []) i) w R a cap n ks) := by
 have m0 := Lib.hid ((Mid.start h hM).alloc chZ);have hRl := h.lt;have hml := hM.lt;have b0 := Lib.hid (heap_alloc_new w chZ);clear h hM;unfold St.and at hne ⊢;cases s with
 | out => exact absurd rfl hne
 | bad j =>
   dsimp only;have c1 := Lib.hid (hB _ m0.out.pr m0.out.mo (fun e => by cases e));clear hne hB hcn;unfold rp B.lbr B.rbr at c1;unfold rp;go_enter Tryz.func57, Tryz.ntmps57
   go_wp2_with fail
   refine c1.out.mono ?_;rintro e' w3 ⟨rfl, hb3⟩;go_wp2_with fail
   exact ⟨rfl, rfl, m0.out.bad hb3⟩
 | ok c j =>
   dsimp only;have c1 := Lib.hid (hB _ m0.out.pr m0.out.mo (fun e => by cases e));have hc := hcn c j rfl;clear hne hB hcn;unfold rp B.lbr B.rbr at c1;unfold rp;go_enter Tryz.func57, Tryz.ntmps57
   go_wp2_with fail
   refine c1.out.mono ?_;rintro e' w2 ⟨⟨v2, rfl, hv2⟩, hp2, ho2⟩;rw [World.size_alloc] at hv2;obtain ⟨q1, q2, rfl⟩ := hv2.agg;have m2 := Lib.hid (m0.out.step hR hp2 ho2);have b2 := Lib.hid (heldB ho2 b0.out (by omega));clear c1 m0 b0 hp2 ho2;replace hv2 := Lib.hid hv2;go_wp2_with fail
   refine (under_any hv2.out (by omega) 3 0 0 []).mono ?_;rintro e' w3 ⟨z3, rfl, hv3, hb3⟩;obtain ⟨p1, p2, rfl⟩ := hv3.agg;have hT := (Array.getElem?_eq_some_iff.1 b2.out).1;have m3 := m2.out.below hb3;have b3 := heldF (Only.of_below (F := fun _ => False) hb3) b2.out (fun h => h);obtain ⟨y0, y1, y2, y3, y4, y5⟩ := cells3 b3;obtain ⟨l1, l2⟩ := laid3 m3 (Nat.le_refl _) hml b3 (hv3.mono (fun k _ hk => by
     rcases hk with hk | hk
     · exact ⟨by omega, by omega⟩
     · exact ⟨by omega, by omega⟩))
   replace l1 := Lib.hid l1; replace l2 := Lib.hid l2;clear m2 b2 m3 b3 hb3 hv3 hv2;go_wp2_with fail
   exact bodyPost_ret (ret_ch rfl rfl l1.out rfl) rfl l2.out
end Go.Proofs.YtjiemkidmlgbeaaGreatDoor
namespace Go.Proofs.YtjiemkidmlgbeaaGreatDoor
open Go.RowKit Go.Shelf Tok
set_option maxRecDepth 20000 in
set_option maxHeartbeats 2000000 in
theorem set_any {G : Nat → St Ch} {R cap n : Nat} {a : Option Addr} {ks : List Tk} (hP : Does 35 G R a cap n ks) (hcn : ∀ i c j, G i = .ok c j → c.n ≤ 100000000) (hR : 2 ≠ R) (op : Nat) {w : World} {i : Nat} (h : PR w R a cap n ks i) (hM : MakesOK w)
   (hne : ((ownT ks i).and fun nm i => (wantT ks B.eq i).and fun _ i => (G i).and fun c i => St.ok (c.under op 0 nm) i) ≠ .out) :
   Calls Tryz.prog 105 #[rp R, .int .u8 (op : Int)] w (Took ((ownT ks i).and fun nm i => (wantT ks B.eq i).and fun _ i => (G i).and fun c i => .ok (c.under op 0 nm) i) w R a cap n ks) := by
 have m0 := Lib.hid ((Mid.start h hM).alloc chZ);have hRl := h.lt;have hml := hM.lt;have b0 := Lib.hid (heap_alloc_new w chZ);clear h hM;unfold wantT at hne ⊢;cases hg : ownT ks i with
 | out => rw [hg] at hne; exact absurd rfl hne
 | bad j =>
   unfold St.and;dsimp only;have c1 := Lib.hid (own_bad m0.out.pr hg);clear hne hP hcn;unfold rp at c1 ⊢;go_enter Tryz.func105, Tryz.ntmps105
   go_wp2_with fail
   refine c1.out.mono ?_;rintro e' w3 ⟨rfl, hb3⟩;go_wp2_with fail
   exact ⟨rfl, rfl, m0.out.bad hb3⟩
 | ok x j =>
   rw [hg] at hne;unfold St.and at hne ⊢;dsimp only at hne ⊢;have c1 := Lib.hid (own_ok m0.out.pr hg);by_cases hq : markT ks j = B.eq
   · rw [if_pos hq] at hne ⊢
     dsimp only at hne ⊢;have c2 := Lib.hid (fun W (hp : PR W R a cap n ks j) => want_ok hp (by decide) hq);unfold rp B.eq at c2;cases hg2 : G (j + 1) with
     | out => rw [hg2] at hne; exact absurd rfl hne
     | bad k =>
       dsimp only;have cP := Lib.hid (fun W (hp : PR W R a cap n ks (j + 1)) (hm : MakesOK W) => does_bad hP hp hm hg2);clear hne hP hcn;unfold rp at c1 cP ⊢;go_enter Tryz.func105, Tryz.ntmps105
       go_wp2_with fail
       refine c1.out.mono ?_;rintro e' w2 ⟨rfl, hp2, ho2⟩;have m2 := Lib.hid (m0.out.step hR hp2 ho2);clear c1 m0 b0 hp2 ho2;go_wp2_with fail
       refine (c2.out _ m2.out.pr).mono ?_;rintro e' w3 ⟨rfl, hp3, ho3⟩;have m3 := Lib.hid (m2.out.step hR hp3 ho3);clear c2 m2 hp3 ho3;go_wp2_with fail
       refine (cP.out _ m3.out.pr m3.out.mo).mono ?_;rintro e' w4 ⟨rfl, hb4⟩;go_wp2_with fail
       exact ⟨rfl, rfl, m3.out.bad hb4⟩
     | ok c k =>
       dsimp only;have cP := Lib.hid (fun W (hp : PR W R a cap n ks (j + 1)) (hm : MakesOK W) => does_ok hP hp hm hg2);have hc := hcn _ _ _ hg2;clear hne hP hcn;unfold rp at c1 cP ⊢;go_enter Tryz.func105, Tryz.ntmps105
       go_wp2_with fail
       refine c1.out.mono ?_;rintro e' w2 ⟨rfl, hp2, ho2⟩;have m2 := Lib.hid (m0.out.step hR hp2 ho2);have b2 := Lib.hid (heldB ho2 b0.out (by omega));clear c1 m0 b0 hp2 ho2;go_wp2_with fail
       refine (c2.out _ m2.out.pr).mono ?_;rintro e' w3 ⟨rfl, hp3, ho3⟩;have m3 := Lib.hid (m2.out.step hR hp3 ho3);have b3 := Lib.hid (heldB ho3 b2.out (by omega));clear c2 m2 b2 hp3 ho3;go_wp2_with fail
       refine (cP.out _ m3.out.pr m3.out.mo).mono ?_;rintro e' w4 ⟨v4, rfl, hv4, hp4, ho4⟩;obtain ⟨q1, q2, rfl⟩ := hv4.agg;have hT3 := (Array.getElem?_eq_some_iff.1 b3.out).1;have m4 := Lib.hid (m3.out.step hR hp4 ho4);have b4 := Lib.hid (heldB ho4 b3.out (by omega));clear cP m3 b3 hp4 ho4;replace hv4 := Lib.hid hv4;go_wp2_with fail
       refine (under_any hv4.out (by omega) op 0 0 x).mono ?_;rintro e' w5 ⟨z5, rfl, hv5, hb5⟩;obtain ⟨p1, p2, rfl⟩ := hv5.agg;have hT := (Array.getElem?_eq_some_iff.1 b4.out).1;have m5 := m4.out.below hb5;have b5 := heldF (Only.of_below (F := fun _ => False) hb5) b4.out (fun h => h);obtain ⟨y0, y1, y2, y3, y4, y5⟩ := cells3 b5;obtain ⟨l1, l2⟩ := laid3 m5 (Nat.le_refl _) hml b5 (hv5.mono (fun k _ hk => by
         rcases hk with hk | hk
         · exact ⟨by omega, by omega⟩
         · exact ⟨by omega, by omega⟩))
       replace l1 := Lib.hid l1; replace l2 := Lib.hid l2;clear m4 b4 m5 b5 hb5 hv4 hv5;go_wp2_with fail
       exact bodyPost_ret (ret_ch rfl rfl l1.out rfl) rfl l2.out
   · rw [if_neg hq]
     dsimp only;have c2 := Lib.hid (fun W (hp : PR W R a cap n ks j) => want_bad hp (by decide) hq);unfold rp B.eq at c2;clear hne hP hcn;unfold rp at c1 ⊢;go_enter Tryz.func105, Tryz.ntmps105
     go_wp2_with fail
     refine c1.out.mono ?_;rintro e' w2 ⟨rfl, hp2, ho2⟩;have m2 := Lib.hid (m0.out.step hR hp2 ho2);clear c1 m0 b0 hp2 ho2;go_wp2_with fail
     refine (c2.out _ m2.out.pr).mono ?_;rintro e' w3 ⟨rfl, hb3⟩;go_wp2_with fail
     exact ⟨rfl, rfl, m2.out.bad hb3⟩
end Go.Proofs.YtjiemkidmlgbeaaGreatDoor
