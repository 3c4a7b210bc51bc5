/- The reader of layer 9: row, walked, for whatever its parts are. -/
import Derived.Test.YtkmhdhnoghbkgaaGreatDoorQ17
import Derived.Test.YtkmhdhnoghbkgaaGreatDoorQ12
set_option linter.unusedVariables false
/- The reader of layer 9: row, walked, for whatever its parts are. -/
namespace Go.Proofs.YtkmhdhnoghbkgaaGreatDoor
open Go.RowKit Go.Shelf Tok

def placeN (w : World) (R : Nat) : Nat := (intOf ((w.cell? ⟨R, 1, none⟩).getD undef)).toNat
theorem place_of {w W : World} {R cap n j : Nat} {a : Option Addr} {ks : List Tk} (h : Mid w W R a cap n ks j) : placeN W R = j := by
  unfold placeN
  rw [h.pr.c1]
  simp [intOf]
theorem mark_call {w W : World} {R cap n j : Nat} {a : Option Addr} {ks : List Tk} (h : Mid w W R a cap n ks j) {m : List UInt8} (hm : markT ks j = m) :
    Calls Tryz.prog 83 #[.pointer (some ⟨R, 0, none⟩)] W fun e w' => e = .returned (.string ⟨m.toArray⟩) ∧ Below W.heap.size W w' := by
  subst hm
  exact mark_any h.pr
theorem ChV.cut {W : World} {F : Nat → Prop} {v : Value} {c : Ch} (h : ChV W F v c) : ChV W (fun k => F k ∧ k < W.heap.size) v c := h.mono (fun k hk h => ⟨h, hk⟩)
/-- What lies in a row's own blocks: the zero of the result's cell, the chain so far, the marks. -/
structure RowB (w W : World) (B7 g nm : Nat) (ms : List (List UInt8)) (p1 p2 : Option Addr) (m : Nat) : Prop where
  b : W.heap[w.heap.size]? = some chZ
  d : W.heap[B7]? = some (.cells #[.pointer p1, .pointer p2, .int .i64 (m : Int)] 80 (0, 0))
  s : StrsIn W g nm ms
  l : w.heap.size < B7
  gl : g < w.heap.size
theorem RowB.below {w W W' : World} {B7 g nm m : Nat} {ms : List (List UInt8)} {p1 p2 : Option Addr} (h : RowB w W B7 g nm ms p1 p2 m) (hb : Below W.heap.size W W') : RowB w W' B7 g nm ms p1 p2 m :=
  ⟨heldF (Only.of_below (F := fun _ => False) hb) h.b (fun h => h), heldF (Only.of_below (F := fun _ => False) hb) h.d (fun h => h), h.s.keep (Only.of_below (F := fun _ => False) hb) (fun h => h), h.l, h.gl⟩
theorem RowB.only {w W W' : World} {F : Nat → Prop} {B7 g nm m : Nat} {ms : List (List UInt8)} {p1 p2 : Option Addr} (h : RowB w W B7 g nm ms p1 p2 m) (ho : Only F W W') (h1 : ¬ F w.heap.size) (h2 : ¬ F B7) (h3 : ¬ F g) : RowB w W' B7 g nm ms p1 p2 m :=
  ⟨heldF ho h.b h1, heldF ho h.d h2, h.s.keep ho h3, h.l, h.gl⟩
theorem RowB.step {w W W' : World} {R B7 g nm m : Nat} {ms : List (List UInt8)} {p1 p2 : Option Addr} (h : RowB w W B7 g nm ms p1 p2 m) (hR : R < w.heap.size) (hg : g ≠ R) (ho : Only (fun k => k = R) W W') : RowB w W' B7 g nm ms p1 p2 m :=
  h.only ho (by omega) (by have := h.l; omega) hg
/-- The row's chain, in blocks of its own. -/
def RowV (w W : World) (B7 : Nat) (p1 p2 : Option Addr) (c : Ch) : Prop := ChV W (fun k => w.heap.size < k ∧ k ≠ B7) (.agg #[.pointer p1, .pointer p2, .int .i64 (c.n : Int)]) c
set_option maxRecDepth 20000 in
set_option maxHeartbeats 2000000 in
theorem row_any {N : Nat} {q : NT} {ms : List (List UInt8)} {R cap n g nm : Nat} {a : Option Addr} {ks : List Tk} (hE : Enters N R) (f : Nat) (hP : ∀ f', f' ≤ f → Does N (fun i => gP ks f' q i) R a cap n ks)
    (hcn : ∀ f i c j, gP ks f q i = .ok c j → c.n ≤ 10000000) (hmo : ∀ f i c j, gP ks f q i = .ok c j → i ≤ j) (hR : 1 ≠ R) {w : World} {i : Nat} (h : PR w R a cap n ks i) (hM : MakesOK w) (hS : StrsIn w g nm ms) (hgR : g ≠ R) (hgl : g < w.heap.size) (hnm : nm ≤ 1000) (hms : ∀ m ∈ ms, m ≠ [])
    (hne : gP ks (f + 1) (.row q ms) i ≠ .out) :
    Calls Tryz.prog 56 #[rp R, .func (.func N) #[rp R] #[], .slice (some ⟨g, 0, none⟩) nm nm] w (Took (gP ks (f + 1) (.row q ms) i) w R a cap n ks) := by
  have m0 := Lib.hid ((Mid.start h hM).alloc chZ)
  have hRl := h.lt
  have hml := hM.lt
  have b0 := Lib.hid (heap_alloc_new w chZ)
  have s0 := Lib.hid (hS.keep (Only.of_below (F := fun _ => False) ((Below.refl w.heap.size w).alloc (Nat.le_refl _) chZ)) (fun h => h))
  unfold Enters at hE
  have hrow : gP ks (f + 1) (.row q ms) i = (gP ks f q i).and fun c i => gP ks f (.rowGo q ms c) i := rfl
  rw [hrow] at hne ⊢
  clear h hM hS hrow
  cases hg : gP ks f q i with
  | out => rw [hg] at hne; exact absurd rfl hne
  | bad j =>
    have c1 := Lib.hid (does_bad (hP f (Nat.le_refl _)) m0.out.pr m0.out.mo hg)
    unfold St.and
    dsimp only
    clear hP hne hcn hmo
    unfold rp at c1 ⊢
    go_enter Tryz.func56, Tryz.ntmps56
    go_wp2_with fail
    refine c1.out.mono ?_
    rintro e' w3 ⟨rfl, hb3⟩
    go_wp2_with fail
    exact ⟨rfl, rfl, m0.out.bad hb3⟩
  | ok c j =>
    rw [hg] at hne
    unfold St.and at hne ⊢
    dsimp only at hne ⊢
    obtain ⟨Z, hZ⟩ := exHid (gP ks f (.rowGo q ms c) j)
    rw [hZ.out] at hne ⊢
    have c1 := Lib.hid (does_ok (hP f (Nat.le_refl _)) m0.out.pr m0.out.mo hg)
    have hc0 := hcn _ _ _ _ hg
    replace hP := Lib.hid hP; replace hcn := Lib.hid hcn; replace hmo := Lib.hid hmo; replace hms := Lib.hid hms
    unfold rp at c1 ⊢
    go_enter Tryz.func56, Tryz.ntmps56
    go_wp2_with fail
    refine c1.out.mono ?_
    rintro e' w2 ⟨v, rfl, hv, hp2, ho2⟩
    obtain ⟨p1, p2, rfl⟩ := hv.agg
    have hs2 := ho2.size
    rw [World.size_alloc] at hs2
    have m2 := Lib.hid ((m0.out.step hR hp2 ho2).alloc (.cells #[.pointer p1, .pointer p2, .int .i64 (c.n : Int)] 80))
    have v2 := Lib.hid (show RowV w (w2.alloc (.cells #[.pointer p1, .pointer p2, .int .i64 (c.n : Int)] 80)) w2.heap.size p1 p2 c from (hv.mono (fun k hk h => by rw [World.size_alloc] at h; exact ⟨by omega, by omega⟩)).alloc _)
    have r2 := Lib.hid (show RowB w (w2.alloc (.cells #[.pointer p1, .pointer p2, .int .i64 (c.n : Int)] 80)) w2.heap.size g nm ms p1 p2 c.n from
      ⟨heldA (heldB ho2 b0.out (by omega)) _, heap_alloc_new w2 _, (s0.out.keep ho2 hgR).keep (Only.of_below (F := fun _ => False) ((Below.refl w2.heap.size w2).alloc (Nat.le_refl _) _)) (fun h => h), by omega, hgl⟩)
    clear c1 m0 b0 s0 hv hp2 ho2
    go_wp2_with fail
    generalize w2.alloc (.cells #[.pointer p1, .pointer p2, .int .i64 (c.n : Int)] 80) = w3 at *
    generalize w2.heap.size = B7 at *
    go_loopw [8] (fun t8 wr => ∃ (f' j : Nat) (c : Ch) (p1 p2 : Option Addr), f' ≤ f ∧ c.n ≤ 10000000 ∧ j ≤ ks.length ∧ Hid (gP ks f' (.rowGo q ms c) j = Z) ∧ Hid (Mid w wr R a cap n ks j) ∧ Hid (RowB w wr B7 g nm ms p1 p2 c.n) ∧ Hid (RowV w wr B7 p1 p2 c)) (fun _ wr => ks.length - placeN wr R)
    case atStart => exact ⟨f, j, c, p1, p2, Nat.le_refl _, hc0, m2.out.pr.le, hZ, m2, r2, v2⟩
    case round =>
      clear m2 r2 v2 hZ hg hc0
      obtain ⟨f', j, c, p1, p2, hf', hc0, hjl, hZ, hm, hr, hv⟩ := hrel
      cases f' with
      | zero => exact absurd hZ.out.symm hne
      | succ f'' =>
        have hz := hZ.out
        unfold gP at hz
        dsimp only at hz
        obtain ⟨m, hmk⟩ := exHid (markT ks j)
        rw [hmk.out] at hz
        have k1 := Lib.hid (mark_call hm.out hmk.out)
        by_cases hin : m ∈ ms
        · rw [if_pos hin] at hz
          have hmne := hms.out m hin
          have hd : decide (m ∈ ms) = true := decide_eq_true hin
          unfold wantT at hz
          rw [if_pos hmk.out] at hz
          unfold St.and at hz
          dsimp only at hz
          have k3 := Lib.hid (fun W (hp : PR W R a cap n ks j) => want_ok hp hmne hmk.out)
          have kM := Lib.hid (fun W (h : Mid w W R a cap n ks j) => mark_call h hmk.out)
          replace hin := Lib.hid hin
          unfold rp at k3
          cases hg2 : gP ks f'' q (j + 1) with
          | out => rw [hg2] at hz; exact absurd hz.symm hne
          | bad k =>
            rw [hg2] at hz
            subst hz
            have cP := Lib.hid (fun W (hp : PR W R a cap n ks (j + 1)) (hm : MakesOK W) => does_bad (hP.out f'' (by omega)) hp hm hg2)
            unfold rp at cP
            go_wp2_with fail
            refine k1.out.mono ?_
            rintro e' w5 ⟨rfl, hb5⟩
            have hm5 := Lib.hid (hm.out.below hb5)
            have hr5 := Lib.hid (hr.out.below hb5)
            have k2 := Lib.hid (contains_any hr5.out.s hnm m hd)
            clear k1 hr hv
            go_wp2_with fail
            refine k2.out.mono ?_
            rintro e' w6 ⟨rfl, rfl⟩
            go_wp2_with fail
            refine (kM.out _ hm5.out).mono ?_
            rintro e' w7 ⟨rfl, hb7⟩
            have hm7 := Lib.hid (hm5.out.below hb7)
            have hr7 := Lib.hid (hr5.out.below hb7)
            clear k2 hm5 hr5
            go_wp2_with fail
            refine (k3.out _ hm7.out.pr).mono ?_
            rintro e' w9 ⟨rfl, hp9, ho9⟩
            have mC := Lib.hid ((hm7.out.step hR hp9 ho9).below ((Below.refl _ w9).drew))
            have rB := Lib.hid ((hr7.out.step hRl hgR ho9).below ((Below.refl _ w9).drew))
            obtain ⟨x0, x1, x2, _, _, _⟩ := cells3 rB.out.d
            clear hm7 hr7 kM k3
            go_wp2_with fail
            refine wp_region_any (by kernel_rfl) ?_
            change wpAny _ _ _ _ _ _ _ (World.drew _)
            refine wpAny_take (i := 1) (v := .func (.func N) #[.pointer (some ⟨R, 0, none⟩)] #[]) rfl (by kernel_rfl) (by kernel_rfl) (by kernel_rfl) (fun _ _ _ h => h) (Or.inl ⟨by rfl, by intro w; go_simp⟩) ?_
            refine wpAny_take (i := 4) (v := .string ⟨m.toArray⟩) rfl (by kernel_rfl) (by kernel_rfl) (by kernel_rfl) (fun _ _ _ h => h) (Or.inl ⟨by rfl, by intro w; go_simp⟩) ?_
            refine wpAny_ready (rs := [0, 2]) (by kernel_rfl) (by simp) ?_
            refine AllReady.cons rfl (fun K hK => ?_) (AllReady.cons rfl (fun K hK => ?_) AllReady.nil)
            · go_simp
              refine hK _ _ ?_
              clear hK K
              refine wpAny_ready (rs := [2]) (by kernel_rfl) (by simp) ?_
              refine AllReady.cons rfl (fun K hK => ?_) AllReady.nil
              · go_simp
                go_wp2_with fail
                refine (cP.out _ mC.out.pr mC.out.mo).mono ?_
                rintro e' w10 ⟨rfl, hb10⟩
                go_wp2_with fail
                exact ⟨rfl, rfl, mC.out.bad hb10⟩
            · go_simp
              go_wp2_with fail
              refine (cP.out _ mC.out.pr mC.out.mo).mono ?_
              rintro e' w10 ⟨rfl, hb10⟩
              go_wp2_with fail
              exact ⟨rfl, rfl, mC.out.bad hb10⟩
          | ok d k =>
            rw [hg2] at hz
            replace hz := Lib.hid hz
            have hdn := hcn.out _ _ _ _ hg2
            have cP := Lib.hid (fun W (hp : PR W R a cap n ks (j + 1)) (hm : MakesOK W) => does_ok (hP.out f'' (by omega)) hp hm hg2)
            unfold rp at cP
            go_wp2_with fail
            refine k1.out.mono ?_
            rintro e' w5 ⟨rfl, hb5⟩
            have hm5 := Lib.hid (hm.out.below hb5)
            have hr5 := Lib.hid (hr.out.below hb5)
            have hv5 := Lib.hid (ChV.below hv.out hb5)
            have k2 := Lib.hid (contains_any hr5.out.s hnm m hd)
            clear k1 hr hv
            go_wp2_with fail
            refine k2.out.mono ?_
            rintro e' w6 ⟨rfl, rfl⟩
            go_wp2_with fail
            refine (kM.out _ hm5.out).mono ?_
            rintro e' w7 ⟨rfl, hb7⟩
            have hm7 := Lib.hid (hm5.out.below hb7)
            have hr7 := Lib.hid (hr5.out.below hb7)
            have hv7 := Lib.hid (ChV.below hv5.out hb7)
            clear k2 hm5 hr5 hv5
            go_wp2_with fail
            refine (k3.out _ hm7.out.pr).mono ?_
            rintro e' w9 ⟨rfl, hp9, ho9⟩
            have mC := Lib.hid ((hm7.out.step hR hp9 ho9).below ((Below.refl _ w9).drew))
            have rB := Lib.hid ((hr7.out.step hRl hgR ho9).below ((Below.refl _ w9).drew))
            have vC := Lib.hid (ChV.below (ChV.step (R := R) hv7.out (fun k hk => by have := hk.1; omega) ho9) ((Below.refl _ w9).drew))
            obtain ⟨x0, x1, x2, _, _, _⟩ := cells3 rB.out.d
            clear hm7 hr7 hv7 kM k3
            go_wp2_with fail
            go_region_law (first
              | (go_simp; refine (cP.out _ mC.out.pr mC.out.mo).mono ?_; rintro e' w10 ⟨v10, rfl, hv10, hp10, ho10⟩; obtain ⟨q1, q2, rfl⟩ := hv10.agg; have hT := Lib.hid (Array.getElem?_eq_some_iff.1 rB.out.d).1; replace vC := Lib.hid (ChV.step (R := R) (ChV.cut vC.out) (fun k hk => by have := hk.1.1; omega) ho10); have dC := Lib.hid hv10; replace mC := Lib.hid (mC.out.step hR hp10 ho10); replace rB := Lib.hid (rB.out.step hRl hgR ho10); obtain ⟨x0, x1, x2, _, _, _⟩ := cells3 rB.out.d)
              | (go_simp; go_at_call 100; refine (opOf_any m mC.out.mo).mono ?_; rintro e' w11 ⟨rfl, hb11⟩; (first | (replace vT := Lib.hid (ChV.below vT.out hb11)) | (replace dC := Lib.hid (ChV.below dC.out hb11); replace vC := Lib.hid (ChV.below vC.out hb11)) | (replace vC := Lib.hid (ChV.below vC.out hb11))); replace mC := Lib.hid (mC.out.below hb11); replace rB := Lib.hid (rB.out.below hb11); obtain ⟨x0, x1, x2, _, _, _⟩ := cells3 rB.out.d)
              | (go_simp; go_at_call 49; refine (then_any vC.out dC.out (fun k h1 h2 => by have h3 := h1.2; omega) (by omega)).mono ?_; rintro e' w12 ⟨z12, rfl, hv12, ho12⟩; obtain ⟨r1, r2, rfl⟩ := hv12.agg; have vT := Lib.hid hv12; replace mC := Lib.hid (mC.out.extF hml (fun k h => by have := h.1.1; omega) ho12); replace rB := Lib.hid (rB.out.only ho12 (fun h => by have := h.1.1; omega) (fun h => h.1.2 rfl) (fun h => by have := h.1.1; omega)))
              | (go_simp; go_at_call 51; refine (under_any vT.out (by unfold Ch.then; dsimp only; omega) (opOfT m) 0 0 []).mono ?_; rintro e' w13 ⟨z13, rfl, hv13, hb13⟩; obtain ⟨s1, s2, rfl⟩ := hv13.agg; have hT3 := Lib.hid (Array.getElem?_eq_some_iff.1 rB.out.d).1; replace mC := Lib.hid (mC.out.below hb13); replace rB := Lib.hid (rB.out.below hb13); obtain ⟨y0, y1, y2, y3, y4, y5⟩ := cells3 rB.out.d))
            all_goals
              obtain ⟨l1, l2⟩ := stored3 rB.out.d (.pointer s1) (.pointer s2) (.int .i64 (((c.then d).under (opOfT m) 0 []).n : Int))
              have hl7 := rB.out.l
              have hBg : g ≠ B7 := by omega
              have hjk := hmo.out _ _ _ _ hg2
              have hjl2 := mC.out.pr.le
              have hmE := Lib.hid (mC.out.ext (by omega) (by omega) l2)
              have hrE := Lib.hid (show RowB w _ B7 g nm ms s1 s2 ((c.then d).under (opOfT m) 0 []).n from ⟨heldF l2 rB.out.b (by omega), l1, rB.out.s.keep l2 hBg, hl7, hgl⟩)
              have hvE := Lib.hid (show RowV w _ B7 s1 s2 ((c.then d).under (opOfT m) 0 []) from (hv13.mono (fun k _ hk => by
                have a1 := hT.out
                have a2 := hT3.out
                rcases hk with (hk | hk) | hk
                · exact hk.1
                · exact ⟨by omega, by omega⟩
                · exact ⟨by omega, by omega⟩)).only l2 (fun k hk e => hk.2 e))
              have hpl := Lib.hid (place_of hm.out)
              have hpe := Lib.hid (place_of hmE.out)
              replace l1 := Lib.hid l1; replace l2 := Lib.hid l2
              go_wp2_with fail
              go_roundw
              case rel => exact ⟨f'', k, (c.then d).under (opOfT m) 0 [], s1, s2, by omega, by show 1 ≤ 10000000; omega, hjl2, hz, hmE, hrE, hvE⟩
              case measure =>
                rw [hpe.out, hpl.out]
                omega
        · rw [if_neg hin] at hz
          subst hz
          have hd : decide (m ∈ ms) = false := decide_eq_false hin
          replace hin := Lib.hid hin
          obtain ⟨x0, x1, x2, _, _, _⟩ := cells3 hr.out.d
          go_wp2_with fail
          refine k1.out.mono ?_
          rintro e' w5 ⟨rfl, hb5⟩
          have hm5 := Lib.hid (hm.out.below hb5)
          have hr5 := Lib.hid (hr.out.below hb5)
          have k2 := Lib.hid (contains_any hr5.out.s hnm m hd)
          clear x0 x1 x2
          obtain ⟨x0, x1, x2, _, _, _⟩ := cells3 hr5.out.d
          obtain ⟨y0, y1, y2, y3, y4, y5⟩ := cells3 hr5.out.b
          go_wp2_with fail
          refine k2.out.mono ?_
          rintro e' w6 ⟨rfl, rfl⟩
          obtain ⟨l1, l2⟩ := laid3 hm5.out (Nat.le_refl _) hml hr5.out.b ((hv.out.below hb5).mono (fun k _ hk => ⟨Nat.le_of_lt hk.1, by have := hk.1; omega⟩))
          replace l1 := Lib.hid l1; replace l2 := Lib.hid l2
          go_wp2_with fail
          exact bodyPost_ret (ret_ch rfl rfl l1.out rfl) rfl l2.out
end Go.Proofs.YtkmhdhnoghbkgaaGreatDoor
