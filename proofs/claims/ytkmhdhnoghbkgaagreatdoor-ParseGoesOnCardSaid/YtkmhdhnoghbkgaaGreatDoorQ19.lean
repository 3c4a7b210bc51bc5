/- The reader of layer 9: list, walked, for whatever its parts are. -/
import Derived.Test.YtkmhdhnoghbkgaaGreatDoorQ18
set_option linter.unusedVariables false
/- The reader of layer 9: list, walked, for whatever its parts are. -/
namespace Go.Proofs.YtkmhdhnoghbkgaaGreatDoor
open Go.RowKit Go.Shelf Tok

/-- The list's chain so far, in the result's own cell. -/
structure LstB (w W : World) (p1 p2 : Option Addr) (c : Ch) : Prop where
  b : W.heap[w.heap.size]? = some (.cells #[.pointer p1, .pointer p2, .int .i64 (c.n : Int)] 80 (0, 0))
  v : ChV W (fun k => w.heap.size < k) (.agg #[.pointer p1, .pointer p2, .int .i64 (c.n : Int)]) c
theorem LstB.below {w W W' : World} {p1 p2 : Option Addr} {c : Ch} (h : LstB w W p1 p2 c) (hb : Below W.heap.size W W') : LstB w W' p1 p2 c :=
  ⟨heldF (Only.of_below (F := fun _ => False) hb) h.b (fun h => h), h.v.below hb⟩
theorem LstB.step {w W W' : World} {R : Nat} {p1 p2 : Option Addr} {c : Ch} (h : LstB w W p1 p2 c) (hR : R < w.heap.size) (ho : Only (fun k => k = R) W W') : LstB w W' p1 p2 c :=
  ⟨heldB ho h.b (by omega), ChV.step (R := R) h.v (fun k hk => by omega) ho⟩
/-- The result is laid into its block, which holds it already. -/
theorem laidL {w W : World} {R cap n j : Nat} {a : Option Addr} {ks : List Tk} (h : Mid w W R a cap n ks j) (hg : 1 < w.heap.size) {p q : Option Addr} {c : Ch} (hb : LstB w W p q c) :
    (((W.setCell ⟨w.heap.size, 0, none⟩ (.pointer p)).setCell ⟨w.heap.size, 1, none⟩ (.pointer q)).setCell ⟨w.heap.size, 2, none⟩ (.int .i64 (c.n : Int))).heap[w.heap.size]? = some (.cells #[.pointer p, .pointer q, .int .i64 (c.n : Int)] 80 (0, 0)) ∧
    Took (.ok c j) w R a cap n ks (.returned (.agg #[.pointer p, .pointer q, .int .i64 (c.n : Int)])) (((W.setCell ⟨w.heap.size, 0, none⟩ (.pointer p)).setCell ⟨w.heap.size, 1, none⟩ (.pointer q)).setCell ⟨w.heap.size, 2, none⟩ (.int .i64 (c.n : Int))) :=
  laid3 h (Nat.le_refl _) hg hb.b (hb.v.mono (fun k _ hk => ⟨by omega, by omega⟩))
set_option maxRecDepth 20000 in
set_option maxHeartbeats 8000000 in
theorem list_any {N : Nat} {q : NT} {o e : List UInt8} {R cap n : Nat} {a : Option Addr} {ks : List Tk} (hE : Enters N R) (f : Nat) (hP : ∀ f', f' ≤ f → Does N (fun i => gP ks f' q i) R a cap n ks)
    (hcn : ∀ f i c j, gP ks f q i = .ok c j → c.n + i ≤ j) (hR : 1 ≠ R) (ho : o ≠ []) (he : e ≠ []) {w : World} {i : Nat} (h : PR w R a cap n ks i) (hM : MakesOK w)
    (hne : gP ks (f + 1) (.list o q e) i ≠ .out) :
    Calls Tryz.prog 47 #[rp R, .string ⟨o.toArray⟩, .func (.func N) #[rp R] #[], .string ⟨e.toArray⟩] w (Took (gP ks (f + 1) (.list o q e) i) w R a cap n ks) := by
  have m0 := Lib.hid ((Mid.start h hM).alloc chZ)
  have hRl := h.lt
  have hml := hM.lt
  have b0 := Lib.hid (show LstB w (w.alloc chZ) none none Ch.none from ⟨heap_alloc_new w chZ, ChV.nil _ _⟩)
  unfold Enters at hE
  have hrow : gP ks (f + 1) (.list o q e) i = (wantT ks o i).and fun _ i => if markT ks i = e then (wantT ks e i).and fun _ i => .ok Ch.none i else (gP ks f q i).and fun c i => gP ks f (.listGo q e c) i := rfl
  rw [hrow] at hne ⊢
  unfold wantT at hne ⊢
  clear h hM hrow
  by_cases hq : markT ks i = o
  · rw [if_pos hq] at hne ⊢
    unfold St.and at hne ⊢
    dsimp only at hne ⊢
    have c1 := Lib.hid (want_ok m0.out.pr ho hq)
    unfold rp at c1 ⊢
    by_cases hq2 : markT ks (i + 1) = e
    · rw [if_pos hq2, if_pos hq2]
      dsimp only
      have kM := Lib.hid (fun W (h : Mid w W R a cap n ks (i + 1)) => mark_call h hq2)
      have k3 := Lib.hid (fun W (hp : PR W R a cap n ks (i + 1)) => want_ok hp he hq2)
      unfold rp at k3
      have e1 : (e == e) = true := beq_self_eq_true _
      clear hP hne hcn
      go_enter Tryz.func47, Tryz.ntmps47
      go_wp2_with fail
      refine c1.out.mono ?_
      rintro e' w2 ⟨rfl, hp2, ho2⟩
      have m2 := Lib.hid (m0.out.step hR hp2 ho2)
      have b2 := Lib.hid (b0.out.step hRl ho2)
      clear c1 m0 b0 hp2 ho2
      go_wp2_with fail
      refine (kM.out _ m2.out).mono ?_
      rintro e' w3 ⟨rfl, hb3⟩
      have m3 := Lib.hid (m2.out.below hb3)
      have b3 := Lib.hid (b2.out.below hb3)
      clear m2 b2 hb3
      go_wp2_with fail
      refine (k3.out _ m3.out.pr).mono ?_
      rintro e' w4 ⟨rfl, hp4, ho4⟩
      have m4 := m3.out.step hR hp4 ho4
      have b4 := b3.out.step hRl ho4
      obtain ⟨y0, y1, y2, y3, y4, y5⟩ := cells3 b4.b
      obtain ⟨l1, l2⟩ := laidL m4 hml b4
      replace l1 := Lib.hid l1; replace l2 := Lib.hid l2
      clear m3 b3 m4 b4 hp4 ho4
      go_wp2_with fail
      exact bodyPost_ret (ret_ch rfl rfl l1.out rfl) rfl l2.out
    · rw [if_neg hq2] at hne ⊢
      have kM := Lib.hid (fun W (h : Mid w W R a cap n ks (i + 1)) => mark_call h rfl)
      have e1 : (markT ks (i + 1) == e) = false := beq_eq_false_iff_ne.2 hq2
      generalize markT ks (i + 1) = mk at *
      cases hg : gP ks f q (i + 1) with
      | out => rw [hg] at hne; exact absurd rfl hne
      | bad j =>
        dsimp only
        have cP := Lib.hid (fun W (hp : PR W R a cap n ks (i + 1)) (hm : MakesOK W) => does_bad (hP f (Nat.le_refl _)) hp hm hg)
        unfold rp at cP
        clear hP hne hcn
        go_enter Tryz.func47, Tryz.ntmps47
        go_wp2_with fail
        refine c1.out.mono ?_
        rintro e' w2 ⟨rfl, hp2, ho2⟩
        have m2 := Lib.hid (m0.out.step hR hp2 ho2)
        clear c1 m0 b0 hp2 ho2
        go_wp2_with fail
        refine (kM.out _ m2.out).mono ?_
        rintro e' w3 ⟨rfl, hb3⟩
        have m3 := Lib.hid (m2.out.below hb3)
        clear m2 hb3
        go_wp2_with fail
        refine (cP.out _ m3.out.pr m3.out.mo).mono ?_
        rintro e' w4 ⟨rfl, hb4⟩
        go_wp2_with fail
        exact ⟨rfl, rfl, m3.out.bad hb4⟩
      | ok c j =>
        rw [hg] at hne
        dsimp only at hne ⊢
        obtain ⟨Z, hZ⟩ := exHid (gP ks f (.listGo q e c) j)
        rw [hZ.out] at hne ⊢
        have hc0 := hcn _ _ _ _ hg
        have cP := Lib.hid (fun W (hp : PR W R a cap n ks (i + 1)) (hm : MakesOK W) => does_ok (hP f (Nat.le_refl _)) hp hm hg)
        unfold rp at cP
        replace hP := Lib.hid hP; replace hcn := Lib.hid hcn
        go_enter Tryz.func47, Tryz.ntmps47
        go_wp2_with fail
        refine c1.out.mono ?_
        rintro e' w2 ⟨rfl, hp2, ho2⟩
        have m2 := Lib.hid (m0.out.step hR hp2 ho2)
        have b2 := Lib.hid (b0.out.step hRl ho2)
        have hs2 := ho2.size
        rw [World.size_alloc] at hs2
        clear c1 m0 b0 hp2 ho2
        go_wp2_with fail
        refine (kM.out _ m2.out).mono ?_
        rintro e' w3 ⟨rfl, hb3⟩
        have m3 := Lib.hid (m2.out.below hb3)
        have b3 := Lib.hid (b2.out.below hb3)
        have hs3 := hb3.size
        clear m2 b2 hb3
        go_wp2_with fail
        refine (cP.out _ m3.out.pr m3.out.mo).mono ?_
        rintro e' w4 ⟨v4, rfl, hv4, hp4, ho4⟩
        obtain ⟨p1, p2, rfl⟩ := hv4.agg
        have m4 := m3.out.step hR hp4 ho4
        have b4 := b3.out.step hRl ho4
        obtain ⟨y0, y1, y2, y3, y4, y5⟩ := cells3 b4.b
        obtain ⟨l1, l2⟩ := stored3 b4.b (.pointer p1) (.pointer p2) (.int .i64 (c.n : Int))
        have m5 := Lib.hid (m4.ext (Nat.le_refl _) (by omega) l2)
        have b5 := Lib.hid (show LstB w _ p1 p2 c from ⟨l1, (hv4.mono (G := fun k => w.heap.size < k) (fun k _ hk => by omega)).only l2 (fun k hk e => by omega)⟩)
        have hjl := m5.out.pr.le
        clear m3 b3 m4 b4 hp4 ho4 hv4 cP kM
        replace l1 := Lib.hid l1; replace l2 := Lib.hid l2
        go_wp2_with fail
        clear y0 y1 y2 y3 y4 y5 l1 l2
        generalize ((w4.setCell ⟨w.heap.size, 0, none⟩ (.pointer p1)).setCell ⟨w.heap.size, 1, none⟩ (.pointer p2)).setCell ⟨w.heap.size, 2, none⟩ (.int .i64 (c.n : Int)) = w6 at *
        go_loopw [] (fun wr => ∃ (f' j : Nat) (c : Ch) (p1 p2 : Option Addr), f' ≤ f ∧ c.n ≤ j ∧ j ≤ ks.length ∧ Hid (gP ks f' (.listGo q e c) j = Z) ∧ Hid (Mid w wr R a cap n ks j) ∧ Hid (LstB w wr p1 p2 c)) (fun wr => ks.length - placeN wr R)
        case atStart => exact ⟨f, j, c, p1, p2, Nat.le_refl _, by omega, hjl, hZ, m5, b5⟩
        case round =>
          obtain ⟨f', j, c, p1, p2, hf', hc1, hjl1, hZ1, hm, hb⟩ := hrel
          cases f' with
          | zero => exact absurd hZ1.out.symm hne
          | succ f'' =>
          have hz := hZ1.out
          clear hZ1
          have hun : gP ks (f'' + 1) (.listGo q e c) j = if markT ks j = B.com then (wantT ks B.com j).and fun _ i => (gP ks f'' q i).and fun c' i => gP ks f'' (.listGo q e (c.then c')) i else (wantT ks e j).and fun _ i => .ok c i := rfl
          rw [hun] at hz
          clear hun
          unfold wantT at hz
          obtain ⟨m, hmk⟩ := exHid (markT ks j)
          rw [hmk.out] at hz
          have kM := Lib.hid (mark_call hm.out hmk.out)
          have hpl := Lib.hid (place_of hm.out)
          by_cases hcm : m = B.com
          · subst hcm
            rw [if_pos rfl, if_pos rfl] at hz
            unfold St.and at hz
            dsimp only at hz
            have k3 := Lib.hid (fun W (hp : PR W R a cap n ks j) => want_ok hp (by decide : B.com ≠ []) hmk.out)
            unfold rp B.com at k3
            unfold B.com at kM
            cases hg2 : gP ks f'' q (j + 1) with
            | out => rw [hg2] at hz; exact absurd hz.symm hne
            | bad k =>
              rw [hg2] at hz
              subst hz
              have cP := Lib.hid (fun W (hp : PR W R a cap n ks (j + 1)) (hm : MakesOK W) => does_bad (hP.out f'' (by omega)) hp hm hg2)
              unfold rp at cP
              go_wp2_with fail
              refine kM.out.mono ?_
              rintro e' w7 ⟨rfl, hb7⟩
              have hm7 := Lib.hid (hm.out.below hb7)
              have bB7 := Lib.hid (hb.out.below hb7)
              go_wp2_with fail
              refine (k3.out _ hm7.out.pr).mono ?_
              rintro e' w9 ⟨rfl, hp9, ho9⟩
              have mC := Lib.hid ((hm7.out.step hR hp9 ho9).below ((Below.refl _ w9).drew))
              have bC := Lib.hid ((bB7.out.step hRl ho9).below ((Below.refl _ w9).drew))
              obtain ⟨x0, x1, x2, _, _, _⟩ := cells3 bC.out.b
              clear hm7 bB7 kM k3
              go_wp2_with fail
              refine wp_region_any (by kernel_rfl) ?_
              change wpAny _ _ _ _ _ _ _ (World.drew _)
              refine wpAny_take (i := 1) (v := .func (.func N) #[.pointer (some ⟨R, 0, none⟩)] #[]) rfl (by kernel_rfl) (by kernel_rfl) (by kernel_rfl) (fun _ _ _ h => h) (Or.inl ⟨by rfl, by intro w; go_simp⟩) ?_
              refine wpAny_ready (rs := [0, 2]) (by kernel_rfl) (by simp) ?_
              refine AllReady.cons rfl (fun K hK => ?_) (AllReady.cons rfl (fun K hK => ?_) AllReady.nil)
              · go_simp
                refine hK _ _ ?_
                clear hK K
                refine wpAny_ready (rs := [2]) (by kernel_rfl) (by simp) ?_
                refine AllReady.cons rfl (fun K hK => ?_) AllReady.nil
                · go_simp
                  go_wp2_with fail
                  refine (cP.out _ mC.out.pr mC.out.mo).mono ?_
                  rintro e' w10 ⟨rfl, hb10⟩
                  go_wp2_with fail
                  exact ⟨rfl, rfl, mC.out.bad hb10⟩
              · go_simp
                go_wp2_with fail
                refine (cP.out _ mC.out.pr mC.out.mo).mono ?_
                rintro e' w10 ⟨rfl, hb10⟩
                go_wp2_with fail
                exact ⟨rfl, rfl, mC.out.bad hb10⟩
            | ok d k =>
              rw [hg2] at hz
              replace hz := Lib.hid hz
              have hdn := hcn.out _ _ _ _ hg2
              have cP := Lib.hid (fun W (hp : PR W R a cap n ks (j + 1)) (hm : MakesOK W) => does_ok (hP.out f'' (by omega)) hp hm hg2)
              unfold rp at cP
              go_wp2_with fail
              refine kM.out.mono ?_
              rintro e' w7 ⟨rfl, hb7⟩
              have hm7 := Lib.hid (hm.out.below hb7)
              have bB7 := Lib.hid (hb.out.below hb7)
              go_wp2_with fail
              refine (k3.out _ hm7.out.pr).mono ?_
              rintro e' w9 ⟨rfl, hp9, ho9⟩
              have mC := Lib.hid ((hm7.out.step hR hp9 ho9).below ((Below.refl _ w9).drew))
              have bC := Lib.hid ((bB7.out.step hRl ho9).below ((Below.refl _ w9).drew))
              obtain ⟨x0, x1, x2, _, _, _⟩ := cells3 bC.out.b
              clear hm7 bB7 kM k3 hb
              go_wp2_with fail
              go_region_law (first
                | (go_simp; refine (cP.out _ mC.out.pr mC.out.mo).mono ?_; rintro e' w10 ⟨v10, rfl, hv10, hp10, ho10⟩; obtain ⟨q1, q2, rfl⟩ := hv10.agg; have hT := Lib.hid (Array.getElem?_eq_some_iff.1 bC.out.b).1; have vC := Lib.hid (ChV.step (R := R) (ChV.cut bC.out.v) (fun k hk => by have := hk.1; omega) ho10); have dC := Lib.hid hv10; replace mC := Lib.hid (mC.out.step hR hp10 ho10); replace bC := Lib.hid (bC.out.step hRl ho10); have hlim := mC.out.pr.le; have hkl := mC.out.pr.kl; obtain ⟨x0, x1, x2, _, _, _⟩ := cells3 bC.out.b)
                | (go_simp; go_at_call 49; refine (then_any vC.out dC.out (fun k h1 h2 => by have h3 := h1.2; omega) (by omega)).mono ?_; rintro e' w12 ⟨z12, rfl, hv12, ho12⟩; obtain ⟨r1, r2, rfl⟩ := hv12.agg; replace mC := Lib.hid (mC.out.extF hml (fun k h => by have := h.1; omega) ho12); have cC := heldF ho12 bC.out.b (fun h => by have := h.1; omega); obtain ⟨y0, y1, y2, y3, y4, y5⟩ := cells3 cC; replace cC := Lib.hid cC))
              all_goals
                obtain ⟨l1, l2⟩ := stored3 cC.out (.pointer r1) (.pointer r2) (.int .i64 ((c.then d).n : Int))
                have hjl2 := mC.out.pr.le
                have hmE := Lib.hid (mC.out.ext (Nat.le_refl _) (by omega) l2)
                have hbE := Lib.hid (show LstB w _ r1 r2 (c.then d) from ⟨l1, (hv12.mono (G := fun k => w.heap.size < k) (fun k _ hk => by
                  have a1 := hT.out
                  rcases hk with hk | hk
                  · exact hk.1
                  · omega)).only l2 (fun k hk e => by omega)⟩)
                have hpe := Lib.hid (place_of hmE.out)
                replace l1 := Lib.hid l1; replace l2 := Lib.hid l2
                go_wp2_with fail
                go_roundw
                case rel => exact ⟨f'', k, c.then d, r1, r2, by omega, by show c.n + d.n ≤ k; omega, hjl2, hz, hmE, hbE⟩
                case measure =>
                  rw [hpe.out, hpl.out]
                  omega
          · rw [if_neg hcm] at hz
            have e2 : (m == B.com) = false := beq_eq_false_iff_ne.2 hcm
            unfold B.com at e2
            by_cases hme : m = e
            · subst hme
              rw [if_pos rfl] at hz
              unfold St.and at hz
              dsimp only at hz
              subst hz
              have k3 := Lib.hid (fun W (hp : PR W R a cap n ks j) => want_ok hp he hmk.out)
              unfold rp at k3
              go_wp2_with fail
              refine kM.out.mono ?_
              rintro e' w7 ⟨rfl, hb7⟩
              have hm7 := Lib.hid (hm.out.below hb7)
              have bB7 := Lib.hid (hb.out.below hb7)
              go_wp2_with fail
              refine (k3.out _ hm7.out.pr).mono ?_
              rintro e' w9 ⟨rfl, hp9, ho9⟩
              have m4 := hm7.out.step hR hp9 ho9
              have b4 := bB7.out.step hRl ho9
              obtain ⟨y0, y1, y2, y3, y4, y5⟩ := cells3 b4.b
              obtain ⟨l1, l2⟩ := laidL m4 hml b4
              replace l1 := Lib.hid l1; replace l2 := Lib.hid l2
              clear hm7 m4 b4
              go_wp2_with fail
              exact bodyPost_ret (ret_ch rfl rfl l1.out rfl) rfl l2.out
            · rw [if_neg hme] at hz
              unfold St.and at hz
              dsimp only at hz
              subst hz
              have k3 := Lib.hid (fun W (hp : PR W R a cap n ks j) => want_bad hp he (fun h => hme (hmk.out.symm.trans h)))
              clear hme
              unfold rp at k3
              go_wp2_with fail
              refine kM.out.mono ?_
              rintro e' w7 ⟨rfl, hb7⟩
              have hm7 := Lib.hid (hm.out.below hb7)
              go_wp2_with fail
              refine (k3.out _ hm7.out.pr).mono ?_
              rintro e' w9 ⟨rfl, hb9⟩
              go_wp2_with fail
              exact ⟨rfl, rfl, hm7.out.bad hb9⟩
  · rw [if_neg hq] at hne ⊢
    unfold St.and
    dsimp only
    have c1 := Lib.hid (want_bad m0.out.pr ho hq)
    clear hP hne hcn
    unfold rp at c1 ⊢
    go_enter Tryz.func47, Tryz.ntmps47
    go_wp2_with fail
    refine c1.out.mono ?_
    rintro e w2 ⟨rfl, hb⟩
    go_wp2_with fail
    exact ⟨rfl, rfl, m0.out.bad hb⟩
end Go.Proofs.YtkmhdhnoghbkgaaGreatDoor
