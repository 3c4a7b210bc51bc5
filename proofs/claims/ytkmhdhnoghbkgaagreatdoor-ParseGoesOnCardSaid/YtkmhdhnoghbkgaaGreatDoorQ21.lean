/- The reader of layer 9: flow, walked. -/
import Derived.Test.YtkmhdhnoghbkgaaGreatDoorQ20
set_option linter.unusedVariables false
/- The reader of layer 9: flow, walked. -/
namespace Go.Proofs.YtkmhdhnoghbkgaaGreatDoor
open Go.RowKit Go.Shelf Tok
/-- The zero of the result's cell, and a chain so far in a cell of its own. -/
structure PairB (w W : World) (B : Nat) (p1 p2 : Option Addr) (m : Nat) : Prop where
  b : W.heap[w.heap.size]? = some chZ
  d : W.heap[B]? = some (.cells #[.pointer p1, .pointer p2, .int .i64 (m : Int)] 80 (0, 0))
  l : w.heap.size < B
theorem PairB.only {w W W' : World} {F : Nat → Prop} {B m : Nat} {p1 p2 : Option Addr} (h : PairB w W B p1 p2 m) (ho : Only F W W') (h1 : ¬ F w.heap.size) (h2 : ¬ F B) : PairB w W' B p1 p2 m :=
  ⟨heldF ho h.b h1, heldF ho h.d h2, h.l⟩
theorem PairB.below {w W W' : World} {B m : Nat} {p1 p2 : Option Addr} (h : PairB w W B p1 p2 m) (hb : Below W.heap.size W W') : PairB w W' B p1 p2 m :=
  h.only (Only.of_below (F := fun _ => False) hb) (fun h => h) (fun h => h)
theorem PairB.step {w W W' : World} {R B m : Nat} {p1 p2 : Option Addr} (h : PairB w W B p1 p2 m) (hR : R < w.heap.size) (ho : Only (fun k => k = R) W W') : PairB w W' B p1 p2 m :=
  h.only ho (by omega) (by have := h.l; omega)
set_option maxRecDepth 20000 in
set_option maxHeartbeats 1000000 in
theorem flow_any {GL GB : Nat → St Ch} {R cap n : Nat} {a : Option Addr} {ks : List Tk}
    (hL : ∀ W j, PR W R a cap n ks j → MakesOK W → GL j ≠ .out → Calls Tryz.prog 47 #[rp R, .string ⟨B.opn.toArray⟩, .func (.func 48) #[rp R] #[], .string ⟨B.cls.toArray⟩] W (Took (GL j) W R a cap n ks))
    (hB : Does 50 GB R a cap n ks) (hcL : ∀ i c j, GL i = .ok c j → c.n ≤ 10000000) (hcB : ∀ i c j, GB i = .ok c j → c.n ≤ 10000000) (hR : 1 ≠ R) {w : World} {i : Nat} (h : PR w R a cap n ks i) (hM : MakesOK w)
    (hne : ((wantT ks B.flow i).and fun _ i => (ownT ks i).and fun nm i => (GL i).and fun ps i => (GB i).and fun b i => St.ok ((ps.then b).under 1 0 nm) i) ≠ .out) :
    Calls Tryz.prog 26 #[rp R] w (Took ((wantT ks B.flow i).and fun _ i => (ownT ks i).and fun nm i => (GL i).and fun ps i => (GB i).and fun b i => .ok ((ps.then b).under 1 0 nm) i) w R a cap n ks) := by
  have m0 := Lib.hid ((Mid.start h hM).alloc chZ)
  have hRl := h.lt
  have hml := hM.lt
  have b0 := Lib.hid (heap_alloc_new w chZ)
  clear h hM
  unfold wantT at hne ⊢
  by_cases hq : markT ks i = B.flow
  · rw [if_pos hq] at hne ⊢
    unfold St.and at hne ⊢
    dsimp only at hne ⊢
    have c1 := Lib.hid (want_ok m0.out.pr (by decide) hq)
    unfold rp B.flow at c1
    cases hg : ownT ks (i + 1) with
    | out => rw [hg] at hne; exact absurd rfl hne
    | bad j =>
      dsimp only
      have c2 := Lib.hid (fun W (hp : PR W R a cap n ks (i + 1)) => own_bad hp hg)
      clear hne hL hB hcL hcB
      unfold rp at c2 ⊢
      go_enter Tryz.func26, Tryz.ntmps26
      go_wp2_with fail
      refine c1.out.mono ?_
      rintro e' w2 ⟨rfl, hp2, ho2⟩
      have m2 := Lib.hid (m0.out.step hR hp2 ho2)
      clear c1 m0 b0 hp2 ho2
      go_wp2_with fail
      refine (c2.out _ m2.out.pr).mono ?_
      rintro e' w3 ⟨rfl, hb3⟩
      go_wp2_with fail
      exact ⟨rfl, rfl, m2.out.bad hb3⟩
    | ok x j =>
      rw [hg] at hne
      dsimp only at hne ⊢
      have c2 := Lib.hid (fun W (hp : PR W R a cap n ks (i + 1)) => own_ok hp hg)
      unfold rp at c2
      cases hgl : GL j with
      | out => rw [hgl] at hne; exact absurd rfl hne
      | bad k =>
        dsimp only
        have cL := Lib.hid (fun W (hp : PR W R a cap n ks j) (hm : MakesOK W) => hL W j hp hm (by rw [hgl]; intro e; cases e))
        unfold rp B.opn B.cls at cL
        simp only [hgl] at cL
        clear hne hL hB hcL hcB
        unfold rp
        go_enter Tryz.func26, Tryz.ntmps26
        go_wp2_with fail
        refine c1.out.mono ?_
        rintro e' w2 ⟨rfl, hp2, ho2⟩
        have m2 := Lib.hid (m0.out.step hR hp2 ho2)
        clear c1 m0 b0 hp2 ho2
        go_wp2_with fail
        refine (c2.out _ m2.out.pr).mono ?_
        rintro e' w3 ⟨rfl, hp3, ho3⟩
        have m3 := Lib.hid (m2.out.step hR hp3 ho3)
        clear c2 m2 hp3 ho3
        go_wp2_with fail
        refine (cL.out _ m3.out.pr m3.out.mo).mono ?_
        rintro e' w4 ⟨rfl, hb4⟩
        go_wp2_with fail
        exact ⟨rfl, rfl, m3.out.bad hb4⟩
      | ok c k =>
        have hcl := hcL _ _ _ hgl
        have cL := Lib.hid (fun W (hp : PR W R a cap n ks j) (hm : MakesOK W) => hL W j hp hm (by rw [hgl]; intro e; cases e))
        unfold rp B.opn B.cls at cL
        simp only [hgl] at cL
        unfold Took at cL
        rw [hgl] at hne
        dsimp only at hne ⊢ cL
        cases hgb : GB k with
        | out => rw [hgb] at hne; exact absurd rfl hne
        | bad l =>
          dsimp only
          have cP := Lib.hid (fun W (hp : PR W R a cap n ks k) (hm : MakesOK W) => does_bad hB hp hm hgb)
          unfold rp at cP
          clear hne hL hB hcL hcB
          unfold rp
          go_enter Tryz.func26, Tryz.ntmps26
          go_wp2_with fail
          refine c1.out.mono ?_
          rintro e' w2 ⟨rfl, hp2, ho2⟩
          have m2 := Lib.hid (m0.out.step hR hp2 ho2)
          have b2 := Lib.hid (heldB ho2 b0.out (by omega))
          clear c1 m0 b0 hp2 ho2
          go_wp2_with fail
          refine (c2.out _ m2.out.pr).mono ?_
          rintro e' w3 ⟨rfl, hp3, ho3⟩
          have m3 := Lib.hid (m2.out.step hR hp3 ho3)
          have b3 := Lib.hid (heldB ho3 b2.out (by omega))
          have hT3 := (Array.getElem?_eq_some_iff.1 b3.out).1
          clear c2 m2 b2 hp3 ho3
          go_wp2_with fail
          refine (cL.out _ m3.out.pr m3.out.mo).mono ?_
          rintro e' w4 ⟨⟨v4, rfl, hv4⟩, hp4, ho4⟩
          obtain ⟨p1, p2, rfl⟩ := hv4.agg
          have hs4 := ho4.size
          have m4 := Lib.hid ((m3.out.step hR hp4 ho4).alloc (.cells #[.pointer p1, .pointer p2, .int .i64 (c.n : Int)] 80))
          have v5 := Lib.hid (show ChV (w4.alloc (.cells #[.pointer p1, .pointer p2, .int .i64 (c.n : Int)] 80)) (fun k => w.heap.size < k ∧ k ≠ w4.heap.size) (.agg #[.pointer p1, .pointer p2, .int .i64 (c.n : Int)]) c from (hv4.mono (fun k hk h => ⟨by omega, by omega⟩)).alloc _)
          have r4 := Lib.hid (show PairB w (w4.alloc (.cells #[.pointer p1, .pointer p2, .int .i64 (c.n : Int)] 80)) w4.heap.size p1 p2 c.n from
            ⟨heldA (heldB ho4 b3.out (by omega)) _, heap_alloc_new w4 _, by omega⟩)
          clear cL m3 b3 hp4 ho4 hv4
          go_wp2_with fail
          generalize w4.alloc (.cells #[.pointer p1, .pointer p2, .int .i64 (c.n : Int)] 80) = w5 at *
          generalize w4.heap.size = B7 at *
          have mC := Lib.hid (m4.out.below ((Below.refl _ w5).drew))
          have rB := Lib.hid (r4.out.below ((Below.refl _ w5).drew))
          have vC := Lib.hid (ChV.below v5.out ((Below.refl _ w5).drew))
          obtain ⟨x0, x1, x2, _, _, _⟩ := cells3 rB.out.d
          clear m4 r4 v5
          refine wp_region_any (by kernel_rfl) ?_
          change wpAny _ _ _ _ _ _ _ (World.drew _)
          refine wpAny_take (i := 1) (v := .pointer (some ⟨R, 0, none⟩)) rfl (by kernel_rfl) (by kernel_rfl) (by kernel_rfl) (fun _ _ _ h => h) (Or.inl ⟨by rfl, by intro w; go_simp⟩) ?_
          refine wpAny_take (i := 4) (v := .string ⟨x.toArray⟩) rfl (by kernel_rfl) (by kernel_rfl) (by kernel_rfl) (fun _ _ _ h => h) (Or.inl ⟨by rfl, by intro w; go_simp⟩) ?_
          refine wpAny_take (i := 5) (v := .agg #[.int .u8 1, .int .i64 0, .int .i64 0, .string ⟨x.toArray⟩]) rfl (by kernel_rfl) (by kernel_rfl) (by kernel_rfl) (fun _ _ _ h => h) (Or.inl ⟨by rfl, by intro w; go_simp⟩) ?_
          refine wpAny_ready (rs := [0, 2]) (by kernel_rfl) (by simp) ?_
          refine AllReady.cons rfl (fun K hK => ?_) (AllReady.cons rfl (fun K hK => ?_) AllReady.nil)
          · go_simp
            refine hK _ _ ?_
            clear hK K
            refine wpAny_ready (rs := [2]) (by kernel_rfl) (by simp) ?_
            refine AllReady.cons rfl (fun K hK => ?_) AllReady.nil
            · go_simp
              go_wp2_with fail
              refine (cP.out _ mC.out.pr mC.out.mo).mono ?_
              rintro e' w10 ⟨rfl, hb10⟩
              go_wp2_with fail
              exact ⟨rfl, rfl, mC.out.bad hb10⟩
          · go_simp
            go_wp2_with fail
            refine (cP.out _ mC.out.pr mC.out.mo).mono ?_
            rintro e' w10 ⟨rfl, hb10⟩
            go_wp2_with fail
            exact ⟨rfl, rfl, mC.out.bad hb10⟩
        | ok d l =>
          dsimp only
          have hdn := hcB _ _ _ hgb
          have cP := Lib.hid (fun W (hp : PR W R a cap n ks k) (hm : MakesOK W) => does_ok hB hp hm hgb)
          unfold rp at cP
          clear hne hL hB hcL hcB
          unfold rp
          go_enter Tryz.func26, Tryz.ntmps26
          go_wp2_with fail
          refine c1.out.mono ?_
          rintro e' w2 ⟨rfl, hp2, ho2⟩
          have m2 := Lib.hid (m0.out.step hR hp2 ho2)
          have b2 := Lib.hid (heldB ho2 b0.out (by omega))
          clear c1 m0 b0 hp2 ho2
          go_wp2_with fail
          refine (c2.out _ m2.out.pr).mono ?_
          rintro e' w3 ⟨rfl, hp3, ho3⟩
          have m3 := Lib.hid (m2.out.step hR hp3 ho3)
          have b3 := Lib.hid (heldB ho3 b2.out (by omega))
          have hT3 := (Array.getElem?_eq_some_iff.1 b3.out).1
          clear c2 m2 b2 hp3 ho3
          go_wp2_with fail
          refine (cL.out _ m3.out.pr m3.out.mo).mono ?_
          rintro e' w4 ⟨⟨v4, rfl, hv4⟩, hp4, ho4⟩
          obtain ⟨p1, p2, rfl⟩ := hv4.agg
          have hs4 := ho4.size
          have m4 := Lib.hid ((m3.out.step hR hp4 ho4).alloc (.cells #[.pointer p1, .pointer p2, .int .i64 (c.n : Int)] 80))
          have v5 := Lib.hid (show ChV (w4.alloc (.cells #[.pointer p1, .pointer p2, .int .i64 (c.n : Int)] 80)) (fun k => w.heap.size < k ∧ k ≠ w4.heap.size) (.agg #[.pointer p1, .pointer p2, .int .i64 (c.n : Int)]) c from (hv4.mono (fun k hk h => ⟨by omega, by omega⟩)).alloc _)
          have r4 := Lib.hid (show PairB w (w4.alloc (.cells #[.pointer p1, .pointer p2, .int .i64 (c.n : Int)] 80)) w4.heap.size p1 p2 c.n from
            ⟨heldA (heldB ho4 b3.out (by omega)) _, heap_alloc_new w4 _, by omega⟩)
          clear cL m3 b3 hp4 ho4 hv4
          go_wp2_with fail
          generalize w4.alloc (.cells #[.pointer p1, .pointer p2, .int .i64 (c.n : Int)] 80) = w5 at *
          generalize w4.heap.size = B7 at *
          have mC := Lib.hid (m4.out.below ((Below.refl _ w5).drew))
          have rB := Lib.hid (r4.out.below ((Below.refl _ w5).drew))
          have vC := Lib.hid (ChV.below v5.out ((Below.refl _ w5).drew))
          obtain ⟨x0, x1, x2, _, _, _⟩ := cells3 rB.out.d
          clear m4 r4 v5
          go_region_law (first
            | (go_simp; refine (cP.out _ mC.out.pr mC.out.mo).mono ?_; rintro e' w10 ⟨v10, rfl, hv10, hp10, ho10⟩; obtain ⟨q1, q2, rfl⟩ := hv10.agg; have hT := Lib.hid (Array.getElem?_eq_some_iff.1 rB.out.d).1; replace vC := Lib.hid (ChV.step (R := R) (ChV.cut vC.out) (fun k hk => by have := hk.1.1; omega) ho10); have dC := Lib.hid hv10; replace mC := Lib.hid (mC.out.step hR hp10 ho10); replace rB := Lib.hid (rB.out.step hRl ho10); obtain ⟨x0, x1, x2, _, _, _⟩ := cells3 rB.out.d)
            | (go_simp; go_at_call 49; refine (then_any vC.out dC.out (fun k h1 h2 => by have h3 := h1.2; omega) (by omega)).mono ?_; rintro e' w12 ⟨z12, rfl, hv12, ho12⟩; obtain ⟨r1, r2, rfl⟩ := hv12.agg; have vT := Lib.hid hv12; replace mC := Lib.hid (mC.out.extF hml (fun k h => by have := h.1.1; omega) ho12); replace rB := Lib.hid (rB.out.only ho12 (fun h => by have := h.1.1; omega) (fun h => h.1.2 rfl)))
            | (go_simp; go_at_call 51; refine (under_any vT.out (by unfold Ch.then; dsimp only; omega) 1 0 0 x).mono ?_; rintro e' w13 ⟨z13, rfl, hv13, hb13⟩; obtain ⟨s1, s2, rfl⟩ := hv13.agg; have hT3 := Lib.hid (Array.getElem?_eq_some_iff.1 rB.out.d).1; replace mC := Lib.hid (mC.out.below hb13); replace rB := Lib.hid (rB.out.below hb13); obtain ⟨y0, y1, y2, y3, y4, y5⟩ := cells3 rB.out.b))
          all_goals
            have hl7 := rB.out.l
            obtain ⟨l1, l2⟩ := laid3 mC.out (Nat.le_refl _) hml rB.out.b (hv13.mono (fun k _ hk => by
              have a1 := hT.out
              have a2 := hT3.out
              rcases hk with (hk | hk) | hk
              · have := hk.1.1; exact ⟨by omega, by omega⟩
              · exact ⟨by omega, by omega⟩
              · exact ⟨by omega, by omega⟩))
            replace l1 := Lib.hid l1; replace l2 := Lib.hid l2
            go_wp2_with fail
            exact bodyPost_ret (ret_ch rfl rfl l1.out rfl) rfl l2.out
  · rw [if_neg hq]
    unfold St.and
    dsimp only
    have c1 := Lib.hid (want_bad m0.out.pr (by decide) hq)
    unfold rp B.flow at c1
    clear hne hL hB hcL hcB
    unfold rp
    go_enter Tryz.func26, Tryz.ntmps26
    go_wp2_with fail
    refine c1.out.mono ?_
    rintro e' w2 ⟨rfl, hb2⟩
    go_wp2_with fail
    exact ⟨rfl, rfl, m0.out.bad hb2⟩
end Go.Proofs.YtkmhdhnoghbkgaaGreatDoor
