/- The contract of code's reader of a value, of all bytes as a value. -/
import Derived.Test.YtnhghofkdiojaaaCVal2
namespace Go.Proofs.Ytnhghofkdiojaaa
open Go.RowKit

theorem infoN : (Try.prog.info? 34).map (fun i => (i.zero, i.size, i.bytes)) = some (some (.agg #[.int .u8 0, .int .i64 0, .int .i64 0, .string ⟨#[]⟩, .complex .f64 0 0]), 5, 56) := by kernel_rfl
theorem infoN_parts : ∃ i0, Try.prog.info? 34 = some i0 ∧ i0.zero = some (.agg #[.int .u8 0, .int .i64 0, .int .i64 0, .string ⟨#[]⟩, .complex .f64 0 0]) ∧ i0.size = 5 ∧ i0.bytes = 56 := by
  have h := infoN
  cases hi : Try.prog.info? 34 with
  | none => rw [hi] at h; simp at h
  | some i0 =>
    rw [hi] at h
    simp at h
    exact ⟨i0, rfl, h.1, h.2.1, h.2.2⟩
theorem encN_one (d : Nd) : ∀ u ∈ encN d, u.oneCell' = true := by
  intro u hu
  simp only [encN, List.mem_cons, List.mem_nil_iff, or_false] at hu
  rcases hu with rfl | rfl | rfl | rfl | rfl <;> rfl
theorem news5 {W : World} {g : Nat} {v0 v1 v2 v3 v4 : Value} {t : TypeId} (h : W.heap[g]? = some (.cells #[v0, v1, v2, v3, v4] t (0, 0))) : ∀ j u, [v0, v1, v2, v3, v4][j]? = some u → W.cell? ((⟨g, 0, none⟩ : Addr).add j) = some u := by
  obtain ⟨c0, c1, c2, c3, c4, _⟩ := cells5 h
  intro j u hj
  match j, hj with
  | 0, hj => simp at hj; subst hj; simpa [Addr.add] using c0
  | 1, hj => simp at hj; subst hj; simpa [Addr.add] using c1
  | 2, hj => simp at hj; subst hj; simpa [Addr.add] using c2
  | 3, hj => simp at hj; subst hj; simpa [Addr.add] using c3
  | 4, hj => simp at hj; subst hj; simpa [Addr.add] using c4
  | j + 5, hj => simp at hj

/-- A row of nodes of the call's own. -/
def RowN (w : World) (base : Nat) (v : Value) (d : List Nd) : Prop := w.ownsRow base 34 5 v d.length (rowOf encN d)
theorem RowN.nil (w : World) (base : Nat) : RowN w base (.slice none 0 0) [] := World.ownsRow_nil _ _ _ _
theorem RowN.only {w w' : World} {base : Nat} {v : Value} {d : List Nd} {F : Nat → Prop} (h : RowN w base v d) (ho : Only F w w') (hF : ∀ k, RowOf v k → ¬ F k) : RowN w' base v d := ownsRow_only h ho hF

/-- What a new node behind the row comes to. -/
theorem val_step {w wr w1 : World} {R L cap p : Nat} {a : Option Addr} {f : Nat → Nat} {t0 v1 : Value} {d : List Nd} {nd : Nd} {o1 o2 : Obj}
    (hO : Only (fun k => k = R) w wr) (hRb : R < w.heap.size) (hr : Rd wr R a L cap f p) (hbl : ∀ q, a = some q → 0 < L → q.block < w.heap.size) (hB : RowN wr w.heap.size t0 d)
    (hown : w1.ownsRow w.heap.size 34 5 v1 (d.length + 1) (rowOf encN d ++ encN nd)) (hg : ((wr.alloc o1).alloc o2).grownBy w1 t0.ownBlock) :
    RowN w1 w.heap.size v1 (d ++ [nd]) ∧ Only (fun k => k = R) w w1 ∧ Rd w1 R a L cap f p := by
  have h1 : Only (RowOf t0) wr w1 := (((Only.refl (RowOf t0) wr).alloc _).alloc _).then (Only.of_grown hg (fun k hk => hk))
  have hrow := row_base hB
  refine ⟨?_, hO.trans h1 (fun _ _ h => h) (fun k hk h => ?_), hr.kept h1 (fun h => ?_) (fun q hq h0 h => ?_)⟩
  · unfold RowN
    rw [rowOf_snoc, List.length_append]
    exact hown
  · have := hrow k h
    omega
  · have := hrow R h; omega
  · have := hrow _ h
    have := hbl q hq h0
    omega
/-- The new node's own block reads on. -/
theorem val_cells {wr w1 : World} {base n : Nat} {e : TypeId} {k : Nat} {xs : List Value} {t0 : Value} {v0 v1 v2 v3 v4 : Value} {t : TypeId} {o2 : Obj} (hB : wr.ownsRow base e k t0 n xs)
    (hg : ((wr.alloc (.cells #[v0, v1, v2, v3, v4] t)).alloc o2).grownBy w1 t0.ownBlock) :
    w1.cell? ⟨wr.heap.size, 3, none⟩ = some v3 ∧ w1.cell? ⟨wr.heap.size, 1, none⟩ = some v1 := by
  have s1 : (wr.alloc (.cells #[v0, v1, v2, v3, v4] t)).heap.size = wr.heap.size + 1 := by simp
  have hh : w1.heap[wr.heap.size]? = some (.cells #[v0, v1, v2, v3, v4] t (0, 0)) := by
    rw [hg.block wr.heap.size (by simp; omega) (fun h => by have := (hB.lt _ h.symm).2; omega), Below.heap_alloc _ _ _ (by omega)]
    exact heap_alloc_new wr _
  obtain ⟨c0, c1, c2, c3, c4, _⟩ := cells5 hh
  exact ⟨c3, c1⟩

/-- What a value's reader comes to. -/
def ValTook (w : World) (R : Nat) (a : Option Addr) (L cap : Nat) (f : Nat → Nat) : Ending → World → Prop :=
  Took (fun v w' => RowN w' (R + 1) v (valR f L).d) (valR f L).to (valR f L).code w R a L cap f

set_option maxRecDepth 100000 in
set_option maxHeartbeats 4000000 in
theorem value_took {w : World} {R L cap : Nat} {a : Option Addr} {f : Nat → Nat} (h : Rd w R a L cap f 0) :
    Calls Try.prog 34 #[.pointer (some ⟨R, 0, none⟩)] w (ValTook w R a L cap f) := by
  have hsc := sc_any
  have hRn := h.lt
  have hbl := h.bl
  have hf : ∀ j, j < L → f j < 256 := fun j hj => h.by_.lt' j hj
  have hlc := h.lc
  have hcm := h.cm
  obtain ⟨i0, hi, hz0, hz1, hz2⟩ := infoN_parts
  replace h := Lib.hid h
  replace hf := Lib.hid hf
  replace hbl := Lib.hid hbl
  go_enter Try.func34, Try.ntmps34
  go_wp2
  go_loopw [3, 4, 5] (fun t0 rm lf wr => ∃ (p : Nat) (d : List Nd) (size left : Nat), ValAt f L p d size left ∧ (∃ z : Int, rm = .int .i64 z ∧ Hid (z = 4096 - (size : Int))) ∧ lf = .int .i64 left ∧ RowN wr w.heap.size t0 d ∧ Rd wr R a L cap f p ∧ Only (fun k => k = R) w wr) (fun _ _ _ wr => L + 1 - (match wr.cell? ⟨R, 1, none⟩ with | some v => (intOf v).toNat | none => 0))
  case atStart => exact ⟨0, [], 0, 1, ValAt.start f L, ⟨_, rfl, rfl⟩, rfl, RowN.nil _ _, h.out, Only.refl _ _⟩
  case round =>
    obtain ⟨p, d, size, left, hV, ⟨z, rfl, hz⟩, rfl, hB, hR, hO⟩ := hrel
    obtain ⟨oa, cap0, rfl, hnc, hcm0⟩ := ownsRow_shape hB
    have hlen := hV.len
    have hsz := hV.sz
    have hlf := hV.lf
    have c1 := hR.c1
    replace hO := Lib.hid hO
    rcases Nat.eq_zero_or_pos left with h0 | h0
    · subst h0
      have hD := Lib.hid hV.done
      clear hV
      go_wp2
      go_ret
      refine ⟨hO.out, .inl ?_⟩
      rw [hD.out]
      exact ⟨rfl, ⟨_, rfl, ownsRow_base hB (fun g hg => by have := row_base hB g hg; omega)⟩, hR⟩
    · have h0i : 0 < (left : Int) := by omega
      by_cases hp : p < L
      · have hN := next_some hR hp
        obtain ⟨c, hc⟩ := exHid (f p)
        rw [hc.out] at hN
        have hmany : ∀ b1 b2 : Bool, ((d.length : Int) == 1024) = b1 → (z == 0) = b2 → (b1 || b2) = true → valR f L = ⟨[], p, 2⟩ := by
          intro b1 b2 e1 e2 e3
          refine hV.many (by omega) hp ?_
          have := hz.out
          rcases b1 with _ | _
          · rcases b2 with _ | _
            · cases e3
            · right; simp at e2; omega
          · left; simp at e1; omega
        by_cases hm : d.length = 1024 ∨ size = 4096
        · replace hmany := Lib.hid hmany
          clear hV
          rcases (show ((d.length : Int) == 1024) = true ∨ (((d.length : Int) == 1024) = false ∧ (z == 0) = true) by
            have := hz.out
            rcases Nat.decEq d.length 1024 with h1 | h1
            · right
              rcases hm with h2 | h2
              · exact absurd h2 h1
              · exact ⟨by simp; omega, by simp; omega⟩
            · left; simp; omega) with m1 | ⟨m1, m2⟩
          · have HE : Hid (valR f L = ⟨[], p, 2⟩) := by
              cases hb : (z == 0) with
              | true => exact hmany.out _ _ m1 hb rfl
              | false => exact hmany.out _ _ m1 hb rfl
            go_wp2_with (first
              | ((with_reducible refine hN.mono ?_); rintro e w' ⟨rfl, hc256, hR', hO'⟩; replace hR' := Lib.hid hR')
              | ((with_reducible refine (giveUp_any _ _ _).mono ?_); rintro e w' ⟨rfl, rfl⟩))
            refine ⟨rfl, hO.out.then hO', .inr ?_⟩
            rw [HE.out]
            exact ⟨by simp, rfl⟩
          · have HE : Hid (valR f L = ⟨[], p, 2⟩) := hmany.out _ _ m1 m2 rfl
            go_wp2_with (first
              | ((with_reducible refine hN.mono ?_); rintro e w' ⟨rfl, hc256, hR', hO'⟩; replace hR' := Lib.hid hR')
              | ((with_reducible refine (giveUp_any _ _ _).mono ?_); rintro e w' ⟨rfl, rfl⟩))
            refine ⟨rfl, hO.out.then hO', .inr ?_⟩
            rw [HE.out]
            exact ⟨by simp, rfl⟩
        · clear hmany
          have m1 : ((d.length : Int) == 1024) = false := by simp; omega
          have m2 : (z == 0) = false := by have := hz.out; simp; omega
          have hzl : 1 ≤ z := by have := hz.out; omega
          have hzu : z ≤ 4096 := by have := hz.out; omega
          have hK := fun w2 (h2 : Rd w2 R a L cap f (p + 1)) => node_any (k := c) (room := 4095 - size) h2 (by omega) (by omega)
          have ez : ((4095 - size : Nat) : Int) = z - 1 := by have := hz.out; omega
          rw [ez] at hK
          unfold NodeTook at hK
          obtain ⟨r, hr⟩ : ∃ r, nodeR f L (p + 1) c (4095 - size) = r := ⟨_, rfl⟩
          rw [hr] at hK
          rw [← hc.out] at hr
          by_cases hrc : r.code = 0
          · have hV' := hV.next hf.out (by omega) hp hm hr hrc
            have hrg := nodeR_range (f := f) (L := L) (p := p + 1) (k := f p) (room := 4095 - size) (by omega) (fun j _ hj => hf.out j hj)
            rw [hr] at hrg
            obtain ⟨q1, q2, q3⟩ := hrg.2 hrc
            have q4 := hrg.1
            have hK' := fun w2 h2 => (hK w2 h2).mono fun e w' h => Took.ok h hrc
            clear hK hrg hr hV hm
            obtain ⟨⟨nk, nkids, nn, ns, nx, ny⟩, nto, ncode⟩ := r
            simp only [ndV] at hK'
            simp only at q1 q2 q3 q4
            replace hV' := Lib.hid hV'
            have hkids : (nkids : Int) ≤ 1024 := by omega
            have hns : (ns.size : Int) ≤ z - 1 := by omega
            have hlfi : (left : Int) ≤ 1048577 := by omega
            replace hz := Lib.hid hz.out
            go_wp2_with (first
              | ((with_reducible refine hN.mono ?_); rintro e w2 ⟨rfl, hc256, hR', hO'⟩; have hK2 := hK' _ hR'; have hB2 := hB.only (F := fun k => k = R) hO' (fun k hk e => by have := row_base hB k hk; omega); replace hR' := Lib.hid hR')
              | ((with_reducible refine hK2.mono ?_); rintro e w3 ⟨v, rfl, rfl, hR3, hO3⟩; have hB3 := hB2.only (F := fun k => k = R) hO3 (fun k hk e => by have := row_base hB2 k hk; omega); have hBa := (World.ownsRow.alloc (World.ownsRow.alloc hB3 (.cells #[.int .u8 nk, .int .i64 nkids, .int .i64 nn, .string ns, .complex .f64 nx ny] 34)) (.cells #[.int .u8 nk, .int .i64 nkids, .int .i64 nn, .string ns, .complex .f64 nx ny] 34)); have hO4 := (hO.out.then hO').then hO3; have hw3 := hO4.size; have hnew := news5 (heap_alloc_new (w3.alloc (.cells #[.int .u8 nk, .int .i64 nkids, .int .i64 nn, .string ns, .complex .f64 nx ny] 34)) (.cells #[.int .u8 nk, .int .i64 nkids, .int .i64 nn, .string ns, .complex .f64 nx ny] 34)); rw [show (w3.alloc (.cells #[.int .u8 nk, .int .i64 nkids, .int .i64 nn, .string ns, .complex .f64 nx ny] 34)).heap.size = w3.heap.size + 1 by simp] at hnew; replace hR3 := Lib.hid hR3; replace hBa := Lib.hid hBa; replace hO4 := Lib.hid hO4; replace hnew := Lib.hid hnew)
              | (at_builtin; (refine wpList_append_own_at _ rfl _ _ 29 rfl w.heap.size 34 i0 (.agg #[.int .u8 0, .int .i64 0, .int .i64 0, .string ⟨#[]⟩, .complex .f64 0 0]) 5 56 Try.underlying29 hi hz0 hz1 hz2 rfl (by decide) _ d.length (rowOf encN d) rfl hBa.out ⟨w3.heap.size + 1, 0, none⟩ 1 1 [.int .u8 nk, .int .i64 nkids, .int .i64 nn, .string ns, .complex .f64 nx ny] rfl rfl hnew.out (encN_one ⟨nk, nkids, nn, ns, nx, ny⟩) (by unfold maxLen; omega) (by omega) (by simp; omega) ?_; intro v1 w4 hown4 hg4 _ _; obtain ⟨k3, k1⟩ := val_cells hB3 hg4)))
            go_roundw
            case rel =>
              obtain ⟨g1, g2, g3⟩ := val_step (nd := ⟨nk, nkids, nn, ns, nx, ny⟩) hO4.out hRn hR3.out hbl.out hB3 hown4 hg4
              exact ⟨nto, _, _, _, hV'.out, ⟨_, rfl, by have := hz.out; show _ = _; omega⟩, by congr 1; omega, g1, g3, g2⟩
            case measure =>
              obtain ⟨_, _, g3⟩ := val_step (nd := ⟨nk, nkids, nn, ns, nx, ny⟩) hO4.out hRn hR3.out hbl.out hB3 hown4 hg4
              rw [g3.c1, c1]
              simp [intOf]; omega
          · have hE := Lib.hid (hV.bad (by omega) hp hm hr hrc)
            have hK' := fun w2 h2 => (hK w2 h2).mono fun e w' h => Took.bad h hrc
            clear hK hr hV hm
            replace hz := Lib.hid hz.out
            go_wp2_with (first
              | ((with_reducible refine hN.mono ?_); rintro e w2 ⟨rfl, hc256, hR', hO'⟩; have hK2 := hK' _ hR'; replace hR' := Lib.hid hR')
              | ((with_reducible refine hK2.mono ?_); rintro e w3 ⟨rfl, hO3⟩))
            refine ⟨rfl, (hO.out.then hO').then hO3, .inr ?_⟩
            rw [hE.out]
            exact ⟨hrc, rfl⟩
      · have hpe : L = p := by have := hR.le; omega
        subst hpe
        have hS := Lib.hid (hV.short (by omega) (Nat.le_refl _))
        have hN := next_end hR rfl
        unfold Gave faultV at hN
        clear hV
        go_wp2_with ((with_reducible refine hN.mono ?_); rintro e w' ⟨rfl, hO'⟩)
        refine ⟨rfl, hO.out.then hO', .inr ?_⟩
        rw [hS.out]
        exact ⟨by simp, rfl⟩

/-- All bytes as a value. -/
def allR (f : Nat → Nat) (L : Nat) : Vr := if (valR f L).code = 0 ∧ (valR f L).to < L then ⟨[], (valR f L).to, 3⟩ else valR f L
def AllTook (w : World) (R : Nat) (a : Option Addr) (L cap : Nat) (f : Nat → Nat) : Ending → World → Prop :=
  Took (fun v w' => RowN w' (R + 1) v (allR f L).d) (allR f L).to (allR f L).code w R a L cap f

set_option maxHeartbeats 1000000 in
theorem all_took {w : World} {R L cap : Nat} {a : Option Addr} {f : Nat → Nat} (h : Rd w R a L cap f 0) :
    Calls Try.prog 35 #[.pointer (some ⟨R, 0, none⟩)] w (AllTook w R a L cap f) := by
  have hV := value_took h
  unfold ValTook at hV
  have hlc := h.lc
  have hcm := h.cm
  unfold AllTook allR
  generalize valR f L = r at hV ⊢
  obtain ⟨d, to, code⟩ := r
  simp only at hV ⊢
  by_cases hc : code = 0
  · have hok := hV.mono fun e w' h => Took.ok h hc
    clear hV
    subst hc
    by_cases hlt : to < L
    · rw [if_pos ⟨rfl, hlt⟩]
      have hlt' : (to : Int) < (L : Int) := by omega
      clear h
      go_enter Try.func35, Try.ntmps35
      go_wp2_with ((with_reducible refine hok.mono ?_); rintro e w2 ⟨v, rfl, hrow, hR2, hO⟩; have c0 := hR2.c0; have c1 := hR2.c1; replace hR2 := Lib.hid hR2; replace hrow := Lib.hid hrow)
      go_quiet (fail)
      have c1' : (w2.drewN nq).cell? ⟨R, 1, none⟩ = some (.int .i64 to) := c1
      have ho : Only (fun k => k = R) w (w2.drewN nq) := ⟨hO.os, hO.tape, hO.output, hO.size, hO.block⟩
      clear c0 c1
      generalize w2.drewN nq = wq at c1' ho ⊢
      go_wp2_with ((with_reducible refine (giveUp_any _ _ _).mono ?_); rintro e w' ⟨rfl, rfl⟩)
      exact ⟨rfl, ho, .inr ⟨by simp, rfl⟩⟩
    · rw [if_neg (by rintro ⟨_, h1⟩; exact hlt h1)]
      have hlt' : ¬ (to : Int) < (L : Int) := by omega
      clear h
      go_enter Try.func35, Try.ntmps35
      go_wp2_with ((with_reducible refine hok.mono ?_); rintro e w2 ⟨v, rfl, hrow, hR2, hO⟩; have c0 := hR2.c0; have c1 := hR2.c1; replace hR2 := Lib.hid hR2; replace hrow := Lib.hid hrow)
      go_quiet (fail)
      have hR3 := hR2.out.drewN nq
      have hrow3 : RowN (w2.drewN nq) (R + 1) v d := hrow.out
      have ho : Only (fun k => k = R) w (w2.drewN nq) := ⟨hO.os, hO.tape, hO.output, hO.size, hO.block⟩
      clear c0 c1
      generalize w2.drewN nq = wq at hR3 hrow3 ho ⊢
      go_wp2
      go_ret
      exact ⟨ho, .inl ⟨rfl, ⟨_, rfl, hrow3⟩, hR3⟩⟩
  · have hbad := hV.mono fun e w' h => Took.bad h hc
    rw [if_neg (by rintro ⟨h1, _⟩; exact hc h1)]
    clear hV h
    go_enter Try.func35, Try.ntmps35
    go_wp2_with ((with_reducible refine hbad.mono ?_); rintro e w2 ⟨rfl, hO⟩)
    exact ⟨rfl, hO, .inr ⟨hc, rfl⟩⟩
end Go.Proofs.Ytnhghofkdiojaaa
