/- tree's Parts (layer 8): each part lies in memory of its own. No condition. -/
import Derived.Test.YthgkkdhalcpgbaaRParts
namespace Go.Proofs.Ythgkkdhalcpgbaa
open Go.RowKit Go.Shelf

/-- A list of lists of twigs of the call's own, no two of which lie in one block. -/
def TrsD (w : World) (base : Nat) (v : Value) (ps : List (List Tw)) : Prop :=
  ∃ vs : List Value, vs.length = ps.length ∧ w.ownsRow base 23 1 v ps.length vs ∧ (∀ i, i < ps.length → ∃ u, vs[i]? = some u ∧ TwsAt w base u (ps.getD i [])) ∧
    ∀ (i j : Nat) (u x : Value), i < j → vs[i]? = some u → vs[j]? = some x → ∀ g, u.ownBlock = some g → ¬ x.ownBlock = some g
section
variable {w W : World} {base : Nat} {v : Value} {ps : List (List Tw)}
theorem TrsD.trs (h : TrsD w base v ps) : Trs w base v ps := by
  obtain ⟨vs, h1, h2, h3, _⟩ := h
  exact ⟨vs, h1, h2, h3⟩
theorem TrsD.trsIn (h : TrsD w base v ps) : TrsIn w v ps := h.trs.trsIn
theorem TrsD.shape (h : TrsD w base v ps) : ∃ a cap, v = .slice a ps.length cap ∧ ps.length ≤ cap ∧ cap ≤ 9223372036854775807 := h.trs.shape
theorem TrsD.below (h : TrsD w base v ps) (hb : Below w.heap.size w W) : TrsD W base v ps := by
  obtain ⟨vs, h1, h2, h3, h4⟩ := h
  refine ⟨vs, h1, ownsRow_only (F := fun _ => False) h2 (Only.of_below hb) (fun _ _ h => h), fun i hi => ?_, h4⟩
  obtain ⟨u, hu, hB⟩ := h3 i hi
  exact ⟨u, hu, hB.below hb⟩
theorem TrsD.nil_made {W' : World} {g cap : Nat} (h : W'.ownsRow base 23 1 (.slice (some ⟨g, 0, none⟩) 0 cap) 0 []) : TrsD W' base (.slice (some ⟨g, 0, none⟩) 0 cap) [] := ⟨[], rfl, h, fun i hi => by simp at hi, fun i j u x _ h => by simp at h⟩
end
theorem ownsRow_xs {w : World} {b1 b2 : Nat} {e : TypeId} {k n : Nat} {v : Value} {xs ys : List Value} (h1 : w.ownsRow b1 e k v n xs) (h2 : w.ownsRow b2 e k v n ys) : xs = ys := by
  apply List.ext_getElem?
  intro i
  have l1 := h1.1
  have l2 := h2.1
  by_cases hi : i < xs.length
  · rcases h1.2 with ⟨hv, h0⟩ | ⟨g, cap, cur, hv, _⟩
    · rw [l1] at hi; simp [h0] at hi
    · rw [hv] at h1 h2
      rw [← World.ownsRow.cellAt (g := g) (cap := cap) h1 i (by omega), World.ownsRow.cellAt (g := g) (cap := cap) h2 i (by omega)]
  · rw [List.getElem?_eq_none (by omega), List.getElem?_eq_none (by omega)]
/-- append(l, t): at the operation, behind the row of one; t lies in a block that is newer than all of l. -/
theorem wpList_append_trd {w0 w : World} {base : Nat} {v u : Value} {ps : List (List Tw)} {q : List Tw} {ops : Array Oper} {rest : List Oper} {o : Oper} {a : Act} {Q : Exit → Act → World → Prop} (hgd : o.guard = none) (s x : Operand)
    (ho : o.op = .call { callee := .builtin .append, args := #[s, x], argTypes := #[26, 26] })
    (hs : a.eval s = v) (hown0 : TrsD w0 base v ps) (hb0 : Below w0.heap.size w0 w) {G : Nat} (hx : a.eval x = .slice (some ⟨G, 0, none⟩) 1 1) (hc : w.cell? ⟨G, 0, none⟩ = some u) (hu : TwsAt w w0.heap.size u q)
    (hk : ps.length ≤ 1000000000) (hbase0 : base ≤ w0.heap.size)
    (h : ∀ a' cap w', TrsD w' base (.slice a' (ps.length + 1) cap) (ps ++ [q]) → Below base w w' → Only (fun k => v.ownBlock = some k) w w' → wpList Try.prog ops Q rest (a.put o.dst (.slice a' (ps.length + 1) cap)) w') : wpList Try.prog ops Q (o :: rest) a w := by
  obtain ⟨i0, hi, hz0, hz1, hz2⟩ := tr_parts
  have hbase : base ≤ w.heap.size := by have := hb0.size; omega
  obtain ⟨vs, g1, g2, g3, g4⟩ := hown0.below hb0
  have hold : ∀ i u', vs[i]? = some u' → i < ps.length → ∀ g, u'.ownBlock = some g → g < w0.heap.size := by
    intro i u' hi' hip g hg
    obtain ⟨vs0, k1, k2, k3, k4⟩ := hown0
    obtain ⟨y, hy, hB⟩ := g3 i hip
    rw [hy] at hi'
    cases hi'
    by_cases hgl : g < w0.heap.size
    · exact hgl
    · exfalso
      obtain ⟨y0, hy0, hB0⟩ := k3 i hip
      have hb1 := ownsRow_only (F := fun _ => False) k2 (Only.of_below hb0) (fun _ _ h => h)
      have e := ownsRow_xs g2 hb1
      rw [e] at hy
      rw [hy0] at hy
      cases hy
      exact hgl (World.ownsRow.lt hB0 g hg).2
  obtain ⟨ua, ucap, hus, _⟩ := hu.shape
  refine wpList_append_own_at _ hgd s x 26 ho base 23 i0 (.slice none 0 0) 1 24 Try.underlying26 hi hz0 hz1 hz2 rfl (by decide) v ps.length vs hs g2 ⟨G, 0, none⟩ 1 1 [u] hx rfl ?_ (fun y hy => by simp at hy; subst hy; rw [hus]; rfl) (by unfold maxLen; omega) (by omega) hbase ?_
  · intro j y hj
    match j, hj with
    | 0, hj =>
      simp at hj
      subst hj
      simpa [Addr.add] using hc
  · intro v' w' h2 h3 _ _
    have hO : Only (fun k => v.ownBlock = some k) w w' := Only.of_grown h3 (fun k hk => hk)
    have hlen : vs.length = ps.length := g1
    have hT : TrsD w' base v' (ps ++ [q]) := by
      refine ⟨vs ++ [u], by simp [g1], by rw [List.length_append]; exact h2, fun i hi => ?_, fun i j y z hij hy hz => ?_⟩
      · rw [List.length_append, List.length_singleton] at hi
        rcases Nat.lt_or_ge i ps.length with hlt | hge
        · obtain ⟨y, hy, hB⟩ := g3 i hlt
          refine ⟨y, by rw [List.getElem?_append_left (by omega)]; exact hy, ?_⟩
          have e : (ps ++ [q]).getD i [] = ps.getD i [] := by rw [List.getD_eq_getElem?_getD, List.getD_eq_getElem?_getD, List.getElem?_append_left hlt]
          rw [e]
          exact ownsRow_only hB hO (own_apart hB g2 (by decide))
        · obtain rfl : i = ps.length := by omega
          refine ⟨u, by rw [← g1, List.getElem?_append_right (Nat.le_refl _)]; simp, ?_⟩
          have e : (ps ++ [q]).getD ps.length [] = q := by rw [List.getD_eq_getElem?_getD, List.getElem?_append_right (Nat.le_refl _)]; simp
          rw [e]
          exact TwsAt.base (show TwsAt w' w0.heap.size u q from ownsRow_only hu hO (own_apart hu g2 (by decide))) hbase0
      · have hjl : j < (vs ++ [u]).length := (List.getElem?_eq_some_iff.1 hz).1
        rw [List.length_append, List.length_singleton] at hjl
        rw [List.getElem?_append_left (by omega)] at hy
        rcases Nat.lt_or_ge j vs.length with hlt | hge
        · rw [List.getElem?_append_left hlt] at hz
          exact g4 i j y z hij hy hz
        · rw [List.getElem?_append_right hge, show j - vs.length = 0 by omega] at hz
          simp at hz
          subst hz
          intro g hg hg2
          have a1 := hold i y hy (by omega) g hg
          have a2 := (own_type hu hg2).1
          omega
    obtain ⟨a', cap, e, _⟩ := hT.shape
    rw [List.length_append, List.length_singleton] at e
    subst e
    exact h a' cap w' hT ((Below.refl base _).grown h3 hbase (fun k hk => (World.ownsRow.lt g2 k hk).1)) hO
set_option maxRecDepth 20000 in
set_option maxHeartbeats 2000000 in
theorem Parts_okD {v : Value} {x : Tw} {ps : List (List Tw)} (w : World) (hT : TwIn w v (x :: ps.flatten)) (hf : ∀ y ∈ x :: ps.flatten, FitT y) (h : Ok (x :: ps.flatten)) (hx : x.kids = (ps.length : Int)) (hok : ∀ p ∈ ps, Ok p) (hpl : ps.length ≤ 2048) :
    Calls Try.prog 10 #[v] w fun e w' => ∃ v', e = .returned (.tuple #[v', .int .i64 0]) ∧ TrsD w' w.heap.size v' ps ∧ Below w.heap.size w w' := by
  have hl := ((ok_iff _).1 h).2
  have hkids := ok_kids h
  have hc := fun W (hT : TwIn W v (x :: ps.flatten)) => Check_ok W hT hf (E := 0) h
  obtain ⟨i0, hi, hz0, hz1, hz2⟩ := tr_parts
  have htw : ∀ W v i, i < ps.length → TwIn W v (ps.drop i).flatten → Calls Try.prog 22 #[v] W fun e w' => e = .returned (.int .i64 ((ps.getD i []).length : Int)) ∧ w' = W := by
    intro W v i hi hT
    have hd : ps.drop i = ps.getD i [] :: ps.drop (i + 1) := by
      rw [List.drop_eq_getElem_cons hi, List.getD_eq_getElem?_getD, List.getElem?_eq_getElem hi]
      rfl
    have hs : ((ps.drop i).flatten).Sublist ps.flatten := by
      conv => rhs; rw [← List.take_append_drop i ps]
      rw [List.flatten_append]
      exact List.sublist_append_right _ _
    have hq : Ok (ps.getD i []) := hok _ (by rw [List.getD_eq_getElem?_getD, List.getElem?_eq_getElem hi]; exact List.getElem_mem _)
    refine twigs_any W hT (fun y hy => hkids y (List.mem_cons_of_mem _ (hs.subset hy))) (by have := hs.length_le; rw [List.length_cons] at hl; omega) ?_
    rw [hd, List.flatten_cons]
    exact endL_append _ _ _ _ (ok_end hq)
  have hlen0 : ∀ i, i < ps.length → 0 < (ps.getD i []).length := by
    intro i hi
    exact ((ok_iff _).1 (hok _ (by rw [List.getD_eq_getElem?_getD, List.getElem?_eq_getElem hi]; exact List.getElem_mem _))).1.1
  have hfl : ∀ i, (ps.drop i).flatten.length ≤ 2048 := by
    intro i
    have hs : ((ps.drop i).flatten).Sublist ps.flatten := by
      conv => rhs; rw [← List.take_append_drop i ps]
      rw [List.flatten_append]
      exact List.sublist_append_right _ _
    have := hs.length_le
    rw [List.length_cons] at hl
    omega
  replace hc := Lib.hid hc
  replace hf := Lib.hid hf
  replace htw := Lib.hid htw
  replace hlen0 := Lib.hid hlen0
  replace hfl := Lib.hid hfl
  have hTT := Lib.hid hT
  obtain ⟨a, cap, rfl, hlc, hcm, h3⟩ := hT
  obtain ⟨g, off, rfl, hg, hcell⟩ := h3 (by simp)
  have p1 := hcell 0 (by simp) 1 (by omega)
  clear h3 hcell h hkids hok
  rcases x with ⟨op, kids, num, text⟩
  dsimp only at hx
  subst hx
  simp only [List.getElem_cons_zero, twC, List.getElem?_cons_succ, List.getElem?_cons_zero, Nat.zero_mul, Nat.add_zero] at p1
  rw [List.length_cons] at hlc hl
  obtain ⟨N, hN⟩ := exHid ((⟨op, (ps.length : Int), num, text⟩ :: ps.flatten : List Tw).length)
  have hN2 : N = ps.flatten.length + 1 := by rw [← hN.out]; rfl
  have hN3 : N ≤ 2048 := by omega
  have hN4 : 0 < N := by omega
  have hN5 : N ≤ cap := by omega
  replace hN2 := Lib.hid hN2
  rw [hN.out] at hTT hc ⊢
  clear hl hlc
  replace hi := Lib.hid hi
  go_enter Try.func10, Try.ntmps10
  go_wp2_with fail
  refine (hc.out _ hTT.out).mono ?_
  rintro e w1 ⟨k, rfl, hb1⟩
  have p1' := cell_on p1 hb1
  obtain ⟨w2, hmk, hown, hgr⟩ := run_makeSlice_owned (P := Try.prog) w1 w.heap.size 26 23 i0 (.slice none 0 0) 1 Try.underlying26 hi.out hz0 hz1 .i64 .i64 ps.length (by omega) (by rw [hz2]; omega) (by unfold maxLen; omega) hb1.size
  have hb2 : Below w.heap.size w w2 := hb1.trans ((Below.refl _ _).grown hgr hb1.size (fun k hk => by cases hk))
  have hT0 := Lib.hid (TrsD.nil_made hown)
  replace hb2 := Lib.hid hb2
  clear p1 hown hgr hb1
  obtain ⟨a2, ha2, hs2⟩ := run_tail g off 1 N cap (by omega) hN5 1 rfl
  have hR := Lib.hid (TwIn.tail (p := [⟨op, (ps.length : Int), num, text⟩]) (q := ps.flatten) (m := N - 1) (c2 := cap - 1) (o2 := off + 4) (a2 := a2) (cap := cap) (by
    have := hTT.out
    rw [← hN.out] at this
    exact this) (by rw [hN2.out]; omega) rfl (by simp) ha2)
  clear ha2
  go_wp2_with fail
  clear hs2 hmk p1' hc hTT hi hz0 hz1 hz2 hN2 hN3 hN4 hN5
  go_loopw [6, 7] (fun t6 t7 wr => ∃ i : Nat, i ≤ ps.length ∧ Hid (TrsD wr w.heap.size t6 (ps.take i)) ∧ Hid (TwIn w t7 (ps.drop i).flatten) ∧ Hid (Below w.heap.size w wr)) (fun _ t7 _ => lenOf t7)
  case atStart => exact ⟨0, by omega, by rw [List.take_zero]; exact hT0, by rw [List.drop_zero]; exact hR, hb2⟩
  case round =>
    clear hT0 hR hb2
    obtain ⟨i, hile, hT6, hT7, hB⟩ := hrel
    rcases Nat.lt_or_ge i ps.length with hlt | hge
    · have c := Lib.hid (htw.out wr _ i hlt (hT7.out.below hB.out))
      have hd : ps.drop i = ps.getD i [] :: ps.drop (i + 1) := by
        rw [List.drop_eq_getElem_cons hlt, List.getD_eq_getElem?_getD, List.getElem?_eq_getElem hlt]
        rfl
      have htk : ps.take (i + 1) = ps.take i ++ [ps.getD i []] := by
        rw [List.take_add_one, List.getD_eq_getElem?_getD, List.getElem?_eq_getElem hlt]
        rfl
      have hn0 := hlen0.out i hlt
      have hf0 := hfl.out i
      rw [hd, List.flatten_cons] at hT7 hf0
      generalize ps.getD i [] = p at *
      obtain ⟨a7, c7, e7, hl7, hm7, h7⟩ := hT7.out
      obtain ⟨g7, o7, rfl, hg7, hcl⟩ := h7 (by rw [List.length_append]; omega)
      subst e7
      clear hcl h7
      have hpl2 : p.length ≤ (p ++ (ps.drop (i + 1)).flatten).length := by rw [List.length_append]; omega
      have hr2 : (p ++ (ps.drop (i + 1)).flatten).length - p.length = ((ps.drop (i + 1)).flatten).length := by rw [List.length_append]; omega
      have hH := Lib.hid ((TwIn.head hT7.out (n := p.length) rfl).below hB.out)
      obtain ⟨a2, ha2, hs2⟩ := run_tail g7 o7 p.length _ c7 hpl2 hl7 _ rfl
      have hTl := fun W (h : TwIn W _ _) => TwIn.tail (p := p) (q := (ps.drop (i + 1)).flatten) (g := g7) (off := o7) (cap := c7) h hr2 rfl rfl ha2
      have hs1 := run_head g7 o7 p.length _ c7 hpl2 hl7 hn0
      replace hTl := Lib.hid hTl
      replace hd := Lib.hid hd
      replace htk := Lib.hid htk
      generalize hL : (p ++ (ps.drop (i + 1)).flatten).length = L at *
      replace hL := Lib.hid hL
      have hL0 : (0 : Int) < (L : Int) := by omega
      have hpl3 : p.length ≤ 2048 := by omega
      generalize hn : p.length = n at *
      replace hn := Lib.hid hn
      clear ha2 hr2 htw hlen0 hfl
      have hlen6 : (ps.take i).length ≤ 1000000000 := by rw [List.length_take]; omega
      go_wp2_with fail
      refine c.out.mono ?_
      rintro e w3 ⟨rfl, rfl⟩
      go_wp2_with fail
      refine (CloneTw_any hH.out (by rw [hn.out]; omega)).mono ?_
      rintro e w4 ⟨v4, rfl, hO4, hb4⟩
      obtain ⟨a4, c4, e4, _⟩ := hO4.shape
      rw [hn.out] at e4
      subst e4
      have hsz4 := hb4.size
      have hszB := hB.out.size
      have hal := (Below.refl w4.heap.size w4).alloc (Nat.le_refl _) (.cells #[.slice a4 n c4] 23)
      have hT6' := Lib.hid hT6.out
      have hO4' := Lib.hid (hO4.below hal)
      have hb4a := Lib.hid (hb4.trans (hal.mono hb4.size))
      have hT7' := Lib.hid (hTl.out _ hT7.out)
      have hB4 := Lib.hid ((hB.out.trans (hb4.mono hszB)).trans (hal.mono (show w.heap.size ≤ w4.heap.size by omega)))
      have hcl := (one_cell w4 #[.slice a4 n c4] 23 0).trans (show _ = some (Value.slice a4 n c4) from rfl)
      replace hb4 := Lib.hid hb4
      clear hT6 hT7 hH hO4 hal hTl c hB
      go_wp2_with (at_builtin; (refine wpList_append_trd (base := w.heap.size) (ps := ps.take i) (q := p) rfl _ _ rfl rfl hT6'.out hb4a.out rfl hcl hO4'.out hlen6 hszB ?_; intro a5 c5 w5 hT5 hB5 hO5))
      have hB6 := hB4.out.trans hB5
      have hli : (ps.take i).length = i := by rw [List.length_take]; omega
      rw [hli] at hT5
      go_roundw
      case rel => exact ⟨i + 1, by omega, by rw [htk.out]; exact Lib.hid hT5, hT7', Lib.hid hB6⟩
      case measure => simp [lenOf]; omega
    · have e0 : ps.drop i = [] := List.drop_eq_nil_of_le hge
      have e1 : ps.take i = ps := List.take_of_length_le hge
      rw [e1] at hT6
      obtain ⟨a7, c7, e7, hl7, hm7, h7⟩ := hT7.out
      rw [e0] at e7
      subst e7
      clear h7 hl7 hT7 htw hlen0 hfl e0 e1
      go_wp2_with fail
      go_ret2
      exact ⟨_, rfl, hT6.out, hB.out⟩
end Go.Proofs.Ythgkkdhalcpgbaa
