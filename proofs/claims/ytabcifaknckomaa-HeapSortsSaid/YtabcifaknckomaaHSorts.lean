/- The walk of HeapSorts: it answers true for every keys. -/
import Derived.Test.YtabcifaknckomaaHKeys2
import Derived.Test.YtabcifaknckomaaHTakes
namespace Go.Proofs.Ytabcifaknckomaa
open Go.RowKit HI

set_option maxRecDepth 100000 in
set_option maxHeartbeats 1000000 in
theorem sorts_long (a0 : Option Addr) (l0 c0 : Nat) (w : World) (h : 300 < l0) :
    Calls Try.prog 5 #[.slice a0 l0 c0] w fun e w' => e = .returned (.bool true) ∧ Below w.heap.size w w' := by
  have e1 : (300 : Int) < l0 := by omega
  go_enter Try.func5, Try.ntmps5
  go_wp2_with (go_at_call 7; refine (awake_any _).mono ?_; rintro e w1 ⟨rfl, hb1⟩)
  go_ret
  exact ⟨rfl, hb1⟩

/-- The blocks of the heap of this call: no later ones. -/
def SF (B C : Nat) (j : Nat) : Prop := B ≤ j ∧ j < C

theorem hp_sf {w : World} {b p B : Nat} {L : List T} (h : Hp (fun k => B ≤ k) w b L p) : Hp (SF B w.heap.size) w b L p := by
  obtain ⟨bm, sv, d, g1, g2, g3, g4⟩ := h
  exact ⟨bm, sv, d, g1, g2, g3, fun k hk => ⟨g4 k hk, by
    rcases hk with e | e | e
    · rw [e]; exact g1.lt
    · rw [e]; exact g1.ltm
    · exact g1.ltg e⟩⟩

/-- What is known of the things that the keys make, in order. -/
structure Told (zs : List Int) (S : List T) : Prop where
  len : S.length = zs.length
  ord : InOrder S
  unl : Unlike S
  nod : (S.map T.num).Nodup
  thing : ∀ k, k < S.length → ∃ j, j < zs.length ∧ at_ S k = ⟨zs.getD j 0, (j : Nat), (j : Nat)⟩
theorem told_mk {zs : List Int} {S : List T} {F : Nat → Prop} {w : World} {b p : Nat} (h : Hp F w b (fillL zs zs.length) p) (hp : S.Perm (fillL zs zs.length)) (hS : InOrder S) : Told zs S := by
  refine ⟨by rw [hp.length_eq, fillL_length], hS, fun x hx y hy e => h.nums.2.1 x (hp.mem_iff.1 hx) y (hp.mem_iff.1 hy) e, (hp.map T.num).nodup_iff.2 h.nodup, fun k hk => ?_⟩
  obtain ⟨i, hi, e⟩ := mem_fillL.1 (hp.mem_iff.1 (at_mem S k hk))
  exact ⟨i, hi, e⟩

set_option maxRecDepth 100000 in
set_option maxHeartbeats 8000000 in
theorem sorts_main (a0 : Option Addr) (l0 c0 : Nat) (zs : List Int) (w : World) (h0 : l0 = zs.length) (h300 : l0 ≤ 300) (hz : ∀ z ∈ zs, I64 z) (z0 : Lies w .i64 a0 l0 zs) :
    Calls Try.prog 5 #[.slice a0 l0 c0] w fun e w' => e = .returned (.bool true) ∧ Below w.heap.size w w' := by
  have e1 : ¬ (300 : Int) < l0 := by omega
  obtain ⟨i0, hi, hz0, hz1, hz2⟩ := info_parts infoB
  have hby : i0.bytes * l0 ≤ 281474976710656 := by rw [hz2]; omega
  replace h0 := Lib.hid h0
  replace z0 := Lib.hid z0
  replace hz := Lib.hid hz
  go_enter Try.func5, Try.ntmps5
  go_wp2_with fail
  refine (awake_any _).mono ?_
  rintro e w1 ⟨rfl, hb1⟩
  go_wp2_with fail
  refine (filled_any (by omega) (z0.out.below hb1)).mono ?_
  rintro e w2 ⟨hb, rfl, hH2, hb2⟩
  have hB2 := below_next hb1 hb2
  have hH2' := (hp_sf hH2).mono (G := SF w.heap.size w2.heap.size) (fun k hk => ⟨Nat.le_trans hb1.size hk.1, hk.2⟩)
  have hK := hp_keys hH2'
  rw [fillL_length] at hK
  go_wp2_with fail
  refine hK.mono ?_
  rintro e w3 ⟨S, rfl, hp3, hs3, hr3, hb3⟩
  have hH3 := hH2'.below hb3
  have hA := hp_all hH3
  rw [fillL_length] at hA
  go_wp2_with fail
  refine hA.mono ?_
  rintro e w4 ⟨S', rfl, hp4, hs4, hr4, hb4⟩
  have hT : Told zs S := by
    have hH := hH2'
    rw [h0.out] at hH hp3
    exact told_mk hH hp3 hs3
  have hSS : S' = S := order_unique (hp4.trans hp3.symm) hs4 hs3 (fun x hx y hy e => hT.unl x (hp3.mem_iff.2 (hp4.mem_iff.1 hx)) y (hp3.mem_iff.2 (hp4.mem_iff.1 hy)) e)
  subst hSS
  have hpS : (fillL zs l0).Perm (S'.drop 0) := by rw [List.drop_zero]; exact hp3.symm
  have hsl : S'.length = l0 := by rw [hT.len, ← h0.out]
  have hB4 := below_next (below_next hB2 hb3) hb4
  have hr3' := ownsRow_only hr3 (Only.of_below (F := fun _ => False) hb4) (fun _ _ h => h)
  have hH4 := hH3.below hb4
  have hlt23 : w2.heap.size ≤ w3.heap.size := hb3.size
  have hlt34 : w3.heap.size ≤ w4.heap.size := hb4.size
  have hltB : w.heap.size ≤ w2.heap.size := hB2.size
  have hg3 : w2.heap.size < w3.heap.size := (hr3.lt _ rfl).2
  have hg4 : w3.heap.size < w4.heap.size := (hr4.lt _ rfl).2
  clear hK hA hH2 hH2' hH3 hb1 hb2 hb3 hb4 hr3 hp3 hp4 hs3 hs4 hB2
  go_wp2_with (first
    | (at_make; refine wpList_make_full _ rfl _ _ 56 rfl 0 4 i0 (.bool false) 1 Try.underlying56 hi hz0 hz1 .i64 .i64 _ _ l0 rfl rfl rfl rfl hby (by unfold maxLen; omega) (Nat.zero_le _) ?_; intro w5 hrow5 hgr5))
  rw [made_bools] at hrow5
  have ho5 : Only (fun _ => False) w4 w5 := Only.of_grown hgr5 (fun k e => by cases e)
  have hB5 : Below w.heap.size w w5 := hB4.grown hgr5 hB4.size (fun k hk => by cases hk)
  have hH5 := hH4.kept ho5 (fun _ _ _ h => h)
  have hr35 := ownsRow_only hr3' ho5 (fun _ _ h => h)
  have hr45 := ownsRow_only hr4 ho5 (fun _ _ h => h)
  generalize htg : w4.heap.size = tg at *
  generalize ht3 : w2.heap.size = t3 at *
  generalize ht4 : w3.heap.size = t4 at *
  clear htg ht3 ht4 hH4 hr3' hr4 ho5 hgr5 hB4
  replace hT := Lib.hid hT
  replace hsl := Lib.hid hsl
  go_loopw [7, 8, 9] (fun lk la i wr => ∃ (k : Nat) (k1 n1 : Int) (tb : List Bool) (L : List T), k ≤ l0 ∧ i = .int .i64 k ∧ lk = .int .i64 k1 ∧ la = .int .i64 n1 ∧ L.Perm (S'.drop k) ∧ Hp (SF w.heap.size t3) wr hb L l0 ∧ tb.length = l0 ∧ wr.ownsRow 0 4 1 (.slice (some ⟨tg, 0, none⟩) l0 l0) l0 (tb.map Value.bool) ∧ wr.ownsRow t3 2 1 (.slice (some ⟨t3, 0, none⟩) l0 l0) l0 (S'.map fun x => .int .i64 x.key) ∧ wr.ownsRow t4 3 1 (.slice (some ⟨t4, 0, none⟩) l0 l0) l0 (S'.map fun x => .int .i64 x.v) ∧ Below w.heap.size w wr ∧ (∀ j : Nat, j < l0 → (tb.getD j false = true → ∃ i, i < k ∧ (at_ S' i).num = j)) ∧ (k < l0 → ¬ lexLt (at_ S' k).key (at_ S' k).num k1 n1)) (fun _ _ i _ => l0 - (intOf i).toNat)
  case atStart =>
    refine ⟨0, -9223372036854775808, -1, List.replicate l0 false, fillL zs l0, Nat.zero_le _, rfl, rfl, rfl, hpS, hH5, by simp, hrow5, hr35, hr45, hB5, fun j hj e => ?_, fun hk => ?_⟩
    · simp [List.getD, hj] at e
    · obtain ⟨j, hj, e⟩ := hT.out.thing 0 (by rw [hsl.out]; exact hk)
      rw [e]
      have := getD_I64 hz.out j
      unfold lexLt I64 at *
      dsimp only
      omega
  case round =>
    obtain ⟨k, k1, n1, tb, L, hk, rfl, rfl, rfl, hLp, hH, htl, hrow, hr3, hr4, hB, htb, hlo⟩ := hrel
    clear hH5 hrow5 hr35 hr45 hB5
    replace hLp := Lib.hid hLp
    replace htb := Lib.hid htb
    replace hlo := Lib.hid hlo
    by_cases hlt : k < l0
    · have hks : k < S'.length := by rw [hsl.out]; exact hlt
      have hi1 : (k : Int) < l0 := by omega
      have hL0 : 0 < L.length := by rw [hLp.out.length_eq, List.length_drop]; omega
      go_wp2_with fail
      refine (hp_pop_some hH hL0).mono ?_
      rintro e w6 ⟨x, L', rfl, hfx, hp6, hH6, ho6⟩
      have hx := first_next hLp.out hks hT.out.ord hT.out.unl hfx
      have hL6 := rest_next hLp.out hks hx hp6
      obtain ⟨j, hj, hxj⟩ := hT.out.thing k hks
      rw [← h0.out] at hj
      have hB6 : Below w.heap.size w w6 := hB.trans (ho6.below hB.size (fun q hq h => by unfold SF at h; omega))
      have hrow6 := ownsRow_only hrow ho6 (fun g hg' e => by injection hg' with hg'; simp only at hg'; unfold SF at e; omega)
      have hr36 := ownsRow_only hr3 ho6 (fun g hg' e => by injection hg' with hg'; simp only at hg'; unfold SF at e; omega)
      have hr46 := ownsRow_only hr4 ho6 (fun g hg' e => by injection hg' with hg'; simp only at hg'; unfold SF at e; omega)
      have c3 := told_cell (f := T.key) hr36 hlt hsl.out
      have c4 := told_cell (f := T.v) hr46 hlt hsl.out
      have ct := bools_cell hrow6 hj htl
      have hft := hrow6.frozenAt j
      have htj : tb.getD j false = false := by
        cases e : tb.getD j false with
        | false => rfl
        | true =>
          obtain ⟨i, hik, he⟩ := htb.out j hj e
          have := nums_at hT.out.nod (i := i) (j := k) (by omega) hks (by rw [he, hxj])
          omega
      rw [htj] at ct
      obtain ⟨kb, ko, rfl, hkc⟩ := z0.out.below hB6 (by omega)
      have hkj := hkc j hj
      replace hkc := Lib.hid hkc
      obtain ⟨zv, hzv⟩ := exHid (zs.getD j 0)
      rw [hzv.out] at hkj hxj
      have hlx := hlo.out hlt
      rw [hxj] at c3 c4 hx hlx
      dsimp only at c3 c4 hlx
      subst hx
      have hnext : k + 1 < l0 → ¬ lexLt (at_ S' (k + 1)).key (at_ S' (k + 1)).num zv (j : Nat) := fun hk1 => by
        have := order_at hT.out.ord (i := k) (j := k + 1) (by omega) (by rw [hsl.out]; exact hk1)
        rw [hxj] at this
        exact this
      have htb6 : ∀ q : Nat, q < l0 → ((tb.set j true).getD q false = true → ∃ i, i < k + 1 ∧ (at_ S' i).num = q) := by
        intro q hq e
        rw [set_getD (by omega)] at e
        by_cases eq : q = j
        · exact ⟨k, by omega, by rw [hxj, eq]⟩
        · rw [if_neg eq] at e
          obtain ⟨i, hik, he⟩ := htb.out q hq e
          exact ⟨i, by omega, he⟩
      replace hxj := Lib.hid hxj
      replace hnext := Lib.hid hnext
      replace htb6 := Lib.hid htb6
      replace htj := Lib.hid htj
      replace hL6 := Lib.hid hL6
      clear hH hrow hr3 hr4 hB hfx hp6 ho6 hL0
      have hj1 : (0 : Int) ≤ j := by omega
      have hj2 : (j : Int) < l0 := by omega
      by_cases hek : zv = k1
      · subst hek
        have hn1 : ¬ (j : Int) < n1 := fun h => hlx (.inr ⟨rfl, h⟩)
        replace hlx := Lib.hid hlx
        go_wp2
        go_roundw
        case rel =>
          have ho7 : Only (fun q => q = tg) w6 (w6.setCell ⟨tg, j, none⟩ (.bool true)) := (Only.refl (fun q => q = tg) w6).setCell (p := ⟨tg, j, none⟩) (.inl rfl) _
          exact ⟨k + 1, zv, j, _, L', by omega, by go_num, rfl, rfl, hL6.out, hH6.kept ho7 (fun q _ h e => by unfold SF at h; omega), by simp [htl], bools_set hrow6 j true, ownsRow_only hr36 ho7 (fun g hg' e => by injection hg' with hg'; simp only at hg'; omega), ownsRow_only hr46 ho7 (fun g hg' e => by injection hg' with hg'; simp only at hg'; omega), hB6.trans (ho7.below hB6.size (fun q hq h => by omega)), htb6.out, hnext.out⟩
        case measure => simp [intOf]; omega
      · have hn1 : ¬ zv < k1 := fun h => hlx (.inl h)
        have hne : (zv == k1) = false := by rw [beq_eq_false_iff_ne]; exact hek
        replace hlx := Lib.hid hlx
        clear hek
        go_wp2
        go_roundw
        case rel =>
          have ho7 : Only (fun q => q = tg) w6 (w6.setCell ⟨tg, j, none⟩ (.bool true)) := (Only.refl (fun q => q = tg) w6).setCell (p := ⟨tg, j, none⟩) (.inl rfl) _
          exact ⟨k + 1, zv, j, _, L', by omega, by go_num, rfl, rfl, hL6.out, hH6.kept ho7 (fun q _ h e => by unfold SF at h; omega), by simp [htl], bools_set hrow6 j true, ownsRow_only hr36 ho7 (fun g hg' e => by injection hg' with hg'; simp only at hg'; omega), ownsRow_only hr46 ho7 (fun g hg' e => by injection hg' with hg'; simp only at hg'; omega), hB6.trans (ho7.below hB6.size (fun q hq h => by omega)), htb6.out, hnext.out⟩
        case measure => simp [intOf]; omega
    · have hi1 : ¬ (k : Int) < l0 := by omega
      have hL : L = [] := List.eq_nil_of_length_eq_zero (by rw [hLp.out.length_eq, List.length_drop, hsl.out]; omega)
      subst hL
      have P := Lib.hid (hp_pop_none hH)
      have LL := Lib.hid (hp_len hH)
      go_wp2_with (first
        | (go_at_call 11; refine P.out.mono ?_; rintro e w' ⟨rfl, rfl⟩)
        | (go_at_call 21; refine LL.out.mono ?_; rintro e w' ⟨rfl, rfl⟩))
      go_ret
      exact ⟨rfl, hB⟩

theorem heapSorts_walk (v0 : Value) (w : World) (h0 : IntsV .i64 w v0) :
    Calls Try.prog 5 #[v0] w fun e w' => e = .returned (.bool true) ∧ Below w.heap.size w w' := by
  obtain ⟨a0, l0, c0, zs, rfl, e0, _, _, f0, g0⟩ := h0
  by_cases h : 300 < l0
  · exact sorts_long _ _ _ w h
  · exact sorts_main a0 l0 c0 zs w e0 (by omega) (fun z hz => i64_of_wf (f0 z hz)) (lies_of g0)
end Go.Proofs.Ytabcifaknckomaa
