/- The walk of HeapTakes: it answers true for every keys, numbers and new keys. -/
import Derived.Test.YtabcifaknckomaaHTakesP
import Derived.OwnWalk
namespace Go.Proofs.Ytabcifaknckomaa
open Go.RowKit HI

theorem infoB : (Try.prog.info? 4).map (fun i => (i.zero, i.size, i.bytes)) = some (some (.bool false), 1, 1) := by kernel_rfl
theorem made_bools (n : Nat) : (madeCells (Value.bool false).cells (n * 1)).toList = (List.replicate n false).map Value.bool := by
  rw [Nat.mul_one]
  have := toList_madeCells_one (.bool false) n
  rw [List.map_replicate]
  exact this

/-- The blocks of the heap of this call. -/
def TF (B tg : Nat) (j : Nat) : Prop := B ≤ j ∧ j ≠ tg

set_option maxRecDepth 100000 in
set_option maxHeartbeats 1000000 in
theorem takes_long (a0 a1 a2 : Option Addr) (l0 c0 l1 c1 l2 c2 : Nat) (w : World) (h : 100 < l0 ∨ (l0 ≤ 100 ∧ 100 < l1)) :
    Calls Try.prog 6 #[.slice a0 l0 c0, .slice a1 l1 c1, .slice a2 l2 c2] w fun e w' => e = .returned (.bool true) ∧ Below w.heap.size w w' := by
  rcases h with h | ⟨h, h'⟩
  · have e1 : (100 : Int) < l0 := by omega
    go_enter Try.func6, Try.ntmps6
    go_wp2_with (go_at_call 7; refine (awake_any _).mono ?_; rintro e w1 ⟨rfl, hb1⟩)
    go_ret
    exact ⟨rfl, hb1⟩
  · have e1 : ¬ (100 : Int) < l0 := by omega
    have e2 : (100 : Int) < l1 := by omega
    go_enter Try.func6, Try.ntmps6
    go_wp2_with (go_at_call 7; refine (awake_any _).mono ?_; rintro e w1 ⟨rfl, hb1⟩)
    go_ret
    exact ⟨rfl, hb1⟩

theorem low_not {a b c d : Int} (h : lexLt a b c d) : ¬ lexLt c d a b := by unfold lexLt at *; omega
theorem lies_of {w : World} {k : IntKind} {a : Option Addr} {len : Nat} {zs : List Int} (h : 0 < len → ∃ b off, a = some ⟨b, off, none⟩ ∧ b < w.heap.size ∧ ∀ j, j < len → w.cell? ⟨b, off + j, none⟩ = some (.int k (zs.getD j 0))) : Lies w k a len zs := fun h0 => by
  obtain ⟨b, off, e, _, hc⟩ := h h0
  exact ⟨b, off, e, hc⟩

set_option maxRecDepth 100000 in
set_option maxHeartbeats 8000000 in
theorem takes_main (a0 a1 a2 : Option Addr) (l0 c0 l1 c1 l2 c2 : Nat) (zs gs ns : List Int) (w : World) (h0 : l0 = zs.length) (h100 : l0 ≤ 100) (h101 : l1 ≤ 100) (h2m : l2 ≤ 9223372036854775807)
    (hz : ∀ z ∈ zs, I64 z) (hg : ∀ z ∈ gs, I64 z) (hn : ∀ z ∈ ns, I64 z) (z0 : Lies w .i64 a0 l0 zs) (z1 : Lies w .i64 a1 l1 gs) (z2 : Lies w .i64 a2 l2 ns) :
    Calls Try.prog 6 #[.slice a0 l0 c0, .slice a1 l1 c1, .slice a2 l2 c2] w fun e w' => e = .returned (.bool true) ∧ Below w.heap.size w w' := by
  have e1 : ¬ (100 : Int) < l0 := by omega
  have e2 : ¬ (100 : Int) < l1 := by omega
  obtain ⟨i0, hi, hz0, hz1, hz2⟩ := info_parts infoB
  have hby : i0.bytes * l0 ≤ 281474976710656 := by rw [hz2]; omega
  replace h0 := Lib.hid h0
  replace z0 := Lib.hid z0
  replace z1 := Lib.hid z1
  replace z2 := Lib.hid z2
  replace hz := Lib.hid hz
  replace hg := Lib.hid hg
  replace hn := Lib.hid hn
  go_enter Try.func6, Try.ntmps6
  go_wp2_with fail
  refine (awake_any _).mono ?_
  rintro e w1 ⟨rfl, hb1⟩
  go_wp2_with fail
  refine (filled_any (by omega) (z0.out.below hb1)).mono ?_
  rintro e w2 ⟨hb, rfl, hH2, hb2⟩
  have hB2 := below_next hb1 hb2
  have hH2' : Hp (TF w.heap.size w2.heap.size) w2 hb (fillL zs l0) l0 := by
    obtain ⟨bm, sv, d, g1, g2, g3, g4⟩ := hH2
    exact ⟨bm, sv, d, g1, g2, g3, fun k hk => ⟨Nat.le_trans hb1.size (g4 k hk), by
      have : k < w2.heap.size := by
        rcases hk with e | e | e
        · rw [e]; exact g1.lt
        · rw [e]; exact g1.ltm
        · exact g1.ltg e
      omega⟩⟩
  clear hH2 hb2 hb1
  go_wp2_with (first
    | (at_make; (refine wpList_make_full _ rfl _ _ 56 rfl 0 4 i0 (.bool false) 1 Try.underlying56 hi hz0 hz1 .i64 .i64 _ _ l0 rfl rfl rfl rfl hby (by unfold maxLen; omega) (Nat.zero_le _) ?_; intro w3 hrow3 hgr3)))
  rw [made_bools] at hrow3
  have hB3 : Below w.heap.size w w3 := hB2.grown hgr3 hB2.size (fun k hk => by cases hk)
  have hH3 := hH2'.kept (Only.of_grown (F := fun _ => False) hgr3 (fun k e => by cases e)) (fun _ _ _ h => h)
  generalize htg : w2.heap.size = tg at hrow3 hH3 ⊢
  have htgw : w.heap.size ≤ tg := by rw [← htg]; exact hB2.size
  clear htg hH2' hgr3 hB2
  go_loopw [9, 10] (fun tk i wr => ∃ (k t : Nat) (C : Int → Prop) (tb : List Bool) (L : List T), k ≤ l1 ∧ i = .int .i64 k ∧ tk = .int .i64 t ∧ L.length + t = l0 ∧ Tk zs C tb L ∧ (∀ x ∈ L, I64 x.key) ∧ Hp (TF w.heap.size tg) wr hb L l0 ∧ wr.ownsRow 0 4 1 (.slice (some ⟨tg, 0, none⟩) l0 l0) l0 (tb.map Value.bool) ∧ Below w.heap.size w wr ∧ (∀ j, C j → ∃ i', i' < k ∧ i' < l2 ∧ gs.getD i' 0 = j)) (fun _ i _ => l1 - (intOf i).toNat)
  case atStart => exact ⟨0, 0, fun _ => False, List.replicate l0 false, fillL zs l0, Nat.zero_le _, rfl, rfl, by rw [fillL_length]; rfl, by rw [h0.out]; exact Tk.start zs, fillL_key hz.out (by rw [h0.out]; exact Nat.le_refl _), hH3, hrow3, hB3, fun j h => h.elim⟩
  case round =>
    obtain ⟨k, t, C, tb, L, hk, rfl, rfl, hLt, hT, hK, hH, hrow, hB, hC⟩ := hrel
    clear hH3 hrow3 hB3
    by_cases hlt : k < l1
    · obtain ⟨gb, go, rfl, hgc⟩ := z1.out.below hB (by omega)
      have hgk := hgc k hlt
      replace hgc := Lib.hid hgc
      have hkl : (k : Int) < l1 := by omega
      obtain ⟨zv, hzv⟩ := exHid (gs.getD k 0)
      rw [hzv.out] at hgk
      have hzI : I64 zv := by rw [← hzv.out]; exact getD_I64 hg.out k
      have hzl := Lib.hid hT.len
      have hC' : ∀ j, (C j ∨ j = zv) → k < l2 → ∃ i', i' < k + 1 ∧ i' < l2 ∧ gs.getD i' 0 = j := by
        intro j hj hk2
        rcases hj with hj | hj
        · obtain ⟨i', h1, h2, h3⟩ := hC j hj
          exact ⟨i', by omega, h2, h3⟩
        · exact ⟨k, by omega, hk2, by rw [hzv.out, hj]⟩
      have hC1 : ∀ j, C j → ∃ i', i' < k + 1 ∧ i' < l2 ∧ gs.getD i' 0 = j := fun j hj => by
        obtain ⟨i', h1, h2, h3⟩ := hC j hj
        exact ⟨i', by omega, h2, h3⟩
      replace hC' := Lib.hid hC'
      replace hC1 := Lib.hid hC1
      replace hC := Lib.hid hC
      have hT' := Lib.hid hT
      have hK' := Lib.hid hK
      have hLt' : L.length ≤ l0 := by omega
      replace hLt := Lib.hid hLt
      clear hT hK
      by_cases hin : 0 ≤ zv ∧ zv < l0
      · obtain ⟨hz0, hz1⟩ := hin
        obtain ⟨j, rfl⟩ := Int.eq_ofNat_of_zero_le hz0
        have hj : j < l0 := by omega
        have htc := bools_cell hrow hj (by rw [hzl.out, ← h0.out])
        have hfz := hrow.frozenAt j
        cases htj : tb.getD j false
        · -- it is there
          rw [htj] at htc
          obtain ⟨y, hy, hyn⟩ := (hT'.out.there j (by rw [← h0.out]; exact hj)).2 htj
          replace htj := Lib.hid htj
          by_cases hk2 : k < l2
          · obtain ⟨nb, no, rfl, hnc⟩ := z2.out.below hB (by omega)
            have hnk := hnc k hk2
            replace hnc := Lib.hid hnc
            have hkl2 : (k : Int) < l2 := by omega
            obtain ⟨nv, hnv⟩ := exHid (ns.getD k 0)
            rw [hnv.out] at hnk
            have CC := hp_change_some hH hy nv
            rw [hyn] at CC
            replace CC := Lib.hid CC
            replace hyn := Lib.hid hyn
            go_wp2_with (go_at_call 15; refine CC.out.mono ?_; rintro e w4 ⟨rfl, hH4, ho4⟩)
            go_roundw
            case rel =>
              have hk1 := hn.out
              exact ⟨k + 1, t, _, tb, _, by omega, by go_num, rfl, by unfold rekeyL; rw [List.length_map]; exact hLt.out, hT'.out.change j nv, rekeyL_key hK'.out (by rw [← hnv.out]; exact getD_I64 hk1 k), hH4, ownsRow_only hrow ho4 (fun g hg' e => by injection hg' with hg'; exact e.2 hg'.symm), hB.trans (ho4.below hB.size (fun q hq h => by unfold TF at h; omega)), fun q hq => hC'.out q hq hk2⟩
            case measure => simp [intOf]; omega
          · have hkl2 : ¬ (k : Int) < l2 := by omega
            have RR := hp_remove_some hH hy
            have hv := (hT'.out.rng y hy).1
            rw [hv, hyn] at RR
            replace RR := Lib.hid RR
            have hnd := Lib.hid hH.nodup
            replace hyn := Lib.hid hyn
            replace hv := Lib.hid hv
            have hts : (t : Int) + 1 ≤ 9223372036854775807 := by have := hLt.out; omega
            go_wp2_with (go_at_call 13; refine RR.out.mono ?_; rintro e w4 ⟨L', rfl, hp4, hH4, ho4⟩; have hrow4 := ownsRow_only hrow ho4 (fun g hg' e => by injection hg' with hg'; exact e.2 hg'.symm); have hf4 := hrow4.frozenAt j; have hc4 : w4.cell? ⟨tg, j, none⟩ = some (.bool false) := (by rw [bools_cell hrow4 hj (by rw [hzl.out, ← h0.out]), htj.out]))
            go_roundw
            case rel =>
              have hr5 := bools_set hrow4 j true
              have ho5 : Only (fun q => q = tg) w4 (w4.setCell ⟨tg, j, none⟩ (.bool true)) := (Only.refl (fun q => q = tg) w4).setCell (p := ⟨tg, j, none⟩) (.inl rfl) _
              exact ⟨k + 1, t + 1, C, _, L', by omega, by go_num, by go_num, by have h1 := hp4.length_eq; have h2 := hLt.out; rw [List.length_cons] at h1; omega, hT'.out.remove hnd.out hp4 hyn.out (by rw [← h0.out]; exact hj), fun x hx => hK'.out x (hp4.mem_iff.1 (List.mem_cons_of_mem _ hx)), hH4.kept ho5 (fun q _ h e => h.2 e), hr5, (hB.trans (ho4.below hB.size (fun q hq h => by unfold TF at h; omega))).trans (ho5.below (Nat.le_trans hB.size ho4.size) (fun q hq h => by omega)), hC1.out⟩
            case measure => simp [intOf]; omega
        · -- it is gone
          rw [htj] at htc
          replace htj := Lib.hid htj
          by_cases hk2 : k < l2
          · have hkl2 : (k : Int) < l2 := by omega
            go_wp2
            go_roundw
            case rel => exact ⟨k + 1, t, C, tb, L, by omega, by go_num, rfl, hLt.out, hT'.out, hK'.out, hH, hrow, hB, hC1.out⟩
            case measure => simp [intOf]; omega
          · have hkl2 : ¬ (k : Int) < l2 := by omega
            go_wp2
            go_roundw
            case rel => exact ⟨k + 1, t, C, tb, L, by omega, by go_num, rfl, hLt.out, hT'.out, hK'.out, hH, hrow, hB, hC1.out⟩
            case measure => simp [intOf]; omega
      · have hnone : ∀ y ∈ L, y.num ≠ zv := fun y hy e => by
          obtain ⟨_, h1, h2⟩ := hT'.out.rng y hy
          have := h0.out
          omega
        have RR := Lib.hid (hp_remove_none hH hzI hnone)
        replace hnone := Lib.hid hnone
        have hcase : ∀ (Q : Prop), ((hx : ¬ 0 ≤ zv) → Q) → ((hx : 0 ≤ zv) → (hy : ¬ zv < l0) → Q) → Q := by
          intro Q q1 q2
          by_cases hx : 0 ≤ zv
          · exact q2 hx (fun hy => hin ⟨hx, hy⟩)
          · exact q1 hx
        clear hin
        by_cases hk2 : k < l2
        · have hkl2 : (k : Int) < l2 := by omega
          refine hcase _ (fun hx => ?_) (fun hx hy => ?_)
          all_goals
            go_wp2
            go_roundw
            case rel => exact ⟨k + 1, t, C, tb, L, by omega, by go_num, rfl, hLt.out, hT'.out, hK'.out, hH, hrow, hB, hC1.out⟩
            case measure => simp [intOf]; omega
        · have hkl2 : ¬ (k : Int) < l2 := by omega
          refine hcase _ (fun hx => ?_) (fun hx hy => ?_)
          all_goals
            go_wp2_with (go_at_call 13; refine RR.out.mono ?_; rintro e w4 ⟨rfl, rfl⟩)
            go_roundw
            case rel => exact ⟨k + 1, t, C, tb, L, by omega, by go_num, rfl, hLt.out, hT'.out, hK'.out, hH, hrow, hB, hC1.out⟩
            case measure => simp [intOf]; omega
    · have hkl : ¬ (k : Int) < l1 := by omega
      have hzl := Lib.hid hT.len
      replace hT := Lib.hid hT
      replace hK := Lib.hid hK
      replace hC := Lib.hid hC
      replace hLt := Lib.hid hLt
      go_wp2
      go_loopw [15] (fun i wi => ∃ (m : Nat) (tb2 : List Bool), m ≤ l1 ∧ i = .int .i64 m ∧ tb2.length = l0 ∧ Hp (TF w.heap.size tg) wi hb L l0 ∧ wi.ownsRow 0 4 1 (.slice (some ⟨tg, 0, none⟩) l0 l0) l0 (tb2.map Value.bool) ∧ Below w.heap.size w wi ∧ (∀ j, j < l0 → tb2.getD j false = false → ∀ i', i' < m → i' < l2 → gs.getD i' 0 ≠ j)) (fun i _ => l1 - (intOf i).toNat)
      case atStart => exact ⟨0, tb, Nat.zero_le _, rfl, by rw [hzl.out, ← h0.out], hH, hrow, hB, fun j _ _ i' h => by omega⟩
      case round =>
        clear hH hrow hB
        obtain ⟨m, tb2, hm, rfl, htl, hH, hrow, hB, hM⟩ := hrel
        by_cases hlt2 : m < l1 ∧ m < l2
        · obtain ⟨hm1, hm2⟩ := hlt2
          obtain ⟨gb, go, rfl, hgc⟩ := z1.out.below hB (by omega)
          have hgm := hgc m hm1
          replace hgc := Lib.hid hgc
          have hml1 : (m : Int) < l1 := by omega
          have hml2 : (m : Int) < l2 := by omega
          obtain ⟨zv, hzv⟩ := exHid (gs.getD m 0)
          rw [hzv.out] at hgm
          have hM' : zv < 0 ∨ (l0 : Int) ≤ zv → ∀ j, j < l0 → tb2.getD j false = false → ∀ i', i' < m + 1 → i' < l2 → gs.getD i' 0 ≠ j := by
            intro hout j hj hf i' h1 h2
            by_cases e : i' = m
            · rw [e, hzv.out]; omega
            · exact hM j hj hf i' (by omega) h2
          have hM2 : ∀ q, zv = (q : Nat) → ∀ j, j < l0 → (tb2.set q true).getD j false = false → q < l0 → ∀ i', i' < m + 1 → i' < l2 → gs.getD i' 0 ≠ j := by
            intro q hq j hj hf hql i' h1 h2
            rw [set_getD (by omega)] at hf
            by_cases ej : j = q
            · rw [if_pos ej] at hf; simp at hf
            · rw [if_neg ej] at hf
              by_cases e : i' = m
              · rw [e, hzv.out, hq]; omega
              · exact hM j hj hf i' (by omega) h2
          replace hM' := Lib.hid hM'
          replace hM2 := Lib.hid hM2
          replace hM := Lib.hid hM
          by_cases hneg : 0 ≤ zv
          · by_cases hbig : zv < l0
            · obtain ⟨q, rfl⟩ := Int.eq_ofNat_of_zero_le hneg
              have hq : q < l0 := by omega
              have htc := bools_cell hrow hq htl
              have hfz := hrow.frozenAt q
              have hr5 := Lib.hid (bools_set hrow q true)
              have ho5 := fun u => (Only.refl (fun q => q = tg) wr).setCell (p := ⟨tg, q, none⟩) (.inl rfl) u
              replace ho5 := Lib.hid ho5
              go_wp2
              go_roundw
              case rel => exact ⟨m + 1, tb2.set q true, by omega, by go_num, by simp [htl], hH.kept (ho5.out _) (fun q _ h e => h.2 e), hr5.out, hB.trans ((ho5.out _).below hB.size (fun q' hq' h' => by omega)), fun j hj hf => hM2.out q rfl j hj hf hq⟩
              case measure => simp [intOf]; omega
            · go_wp2
              go_roundw
              case rel => exact ⟨m + 1, tb2, by omega, by go_num, htl, hH, hrow, hB, hM'.out (.inr (by omega))⟩
              case measure => simp [intOf]; omega
          · go_wp2
            go_roundw
            case rel => exact ⟨m + 1, tb2, by omega, by go_num, htl, hH, hrow, hB, hM'.out (.inl (by omega))⟩
            case measure => simp [intOf]; omega
        · have hcase : ∀ (Q : Prop), ((hx : ¬ (m : Int) < l1) → Q) → ((hx : (m : Int) < l1) → (hy : ¬ (m : Int) < l2) → Q) → Q := by
            intro Q q1 q2
            by_cases hx : (m : Int) < l1
            · exact q2 hx (by omega)
            · exact q1 hx
          have hkeys : ∀ x ∈ L, tb2.getD x.num.toNat false = false → x.key = zs.getD x.num.toNat 0 := by
            intro x hx hf
            refine hT.out.key x hx (fun hCx => ?_)
            obtain ⟨i', g1, g2, g3⟩ := hC.out _ hCx
            obtain ⟨_, r1, r2⟩ := hT.out.rng x hx
            have := h0.out
            exact hM x.num.toNat (by omega) hf i' (by omega) g2 (by rw [g3]; omega)
          have hrng : ∀ x ∈ L, x.v = x.num ∧ 0 ≤ x.num ∧ x.num < l0 := fun x hx => by have := hT.out.rng x hx; rw [← h0.out] at this; exact this
          have hlow : ∀ x ∈ L, lexLt (-9223372036854775808) (-1) x.key x.num := fun x hx => by
            have h1 := (hK.out x hx).1
            have h2 := (hrng x hx).2.1
            unfold lexLt
            omega
          have hLen := hp_len hH
          replace hkeys := Lib.hid hkeys
          replace hrng := Lib.hid hrng
          replace hlow := Lib.hid hlow
          replace hM := Lib.hid hM
          have htlz : (t : Int) ≤ l0 := by have := hLt.out; omega
          have hLl : (L.length : Int) = l0 - t := by have := hLt.out; omega
          rw [hLl] at hLen
          replace hLen := Lib.hid hLen
          replace hLl := Lib.hid hLl
          clear hlt2
          refine hcase _ (fun hx => ?_) (fun hx hy => ?_)
          all_goals
            clear hcase
            go_wp2_with (go_at_call 21; refine hLen.out.mono ?_; rintro e w5 ⟨rfl, rfl⟩)
            go_loopw [16, 17] (fun lk la wr => ∃ (k1 n1 : Int) (L3 : List T), lk = .int .i64 k1 ∧ la = .int .i64 n1 ∧ Hp (TF w.heap.size tg) wr hb L3 l0 ∧ (∀ x ∈ L3, x ∈ L) ∧ (∀ x ∈ L3, ¬ lexLt x.key x.num k1 n1) ∧ wr.ownsRow 0 4 1 (.slice (some ⟨tg, 0, none⟩) l0 l0) l0 (tb2.map Value.bool) ∧ Below w.heap.size w wr) (fun _ _ wr => hpLen wr hb)
            case atStart => exact ⟨-9223372036854775808, -1, L, rfl, rfl, hH, fun x hx => hx, fun x hx => low_not (hlow.out x hx), hrow, hB⟩
            case round =>
              clear hH hrow hB hlow hLen hLl
              obtain ⟨k1, n1, L3, rfl, rfl, hH, hsub, hlo, hrow, hB⟩ := hrel
              replace hsub := Lib.hid hsub
              replace hlo := Lib.hid hlo
              have hl := hp_len hH
              by_cases h3 : L3.length = 0
              · rw [h3] at hl
                replace hl := Lib.hid hl
                replace h3 := Lib.hid h3
                go_wp2_with (go_at_call 21; refine hl.out.mono ?_; rintro e w5 ⟨rfl, rfl⟩)
                go_ret
                exact ⟨rfl, hB⟩
              · obtain ⟨n3, hn3⟩ : ∃ n3, L3.length = n3 := ⟨_, rfl⟩
                rw [hn3] at hl
                have hpos : (0 : Int) < n3 := by omega
                have hpos2 : 0 < L3.length := by omega
                clear h3
                replace hl := Lib.hid hl
                replace hn3 := Lib.hid hn3
                go_wp2_with fail
                refine hl.out.mono ?_
                rintro e w5 ⟨rfl, rfl⟩
                go_wp2_with fail
                refine (hp_pop_some hH hpos2).mono ?_
                rintro e w4 ⟨⟨xk, xn, xv⟩, L4, rfl, hfx, hp4, hH4, ho4⟩
                have hmem : ∀ y ∈ L4, y ∈ L3 := fun y hy => hp4.mem_iff.1 (List.mem_cons_of_mem _ hy)
                have hxL := hsub.out _ hfx.1
                obtain ⟨hv, hx0, hx1⟩ := hrng.out _ hxL
                have hkx := hkeys.out _ hxL
                have hle := hlo.out _ hfx.1
                have hnext : ∀ y ∈ L4, ¬ lexLt y.key y.num xk xn := fun y hy => hfx.2 y (hmem y hy)
                have hkeep : ∀ y ∈ L4, ¬ lexLt y.key y.num k1 n1 := fun y hy => hlo.out y (hmem y hy)
                have hsub4 : ∀ y ∈ L4, y ∈ L := fun y hy => hsub.out y (hmem y hy)
                have hms : L4.length < L3.length := by have := hp4.length_eq; rw [List.length_cons] at this; omega
                have hmeas : hpLen w4 hb < hpLen wr hb := by rw [hpLen_is hH4, hpLen_is hH]; exact hms
                dsimp only at hv hx0 hx1 hkx hle
                subst hv
                obtain ⟨j, rfl⟩ := Int.eq_ofNat_of_zero_le hx0
                rw [Int.toNat_natCast] at hkx
                have hj : j < l0 := by omega
                have hrow4 := ownsRow_only hrow ho4 (fun g hg' e => by injection hg' with hg'; exact e.2 hg'.symm)
                have hB4 : Below w.heap.size w w4 := hB.trans (ho4.below hB.size (fun q hq h => by unfold TF at h; omega))
                have htc := bools_cell hrow4 hj htl
                replace hnext := Lib.hid hnext
                replace hkeep := Lib.hid hkeep
                replace hsub4 := Lib.hid hsub4
                replace hmeas := Lib.hid hmeas
                clear hmem hxL hms hp4 hfx ho4 hH hrow hB hx0 hl hn3 hpos hpos2
                cases htj : tb2.getD j false
                · rw [htj] at htc
                  have hkx' := hkx htj
                  obtain ⟨kb, ko, rfl, hkc⟩ := z0.out.below hB4 (by omega)
                  have hkj := hkc j hj
                  rw [← hkx'] at hkj
                  replace hkc := Lib.hid hkc
                  replace hkx' := Lib.hid hkx'
                  replace hkx := Lib.hid hkx
                  replace htj := Lib.hid htj
                  by_cases hek : xk = k1
                  · subst hek
                    have hn1 : ¬ (j : Int) < n1 := fun h => hle (.inr ⟨rfl, h⟩)
                    replace hle := Lib.hid hle
                    go_wp2
                    go_roundw
                    case rel => exact ⟨xk, j, L4, rfl, rfl, hH4, hsub4.out, hnext.out, hrow4, hB4⟩
                    case measure => exact hmeas.out
                  · have hn1 : ¬ xk < k1 := fun h => hle (.inl h)
                    have hne : (xk == k1) = false := by rw [beq_eq_false_iff_ne]; exact hek
                    replace hle := Lib.hid hle
                    clear hek
                    go_wp2
                    go_roundw
                    case rel => exact ⟨xk, j, L4, rfl, rfl, hH4, hsub4.out, hnext.out, hrow4, hB4⟩
                    case measure => exact hmeas.out
                · rw [htj] at htc
                  replace htj := Lib.hid htj
                  replace hle := Lib.hid hle
                  replace hkx := Lib.hid hkx
                  go_wp2
                  go_roundw
                  case rel => exact ⟨k1, n1, L4, rfl, rfl, hH4, hsub4.out, hkeep.out, hrow4, hB4⟩
                  case measure => exact hmeas.out

theorem heapTakes_walk (v0 v1 v2 : Value) (w : World) (h0 : IntsV .i64 w v0) (h1 : IntsV .i64 w v1) (h2 : IntsV .i64 w v2) :
    Calls Try.prog 6 #[v0, v1, v2] w fun e w' => e = .returned (.bool true) ∧ Below w.heap.size w w' := by
  obtain ⟨a0, l0, c0, zs, rfl, e0, _, _, f0, g0⟩ := h0
  obtain ⟨a1, l1, c1, gs, rfl, e1, _, _, f1, g1⟩ := h1
  obtain ⟨a2, l2, c2, ns, rfl, e2, m2, m2', f2, g2⟩ := h2
  by_cases h : 100 < l0 ∨ (l0 ≤ 100 ∧ 100 < l1)
  · exact takes_long _ _ _ _ _ _ _ _ _ w h
  · exact takes_main a0 a1 a2 l0 c0 l1 c1 l2 c2 zs gs ns w e0 (by omega) (by omega) (by omega) (fun z hz => i64_of_wf (f0 z hz)) (fun z hz => i64_of_wf (f1 z hz)) (fun z hz => i64_of_wf (f2 z hz)) (lies_of g0) (lies_of g1) (lies_of g2)
end Go.Proofs.Ytabcifaknckomaa
