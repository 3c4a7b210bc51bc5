/- The law CheckRenamed: where all variables have other names, unlike ones unlike ones, all slots stay. -/
import Derived.Test.YtngbekhegnmfaaaCkX
import Derived.Test.YtngbekhegnmfaaaCkW
import Derived.Test.YtngbekhegnmfaaaROpenZ
import Derived.Test.YtngbekhegnmfaaaRSet
import Derived.Deep.AppendSrc
import Derived.Lib.SliceRun
namespace Go.Proofs.Ytngbekhegnmfaaa
open Go.RowKit Go.Shelf

theorem tws_newC (w : World) (cs : Array Value) (hcs : cs = #[]) : TwsAt (w.alloc (.cells cs 40)) w.heap.size (.slice (some ⟨w.heap.size, 0, none⟩) 0 0) [] := by
  subst hcs
  exact ⟨rfl, .inr ⟨w.heap.size, 0, #[], rfl, Nat.le_refl _, heap_alloc_new w _, Nat.le_refl _, by unfold maxLen; omega, rfl, rfl⟩⟩
theorem append_noneC (w : World) (ty : TypeId) (b cap : Nat) : (Builtin.append_ #[23, 23] ty #[.slice (some ⟨b, 0, none⟩) 0 0, .slice none 0 cap]).run Try.prog w = .ok (.slice (some ⟨b, 0, none⟩) 0 0) w := by
  obtain ⟨i0, hi, hz0, hz1, hz2⟩ := tw_parts
  have h := run_append_room_src (P := Try.prog) w 23 23 ty 40 i0 Try.underlying23 hi b 0 0 0 (.slice none 0 cap) 0 [] (Src.ofNil w Try.underlying23 cap) (Nat.le_refl _) (by simp) (by simp)
  rw [h]
  rfl
theorem set_same {α : Type} {l : List α} {k : Nat} {a : α} (h : l[k]? = some a) : l.set k a = l := by
  apply List.ext_getElem?
  intro j
  rw [List.getElem?_set]
  by_cases hj : k = j
  · subst hj
    rw [if_pos rfl, h]
    rw [if_pos (List.getElem?_eq_some_iff.1 h).1]
  · rw [if_neg hj]
section
variable (ρ : List UInt8 → List UInt8)
/-- The first so many have other names. -/
def usA (ts : List Tw) (i : Nat) : List Tw := (ts.take i).map (twR ρ) ++ ts.drop i
theorem us_zero (ts : List Tw) : usA ρ ts 0 = ts := by unfold usA; simp
theorem us_all (ts : List Tw) : usA ρ ts ts.length = ts.map (twR ρ) := by unfold usA; simp
theorem us_len {ts : List Tw} {i : Nat} (h : i ≤ ts.length) : (usA ρ ts i).length = ts.length := by
  unfold usA
  rw [List.length_append, List.length_map, List.length_take, List.length_drop]
  omega
theorem us_get {ts : List Tw} {i : Nat} (h : i < ts.length) : (usA ρ ts i)[i]? = some ts[i] := by
  unfold usA
  have hl : ((ts.take i).map (twR ρ)).length = i := by rw [List.length_map, List.length_take]; omega
  rw [List.getElem?_append_right (by omega), hl, Nat.sub_self, List.getElem?_drop, Nat.add_zero, List.getElem?_eq_getElem h]
theorem us_next {ts : List Tw} {i : Nat} (h : i < ts.length) : (usA ρ ts i).set i (twR ρ ts[i]) = usA ρ ts (i + 1) := by
  unfold usA
  have hl : ((ts.take i).map (twR ρ)).length = i := by rw [List.length_map, List.length_take]; omega
  rw [List.set_append, if_neg (by omega), hl, Nat.sub_self, List.drop_eq_getElem_cons h, List.set_cons_zero, List.take_add_one, List.getElem?_eq_getElem h, List.map_append, List.append_assoc]
  rfl
variable {w : World} {base gu cu n : Nat} {ts : List Tw} {i : Nat}
theorem us_cells {us : List Tw} (h : TwsAt w base (.slice (some ⟨gu, 0, none⟩) n cu) us) (hl : us.length = n) (hi : i < n) (x : Tw) (hx : us[i]? = some x) (c : Nat) (hc : c < 4) : w.cell? ⟨gu, i * 4 + c, none⟩ = (twC x)[c]? := by
  subst hl
  have h2 := World.ownsRow.cellAt (g := gu) (cap := cu) h (i * 4 + c) (by omega)
  rw [h2, rowOf_get twC_len us i c hi hc]
  rw [List.getElem?_eq_getElem hi] at hx
  injection hx with hx
  rw [hx]
theorem us_text {us : List Tw} (h : TwsAt w base (.slice (some ⟨gu, 0, none⟩) n cu) us) (hl : us.length = n) (hi : i < n) (x : Tw) (hx : us[i]? = some x) (t : List UInt8) :
    TwsAt (w.setCell ⟨gu, i * 4 + 3, none⟩ (.string ⟨t.toArray⟩)) base (.slice (some ⟨gu, 0, none⟩) n cu) (us.set i ⟨x.op, x.kids, x.num, t⟩) := by
  subst hl
  have h1 := (World.ownsRow.stored h (i * 4 + 3) (.string ⟨t.toArray⟩)).1
  have e := rowOf_set4 twC_len us i hi ⟨x.op, x.kids, x.num, t⟩ (show twC ⟨x.op, x.kids, x.num, t⟩ = _ from rfl)
  have hg : ∀ c, c < 4 → (rowOf twC us)[i * 4 + c]? = (twC x)[c]? := fun c hc => by
    rw [rowOf_get twC_len us i c hi hc]
    rw [List.getElem?_eq_getElem hi] at hx
    injection hx with hx
    rw [hx]
  have s0 : (rowOf twC us).set (i * 4) (.int .u8 x.op) = rowOf twC us := set_same (hg 0 (by omega))
  have s1 : (rowOf twC us).set (i * 4 + 1) (.int .i64 x.kids) = rowOf twC us := set_same (hg 1 (by omega))
  have s2 : (rowOf twC us).set (i * 4 + 2) (.int .i64 x.num) = rowOf twC us := set_same (hg 2 (by omega))
  rw [s0, s1, s2] at e
  unfold TwsAt
  rw [List.length_set, ← e]
  exact h1
theorem us_text3 {us : List Tw} (h : TwsAt w base (.slice (some ⟨gu, 0, none⟩) n cu) us) (hl : us.length = n) (hi : i < n) (x : Tw) (hx : us[i]? = some x) (t : List UInt8) :
    (w.setCell ⟨gu, i * 4 + 3, none⟩ (.string ⟨t.toArray⟩)).cell? ⟨gu, i * 4 + 3, none⟩ = some (.string ⟨t.toArray⟩) :=
  us_cells (us_text h hl hi x hx t) (by rw [List.length_set]; exact hl) hi ⟨x.op, x.kids, x.num, t⟩ (by rw [List.getElem?_set_self (by omega)]) 3 (by omega)
theorem us_frozen {us : List Tw} (h : TwsAt w base (.slice (some ⟨gu, 0, none⟩) n cu) us) (hl : us.length = n) (j : Nat) : w.frozen? ⟨gu, j, none⟩ = false := by
  subst hl
  exact World.ownsRow.frozenAt h j
end
set_option maxRecDepth 20000 in
set_option maxHeartbeats 4000000 in
theorem crenamed_nil (b cap : Nat) (w : World) (hT : TwIn w (.slice none 0 cap) []) :
    Calls Try.prog 7 #[.slice none 0 cap, .int .u8 (b : Int)] w fun e w' => e = .returned (.bool true) ∧ Below w.heap.size w w' := by
  have hWk := Lib.hid wakes11_any
  have hr : SlotsIs [] ([], 0, 3) := .inl ⟨by decide, rfl⟩
  have kS := Lib.hid (Slots_any w hT (by simp) hr)
  have kS2 := Lib.hid (fun (g : Nat) (W : World) => Slots_any (v := .slice (some ⟨g, 0, none⟩) 0 0) W ⟨_, 0, rfl, by simp, by omega, fun h => absurd h (by simp)⟩ (by simp) hr)
  unfold SlotsP at kS kS2
  dsimp only at kS kS2
  clear hr hT
  go_enter Try.func7, Try.ntmps7
  go_wp2_with fail
  refine kS.out.mono ?_
  rintro e' w1 ⟨lv, rfl, hl, hb1⟩
  obtain ⟨la, lc, rfl, _, _⟩ := id hl.shape
  have hz1 := hb1.size
  have hal := (Below.refl w1.heap.size w1).alloc (Nat.le_refl _) (.cells #[] 40)
  have hb2 := Lib.hid (hb1.trans (hal.mono hz1))
  have hap := fun (W : World) => append_noneC W 23 w1.heap.size cap
  replace hal := Lib.hid hal
  clear hl kS hb1
  go_wp2_with fail
  go_loopw [9] (fun t9 wr => t9 = .int .i64 0 ∧ Hid (Below w.heap.size w wr)) (fun _ _ => 0)
  case atStart => exact ⟨rfl, hb2⟩
  case round =>
    obtain ⟨rfl, hB⟩ := hrel
    go_wp2_with fail
    refine (kS2.out _ _).mono ?_
    rintro e' w9 ⟨lv2, rfl, hl2, hb9⟩
    obtain ⟨ma, mc, rfl, _, _⟩ := id hl2.shape
    have hb10 := Lib.hid (below_next hB.out hb9)
    clear hl2 hb9
    go_wp2_with fail
    refine (hWk.out _).mono ?_
    rintro e wz ⟨rfl, hbz9⟩
    go_wp2_with fail
    go_ret
    exact ⟨rfl, below_next hb10.out hbz9⟩
set_option maxRecDepth 20000 in
set_option maxHeartbeats 8000000 in
theorem crenamed_at (v : Value) (b : Nat) (hb : b < 256) (w : World) {ts : List Tw} (hT : TwIn w v ts) (hf : ∀ x ∈ ts, FitT x) (htl : ∀ x ∈ ts, x.text.length ≤ 140737488351232) (h5 : ts.length ≤ 5000) :
    Calls Try.prog 7 #[v, .int .u8 (b : Int)] w fun e w' => e = .returned (.bool true) ∧ Below w.heap.size w w' := by
  have hWk := Lib.hid wakes11_any
  obtain ⟨r, hr⟩ := slots_is ts
  obtain ⟨q, hq⟩ := slots_is (ts.map (twR (renS b)))
  have kS := Lib.hid (Slots_any w hT hf hr)
  have hf2 : ∀ x ∈ ts.map (twR (renS b)), FitT x := by
    intro x hx
    obtain ⟨y, hy, rfl⟩ := List.mem_map.1 hx
    obtain ⟨f1, f2, f3, f4⟩ := hf y hy
    unfold twR
    split
    · exact ⟨by dsimp only; unfold renS; rw [List.length_map]; exact f1, f2, f3, f4⟩
    · exact ⟨f1, f2, f3, f4⟩
  have kS2 := Lib.hid (fun (u : Value) (W : World) (h : TwIn W u (ts.map (twR (renS b)))) => Slots_any W h hf2 hq)
  have hsame := slots_ren (fun s t h => renS_inj b h) hr hq
  obtain ⟨l, at_, er⟩ := r
  obtain ⟨m, at2, er2⟩ := q
  dsimp only at hsame
  unfold SlotsP at kS kS2
  dsimp only at kS kS2
  have h5i : ¬ (5000 : Int) < (ts.length : Int) := by omega
  have hTT := Lib.hid hT
  obtain ⟨a, cap, rfl, hlc, hcm, h3⟩ := hT
  have hsrc := Lib.hid (fun (W : World) (hbW : Below w.heap.size w W) => hTT.out.below hbW)
  replace hsame := Lib.hid hsame
  replace htl := Lib.hid htl
  clear hr hq hf hf2 hTT
  rcases a with _ | ad
  · have h0 : ts.length = 0 := by
      rcases Nat.eq_zero_or_pos ts.length with h | h
      · exact h
      · obtain ⟨g, off, e, _⟩ := h3 h
        cases e
    obtain rfl := List.length_eq_zero_iff.1 h0
    exact crenamed_nil b cap w ⟨none, cap, rfl, hlc, hcm, h3⟩
  · clear h3
    go_enter Try.func7, Try.ntmps7
    go_wp2_with fail
    refine kS.out.mono ?_
    rintro e' w1 ⟨lv, rfl, hl, hb1⟩
    obtain ⟨la, lc, rfl, _, _⟩ := id hl.shape
    have hlr := Lib.hid hl.read
    have hz1 := hb1.size
    have hal := (Below.refl w1.heap.size w1).alloc (Nat.le_refl _) (.cells #[] 40)
    have hsr := Lib.hid ((hsrc.out _ hb1).below hal)
    replace hb1 := Lib.hid hb1
    replace hal := Lib.hid hal
    clear hl kS hsrc
    go_wp2_with (at_builtin; refine wpList_append_tws (base := w1.heap.size) (v := _) (ts := []) (us := ts) rfl _ _ rfl rfl (tws_newC w1 _ rfl) rfl hsr.out (by simp) (by omega) (by simp) ?_; intro a2 c2 w2 hU2 hB2)
    have hU2' : Hid (TwsAt w2 w1.heap.size (.slice a2 ts.length c2) ts) := Lib.hid (by simpa using hU2)
    have hB0 := Lib.hid (hal.out.trans hB2)
    have hZ := hB0.out.size
    clear hsr hal hB2 hU2
    go_loopw [9] (fun t9 wr => ∃ i : Nat, i ≤ ts.length ∧ t9 = .int .i64 i ∧ Hid (TwsAt wr w1.heap.size (.slice a2 ts.length c2) (usA (renS b) ts i)) ∧ Hid (Below w1.heap.size w1 wr)) (fun t9 _ => ts.length - (intOf t9).toNat)
    case atStart => exact ⟨0, Nat.zero_le _, rfl, Lib.hid (by rw [us_zero]; exact hU2'.out), hB0⟩
    case round =>
      obtain ⟨i, hi, rfl, hR, hB⟩ := hrel
      rcases Nat.lt_or_ge i ts.length with hlt | hge
      · have hlti : (i : Int) < (ts.length : Int) := by omega
        have hbz := hB.out.size
        have hR0 := hR.out
        have hul := us_len (renS b) hi
        have hug := us_get (renS b) hlt
        have hnx := us_next (renS b) hlt
        obtain ⟨gu, cu2, hue, hgb, hgl2, _⟩ := hR0.owned (by rw [hul]; omega)
        rw [hul] at hue
        injection hue with hu1 _ hu3
        subst hu1 hu3
        have hC := us_cells hR0 hul hlt ts[i] hug
        have y0 := hC 0 (by omega); have y1 := hC 1 (by omega); have y2 := hC 2 (by omega); have y3 := hC 3 (by omega)
        have hsz := fun (W : World) (hW : TwsAt W w1.heap.size (.slice (some ⟨gu, 0, none⟩) ts.length c2) (usA (renS b) ts i)) (t : List UInt8) => us_text hW hul hlt ts[i] hug t
        have hst := fun (W : World) (hW : TwsAt W w1.heap.size (.slice (some ⟨gu, 0, none⟩) ts.length c2) (usA (renS b) ts i)) (t : List UInt8) => us_text3 hW hul hlt ts[i] hug t
        have hfz := fun (W : World) (hW : TwsAt W w1.heap.size (.slice (some ⟨gu, 0, none⟩) ts.length c2) (usA (renS b) ts i)) => us_frozen hW hul (i * 4 + 3)
        have kM := fun W => makes_any ts[i] W
        have kU := fun W => uses_any ts[i] W
        have htx := htl.out ts[i] (List.getElem_mem hlt)
        generalize ts[i] = x at *
        obtain ⟨op, kids, num, text⟩ := x
        simp only [twC, List.getElem?_cons_zero, List.getElem?_cons_succ, Nat.add_zero] at y0 y1 y2 y3
        unfold twV at kM kU
        unfold twR at hnx
        dsimp only at kM kU htx hsz hnx
        have kRn := Lib.hid (fun W => renamed_any ⟨text.toArray⟩ b hb W (by show text.toArray.size ≤ _; rw [List.size_toArray]; exact htx))
        have kNm := Lib.hid (fun W => name_any ⟨(renS b text).toArray⟩ W (by show (renS b text).toArray.size ≤ _; rw [List.size_toArray]; unfold renS; rw [List.length_map]; omega))
        have kKw := Lib.hid (fun W => keyword_any ⟨(renS b text).toArray⟩ W)
        replace hsz := Lib.hid hsz
        replace hst := Lib.hid hst
        replace hfz := Lib.hid hfz
        replace hR0 := Lib.hid hR0
        replace hB := Lib.hid hB.out
        clear hC hul hR
        cases hm : makesB ⟨op, kids, num, text⟩ with
        | true =>
          rw [hm] at hnx kM
          simp only [Bool.true_or, ↓reduceIte] at hnx
          replace kM := Lib.hid kM
          replace hm := Lib.hid hm
          replace hnx := Lib.hid hnx
          replace hug := Lib.hid hug
          clear kU
          go_wp2_with fail
          refine (kM.out _).mono ?_
          rintro e' w5 ⟨rfl, hb5⟩
          have q3 := Below.keeps hb5 y3
          have hR5 := TwsAt.below hR0.out hb5
          have hf5 := hfz.out w5 hR5
          have hb6 := hB.out.trans (hb5.mono hbz)
          have hz6 := hb6.size
          replace hR5 := Lib.hid hR5
          replace hb6 := Lib.hid hb6
          clear hb5
          go_wp2_with fail
          refine (kRn.out _).mono ?_
          rintro e' w7 ⟨rfl, hb7⟩
          have p3 := Below.keeps hb7 q3
          have hR7 := TwsAt.below hR5.out hb7
          have f7 := hfz.out w7 hR7
          have hS := hsz.out w7 hR7 (renS b text)
          rw [hnx.out] at hS
          have t3 := hst.out w7 hR7 (renS b text)
          have hb8 := Lib.hid ((hb6.out.trans (hb7.mono hz6)).setCell (p := ⟨gu, i * 4 + 3, none⟩) hgb (.string ⟨(renS b text).toArray⟩))
          replace hS := Lib.hid hS
          clear hb7 hR7 hf5 q3 hR5 hb6 hsz hst hfz kRn kM
          have hself : (⟨text.toArray⟩ : ByteArray).data.toList = text := rfl
          cases hn : nameL (⟨(renS b text).toArray⟩ : ByteArray).data.toList with
          | false =>
            rw [hn] at kNm
            replace hn := Lib.hid hn
            go_wp2_with fail
            refine (kNm.out _).mono ?_
            rintro e' w8 ⟨rfl, rfl⟩
            go_wp2_with fail
            have hb10 := Lib.hid (below_next hb1.out hb8.out)
            refine (hWk.out _).mono ?_
            rintro e wz ⟨rfl, hbz9⟩
            go_wp2_with fail
            go_ret
            exact ⟨rfl, below_next hb10.out hbz9⟩
          | true =>
            rw [hn] at kNm
            replace hn := Lib.hid hn
            cases hk : kwB (⟨(renS b text).toArray⟩ : ByteArray).toList with
            | true =>
              rw [hk] at kKw
              replace hk := Lib.hid hk
              go_wp2_with fail
              refine (kNm.out _).mono ?_
              rintro e' w8 ⟨rfl, rfl⟩
              go_wp2_with fail
              refine (kKw.out _).mono ?_
              rintro e' w8 ⟨rfl, rfl⟩
              go_wp2_with fail
              have hb10 := Lib.hid (below_next hb1.out hb8.out)
              refine (hWk.out _).mono ?_
              rintro e wz ⟨rfl, hbz9⟩
              go_wp2_with fail
              go_ret
              exact ⟨rfl, below_next hb10.out hbz9⟩
            | false =>
              rw [hk] at kKw
              replace hk := Lib.hid hk
              go_wp2_with fail
              refine (kNm.out _).mono ?_
              rintro e' w8 ⟨rfl, rfl⟩
              go_wp2_with fail
              refine (kKw.out _).mono ?_
              rintro e' w8 ⟨rfl, rfl⟩
              go_wp2_with fail
              go_roundw
              case rel => exact ⟨i + 1, by omega, by go_num, hS, hb8⟩
              case measure => simp [intOf]; omega
        | false =>
          rw [hm] at hnx kM
          cases hu : usesB ⟨op, kids, num, text⟩ with
          | true =>
            rw [hu] at hnx kU
            simp only [Bool.or_true, ↓reduceIte] at hnx
            replace kM := Lib.hid kM
            replace kU := Lib.hid kU
            replace hm := Lib.hid hm
            replace hu := Lib.hid hu
            replace hnx := Lib.hid hnx
            replace hug := Lib.hid hug
            go_wp2_with fail
            refine (kM.out _).mono ?_
            rintro e' w4 ⟨rfl, hb4⟩
            have v0 := Below.keeps hb4 y0; have v1 := Below.keeps hb4 y1; have v2 := Below.keeps hb4 y2; have v3 := Below.keeps hb4 y3
            replace hb4 := Lib.hid hb4
            have y3h := Lib.hid y3
            clear y0 y1 y2 y3
            go_wp2_with fail
            refine (kU.out _).mono ?_
            rintro e' w5 ⟨rfl, hb5a⟩
            have hb5 := below_next hb4.out hb5a
            clear hb5a
            have q3 := Below.keeps hb5 y3h.out
            have hR5 := TwsAt.below hR0.out hb5
            have hf5 := hfz.out w5 hR5
            have hb6 := hB.out.trans (hb5.mono hbz)
            have hz6 := hb6.size
            replace hR5 := Lib.hid hR5
            replace hb6 := Lib.hid hb6
            clear hb5
            go_wp2_with fail
            refine (kRn.out _).mono ?_
            rintro e' w7 ⟨rfl, hb7⟩
            have p3 := Below.keeps hb7 q3
            have hR7 := TwsAt.below hR5.out hb7
            have f7 := hfz.out w7 hR7
            have hS := hsz.out w7 hR7 (renS b text)
            rw [hnx.out] at hS
            have t3 := hst.out w7 hR7 (renS b text)
            have hb8 := Lib.hid ((hb6.out.trans (hb7.mono hz6)).setCell (p := ⟨gu, i * 4 + 3, none⟩) hgb (.string ⟨(renS b text).toArray⟩))
            replace hS := Lib.hid hS
            clear hb7 hR7 hf5 q3 hR5 hb6 hsz hst hfz kRn kM
            have hself : (⟨text.toArray⟩ : ByteArray).data.toList = text := rfl
            cases hn : nameL (⟨(renS b text).toArray⟩ : ByteArray).data.toList with
            | false =>
              rw [hn] at kNm
              replace hn := Lib.hid hn
              go_wp2_with fail
              refine (kNm.out _).mono ?_
              rintro e' w8 ⟨rfl, rfl⟩
              go_wp2_with fail
              have hb10 := Lib.hid (below_next hb1.out hb8.out)
              refine (hWk.out _).mono ?_
              rintro e wz ⟨rfl, hbz9⟩
              go_wp2_with fail
              go_ret
              exact ⟨rfl, below_next hb10.out hbz9⟩
            | true =>
              rw [hn] at kNm
              replace hn := Lib.hid hn
              cases hk : kwB (⟨(renS b text).toArray⟩ : ByteArray).toList with
              | true =>
                rw [hk] at kKw
                replace hk := Lib.hid hk
                go_wp2_with fail
                refine (kNm.out _).mono ?_
                rintro e' w8 ⟨rfl, rfl⟩
                go_wp2_with fail
                refine (kKw.out _).mono ?_
                rintro e' w8 ⟨rfl, rfl⟩
                go_wp2_with fail
                have hb10 := Lib.hid (below_next hb1.out hb8.out)
                refine (hWk.out _).mono ?_
                rintro e wz ⟨rfl, hbz9⟩
                go_wp2_with fail
                go_ret
                exact ⟨rfl, below_next hb10.out hbz9⟩
              | false =>
                rw [hk] at kKw
                replace hk := Lib.hid hk
                go_wp2_with fail
                refine (kNm.out _).mono ?_
                rintro e' w8 ⟨rfl, rfl⟩
                go_wp2_with fail
                refine (kKw.out _).mono ?_
                rintro e' w8 ⟨rfl, rfl⟩
                go_wp2_with fail
                go_roundw
                case rel => exact ⟨i + 1, by omega, by go_num, hS, hb8⟩
                case measure => simp [intOf]; omega
          | false =>
            rw [hu] at hnx kU
            simp only [Bool.or_false, Bool.false_eq_true, ↓reduceIte] at hnx
            have hsm : usA (renS b) ts i = usA (renS b) ts (i + 1) := by rw [← hnx]; exact (set_same hug).symm
            replace hsm := Lib.hid hsm
            replace kM := Lib.hid kM
            replace kU := Lib.hid kU
            replace hm := Lib.hid hm
            replace hu := Lib.hid hu
            replace hnx := Lib.hid hnx
            replace hug := Lib.hid hug
            go_wp2_with fail
            refine (kM.out _).mono ?_
            rintro e' w4 ⟨rfl, hb4⟩
            have v0 := Below.keeps hb4 y0; have v1 := Below.keeps hb4 y1; have v2 := Below.keeps hb4 y2; have v3 := Below.keeps hb4 y3
            replace hb4 := Lib.hid hb4
            clear y0 y1 y2 y3
            go_wp2_with fail
            refine (kU.out _).mono ?_
            rintro e' w5 ⟨rfl, hb5a⟩
            have hb5 := below_next hb4.out hb5a
            have hR5 := Lib.hid (TwsAt.below hR0.out hb5)
            have hb6 := Lib.hid (hB.out.trans (hb5.mono hbz))
            clear hb5a hb5 v0 v1 v2 v3
            go_wp2_with fail
            go_roundw
            case rel => exact ⟨i + 1, by omega, by go_num, Lib.hid (by rw [← hsm.out]; exact hR5.out), hb6⟩
            case measure => simp [intOf]; omega
      · obtain rfl : i = ts.length := by omega
        have hlti : ¬ ((ts.length : Int) < (ts.length : Int)) := by omega
        have hR0 := hR.out
        rw [us_all] at hR0
        have kE := Lib.hid (kS2.out _ wr hR0.twIn)
        have hb3 := Lib.hid (below_next hb1.out hB.out)
        have hlw := Lib.hid (hlr.out.below hB.out)
        clear hR hB hR0 kS2 hU2'
        go_wp2_with fail
        refine kE.out.mono ?_
        rintro e' w9 ⟨lv2, rfl, hl2, hb9⟩
        obtain ⟨ma, mc, rfl, _, _⟩ := id hl2.shape
        have hmr := Lib.hid hl2.read
        have hlv := Lib.hid (hlw.out.below hb9)
        have hb10 := Lib.hid (below_next hb3.out hb9)
        clear hl2 hb9
        cases e1 : (er == 3) with
        | true =>
          go_wp2_with fail
          refine (hWk.out _).mono ?_
          rintro e wz ⟨rfl, hbz9⟩
          go_wp2_with fail
          go_ret
          exact ⟨rfl, below_next hb10.out hbz9⟩
        | false =>
          cases e2 : (er2 == 3) with
          | true =>
            go_wp2_with fail
            refine (hWk.out _).mono ?_
            rintro e wz ⟨rfl, hbz9⟩
            go_wp2_with fail
            go_ret
            exact ⟨rfl, below_next hb10.out hbz9⟩
          | false =>
            have hE := hsame.out (by simpa using e1) (by simpa using e2)
            simp only [Prod.mk.injEq] at hE
            obtain ⟨rfl, rfl, rfl⟩ := hE
            have q1 : (at2 == at2) = true := beq_self_eq_true _
            have q2 : (er2 == er2) = true := beq_self_eq_true _
            have kI := Lib.hid (ints_true hlv.out hmr.out)
            go_wp2_with fail
            refine kI.out.mono ?_
            rintro e' w11 ⟨rfl, hb11⟩
            have hb12 := Lib.hid (below_next hb10.out hb11)
            clear hb11
            go_wp2_with fail
            refine (hWk.out _).mono ?_
            rintro e wz ⟨rfl, hbz9⟩
            go_wp2_with fail
            go_ret
            exact ⟨rfl, below_next hb12.out hbz9⟩
set_option maxRecDepth 20000 in
set_option maxHeartbeats 4000000 in
theorem crenamed_long (a : Option Addr) (n cap b : Nat) (hn : 5000 < n) (w : World) :
    Calls Try.prog 7 #[.slice a n cap, .int .u8 (b : Int)] w fun e w' => e = .returned (.bool true) ∧ Below w.heap.size w w' := by
  have hWk := Lib.hid wakes11_any
  have h5 : (5000 : Int) < (n : Int) := by omega
  go_enter Try.func7, Try.ntmps7
  go_wp2_with fail
  refine (hWk.out _).mono ?_
  rintro e wz ⟨rfl, hbz⟩
  go_wp2_with fail
  go_ret
  exact ⟨rfl, hbz⟩
theorem checkRenamed_walk (v : Value) (a : Int) (w : World) (h : TwsInZ w v) (ha : (Lit.int .u8 a).wf = true) :
    Calls Try.prog 7 #[v, .int .u8 a] w fun e w' => e = .returned (.bool true) ∧ Below w.heap.size w w' := by
  obtain ⟨ts, hT, hf, htl, _⟩ := h
  obtain ⟨b, rfl, hb⟩ : ∃ b : Nat, a = b ∧ b < 256 := by
    simp only [Lit.wf, IntKind.min, IntKind.max, IntKind.signed, IntKind.bits, Bool.and_eq_true] at ha
    exact ⟨a.toNat, by simp at ha; omega, by simp at ha; omega⟩
  by_cases h5 : ts.length ≤ 5000
  · exact crenamed_at v b hb w hT hf htl h5
  · obtain ⟨a0, cap, rfl, _⟩ := hT
    exact crenamed_long a0 ts.length cap b (by omega) w
end Go.Proofs.Ytngbekhegnmfaaa
