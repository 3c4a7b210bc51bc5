/- The law CheckBound: each name means a variable of that name that was made ahead of it, and no two variables have one slot. -/
import Derived.Test.YtngbekhegnmfaaaCkW
import Derived.Test.YtngbekhegnmfaaaROpen
namespace Go.Proofs.Ytngbekhegnmfaaa
open Go.RowKit Go.Shelf

theorem kids_deep (ts : List Tw) (k : Kind) (kids : Int) (f : PSt → Bool × PSt) (hf : ∀ s, s.gone < ts.length → s.tooDeep ≤ ts.length → (f s).2.gone ≤ ts.length ∧ (f s).2.tooDeep ≤ ts.length) :
    ∀ (n p : Nat) (s : PSt), s.gone ≤ ts.length → s.tooDeep ≤ ts.length → (kidsF f ts k kids n p s).2.gone ≤ ts.length ∧ (kidsF f ts k kids n p s).2.tooDeep ≤ ts.length
  | 0, _, s, h1, h2 => ⟨h1, h2⟩
  | n + 1, p, s, h1, h2 => by
    unfold kidsF
    split
    · exact ⟨h1, h2⟩
    · split
      · exact ⟨h1, h2⟩
      · have h3 := hf s (by omega) h2
        split
        · exact h3
        · exact kids_deep ts k kids f hf n (p + 1) (f s).2 h3.1 h3.2
theorem pass_deep (ts : List Tw) : ∀ (fuel lies : Nat) (s : PSt), s.gone < ts.length → s.tooDeep ≤ ts.length → (passF fuel ts lies s).2.gone ≤ ts.length ∧ (passF fuel ts lies s).2.tooDeep ≤ ts.length
  | 0, _, s, h1, h2 => ⟨Nat.le_of_lt h1, h2⟩
  | fuel + 1, lies, s, h1, h2 => by
    unfold passF
    split
    · exact ⟨Nat.le_of_lt h1, h2⟩
    · split
      · exact ⟨Nat.le_of_lt h1, h2⟩
      · refine kids_deep ts _ _ _ (fun s' a b => pass_deep ts fuel (lies + 1) s' a b) _ 0 (nextS s lies) h1 ?_
        unfold nextS
        dsimp only
        split <;> omega
theorem look_le (ts : List Tw) : (lookF ts).1 ≤ ts.length := by
  unfold lookF
  split
  · exact Nat.zero_le _
  · split
    · exact Nat.zero_le _
    · have h := pass_deep ts ts.length 1 ⟨0, 0, 0⟩ (by show 0 < _; omega) (Nat.zero_le _)
      split
      · exact h.1
      · split
        · exact h.2
        · exact Nat.zero_le _
theorem trees_le : ∀ (F : Fs) (st : CSt), (treesC F st).1.l.length ≤ st.l.length + F.flat.length
  | .nil, st => Nat.le_refl _
  | .cons x k r, st => by
    unfold treesC
    show _ ≤ st.l.length + (x :: (k.flat ++ r.flat)).length
    rw [List.length_cons, List.length_append]
    split
    · exact Nat.le_add_right _ _
    · have ih := trees_le k ⟨st.l ++ [(slotC st x).1], st.seen, (slotC st x).2.1⟩
      generalize treesC k ⟨st.l ++ [(slotC st x).1], st.seen, (slotC st x).2.1⟩ = R at *
      have e1 : (⟨st.l ++ [(slotC st x).1], st.seen, (slotC st x).2.1⟩ : CSt).l.length = st.l.length + 1 := by simp
      rw [e1] at ih
      split
      · omega
      · have h2 := trees_le r (endC x (slotC st x).1 st.seen.length R.1)
        have e : (endC x (slotC st x).1 st.seen.length R.1).l = R.1.l := by
          unfold endC
          split
          · rfl
          · split <;> rfl
        rw [e] at h2
        omega
/-- Wrong names: no slots, and a place within the list. -/
theorem slots_bad {ts : List Tw} {r : List Int × Int × Int} (h : SlotsIs ts r) (he : r.2.2 ≠ 0) : r.1 = [] ∧ ∃ k : Nat, r.2.1 = (k : Int) ∧ k ≤ ts.length := by
  rcases h with ⟨_, rfl⟩ | ⟨_, _, x, K, _, hx, rfl⟩
  · exact ⟨rfl, _, rfl, look_le ts⟩
  · unfold slotsF at he ⊢
    split
    · exact ⟨rfl, 0, rfl, Nat.zero_le _⟩
    · rename_i h1
      rw [if_neg h1] at he
      split
      · refine ⟨rfl, _, rfl, ?_⟩
        have := trees_le (.cons x K .nil) st0
        rw [tree_one] at this
        rw [hx]
        simpa [Fs.flat, st0] using this
      · rename_i h2
        rw [if_neg h2] at he
        exact absurd rfl he
/-- Right names: a slot for each twig, and what each one means. -/
theorem slots_good {ts : List Tw} {r : List Int × Int × Int} (h : SlotsIs ts r) (he : r.2.2 = 0) : r.2.1 = 0 ∧ ∃ st, r.1 = st.l ∧ BInv ts st := by
  rcases h with ⟨hb, rfl⟩ | ⟨_, _, x, K, _, hx, rfl⟩
  · exact absurd he hb
  · unfold slotsF at he ⊢
    split
    · rename_i h1
      rw [if_pos h1] at he
      cases he
    · rename_i h1
      rw [if_neg h1] at he
      split
      · rename_i h2
        rw [if_pos h2] at he
        exact absurd he h2
      · rename_i h2
        refine ⟨rfl, (treeC x K st0).1, rfl, ?_⟩
        have hb0 : BInv [] st0 := ⟨rfl, rfl, by decide, fun p hp => (by cases hp), fun i x s h => by simp at h⟩
        have := trees_bound (.cons x K .nil) [] st0 hb0 (by rw [tree_one]; omega)
        rw [tree_one] at this
        rw [hx]
        simpa [Fs.flat] using this
theorem names_take {ts : List Tw} {i : Nat} (h : i < ts.length) : namesL (ts.take (i + 1)) = namesL (ts.take i) ++ (if makesB ts[i] then [ts[i].text] else []) := by
  rw [List.take_add_one, List.getElem?_eq_getElem h, namesL_app]
  congr 1
  exact namesL_one _
set_option maxRecDepth 20000 in
set_option maxHeartbeats 4000000 in
theorem checkBound_walk (v : Value) (w : World) (h : TwsIn w v) :
    Calls Try.prog 6 #[v] w fun e w' => e = .returned (.bool true) ∧ Below w.heap.size w w' := by
  obtain ⟨ts, hT, hf, _⟩ := h
  have hWk := Lib.hid wakes11_any
  obtain ⟨r, hr⟩ := slots_is ts
  have kS := Lib.hid (Slots_any w hT hf hr)
  have hbad := slots_bad hr
  have hgood := slots_good hr
  obtain ⟨l, at_, er⟩ := r
  dsimp only at hbad hgood
  unfold SlotsP at kS
  dsimp only at kS
  obtain ⟨a, cap, rfl, hlc, hcm, h3⟩ := hT
  clear hf hr
  by_cases h5 : 5000 < ts.length
  · have h5i : (5000 : Int) < (ts.length : Int) := by omega
    go_enter Try.func6, Try.ntmps6
    go_wp2_with fail
    refine (hWk.out _).mono ?_
    rintro e w2 ⟨rfl, hb⟩
    go_wp2_with fail
    go_ret
    exact ⟨rfl, hb⟩
  · have h5i : ¬ (5000 : Int) < (ts.length : Int) := by omega
    by_cases he : er ≠ 0
    · obtain ⟨rfl, k, rfl, hk⟩ := hbad he
      have hq : (er != 0) = true := bne_iff_ne.2 he
      have hk0 : (0 : Int) ≤ (k : Int) := by omega
      have hk1 : (k : Int) ≤ (ts.length : Int) := by omega
      clear hgood hbad he h3
      go_enter Try.func6, Try.ntmps6
      go_wp2_with fail
      refine kS.out.mono ?_
      rintro e' w1 ⟨lv, rfl, hl, hb1⟩
      obtain ⟨la, lc, rfl, _, _⟩ := hl.shape
      clear hl
      go_wp2_with fail
      refine (hWk.out _).mono ?_
      rintro e w2 ⟨rfl, hb2⟩
      go_wp2_with fail
      go_ret
      exact ⟨rfl, below_next hb1 hb2⟩
    · have her : er = 0 := by omega
      subst her
      obtain ⟨rfl, st, rfl, hI⟩ := hgood rfl
      have hlen := hI.len
      have hnl : ((st.l.length : Int) != (ts.length : Int)) = false := by rw [hlen]; simp
      clear hbad he
      replace hI := Lib.hid hI
      replace h3 := Lib.hid h3
      replace hlen := Lib.hid hlen
      go_enter Try.func6, Try.ntmps6
      go_wp2_with fail
      refine kS.out.mono ?_
      rintro e' w2 ⟨lv, rfl, hl, hb2⟩
      obtain ⟨la, lc, rfl, hl1, hl2, hl3⟩ := hl.read
      replace hl3 := Lib.hid hl3
      clear hl kS
      go_wp2_with fail
      have hz2 := hb2.size
      replace hb2 := Lib.hid hb2
      go_loopw [6, 7] (fun t6 t7 wr => ∃ i : Nat, i ≤ ts.length ∧ t7 = .int .i64 i ∧ Hid (NamesAt wr w2.heap.size t6 (namesL (ts.take i))) ∧ Hid (Below w2.heap.size w2 wr)) (fun _ t7 _ => ts.length - (intOf t7).toNat)
      case atStart => exact ⟨0, Nat.zero_le _, rfl, Lib.hid (World.ownsRow_nil _ _ _ _), Lib.hid (Below.refl _ _)⟩
      case round =>
        obtain ⟨i, hi, rfl, hN, hb⟩ := hrel
        rcases Nat.lt_or_ge i ts.length with hlt | hge
        · have hlti : (i : Int) < (ts.length : Int) := by omega
          obtain ⟨g, off, rfl, hg, hc⟩ := h3.out (by omega)
          have hil : i < st.l.length := by rw [hlen.out]; exact hlt
          have hili : (i : Int) < (st.l.length : Int) := by omega
          obtain ⟨gl, rfl, hgl, hcl⟩ := hl3.out (by omega)
          have hbz := hb.out.size
          have hY : ∀ c, c < 4 → wr.cell? ⟨g, off + i * 4 + c, none⟩ = (twC ts[i])[c]? := fun c hc4 => (hb.out.cell (p := ⟨g, off + i * 4 + c, none⟩) (by dsimp only; omega)).trans ((hb2.out.cell (p := ⟨g, off + i * 4 + c, none⟩) hg).trans (hc i hlt c hc4))
          have y0 := hY 0 (by omega); have y1 := hY 1 (by omega); have y2 := hY 2 (by omega); have y3 := hY 3 (by omega)
          have z0 := (hb.out.cell (p := ⟨gl, i, none⟩) hgl).trans (hcl i hil)
          have hB := hI.out.bound i ts[i] st.l[i] (List.getElem?_eq_getElem hlt) (List.getElem?_eq_getElem hil)
          have hT := names_take hlt
          have kM := fun W => makes_any ts[i] W
          have kU := fun W => uses_any ts[i] W
          have hfew : (namesL (ts.take i)).length ≤ 5000 := by
            unfold namesL
            rw [List.length_map]
            have := List.length_filter_le makesB (ts.take i)
            have h2 : (ts.take i).length ≤ ts.length := List.length_take_le' ..
            omega
          unfold BoundAt at hB
          generalize st.l[i] = s at *
          generalize ts[i] = x at *
          obtain ⟨op, kids, num, text⟩ := x
          simp only [twC, List.getElem?_cons_zero, List.getElem?_cons_succ, Nat.add_zero] at y0 y1 y2 y3
          unfold intV at z0
          unfold twV at kM kU
          dsimp only at kM kU hB hT
          generalize hns : namesL (ts.take i) = ns at *
          replace hns := Lib.hid hns
          replace hT := Lib.hid hT
          obtain ⟨na, nc, rfl, hn1, hn2⟩ := id hN.out.shape
          clear hY hc hcl
          cases hm : makesB ⟨op, kids, num, text⟩ with
          | true =>
            rw [hm] at hB kM
            simp only [↓reduceIte] at hB
            obtain ⟨rfl, hnl100⟩ := hB
            have hs1 : ((ns.length : Int) != (ns.length : Int)) = false := by simp
            have hs2 : ¬ ((100 : Int) ≤ (ns.length : Int)) := by omega
            have hT2 := hT.out
            rw [hm] at hT2
            simp only [↓reduceIte] at hT2
            replace hT2 := Lib.hid hT2
            replace kM := Lib.hid kM
            replace hm := Lib.hid hm
            clear kU hT
            go_wp2_with fail
            refine (kM.out _).mono ?_
            rintro e' w5 ⟨rfl, hb5⟩
            have u3 := Below.keeps hb5 y3
            have u0 := Below.keeps hb5 z0
            have hN5 := NamesAt.below hN.out hb5
            have hb6 := hb.out.trans (hb5.mono hbz)
            have hal := (Below.refl w5.heap.size w5).alloc (Nat.le_refl _) (.cells #[.string ⟨text.toArray⟩] 9)
            have hnA := Lib.hid (NamesAt.below hN5 hal)
            have hcA : (w5.alloc (.cells #[.string ⟨text.toArray⟩] 9)).cell? ⟨w5.heap.size, 0, none⟩ = some (strV text) := one_cell _ _ _ 0
            have hz6 := hb6.size
            have hzA : w2.heap.size ≤ (w5.alloc (.cells #[.string ⟨text.toArray⟩] 9)).heap.size := by simp; omega
            have hbA := Lib.hid (hb6.trans (hal.mono hz6))
            clear hb5 hN5 hb6 hal hN hb y0 y1 y2 y3 z0
            go_wp2_with (at_builtin; refine wpList_append_name rfl _ _ rfl rfl hnA.out rfl hcA (by omega) hzA ?_
                         intro a6 cap6 w6 hn6 ho6
                         have hb7 := Lib.hid (hbA.out.trans (ho6.below hzA (fun k hk e => by have := (hnA.out.block e).1; omega)))
                         replace hn6 := Lib.hid hn6
                         clear ho6)
            go_roundw
            case rel => exact ⟨i + 1, by omega, by go_num, Lib.hid (by rw [hT2.out]; exact hn6.out), hb7⟩
            case measure => simp [intOf]; omega
          | false =>
            rw [hm] at hB kM
            simp only [Bool.false_eq_true, ↓reduceIte] at hB
            have hT2 := hT.out
            rw [hm] at hT2
            simp only [Bool.false_eq_true, ↓reduceIte, List.append_nil] at hT2
            replace hT2 := Lib.hid hT2
            replace kM := Lib.hid kM
            replace hm := Lib.hid hm
            clear hT
            cases hu : usesB ⟨op, kids, num, text⟩ with
            | true =>
              rw [hu] at hB kU
              simp only [↓reduceIte] at hB
              obtain ⟨k, hsk, hk⟩ := hB
              obtain ⟨hkl, hke⟩ := List.getElem?_eq_some_iff.1 hk
              obtain ⟨gn, rfl, hcn⟩ := NamesAt.cells hN.out rfl (by omega)
              have v0 := hcn k hkl
              rw [hke] at v0
              unfold strV at v0
              have hkt : k = s.toNat := by omega
              rw [hkt] at v0
              have hs0 : 0 ≤ s := by omega
              have hs3 : s < (ns.length : Int) := by omega
              clear hsk hkt hke hcn hk hkl
              replace kU := Lib.hid kU
              replace hu := Lib.hid hu
              go_wp2_with fail
              refine (kM.out _).mono ?_
              rintro e' w5 ⟨rfl, hb5⟩
              have q0 := Below.keeps hb5 y0; have q1 := Below.keeps hb5 y1; have q2 := Below.keeps hb5 y2; have q3 := Below.keeps hb5 y3
              have q4 := Below.keeps hb5 z0; have q5 := Below.keeps hb5 v0
              have hN5 := NamesAt.below hN.out hb5
              have hb6 := hb.out.trans (hb5.mono hbz)
              clear y0 y1 y2 y3 z0 v0 hN hb hb5
              go_wp2_with fail
              refine (kU.out _).mono ?_
              rintro e' w6 ⟨rfl, hb7⟩
              have u3 := Below.keeps hb7 q3
              have u4 := Below.keeps hb7 q4; have u5 := Below.keeps hb7 q5
              have hz6 := hb6.size
              have hN7 := Lib.hid (NamesAt.below hN5 hb7)
              have hb8 := Lib.hid (hb6.trans (hb7.mono hz6))
              clear q0 q1 q2 q3 q4 q5 hN5 hb6 hb7
              go_wp2_with fail
              have hd1 : decide (s < 0) = false := decide_eq_false (by omega)
              have hd2 : decide ((ns.length : Int) ≤ s) = false := decide_eq_false (by omega)
              go_region
              have hN9 := Lib.hid (NamesAt.below hN7.out (Below.refl _ _).drew)
              have hb9 := Lib.hid hb8.out.drew
              go_wp2_with fail
              go_roundw
              case rel => exact ⟨i + 1, by omega, by go_num, Lib.hid (by rw [hT2.out]; exact hN9.out), hb9⟩
              case measure => simp [intOf]; omega
            | false =>
              rw [hu] at hB kU
              simp only [Bool.false_eq_true, ↓reduceIte] at hB
              subst hB
              replace kU := Lib.hid kU
              replace hu := Lib.hid hu
              go_wp2_with fail
              refine (kM.out _).mono ?_
              rintro e' w5 ⟨rfl, hb5⟩
              have q0 := Below.keeps hb5 y0; have q1 := Below.keeps hb5 y1; have q2 := Below.keeps hb5 y2; have q3 := Below.keeps hb5 y3
              have q4 := Below.keeps hb5 z0
              have hN5 := NamesAt.below hN.out hb5
              have hb6 := hb.out.trans (hb5.mono hbz)
              clear y0 y1 y2 y3 z0 hN hb hb5
              go_wp2_with fail
              refine (kU.out _).mono ?_
              rintro e' w6 ⟨rfl, hb7⟩
              have u4 := Below.keeps hb7 q4
              have hz6 := hb6.size
              have hN7 := Lib.hid (NamesAt.below hN5 hb7)
              have hb8 := Lib.hid (hb6.trans (hb7.mono hz6))
              clear q0 q1 q2 q3 q4 hN5 hb6 hb7
              go_wp2_with fail
              go_roundw
              case rel => exact ⟨i + 1, by omega, by go_num, Lib.hid (by rw [hT2.out]; exact hN7.out), hb8⟩
              case measure => simp [intOf]; omega
        · obtain rfl : i = ts.length := by omega
          have hlti : ¬ ((ts.length : Int) < (ts.length : Int)) := by omega
          have hb3 := Lib.hid (below_next hb2.out hb.out)
          go_wp2_with fail
          refine (hWk.out _).mono ?_
          rintro e w5 ⟨rfl, hb5⟩
          go_wp2_with fail
          go_ret
          exact ⟨rfl, below_next hb3.out hb5⟩
end Go.Proofs.Ytngbekhegnmfaaa
