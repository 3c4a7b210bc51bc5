/- check's pass, the closure of slots that calls itself (layer 11): its first half, walked. No condition. -/
import Derived.Test.YtefijbpbenmbgaaDoorCkM
import Derived.LoopTactic
import Derived.IntWalk
import Derived.Deep.RegionWith
import Derived.Deep.RegionHeld
namespace Go.Proofs.YtefijbpbenmbgaaDoor
open Go.RowKit Go.Shelf

theorem count_le : ∀ F : Fs, F.count ≤ F.flat.length
  | .nil => Nat.le_refl _
  | .cons x k r => by
    have := count_le r
    show r.count + 1 ≤ (x :: (k.flat ++ r.flat)).length
    rw [List.length_cons, List.length_append]
    omega
def AllP (Q : Tw → Fs → Prop) : Fs → Prop
  | .nil => True
  | .cons x k r => Q x k ∧ AllP Q r
theorem slot_err {st : CSt} {x : Tw} (h : (slotC st x).2.2 ≠ 0) : (slotC st x).2.1 = st.made := by
  unfold slotC at h ⊢
  by_cases h1 : x.op = 2 ∨ x.op = 4
  · rw [if_pos h1] at h ⊢
    cases hF : (findL st.seen x.text).isSome with
    | true => rfl
    | false =>
      rw [hF] at h
      simp only [Bool.false_eq_true, ↓reduceIte] at h ⊢
      by_cases h2 : st.made = 100
      · rw [if_pos h2]
      · rw [if_neg h2] at h; exact absurd rfl h
  · rw [if_neg h1] at h ⊢
    by_cases h2 : x.op = 5 ∨ x.op = 26
    · rw [if_pos h2] at h ⊢
      cases hF : findL st.seen x.text <;> rfl
    · rw [if_neg h2]
/-- How far trees lead. -/
theorem trees_len : ∀ (F : Fs) (st : CSt), (treesC F st).2 = 0 → (treesC F st).1.l.length = st.l.length + F.flat.length
  | .nil, st, _ => by simp [treesC, Fs.flat]
  | .cons x k r, st, h => by
    unfold treesC at h ⊢
    by_cases h1 : (slotC st x).2.2 ≠ 0
    · rw [if_pos h1] at h; exact absurd h h1
    · rw [if_neg h1] at h ⊢
      have ih := trees_len k ⟨st.l ++ [(slotC st x).1], st.seen, (slotC st x).2.1⟩
      generalize treesC k ⟨st.l ++ [(slotC st x).1], st.seen, (slotC st x).2.1⟩ = R at *
      by_cases h2 : R.2 ≠ 0
      · rw [if_pos h2] at h; exact absurd h h2
      · rw [if_neg h2] at h ⊢
        have i1 := ih (by omega)
        have i2 := trees_len r _ h
        rw [i2]
        have e : (endC x (slotC st x).1 st.seen.length R.1).l = R.1.l := by
          unfold endC
          split
          · rfl
          · split <;> rfl
        rw [e, i1]
        show (st.l ++ [(slotC st x).1]).length + k.flat.length + r.flat.length = _
        rw [List.length_append, List.length_singleton]
        show _ = st.l.length + (x :: (k.flat ++ r.flat)).length
        rw [List.length_cons, List.length_append]
        omega
theorem tree_len {x : Tw} {k : Fs} {st : CSt} (h : (treeC x k st).2 = 0) : (treeC x k st).1.l.length = st.l.length + 1 + k.flat.length := by
  rw [← tree_one] at h ⊢
  rw [trees_len _ _ h]
  show _ + (x :: (k.flat ++ [])).length = _
  rw [List.append_nil, List.length_cons]
  omega
theorem tree_good {x : Tw} {k : Fs} {st : CSt} (hok : (Fs.cons x k .nil).ok) (hg : GoodC st) (h : (treeC x k st).2 = 0) : GoodC (treeC x k st).1 := by
  rw [← tree_one] at h ⊢
  exact (trees_good _ _ hok hg h).1
section
variable (w0 : World) (gt gl gs gp : Nat) (v : Value) (ts : List Tw)
/-- The pass goes past a tree as the plain one does. -/
def PassOK (x : Tw) (K : Fs) : Prop := ∀ (w : World) (st : CSt) (rest : List Tw), CMem w0 w gt gl gs gp v ts st → ts.drop st.l.length = x :: (K.flat ++ rest) → GoodC st →
    Calls Tryd.prog 33 (capsC gt gl gs gp) w fun e w' => e = .returned (.int .i64 (treeC x K st).2) ∧ CMem w0 w' gt gl gs gp v ts (treeC x K st).1 ∧ Only (Fps w0.heap.size w) w w'
end
theorem drop_get {ts : List Tw} {i : Nat} {x : Tw} {l : List Tw} (h : ts.drop i = x :: l) : ∃ hi : i < ts.length, ts[i] = x := by
  have hi : i < ts.length := by
    have := congrArg List.length h
    rw [List.length_drop, List.length_cons] at this
    omega
  refine ⟨hi, ?_⟩
  rw [List.drop_eq_getElem_cons hi] at h
  injection h
set_option maxRecDepth 20000 in
set_option maxHeartbeats 4000000 in
theorem pass_step {w0 : World} {gt gl gs gp : Nat} {v : Value} {ts : List Tw} (hf : ∀ x ∈ ts, FitT x) (hn : ts.length ≤ 2048) {x : Tw} {K : Fs} (hok : (Fs.cons x K .nil).ok) (hK : AllP (PassOK w0 gt gl gs gp v ts) K) : PassOK w0 gt gl gs gp v ts x K := by
  intro w st rest hM hd hg
  obtain ⟨hi, hx⟩ := drop_get hd
  obtain ⟨Z, hZ⟩ := exHid (treeC x K st)
  rw [hZ.out]
  have hz := hZ.out
  clear hZ
  unfold treeC at hz
  have hfit := hf _ (List.getElem_mem hi)
  rw [hx] at hfit
  obtain ⟨a, cap, rfl, htc, htm, hcells⟩ := id hM.tw
  obtain ⟨g, off, rfl, hg0, hc⟩ := hcells (by omega)
  have hbs := hM.b.size
  obtain ⟨lv, hl1, hl2⟩ := hM.l
  obtain ⟨la, lc, rfl, hlc, hlm⟩ := id hl2.shape
  obtain ⟨b, nv, hV⟩ := id hM.s
  obtain ⟨na, nc, rfl, _, _⟩ := id hV.n.shape
  have hsl : (st.seen.map Prod.fst).length = st.seen.length := List.length_map ..
  have hVs := hV.s
  rw [hsl] at hVs
  have hC : ∀ c, c < 4 → w.cell? ⟨g, off + st.l.length * 4 + c, none⟩ = (twC x)[c]? := fun c hc4 => by
    rw [← hx]
    exact (hM.b.cell (p := ⟨g, off + st.l.length * 4 + c, none⟩) hg0).trans (hc _ hi c hc4)
  have y0 := hC 0 (by omega); have y1 := hC 1 (by omega); have y2 := hC 2 (by omega); have y3 := hC 3 (by omega)
  obtain ⟨op, kids, num, text⟩ := x
  simp only [twC, List.getElem?_cons_zero, List.getElem?_cons_succ, Nat.add_zero] at y0 y1 y2 y3
  have x0 := cellC hM.t 0
  have x1 := cellC hl1 0
  have x2 := cellC hVs 1
  simp only [List.getElem?_toArray, List.getElem?_cons_succ, List.getElem?_cons_zero] at x0 x1 x2
  have hii : (st.l.length : Int) < (ts.length : Int) := by omega
  have hal := (Below.refl w.heap.size w).alloc (Nat.le_refl _) (.cells #[.int .u8 0, .int .i64 0, .int .i64 0, .string ⟨#[]⟩] 34)
  have hN : (w.alloc (.cells #[.int .u8 0, .int .i64 0, .int .i64 0, .string ⟨#[]⟩] 34)).heap[w.heap.size]? = some (.cells #[.int .u8 0, .int .i64 0, .int .i64 0, .string ⟨#[]⟩] 34 (0, 0)) := heap_alloc_new w _
  have n0 := cellC hN 0; have n1 := cellC hN 1; have n2 := cellC hN 2; have n3 := cellC hN 3
  simp only [List.getElem?_toArray, List.getElem?_cons_succ, List.getElem?_cons_zero] at n0 n1 n2 n3
  have m0 := fzC hN 0; have m1 := fzC hN 1; have m2 := fzC hN 2; have m3 := fzC hN 3
  replace hN := Lib.hid hN
  have z0 := Below.keeps hal x0; have z1 := Below.keeps hal x1; have z2 := Below.keeps hal x2
  have w0' := Below.keeps hal y0; have w1' := Below.keeps hal y1; have w2' := Below.keeps hal y2; have w3' := Below.keeps hal y3
  have hal1 := (Below.refl w.heap.size w).alloc (Nat.le_refl _) (.cells #[.int .u8 op, .int .i64 kids, .int .i64 num, .string ⟨text.toArray⟩] 34)
  have u0 := Below.keeps hal1 x0; have u1 := Below.keeps hal1 x1; have u2 := Below.keeps hal1 x2
  have v0' := Below.keeps hal1 y0; have v1' := Below.keeps hal1 y1; have v2' := Below.keeps hal1 y2; have v3' := Below.keeps hal1 y3
  replace hal1 := Lib.hid hal1
  have hoS := Lib.hid (stored4C hN.out (.int .u8 (op : Int)) (.int .i64 kids) (.int .i64 num) (.string ⟨text.toArray⟩))
  replace hal := Lib.hid hal
  have kS := fun (W : World) (h : Sc W w0.heap.size gs st.seen st.made) => slot_any (st := st) h ⟨op, kids, num, text⟩ hfit.1 hg.few
  have hOK := slot_ok (x := ⟨op, kids, num, text⟩) hg
  have hER := slot_err (st := st) (x := ⟨op, kids, num, text⟩)
  unfold twV at kS
  dsimp only at kS
  generalize slotC st ⟨op, kids, num, text⟩ = Q at *
  obtain ⟨sl, md, er⟩ := Q
  dsimp only at kS hOK hER hz
  replace kS := Lib.hid kS
  replace hOK := Lib.hid hOK
  replace hER := Lib.hid hER
  replace hz := Lib.hid hz
  have hMM := Lib.hid hM
  replace hd := Lib.hid hd
  replace hK := Lib.hid hK
  replace hok := Lib.hid hok
  clear hC hc hcells hM hV hVs hl1 hl2 hx hf hi
  generalize hSL : st.l.length = i at *
  generalize hNL : st.seen.length = q at *
  replace hSL := Lib.hid hSL
  replace hNL := Lib.hid hNL
  clear hsl
  unfold capsC
  go_enter Tryd.func33, Tryd.ntmps33
  go_wp2_with fail
  go_region
  have hM1 := hMM.out.below hal1.out.drew
  have hx1 : (w.alloc (.cells #[.int .u8 op, .int .i64 kids, .int .i64 num, .string ⟨text.toArray⟩] 34)).drew.heap[w.heap.size]? = some (.cells #[.int .u8 op, .int .i64 kids, .int .i64 num, .string ⟨text.toArray⟩] 34 (0, 0)) := heap_alloc_new w _
  have ho1 : Only (Fps w0.heap.size w) w (w.alloc (.cells #[.int .u8 op, .int .i64 kids, .int .i64 num, .string ⟨text.toArray⟩] 34)).drew := Only.of_below hal1.out.drew
  clear n0 n1 n2 n3 m0 m1 m2 m3 z0 z1 z2 w0' w1' w2' w3' u0 u1 u2 v0' v1' v2' v3' hoS hal hal1 hN x0 x1 x2 y0 y1 y2 y3 hMM
  generalize (w.alloc (.cells #[.int .u8 op, .int .i64 kids, .int .i64 num, .string ⟨text.toArray⟩] 34)).drew = W1 at *
  have e0 := cellC hx1 0; have e1 := cellC hx1 1; have e2 := cellC hx1 2; have e3 := cellC hx1 3
  simp only [List.getElem?_toArray, List.getElem?_cons_succ, List.getElem?_cons_zero] at e0 e1 e2 e3
  go_wp2_with fail
  refine (kS.out _ hM1.s).mono ?_
  rintro e' w2 ⟨rfl, hS2, ho2⟩
  have hM2 := Lib.hid (hM1.scope hS2 ho2)
  have hx2 := Lib.hid (heldC ho2 hx1 (notF hx1 (by decide)))
  have ho3 := Lib.hid (ps_then ho1 (sc_ps ho2))
  have hxw : w.heap.size < w2.heap.size := (Array.getElem?_eq_some_iff.1 hx2.out).1
  clear kS hM1 hx1 ho1 e0 e1 e2 e3 hS2 ho2
  by_cases hE : er ≠ 0
  · have hq : (er != 0) = true := bne_iff_ne.2 hE
    have hzz := hz.out
    rw [if_pos hE] at hzz
    have hmd := hER.out hE
    subst hmd
    subst hzz
    clear hE hOK hER hz
    go_wp2_with fail
    go_ret
    exact ⟨rfl, hM2.out, ho3.out⟩
  · have hzz := hz.out
    rw [if_neg hE] at hzz
    obtain ⟨s1, s2, s3⟩ := hOK.out hE
    have her : er = 0 := by omega
    subst her
    replace s3 := Lib.hid s3
    replace hzz := Lib.hid hzz
    obtain ⟨lv, l1, l2⟩ := hM2.out.l
    have l1c := cellC l1 0
    have l1f := fzC l1 0
    simp only [List.getElem?_toArray, List.getElem?_cons_zero] at l1c
    have hln : st.l.length ≤ 1000000 := by have := hSL.out; omega
    have hb0 : w0.heap.size ≤ w2.heap.size := hM2.out.b.size
    have hal := (Below.refl w2.heap.size w2).alloc (Nat.le_refl _) (.cells #[.int .i64 sl] 3)
    have hnA := Lib.hid (IntsAt.below l2 hal)
    have hcA : (w2.alloc (.cells #[.int .i64 sl] 3)).cell? ⟨w2.heap.size, 0, none⟩ = some (intV sl) := one_cell _ _ _ 0
    have hzA : w0.heap.size ≤ (w2.alloc (.cells #[.int .i64 sl] 3)).heap.size := by simp; omega
    have lA := Lib.hid (heldC (F := fun _ => False) (Only.of_below hal) l1 (fun h => h))
    have lAc := cellC lA.out 0
    simp only [List.getElem?_toArray, List.getElem?_cons_zero] at lAc
    have l1h := Lib.hid l1
    have l2h := Lib.hid l2
    clear hE hOK hER hz hal l1 l2
    have hPsh := Lib.hid (fun (w3 : World) (v3 : Value) (h3 : IntsAt w3 w0.heap.size v3 (st.l ++ [sl])) (ho : Only (fun k => lv.ownBlock = some k) (w2.alloc (.cells #[.int .i64 sl] 3)) w3) =>
      show (CMem w0 (w3.setCell ⟨gl, 0, none⟩ v3) gt gl gs gp (.slice (some ⟨g, off, none⟩) ts.length cap) ts ⟨st.l ++ [sl], st.seen, md⟩ ∧ Only (Fps w0.heap.size w2) w2 (w3.setCell ⟨gl, 0, none⟩ v3)) ∧ w3.heap[gl]? = some (.cells #[lv] 41 (0, 0)) from
        ⟨hM2.out.push l1h.out l2h.out h3 ho, heldC ho lA.out (hnA.out.apart lA.out (by decide))⟩)
    go_wp2_with (at_builtin; refine wpList_append_int rfl _ _ rfl rfl hnA.out rfl hcA (by omega) hzA ?_
                 intro a3 cap3 w3 hn3 hoA3
                 obtain ⟨⟨hM4, ho4⟩, g3⟩ := hPsh.out _ _ hn3 hoA3
                 have g3c := cellC g3 0
                 have g3f := fzC g3 0
                 simp only [List.getElem?_toArray, List.getElem?_cons_zero] at g3c
                 have hx4 := heldC ho4 hx2.out (notP hx2.out (by decide))
                 have k4 := cellC hx4 1
                 simp only [List.getElem?_toArray, List.getElem?_cons_succ, List.getElem?_cons_zero] at k4
                 replace hM4 := Lib.hid hM4
                 replace ho4 := Lib.hid ho4
                 replace hx4 := Lib.hid hx4
                 clear hn3 hoA3 g3)
    have hg1 : GoodC ⟨st.l ++ [sl], st.seen, md⟩ := ⟨hg.nd, s2, fun p hp => Nat.lt_of_lt_of_le (hg.lt p hp) s1, Nat.le_trans hg.len s1, hg.tl⟩
    have hd1 : ts.drop (st.l ++ [sl]).length = K.flat ++ rest := by
      have h1 := congrArg List.tail hd.out
      rw [List.tail_drop, List.tail_cons] at h1
      rw [List.length_append, List.length_singleton, hSL.out]
      exact h1
    have hokk : K.ok ∧ kids = (K.count : Int) := ⟨hok.out.2.2.1, hok.out.2.1⟩
    have hTG := trees_good K ⟨st.l ++ [sl], st.seen, md⟩ hokk.1 hg1
    obtain ⟨ZK, hZK⟩ := exHid (treesC K ⟨st.l ++ [sl], st.seen, md⟩)
    rw [hZK.out] at hTG
    replace hTG := Lib.hid hTG
    have hzk := hzz.out
    rw [hZK.out] at hzk
    replace hzk := Lib.hid hzk
    have ho5 := Lib.hid (ps_then ho3.out ho4.out)
    replace hg1 := Lib.hid hg1
    replace hd1 := Lib.hid hd1
    replace hZK := Lib.hid hZK.out
    obtain ⟨hok1, hkn⟩ := hokk
    have hkc : kids ≤ 1000000 := by
      have := hfit.2.1
      have h2 : kids = (K.count : Int) := hkn
      have h3 := count_le K
      have h4 := congrArg List.length hd1.out
      simp only [List.length_append, List.length_drop] at h4
      omega
    replace hok1 := Lib.hid hok1
    replace hkn := Lib.hid hkn
    generalize w3.setCell ⟨gl, 0, none⟩ (.slice a3 (st.l.length + 1) cap3) = W4 at *
    clear hPsh hnA hcA hzA lA lAc l1h l2h g3c g3f k4 l1c l1f hM2 hx2 ho3 ho4 hzz hii hd hfit
    go_loopw [9, 32] (fun t9 t32 wr => ∃ (j : Nat) (R : Fs) (s' : CSt), t32 = .int .i64 j ∧ Hid ((j : Int) + (R.count : Int) = kids) ∧ Hid (CMem w0 wr gt gl gs gp (.slice (some ⟨g, off, none⟩) ts.length cap) ts s') ∧ Hid (GoodC s') ∧ Hid (treesC R s' = ZK) ∧ Hid (AllP (PassOK w0 gt gl gs gp (.slice (some ⟨g, off, none⟩) ts.length cap) ts) R) ∧ Hid R.ok ∧ Hid (ts.drop s'.l.length = R.flat ++ rest) ∧ Hid (Only (Fps w0.heap.size w) w wr) ∧ Hid (wr.heap[w.heap.size]? = some (.cells #[.int .u8 op, .int .i64 kids, .int .i64 num, .string ⟨text.toArray⟩] 34 (0, 0)))) (fun _ t32 _ => kids.toNat - (intOf t32).toNat)
    case atStart => exact ⟨0, K, _, rfl, Lib.hid (by rw [hkn.out]; simp), hM4, hg1, hZK, hK, hok1, hd1, ho5, hx4⟩
    case round =>
      clear hM4 hg1 hZK hK hok1 hd1 ho5 hx4
      obtain ⟨j, R, s', rfl, hjk, hMr, hgr, hZr, hAr, hor, hdr, hor2, hxr⟩ := hrel
      cases R with
      | cons y ky r =>
        have hlt : (j : Int) < kids := by have := hjk.out; have h2 : (Fs.cons y ky r).count = r.count + 1 := rfl; omega
        have hpc := cellC hMr.out.p 0
        simp only [List.getElem?_toArray, List.getElem?_cons_zero] at hpc
        unfold capsC at hpc
        have hdr2 : ts.drop s'.l.length = y :: (ky.flat ++ (r.flat ++ rest)) := by rw [hdr.out]; simp [Fs.flat]
        have kP := Lib.hid (hAr.out.1 wr s' _ hMr.out hdr2 hgr.out)
        unfold capsC at kP
        have hstep := trees_step y ky r s'
        rw [hZr.out] at hstep
        have hgood := tree_good (x := y) (k := ky) (st := s') ⟨hor.out.1, hor.out.2.1, hor.out.2.2.1, trivial⟩ hgr.out
        have hlen := tree_len (x := y) (k := ky) (st := s')
        obtain ⟨TY, hTY⟩ := exHid (treeC y ky s')
        rw [hTY.out] at kP hstep hgood hlen
        obtain ⟨sy, ey⟩ := TY
        dsimp only at kP hstep hgood hlen
        replace hstep := Lib.hid hstep
        replace hgood := Lib.hid hgood
        replace hlen := Lib.hid hlen
        replace hdr2 := Lib.hid hdr2
        clear hMr hgr hZr hTY
        go_wp2_with fail
        refine kP.out.mono ?_
        rintro e' w5 ⟨rfl, hM5, hoP⟩
        have ho5 := Lib.hid (ps_then hor2.out hoP)
        have hx5 := Lib.hid (heldC hoP hxr.out (notP hxr.out (by decide)))
        replace hM5 := Lib.hid hM5
        clear kP hoP hor2 hxr hpc
        by_cases hE : ey ≠ 0
        · have hq : (ey != 0) = true := bne_iff_ne.2 hE
          have h1 := hstep.out
          rw [if_pos hE] at h1
          subst h1
          have h2 := hzk.out
          dsimp only at h2
          rw [if_pos hE] at h2
          subst h2
          clear hE hstep hgood hlen hzk
          go_wp2_with fail
          go_ret
          exact ⟨rfl, hM5.out, ho5.out⟩
        · have hey : ey = 0 := by omega
          subst hey
          have h1 := hstep.out
          rw [if_neg hE] at h1
          have hg5 := Lib.hid (hgood.out rfl)
          have hl5 := hlen.out rfl
          have hd5 : ts.drop sy.l.length = r.flat ++ rest := by
            rw [hl5, Nat.add_assoc, ← List.drop_drop, hdr2.out, Nat.add_comm 1, List.drop_succ_cons, List.drop_left]
          replace hd5 := Lib.hid hd5
          have hj5 : Hid (((j + 1 : Nat) : Int) + (r.count : Int) = kids) := Lib.hid (by have := hjk.out; have h2 : (Fs.cons y ky r).count = r.count + 1 := rfl; omega)
          have hjb : (j : Int) + 1 ≤ 1000000 := by omega
          clear hE hstep hgood hlen hl5
          go_wp2_with fail
          go_roundw
          case rel => exact ⟨j + 1, r, sy, by go_num, hj5, hM5, hg5, Lib.hid h1.symm, Lib.hid hAr.out.2, Lib.hid hor.out.2.2.2, hd5, ho5, hx5⟩
          case measure => simp [intOf]; omega
      | nil =>
        have hlt : ¬ (j : Int) < kids := by have := hjk.out; have h2 : Fs.nil.count = 0 := rfl; omega
        have hze : ZK = (s', 0) := hZr.out.symm
        subst hze
        have hE := hzk.out
        dsimp only at hE
        rw [if_neg (by simp)] at hE
        replace hE := Lib.hid hE
        have xr0 := cellC hxr.out 0
        have xr3 := cellC hxr.out 3
        simp only [List.getElem?_toArray, List.getElem?_cons_succ, List.getElem?_cons_zero] at xr0 xr3
        obtain ⟨hgs, hms, ex, hex, hexp⟩ := hTG.out rfl
        dsimp only at hgs hms hex
        have hMr2 := hMr.out
        have hbr := hMr2.b.size
        have hsl100 : s'.seen.length ≤ 1000000 := by have := hgs.len; have := hgs.few; omega
        have hql : q ≤ s'.seen.length := by rw [hex, List.length_append, hNL.out]; omega
        by_cases c24 : op = 2 ∨ op = 4
        · obtain ⟨t1, t2, t3⟩ := s3.out c24
          have hpl : ex = [] := by
            obtain ⟨kd, hk, ha, hp⟩ := hok.out.1
            exact hexp (kind_plain hk (by dsimp only; omega) (by dsimp only; omega) hp)
          rw [hpl, List.append_nil] at hex
          rw [← hex] at t1
          have hsv : st.made ≤ 1000000 := by have := hg.few; omega
          have htl : text.length ≤ 9223372036854775807 := by
            obtain ⟨kd, hk, ha, hp⟩ := hok.out.1
            have := made_len hk ha c24
            dsimp only at this
            omega
          have kW := Lib.hid (show_any hMr2.s hbr t1 htl hsl100 hsv)
          have hend : endC ⟨op, kids, num, text⟩ sl q s' = ⟨s'.l, s'.seen ++ [(text, st.made)], s'.made⟩ := by
            unfold endC
            rw [if_pos c24, t2, Int.toNat_natCast]
          have hE2 := hE.out
          rw [hend] at hE2
          rw [t2]
          have hM6 := Lib.hid (fun (W : World) (hS : Sc W w0.heap.size gs (s'.seen ++ [(text, st.made)]) s'.made) (ho : Only (Fsc w0.heap.size wr) wr W) => hMr2.scope hS ho)
          have hor3 := Lib.hid (fun (W : World) (ho : Only (Fsc w0.heap.size wr) wr W) => ps_then hor2.out (sc_ps ho))
          clear hE hTG hgs hms hex hexp hMr hgr hZr hAr hor hdr hor2 hxr hjk s3 t3 hMr2 hend
          rcases c24 with c | c
          · have q2 : ((op : Int) == 2) = true := by rw [c]; rfl
            replace c := Lib.hid c
            subst hE2
            go_wp2_with fail
            refine kW.out.mono ?_
            rintro e' w6 ⟨rfl, hS6, ho6⟩
            go_wp2_with fail
            go_ret
            exact ⟨rfl, hM6.out _ hS6 ho6, hor3.out _ ho6⟩
          · have q2 : ((op : Int) == 2) = false := beq_eq_false_iff_ne.2 (by omega)
            have q4 : ((op : Int) == 4) = true := by rw [c]; rfl
            replace c := Lib.hid c
            subst hE2
            go_wp2_with fail
            refine kW.out.mono ?_
            rintro e' w6 ⟨rfl, hS6, ho6⟩
            go_wp2_with fail
            go_ret
            exact ⟨rfl, hM6.out _ hS6 ho6, hor3.out _ ho6⟩
        · have q2 : ((op : Int) == 2) = false := beq_eq_false_iff_ne.2 (by omega)
          have q4 : ((op : Int) == 4) = false := beq_eq_false_iff_ne.2 (by omega)
          by_cases c3 : op = 3
          · have q3 : ((op : Int) == 3) = true := by rw [c3]; rfl
            have kW := Lib.hid (hide_any hMr2.s hgs.nd (fun p hp => by have := hgs.tl p hp; omega) hsl100 hql)
            have hE2 := hE.out
            unfold endC at hE2
            rw [if_neg c24, if_pos c3] at hE2
            have hM6 := Lib.hid (fun (W : World) (hS : Sc W w0.heap.size gs (s'.seen.take q) s'.made) (ho : Only (Fsc w0.heap.size wr) wr W) => hMr2.scope hS ho)
            have hor3 := Lib.hid (fun (W : World) (ho : Only (Fsc w0.heap.size wr) wr W) => ps_then hor2.out (sc_ps ho))
            replace c3 := Lib.hid c3
            clear hE hTG hgs hms hex hexp hMr hgr hZr hAr hor hdr hor2 hxr hjk s3 hMr2 c24
            subst hE2
            go_wp2_with fail
            refine kW.out.mono ?_
            rintro e' w6 ⟨rfl, hS6, ho6⟩
            go_wp2_with fail
            go_ret
            exact ⟨rfl, hM6.out _ hS6 ho6, hor3.out _ ho6⟩
          · have q3 : ((op : Int) == 3) = false := beq_eq_false_iff_ne.2 (by omega)
            have hE2 := hE.out
            unfold endC at hE2
            rw [if_neg c24, if_neg c3] at hE2
            clear hE hTG hgs hms hex hexp hgr hZr hAr hor hdr hxr hjk s3 hMr2 c24 c3
            subst hE2
            go_wp2_with fail
            go_ret
            exact ⟨rfl, hMr.out, hor2.out⟩
/-- The pass goes past all trees of a forest as the plain one does. -/
theorem pass_all {w0 : World} {gt gl gs gp : Nat} {v : Value} {ts : List Tw} (hf : ∀ x ∈ ts, FitT x) (hn : ts.length ≤ 2048) : ∀ F : Fs, F.ok → AllP (PassOK w0 gt gl gs gp v ts) F
  | .nil, _ => trivial
  | .cons _ k r, ⟨h1, h2, h3, h4⟩ => ⟨pass_step hf hn ⟨h1, h2, h3, trivial⟩ (pass_all hf hn k h3), pass_all hf hn r h4⟩
end Go.Proofs.YtefijbpbenmbgaaDoor
