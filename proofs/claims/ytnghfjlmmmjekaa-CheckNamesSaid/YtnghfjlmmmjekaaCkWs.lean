/- The document's walk of a tree (layer 11), step by step. No condition. -/
import Derived.Test.YtnghfjlmmmjekaaCkV
namespace Go.Proofs.Ytnghfjlmmmjekaa
open Go.RowKit Go.Shelf

set_option maxRecDepth 20000 in
set_option maxHeartbeats 8000000 in
theorem walk_step {w0 : World} {gs gl n cl : Nat} {tv : Value} {ts : List Tw} (hn : n = ts.length) (hl : ts.length ≤ 2048) (hks : ∀ x ∈ ts, 0 ≤ x.kids ∧ x.kids ≤ 2048) (x : Tw) (k : Fs) (hok : (Fs.cons x k .nil).ok) (hA : AllT (WalkP w0 gs gl n cl tv ts) k) : WalkP w0 gs gl n cl tv ts x k := by
  subst hn
  intro w S i rest v L h hd hv hL hm
  have hil : i < ts.length := by
    rcases Nat.lt_or_ge i ts.length with h | h
    · exact h
    · rw [List.drop_eq_nil_of_le h] at hd; cases hd
  have hxi : ts[i] = x := by
    have := List.drop_eq_getElem_cons hil
    rw [hd] at this
    injection this with h _
    exact h.symm
  have hx := hok.2.1
  have hko := hok.2.2.1
  have kK := Lib.hid (fun (W : World) (hT : TwIn W tv ts) => KidsAt_any W hT hks hl hd hx hko)
  obtain ⟨g, off, cap, rfl, hc⟩ := twText h.twin hil
  have y0 := hc 0 (by omega); have y1 := hc 1 (by omega); have y2 := hc 2 (by omega); have y3 := hc 3 (by omega)
  have c0 := cellC h.s 0
  rw [hxi] at y0 y1 y2 y3
  obtain ⟨op, kids, num, text⟩ := x
  simp only [twC, List.getElem?_cons_zero, List.getElem?_cons_succ, Nat.add_zero] at y0 y1 y2 y3
  simp only [headD, List.getElem?_toArray, List.getElem?_cons_zero] at c0
  have hii : (i : Int) < (ts.length : Int) := by omega
  have hal := (Below.refl w.heap.size w).alloc (Nat.le_refl _) (.cells #[.int .u8 0, .int .i64 0, .int .i64 0, .string ⟨#[]⟩] 49)
  have hN : (w.alloc (.cells #[.int .u8 0, .int .i64 0, .int .i64 0, .string ⟨#[]⟩] 49)).heap[w.heap.size]? = some (.cells #[.int .u8 0, .int .i64 0, .int .i64 0, .string ⟨#[]⟩] 49 (0, 0)) := heap_alloc_new w _
  have n0 := cellC hN 0; have n1 := cellC hN 1; have n2 := cellC hN 2; have n3 := cellC hN 3
  simp only [List.getElem?_toArray, List.getElem?_cons_succ, List.getElem?_cons_zero] at n0 n1 n2 n3
  have m0 := fzC hN 0; have m1 := fzC hN 1; have m2 := fzC hN 2; have m3 := fzC hN 3
  replace hN := Lib.hid hN
  have hal1 := Lib.hid ((Below.refl w.heap.size w).alloc (Nat.le_refl _) (.cells #[.int .u8 op, .int .i64 kids, .int .i64 num, .string ⟨text.toArray⟩] 49))
  replace hal := Lib.hid hal
  replace hd := Lib.hid hd
  replace hA := Lib.hid hA
  replace hok := Lib.hid hok
  replace hx := Lib.hid hx
  replace hv := Lib.hid hv
  have hmo := Lib.hid h
  have hmt := Lib.hid h.twin
  obtain ⟨va, vc, rfl, _, _⟩ := id hv.out.shape
  clear hc hxi h hks hko
  have x0' := Below.keeps hal1.out c0
  have hx1 : (w.alloc (.cells #[.int .u8 op, .int .i64 kids, .int .i64 num, .string ⟨text.toArray⟩] 49)).heap[w.heap.size]? = some (.cells #[.int .u8 op, .int .i64 kids, .int .i64 num, .string ⟨text.toArray⟩] 49 (0, 0)) := heap_alloc_new w _
  replace hx1 := Lib.hid hx1
  go_enter Try.func24, Try.ntmps24
  go_wp2_with fail
  refine (kK.out _ (hmt.out.below hal1.out)).mono ?_
  rintro e' w2 ⟨kv, rfl, hO, hb2⟩
  have hz1 := hal1.out.size
  have hx1s := (Array.getElem?_eq_some_iff.1 hx1.out).1
  have hx2 := (hb2.block _ hx1s).trans hx1.out
  have hb12 := hal1.out.trans (hb2.mono hz1)
  clear n0 n1 n2 n3 m0 m1 m2 m3 hN hal y0 y1 y2 y3 c0 x0' hx1
  generalize (w.alloc (.cells #[.int .u8 op, .int .i64 kids, .int .i64 num, .string ⟨text.toArray⟩] 49)) = W1 at *
  have e0 := cellC hx2 0; have e3 := cellC hx2 3
  simp only [List.getElem?_toArray, List.getElem?_cons_succ, List.getElem?_cons_zero] at e0 e3
  have hgs := (Array.getElem?_eq_some_iff.1 hmo.out.s).1
  have hgl := hmo.out.glb.2
  have hw00 := hmo.out.b.size
  have hS := Lib.hid (hmo.out.below hb12)
  replace hv := Lib.hid (hv.out.below hb12)
  have oA := Lib.hid (Only.of_below (F := fun k => k = gs ∨ k = gl) hb12)
  obtain ⟨ka, kc, rfl, _, _⟩ := id hO.shape
  have hdk : ts.drop (i + 1) = k.flat ++ rest := by
    rw [← List.drop_drop, hd.out]
    rfl
  rw [offsF_len] at hO ⊢
  have hkc : k.count ≤ 2048 := by
    have h1 := fs_lens k
    have h2 := congrArg List.length hdk
    rw [List.length_drop, List.length_append] at h2
    omega
  replace hO := Lib.hid hO
  replace hdk := Lib.hid hdk
  replace hx2 := Lib.hid hx2
  clear hmo hmt hb2 hb12 kK
  by_cases hu : op = 5 ∨ op = 26
  · have hL6 : L.length ≤ 1000000 := by omega
    have kF := find11_any w2.drew (hv.out.below (Below.refl _ _).drew) hL6 text
    have kW := Lib.hid (fun (W : World) (S : D11) (hh : SMem w0 W gs gl ts.length cl (.slice (some ⟨g, off, none⟩) ts.length cap) ts S) => wrong11_any hh i 110)
    have q3 : ((op : Int) != 3) = true := bne_iff_ne.2 (by omega)
    have hd3 : decide (op = 3) = false := decide_eq_false (by omega)
    have r1 := cellC hS.out.s 1
    simp only [headD, List.getElem?_toArray, List.getElem?_cons_succ, List.getElem?_cons_zero] at r1
    unfold strV at kF
    obtain ⟨Z, hZ⟩ : ∃ Z, findI L text = Z := ⟨_, rfl⟩
    rw [hZ] at kF
    replace kF := Lib.hid kF
    have hS3 := hS.out.below (Below.refl _ _).drew
    obtain ⟨fl, x9, cl9, _⟩ := hS3.cell hil
    obtain ⟨p1, p2⟩ := hS3.slot i Z
    obtain ⟨_, x8, cl8, hx8⟩ := p1.cell hil
    have hx8' : x8 = Z := by
      dsimp only at hx8
      rw [List.getElem?_set_self (by rw [hS3.len]; exact hil)] at hx8
      injection hx8 with hx8
      exact hx8.symm
    subst hx8'
    have r4 := cellC p1.s 1
    simp only [headD, List.getElem?_toArray, List.getElem?_cons_succ, List.getElem?_cons_zero] at r4
    have hx3 := (p2.block _ (Array.getElem?_eq_some_iff.1 hx2.out).1 (by omega)).trans hx2.out
    have hv3 := Lib.hid (VarsAt.keep (hv.out.below (Below.refl _ _).drew) p2 (fun g e => keepV hS3 g (.inr e)))
    have hO3 := Lib.hid (offs_keep (hO.out.below (Below.refl _ _).drew) p2 (fun k e => by omega))
    have oB := Lib.hid (oA.out.drew.trans p2 (K := fun k => k = gs ∨ k = gl) (fun k _ e => e) (fun k _ e => .inr e))
    replace p1 := Lib.hid p1
    replace hx3 := Lib.hid hx3
    clear hS3 p2 hv hO oA hS
    cases q5 : ((op : Int) == 5) with
    | true =>
      go_wp2_with fail
      refine wp_region_still_tail 10 (by kernel_rfl) (by kernel_rfl) ?_
      simp only [List.take_succ_cons, List.take_zero, List.drop_succ_cons, List.drop_zero]
      iterate 8 still_step
      still_call kF.out
      still_step
      refine wpStill_nil ?_
      change wpList _ _ _ _ _ w2.drew
      generalize w2.drew = w3 at *
      have f0 := cellC hx3.out 0
      simp only [List.getElem?_toArray, List.getElem?_cons_zero] at f0
      cases hf : findL L text with
      | some u =>
        have hz : x8 = (u : Int) := by rw [← hZ]; unfold findI; rw [hf]
        subst hz
        have hnn : ¬ ((u : Int) < 0) := by omega
        obtain ⟨S1, hS1⟩ := exHid (⟨S.l.set i (u : Int), S.made, S.at_, S.e⟩ : D11)
        have hm1 : S1.made ≤ i := by rw [← hS1.out]; exact hm
        have hT1 : Hid (dTree ⟨op, kids, num, text⟩ k i L S = dF false k (i + 1) L S1) := Lib.hid (by rw [← hS1.out]; unfold dTree useD; rw [if_pos hu, hf, hd3])
        have hS : Hid (SMem w0 (w3.setCell ⟨gl, i, none⟩ (.int .i64 (u : Int))) gs gl ts.length cl (.slice (some ⟨g, off, none⟩) ts.length cap) ts S1) := Lib.hid (by rw [← hS1.out]; exact p1.out)
        clear kF hu hf hZ hx3 hx2 kW p1 hd3
        go_wp2_with fail
        generalize w3.setCell ⟨gl, i, none⟩ (.int .i64 (u : Int)) = w4 at *
        clear f0 cl8 cl9 r4 r1 fl
        go_loopw [8] (fun t8 wr => ∃ (j o : Nat) (A : List Nat) (G : Fs) (S2 : D11), t8 = .int .i64 j ∧ Hid (A.length = j) ∧ j + G.count = k.count ∧ Hid (offsF k (i + 1) = A ++ offsF G o) ∧ Hid (ts.drop o = G.flat ++ rest) ∧ Hid (AllT (WalkP w0 gs gl ts.length cl (.slice (some ⟨g, off, none⟩) ts.length cap) ts) G) ∧ i < o ∧ S2.made ≤ o ∧ Hid (SMem w0 wr gs gl ts.length cl (.slice (some ⟨g, off, none⟩) ts.length cap) ts S2) ∧ Hid (VarsAt wr w0.heap.size (.slice va L.length vc) L) ∧ Hid (OffsAt wr W1.heap.size (.slice ka k.count kc) (offsF k (i + 1))) ∧ Hid (dF false k (i + 1) L S1 = dF false G o L S2) ∧ Hid (Only (fun k => k = gs ∨ k = gl) w wr)) (fun t8 _ => k.count - (intOf t8).toNat)
        case atStart => exact ⟨0, i + 1, [], k, S1, rfl, Lib.hid rfl, by omega, Lib.hid rfl, hdk, hA, by omega, by omega, hS, hv3, hO3, Lib.hid rfl, oB⟩
        case round =>
          obtain ⟨j, o, A, G, S2, rfl, hAj, hj, hoo, hdo, hG, hio, hmo2, hS2, hv2, hO2, hdf, o2⟩ := hrel
          cases G with
          | nil =>
            have hjk : j = k.count := by have e : Fs.nil.count = 0 := rfl; omega
            have hlti : ¬ ((j : Int) < (k.count : Int)) := by omega
            have hfin : Hid (dTree ⟨op, kids, num, text⟩ k i L S = S2) := Lib.hid (hT1.out.trans hdf.out)
            clear hoo hdo hG hdf hAj
            go_wp2_with fail
            refine bodyPost_ret (results_none rfl _ _ _) rfl ?_
            rw [hfin.out]
            exact ⟨rfl, hS2.out, o2.out⟩
          | cons y ky r =>
            obtain ⟨hP, hAk, hAr⟩ := hG.out
            have hcc : (Fs.cons y ky r).count = r.count + 1 := rfl
            have hlti : (j : Int) < (k.count : Int) := by omega
            have hdd : ts.drop o = y :: (ky.flat ++ (r.flat ++ rest)) := by
              rw [hdo.out]
              show (y :: (ky.flat ++ r.flat)) ++ rest = _
              rw [List.cons_append, List.append_assoc]
            have hdr : ts.drop (o + 1 + ky.flat.length) = r.flat ++ rest := by
              rw [Nat.add_assoc, ← List.drop_drop, hdd, Nat.add_comm 1, List.drop_succ_cons, List.drop_left]
            have hon : offsF k (i + 1) = (A ++ [o]) ++ offsF r (o + 1 + ky.flat.length) := by
              rw [hoo.out, List.append_assoc]
              rfl
            have hlk := offsF_len k (i + 1)
            obtain ⟨gk, ck, e, _, hgk2, hck⟩ := hO2.out.owned (by omega)
            rw [hlk] at e
            have hkk := hck j (by omega)
            have hgo : (offsF k (i + 1))[j]'(by omega) = o := by
              have h1 : (offsF k (i + 1))[j]? = some o := by rw [hoo.out, ← hAj.out, List.getElem?_append_right (Nat.le_refl _), Nat.sub_self]; rfl
              obtain ⟨_, h2⟩ := List.getElem?_eq_some_iff.1 h1
              exact h2
            rw [hgo] at hkk
            injection e with e1 e2 e3
            subst e1 e3
            unfold natV at hkk
            have kP := Lib.hid (hP _ S2 o (r.flat ++ rest) (.slice va L.length vc) L hS2.out hdd hv2.out (by omega) hmo2)
            have hdf2 : dF false k (i + 1) L S1 = dF false r (o + 1 + ky.flat.length) L (dTree y ky o L S2) := hdf.out.trans (dF_cons (fun h => absurd h.1 (by decide)))
            have hmd : (dTree y ky o L S2).made ≤ o + 1 + ky.flat.length := by
              have h1 := dF_made ky (decide (y.op = 3)) (o + 1) L (useD y o L S2)
              have h2 := useD_made y o L S2
              unfold dTree
              omega
            have hjr : j + 1 + r.count = k.count := by omega
            have hA6 : Hid ((A ++ [o]).length = j + 1) := Lib.hid (by rw [List.length_append, hAj.out]; rfl)
            replace hdr := Lib.hid hdr
            replace hon := Lib.hid hon
            replace hAr := Lib.hid hAr
            replace hdf2 := Lib.hid hdf2
            obtain ⟨S3, hS3⟩ := exHid (dTree y ky o L S2)
            rw [hS3.out] at hdf2 hmd kP
            have hsz := hS2.out.glb.2
            clear hoo hdo hG hdf hAj hck hdd hlk hP hAk hgo e2
            go_wp2_with fail
            refine kP.out.mono ?_
            rintro e' w5 ⟨rfl, h5, o5⟩
            have hv5 := Lib.hid (VarsAt.keep hv2.out o5 (keepV hS2.out))
            have hO5 := Lib.hid (offs_keep hO2.out o5 (fun k e => by rcases e with e | e <;> omega))
            have o6 := Lib.hid (o2.out.trans o5 (fun k _ e => e) (fun k _ e => e))
            replace h5 := Lib.hid h5
            go_wp2_with fail
            go_roundw
            case rel => exact ⟨j + 1, o + 1 + ky.flat.length, A ++ [o], r, S3, by go_num, hA6, hjr, hon, hdr, hAr, by omega, hmd, h5, hv5, hO5, hdf2, o6⟩
            case measure => simp [intOf]; omega
      | none =>
        have hz : x8 = -1 := by rw [← hZ]; unfold findI; rw [hf]
        subst hz
        have hnn : (-1 : Int) < 0 := by omega
        obtain ⟨S1, hS1⟩ := exHid (wrongD ⟨S.l.set i (-1), S.made, S.at_, S.e⟩ i 110)
        have hm1 : S1.made ≤ i := by rw [← hS1.out, wrong_made]; exact hm
        have hT1 : Hid (dTree ⟨op, kids, num, text⟩ k i L S = dF false k (i + 1) L S1) := Lib.hid (by rw [← hS1.out]; unfold dTree useD; rw [if_pos hu, hf, hd3])
        clear kF hu hf hZ hx2 hd3 f0
        go_wp2_with fail
        refine (kW.out _ _ p1.out).mono ?_
        rintro e' w5 ⟨rfl, h5, o5⟩
        have hx5 := (o5.block _ (Array.getElem?_eq_some_iff.1 hx3.out).1 (by omega)).trans hx3.out
        have f0 := cellC hx5 0
        simp only [List.getElem?_toArray, List.getElem?_cons_zero] at f0
        have hv5 := Lib.hid (VarsAt.keep hv3.out o5 (fun g e => keepV p1.out g (.inl e)))
        have hO5 := Lib.hid (offs_keep hO3.out o5 (fun k e => by omega))
        have oC := Lib.hid (oB.out.trans o5 (K := fun k => k = gs ∨ k = gl) (fun k _ e => e) (fun k _ e => .inl e))
        rw [hS1.out] at h5
        have hS := Lib.hid h5
        clear h5 o5 hx5 p1 kW hx3 hv3 hO3 oB cl8 cl9 r4 r1 fl
        go_wp2_with fail
        clear f0
        go_loopw [8] (fun t8 wr => ∃ (j o : Nat) (A : List Nat) (G : Fs) (S2 : D11), t8 = .int .i64 j ∧ Hid (A.length = j) ∧ j + G.count = k.count ∧ Hid (offsF k (i + 1) = A ++ offsF G o) ∧ Hid (ts.drop o = G.flat ++ rest) ∧ Hid (AllT (WalkP w0 gs gl ts.length cl (.slice (some ⟨g, off, none⟩) ts.length cap) ts) G) ∧ i < o ∧ S2.made ≤ o ∧ Hid (SMem w0 wr gs gl ts.length cl (.slice (some ⟨g, off, none⟩) ts.length cap) ts S2) ∧ Hid (VarsAt wr w0.heap.size (.slice va L.length vc) L) ∧ Hid (OffsAt wr W1.heap.size (.slice ka k.count kc) (offsF k (i + 1))) ∧ Hid (dF false k (i + 1) L S1 = dF false G o L S2) ∧ Hid (Only (fun k => k = gs ∨ k = gl) w wr)) (fun t8 _ => k.count - (intOf t8).toNat)
        case atStart => exact ⟨0, i + 1, [], k, S1, rfl, Lib.hid rfl, by omega, Lib.hid rfl, hdk, hA, by omega, by omega, hS, hv5, hO5, Lib.hid rfl, oC⟩
        case round =>
          obtain ⟨j, o, A, G, S2, rfl, hAj, hj, hoo, hdo, hG, hio, hmo2, hS2, hv2, hO2, hdf, o2⟩ := hrel
          cases G with
          | nil =>
            have hjk : j = k.count := by have e : Fs.nil.count = 0 := rfl; omega
            have hlti : ¬ ((j : Int) < (k.count : Int)) := by omega
            have hfin : Hid (dTree ⟨op, kids, num, text⟩ k i L S = S2) := Lib.hid (hT1.out.trans hdf.out)
            clear hoo hdo hG hdf hAj
            go_wp2_with fail
            refine bodyPost_ret (results_none rfl _ _ _) rfl ?_
            rw [hfin.out]
            exact ⟨rfl, hS2.out, o2.out⟩
          | cons y ky r =>
            obtain ⟨hP, hAk, hAr⟩ := hG.out
            have hcc : (Fs.cons y ky r).count = r.count + 1 := rfl
            have hlti : (j : Int) < (k.count : Int) := by omega
            have hdd : ts.drop o = y :: (ky.flat ++ (r.flat ++ rest)) := by
              rw [hdo.out]
              show (y :: (ky.flat ++ r.flat)) ++ rest = _
              rw [List.cons_append, List.append_assoc]
            have hdr : ts.drop (o + 1 + ky.flat.length) = r.flat ++ rest := by
              rw [Nat.add_assoc, ← List.drop_drop, hdd, Nat.add_comm 1, List.drop_succ_cons, List.drop_left]
            have hon : offsF k (i + 1) = (A ++ [o]) ++ offsF r (o + 1 + ky.flat.length) := by
              rw [hoo.out, List.append_assoc]
              rfl
            have hlk := offsF_len k (i + 1)
            obtain ⟨gk, ck, e, _, hgk2, hck⟩ := hO2.out.owned (by omega)
            rw [hlk] at e
            have hkk := hck j (by omega)
            have hgo : (offsF k (i + 1))[j]'(by omega) = o := by
              have h1 : (offsF k (i + 1))[j]? = some o := by rw [hoo.out, ← hAj.out, List.getElem?_append_right (Nat.le_refl _), Nat.sub_self]; rfl
              obtain ⟨_, h2⟩ := List.getElem?_eq_some_iff.1 h1
              exact h2
            rw [hgo] at hkk
            injection e with e1 e2 e3
            subst e1 e3
            unfold natV at hkk
            have kP := Lib.hid (hP _ S2 o (r.flat ++ rest) (.slice va L.length vc) L hS2.out hdd hv2.out (by omega) hmo2)
            have hdf2 : dF false k (i + 1) L S1 = dF false r (o + 1 + ky.flat.length) L (dTree y ky o L S2) := hdf.out.trans (dF_cons (fun h => absurd h.1 (by decide)))
            have hmd : (dTree y ky o L S2).made ≤ o + 1 + ky.flat.length := by
              have h1 := dF_made ky (decide (y.op = 3)) (o + 1) L (useD y o L S2)
              have h2 := useD_made y o L S2
              unfold dTree
              omega
            have hjr : j + 1 + r.count = k.count := by omega
            have hA6 : Hid ((A ++ [o]).length = j + 1) := Lib.hid (by rw [List.length_append, hAj.out]; rfl)
            replace hdr := Lib.hid hdr
            replace hon := Lib.hid hon
            replace hAr := Lib.hid hAr
            replace hdf2 := Lib.hid hdf2
            obtain ⟨S3, hS3⟩ := exHid (dTree y ky o L S2)
            rw [hS3.out] at hdf2 hmd kP
            have hsz := hS2.out.glb.2
            clear hoo hdo hG hdf hAj hck hdd hlk hP hAk hgo e2
            go_wp2_with fail
            refine kP.out.mono ?_
            rintro e' w5 ⟨rfl, h5, o5⟩
            have hv5 := Lib.hid (VarsAt.keep hv2.out o5 (keepV hS2.out))
            have hO5 := Lib.hid (offs_keep hO2.out o5 (fun k e => by rcases e with e | e <;> omega))
            have o6 := Lib.hid (o2.out.trans o5 (fun k _ e => e) (fun k _ e => e))
            replace h5 := Lib.hid h5
            go_wp2_with fail
            go_roundw
            case rel => exact ⟨j + 1, o + 1 + ky.flat.length, A ++ [o], r, S3, by go_num, hA6, hjr, hon, hdr, hAr, by omega, hmd, h5, hv5, hO5, hdf2, o6⟩
            case measure => simp [intOf]; omega
    | false =>
      have q26 : ((op : Int) == 26) = true := by
        have : (op : Int) ≠ 5 := by simpa using q5
        rcases hu with h | h
        · omega
        · rw [h]; rfl
      go_wp2_with fail
      refine wp_region_still_tail 10 (by kernel_rfl) (by kernel_rfl) ?_
      simp only [List.take_succ_cons, List.take_zero, List.drop_succ_cons, List.drop_zero]
      iterate 8 still_step
      still_call kF.out
      still_step
      refine wpStill_nil ?_
      change wpList _ _ _ _ _ w2.drew
      generalize w2.drew = w3 at *
      have f0 := cellC hx3.out 0
      simp only [List.getElem?_toArray, List.getElem?_cons_zero] at f0
      cases hf : findL L text with
      | some u =>
        have hz : x8 = (u : Int) := by rw [← hZ]; unfold findI; rw [hf]
        subst hz
        have hnn : ¬ ((u : Int) < 0) := by omega
        obtain ⟨S1, hS1⟩ := exHid (⟨S.l.set i (u : Int), S.made, S.at_, S.e⟩ : D11)
        have hm1 : S1.made ≤ i := by rw [← hS1.out]; exact hm
        have hT1 : Hid (dTree ⟨op, kids, num, text⟩ k i L S = dF false k (i + 1) L S1) := Lib.hid (by rw [← hS1.out]; unfold dTree useD; rw [if_pos hu, hf, hd3])
        have hS : Hid (SMem w0 (w3.setCell ⟨gl, i, none⟩ (.int .i64 (u : Int))) gs gl ts.length cl (.slice (some ⟨g, off, none⟩) ts.length cap) ts S1) := Lib.hid (by rw [← hS1.out]; exact p1.out)
        clear kF hu hf hZ hx3 hx2 kW p1 hd3
        go_wp2_with fail
        generalize w3.setCell ⟨gl, i, none⟩ (.int .i64 (u : Int)) = w4 at *
        clear f0 cl8 cl9 r4 r1 fl
        go_loopw [8] (fun t8 wr => ∃ (j o : Nat) (A : List Nat) (G : Fs) (S2 : D11), t8 = .int .i64 j ∧ Hid (A.length = j) ∧ j + G.count = k.count ∧ Hid (offsF k (i + 1) = A ++ offsF G o) ∧ Hid (ts.drop o = G.flat ++ rest) ∧ Hid (AllT (WalkP w0 gs gl ts.length cl (.slice (some ⟨g, off, none⟩) ts.length cap) ts) G) ∧ i < o ∧ S2.made ≤ o ∧ Hid (SMem w0 wr gs gl ts.length cl (.slice (some ⟨g, off, none⟩) ts.length cap) ts S2) ∧ Hid (VarsAt wr w0.heap.size (.slice va L.length vc) L) ∧ Hid (OffsAt wr W1.heap.size (.slice ka k.count kc) (offsF k (i + 1))) ∧ Hid (dF false k (i + 1) L S1 = dF false G o L S2) ∧ Hid (Only (fun k => k = gs ∨ k = gl) w wr)) (fun t8 _ => k.count - (intOf t8).toNat)
        case atStart => exact ⟨0, i + 1, [], k, S1, rfl, Lib.hid rfl, by omega, Lib.hid rfl, hdk, hA, by omega, by omega, hS, hv3, hO3, Lib.hid rfl, oB⟩
        case round =>
          obtain ⟨j, o, A, G, S2, rfl, hAj, hj, hoo, hdo, hG, hio, hmo2, hS2, hv2, hO2, hdf, o2⟩ := hrel
          cases G with
          | nil =>
            have hjk : j = k.count := by have e : Fs.nil.count = 0 := rfl; omega
            have hlti : ¬ ((j : Int) < (k.count : Int)) := by omega
            have hfin : Hid (dTree ⟨op, kids, num, text⟩ k i L S = S2) := Lib.hid (hT1.out.trans hdf.out)
            clear hoo hdo hG hdf hAj
            go_wp2_with fail
            refine bodyPost_ret (results_none rfl _ _ _) rfl ?_
            rw [hfin.out]
            exact ⟨rfl, hS2.out, o2.out⟩
          | cons y ky r =>
            obtain ⟨hP, hAk, hAr⟩ := hG.out
            have hcc : (Fs.cons y ky r).count = r.count + 1 := rfl
            have hlti : (j : Int) < (k.count : Int) := by omega
            have hdd : ts.drop o = y :: (ky.flat ++ (r.flat ++ rest)) := by
              rw [hdo.out]
              show (y :: (ky.flat ++ r.flat)) ++ rest = _
              rw [List.cons_append, List.append_assoc]
            have hdr : ts.drop (o + 1 + ky.flat.length) = r.flat ++ rest := by
              rw [Nat.add_assoc, ← List.drop_drop, hdd, Nat.add_comm 1, List.drop_succ_cons, List.drop_left]
            have hon : offsF k (i + 1) = (A ++ [o]) ++ offsF r (o + 1 + ky.flat.length) := by
              rw [hoo.out, List.append_assoc]
              rfl
            have hlk := offsF_len k (i + 1)
            obtain ⟨gk, ck, e, _, hgk2, hck⟩ := hO2.out.owned (by omega)
            rw [hlk] at e
            have hkk := hck j (by omega)
            have hgo : (offsF k (i + 1))[j]'(by omega) = o := by
              have h1 : (offsF k (i + 1))[j]? = some o := by rw [hoo.out, ← hAj.out, List.getElem?_append_right (Nat.le_refl _), Nat.sub_self]; rfl
              obtain ⟨_, h2⟩ := List.getElem?_eq_some_iff.1 h1
              exact h2
            rw [hgo] at hkk
            injection e with e1 e2 e3
            subst e1 e3
            unfold natV at hkk
            have kP := Lib.hid (hP _ S2 o (r.flat ++ rest) (.slice va L.length vc) L hS2.out hdd hv2.out (by omega) hmo2)
            have hdf2 : dF false k (i + 1) L S1 = dF false r (o + 1 + ky.flat.length) L (dTree y ky o L S2) := hdf.out.trans (dF_cons (fun h => absurd h.1 (by decide)))
            have hmd : (dTree y ky o L S2).made ≤ o + 1 + ky.flat.length := by
              have h1 := dF_made ky (decide (y.op = 3)) (o + 1) L (useD y o L S2)
              have h2 := useD_made y o L S2
              unfold dTree
              omega
            have hjr : j + 1 + r.count = k.count := by omega
            have hA6 : Hid ((A ++ [o]).length = j + 1) := Lib.hid (by rw [List.length_append, hAj.out]; rfl)
            replace hdr := Lib.hid hdr
            replace hon := Lib.hid hon
            replace hAr := Lib.hid hAr
            replace hdf2 := Lib.hid hdf2
            obtain ⟨S3, hS3⟩ := exHid (dTree y ky o L S2)
            rw [hS3.out] at hdf2 hmd kP
            have hsz := hS2.out.glb.2
            clear hoo hdo hG hdf hAj hck hdd hlk hP hAk hgo e2
            go_wp2_with fail
            refine kP.out.mono ?_
            rintro e' w5 ⟨rfl, h5, o5⟩
            have hv5 := Lib.hid (VarsAt.keep hv2.out o5 (keepV hS2.out))
            have hO5 := Lib.hid (offs_keep hO2.out o5 (fun k e => by rcases e with e | e <;> omega))
            have o6 := Lib.hid (o2.out.trans o5 (fun k _ e => e) (fun k _ e => e))
            replace h5 := Lib.hid h5
            go_wp2_with fail
            go_roundw
            case rel => exact ⟨j + 1, o + 1 + ky.flat.length, A ++ [o], r, S3, by go_num, hA6, hjr, hon, hdr, hAr, by omega, hmd, h5, hv5, hO5, hdf2, o6⟩
            case measure => simp [intOf]; omega
      | none =>
        have hz : x8 = -1 := by rw [← hZ]; unfold findI; rw [hf]
        subst hz
        have hnn : (-1 : Int) < 0 := by omega
        obtain ⟨S1, hS1⟩ := exHid (wrongD ⟨S.l.set i (-1), S.made, S.at_, S.e⟩ i 110)
        have hm1 : S1.made ≤ i := by rw [← hS1.out, wrong_made]; exact hm
        have hT1 : Hid (dTree ⟨op, kids, num, text⟩ k i L S = dF false k (i + 1) L S1) := Lib.hid (by rw [← hS1.out]; unfold dTree useD; rw [if_pos hu, hf, hd3])
        clear kF hu hf hZ hx2 hd3 f0
        go_wp2_with fail
        refine (kW.out _ _ p1.out).mono ?_
        rintro e' w5 ⟨rfl, h5, o5⟩
        have hx5 := (o5.block _ (Array.getElem?_eq_some_iff.1 hx3.out).1 (by omega)).trans hx3.out
        have f0 := cellC hx5 0
        simp only [List.getElem?_toArray, List.getElem?_cons_zero] at f0
        have hv5 := Lib.hid (VarsAt.keep hv3.out o5 (fun g e => keepV p1.out g (.inl e)))
        have hO5 := Lib.hid (offs_keep hO3.out o5 (fun k e => by omega))
        have oC := Lib.hid (oB.out.trans o5 (K := fun k => k = gs ∨ k = gl) (fun k _ e => e) (fun k _ e => .inl e))
        rw [hS1.out] at h5
        have hS := Lib.hid h5
        clear h5 o5 hx5 p1 kW hx3 hv3 hO3 oB cl8 cl9 r4 r1 fl
        go_wp2_with fail
        clear f0
        go_loopw [8] (fun t8 wr => ∃ (j o : Nat) (A : List Nat) (G : Fs) (S2 : D11), t8 = .int .i64 j ∧ Hid (A.length = j) ∧ j + G.count = k.count ∧ Hid (offsF k (i + 1) = A ++ offsF G o) ∧ Hid (ts.drop o = G.flat ++ rest) ∧ Hid (AllT (WalkP w0 gs gl ts.length cl (.slice (some ⟨g, off, none⟩) ts.length cap) ts) G) ∧ i < o ∧ S2.made ≤ o ∧ Hid (SMem w0 wr gs gl ts.length cl (.slice (some ⟨g, off, none⟩) ts.length cap) ts S2) ∧ Hid (VarsAt wr w0.heap.size (.slice va L.length vc) L) ∧ Hid (OffsAt wr W1.heap.size (.slice ka k.count kc) (offsF k (i + 1))) ∧ Hid (dF false k (i + 1) L S1 = dF false G o L S2) ∧ Hid (Only (fun k => k = gs ∨ k = gl) w wr)) (fun t8 _ => k.count - (intOf t8).toNat)
        case atStart => exact ⟨0, i + 1, [], k, S1, rfl, Lib.hid rfl, by omega, Lib.hid rfl, hdk, hA, by omega, by omega, hS, hv5, hO5, Lib.hid rfl, oC⟩
        case round =>
          obtain ⟨j, o, A, G, S2, rfl, hAj, hj, hoo, hdo, hG, hio, hmo2, hS2, hv2, hO2, hdf, o2⟩ := hrel
          cases G with
          | nil =>
            have hjk : j = k.count := by have e : Fs.nil.count = 0 := rfl; omega
            have hlti : ¬ ((j : Int) < (k.count : Int)) := by omega
            have hfin : Hid (dTree ⟨op, kids, num, text⟩ k i L S = S2) := Lib.hid (hT1.out.trans hdf.out)
            clear hoo hdo hG hdf hAj
            go_wp2_with fail
            refine bodyPost_ret (results_none rfl _ _ _) rfl ?_
            rw [hfin.out]
            exact ⟨rfl, hS2.out, o2.out⟩
          | cons y ky r =>
            obtain ⟨hP, hAk, hAr⟩ := hG.out
            have hcc : (Fs.cons y ky r).count = r.count + 1 := rfl
            have hlti : (j : Int) < (k.count : Int) := by omega
            have hdd : ts.drop o = y :: (ky.flat ++ (r.flat ++ rest)) := by
              rw [hdo.out]
              show (y :: (ky.flat ++ r.flat)) ++ rest = _
              rw [List.cons_append, List.append_assoc]
            have hdr : ts.drop (o + 1 + ky.flat.length) = r.flat ++ rest := by
              rw [Nat.add_assoc, ← List.drop_drop, hdd, Nat.add_comm 1, List.drop_succ_cons, List.drop_left]
            have hon : offsF k (i + 1) = (A ++ [o]) ++ offsF r (o + 1 + ky.flat.length) := by
              rw [hoo.out, List.append_assoc]
              rfl
            have hlk := offsF_len k (i + 1)
            obtain ⟨gk, ck, e, _, hgk2, hck⟩ := hO2.out.owned (by omega)
            rw [hlk] at e
            have hkk := hck j (by omega)
            have hgo : (offsF k (i + 1))[j]'(by omega) = o := by
              have h1 : (offsF k (i + 1))[j]? = some o := by rw [hoo.out, ← hAj.out, List.getElem?_append_right (Nat.le_refl _), Nat.sub_self]; rfl
              obtain ⟨_, h2⟩ := List.getElem?_eq_some_iff.1 h1
              exact h2
            rw [hgo] at hkk
            injection e with e1 e2 e3
            subst e1 e3
            unfold natV at hkk
            have kP := Lib.hid (hP _ S2 o (r.flat ++ rest) (.slice va L.length vc) L hS2.out hdd hv2.out (by omega) hmo2)
            have hdf2 : dF false k (i + 1) L S1 = dF false r (o + 1 + ky.flat.length) L (dTree y ky o L S2) := hdf.out.trans (dF_cons (fun h => absurd h.1 (by decide)))
            have hmd : (dTree y ky o L S2).made ≤ o + 1 + ky.flat.length := by
              have h1 := dF_made ky (decide (y.op = 3)) (o + 1) L (useD y o L S2)
              have h2 := useD_made y o L S2
              unfold dTree
              omega
            have hjr : j + 1 + r.count = k.count := by omega
            have hA6 : Hid ((A ++ [o]).length = j + 1) := Lib.hid (by rw [List.length_append, hAj.out]; rfl)
            replace hdr := Lib.hid hdr
            replace hon := Lib.hid hon
            replace hAr := Lib.hid hAr
            replace hdf2 := Lib.hid hdf2
            obtain ⟨S3, hS3⟩ := exHid (dTree y ky o L S2)
            rw [hS3.out] at hdf2 hmd kP
            have hsz := hS2.out.glb.2
            clear hoo hdo hG hdf hAj hck hdd hlk hP hAk hgo e2
            go_wp2_with fail
            refine kP.out.mono ?_
            rintro e' w5 ⟨rfl, h5, o5⟩
            have hv5 := Lib.hid (VarsAt.keep hv2.out o5 (keepV hS2.out))
            have hO5 := Lib.hid (offs_keep hO2.out o5 (fun k e => by rcases e with e | e <;> omega))
            have o6 := Lib.hid (o2.out.trans o5 (fun k _ e => e) (fun k _ e => e))
            replace h5 := Lib.hid h5
            go_wp2_with fail
            go_roundw
            case rel => exact ⟨j + 1, o + 1 + ky.flat.length, A ++ [o], r, S3, by go_num, hA6, hjr, hon, hdr, hAr, by omega, hmd, h5, hv5, hO5, hdf2, o6⟩
            case measure => simp [intOf]; omega
  · have q5 : ((op : Int) == 5) = false := beq_eq_false_iff_ne.2 (by omega)
    have q26 : ((op : Int) == 26) = false := beq_eq_false_iff_ne.2 (by omega)
    have hU : useD ⟨op, kids, num, text⟩ i L S = S := by unfold useD; rw [if_neg hu]
    by_cases h3 : op = 3
    · have q3 : ((op : Int) != 3) = false := by rw [h3]; rfl
      have hT1 : Hid (dTree ⟨op, kids, num, text⟩ k i L S = dF true k (i + 1) L S) := Lib.hid (by unfold dTree; rw [hU, decide_eq_true h3])
      have hkok := Lib.hid hok.out.2.2.1
      clear hU hu h3
      have hw2 := Lib.hid (oA.out.size)
      cases va with
      | none =>
        have hL0 : L.length = 0 := by
          rcases hv.out.2 with ⟨e, _⟩ | ⟨g', cap', cur, e, _⟩
          · injection e
          · cases e
        obtain rfl := List.length_eq_zero_iff.1 hL0
        have hal5 := (Below.refl w2.heap.size w2).alloc (Nat.le_refl _) (.cells #[] 56)
        have hw22 := hw2.out
        have hap := fun (W : World) => append_noneV W 54 w2.heap.size vc
        have hVB := Lib.hid (VarsAt.low (b := w.heap.size) (vars_new w2) hw2.out)
        have hSB := Lib.hid (hS.out.below hal5)
        have hOB := Lib.hid (hO.out.below hal5)
        have oB := Lib.hid (oA.out.trans (Only.of_below (F := fun _ => False) hal5) (K := fun k => k = gs ∨ k = gl) (fun k _ e => e) (fun k _ e => e.elim))
        clear hal5 hv hO hS oA
        go_wp2_with fail
        clear hap
        go_loopw [9, 10, 11] (fun t9 t10 t11 wr => ∃ (j o : Nat) (A : List Nat) (G : Fs) (S2 : D11) (L2 : List (List UInt8 × Nat)), t10 = .int .i64 j ∧ Hid (A.length = j) ∧ j + G.count = k.count ∧ Hid (offsF k (i + 1) = A ++ offsF G o) ∧ Hid (ts.drop o = G.flat ++ rest) ∧ Hid (AllT (WalkP w0 gs gl ts.length cl (.slice (some ⟨g, off, none⟩) ts.length cap) ts) G) ∧ Hid G.ok ∧ i < o ∧ S2.made ≤ o ∧ L2.length ≤ o ∧ Hid (SMem w0 wr gs gl ts.length cl (.slice (some ⟨g, off, none⟩) ts.length cap) ts S2) ∧ Hid (VarsAt wr w.heap.size t9 L2) ∧ Hid (OffsAt wr W1.heap.size (.slice ka k.count kc) (offsF k (i + 1))) ∧ Hid (dF true k (i + 1) [] S = dF true G o L2 S2) ∧ Hid (Only (fun k => k = gs ∨ k = gl) w wr)) (fun _ t10 _ _ => k.count - (intOf t10).toNat)
        case atStart => exact ⟨0, i + 1, [], k, S, [], rfl, Lib.hid rfl, by omega, Lib.hid rfl, hdk, hA, hkok, by omega, by omega, by simp, hSB, hVB, hOB, Lib.hid rfl, oB⟩
        case round =>
          obtain ⟨j, o, A, G, S2, L2, rfl, hAj, hj, hoo, hdo, hG, hGk, hio, hmo2, hLo, hS2, hv2, hO2, hdf, o2⟩ := hrel
          obtain ⟨ma2, mc2, rfl, _, _⟩ := id hv2.out.shape
          cases G with
          | nil =>
            have hjk : j = k.count := by have e : Fs.nil.count = 0 := rfl; omega
            have hlti : ¬ ((j : Int) < (k.count : Int)) := by omega
            have hfin : Hid (dTree ⟨op, kids, num, text⟩ k i [] S = S2) := Lib.hid (hT1.out.trans hdf.out)
            clear hoo hdo hG hdf hAj hGk
            go_wp2_with fail
            refine bodyPost_end (results_none rfl _ _ _) rfl ?_
            rw [hfin.out]
            exact ⟨rfl, hS2.out, o2.out⟩
          | cons y ky r =>
            obtain ⟨hP, hAk, hAr⟩ := hG.out
            have hyk : (Fs.cons y ky .nil).ok := ⟨hGk.out.1, hGk.out.2.1, hGk.out.2.2.1, trivial⟩
            have hrk := hGk.out.2.2.2
            have hcc : (Fs.cons y ky r).count = r.count + 1 := rfl
            have hlti : (j : Int) < (k.count : Int) := by omega
            have hdd : ts.drop o = y :: (ky.flat ++ (r.flat ++ rest)) := by
              rw [hdo.out]
              show (y :: (ky.flat ++ r.flat)) ++ rest = _
              rw [List.cons_append, List.append_assoc]
            have hol : o < ts.length := by
              rcases Nat.lt_or_ge o ts.length with h | h
              · exact h
              · rw [List.drop_eq_nil_of_le h] at hdd; cases hdd
            have hoy : ts[o] = y := by
              have := List.drop_eq_getElem_cons hol
              rw [hdd] at this
              injection this with h _
              exact h.symm
            have hdr : ts.drop (o + 1 + ky.flat.length) = r.flat ++ rest := by
              rw [Nat.add_assoc, ← List.drop_drop, hdd, Nat.add_comm 1, List.drop_succ_cons, List.drop_left]
            have hon : offsF k (i + 1) = (A ++ [o]) ++ offsF r (o + 1 + ky.flat.length) := by
              rw [hoo.out, List.append_assoc]
              rfl
            have hlk := offsF_len k (i + 1)
            obtain ⟨gk, ck, e, hgk1, hgk2, hck⟩ := hO2.out.owned (by omega)
            rw [hlk] at e
            have hkk := hck j (by omega)
            have hgo : (offsF k (i + 1))[j]'(by omega) = o := by
              have h1 : (offsF k (i + 1))[j]? = some o := by rw [hoo.out, ← hAj.out, List.getElem?_append_right (Nat.le_refl _), Nat.sub_self]; rfl
              obtain ⟨_, h2⟩ := List.getElem?_eq_some_iff.1 h1
              exact h2
            rw [hgo] at hkk
            injection e with e1 e2 e3
            subst e1 e3
            unfold natV at hkk
            have hoi : (o : Int) < (ts.length : Int) := by omega
            have hjr : j + 1 + r.count = k.count := by omega
            have hA6 : Hid ((A ++ [o]).length = j + 1) := Lib.hid (by rw [List.length_append, hAj.out]; rfl)
            obtain ⟨g9, off9, cap9, e9, hc9⟩ := twText hS2.out.twin hol
            injection e9 with e91 e92 e93
            injection e91 with e91
            injection e91 with e94 e95 _
            subst e94 e95
            have t0 := hc9 0 (by omega)
            rw [hoy] at t0
            simp only [twC, List.getElem?_cons_zero, Nat.add_zero] at t0
            have c0 := cellC hS2.out.s 0
            simp only [headD, List.getElem?_toArray, List.getElem?_cons_zero] at c0
            have hS3 := Lib.hid (hS2.out.below (Below.refl _ _).drew)
            have hv3 := Lib.hid (hv2.out.below (Below.refl _ _).drew)
            have hO3 := Lib.hid (hO2.out.below (Below.refl _ _).drew)
            have o3 := Lib.hid o2.out.drew
            replace hdr := Lib.hid hdr
            replace hon := Lib.hid hon
            replace hAr := Lib.hid hAr
            replace hrk := Lib.hid hrk
            have hw0 := hS2.out.b.size
            clear hoo hdo hG hck hlk hgo e2 hc9 e92 e93 hGk
            by_cases h4 : y.op = 4
            · obtain ⟨y2, ky2, rfl⟩ := let_one hyk h4
              obtain ⟨hP2, _, _⟩ := hAk
              have q4 : ((y.op : Int) == 4) = true := by rw [h4]; rfl
              have hdf2 := hdf.out.trans (dF_let h4)
              have hfl : (Fs.cons y2 ky2 .nil).flat.length = 1 + ky2.flat.length := by rw [flat_len]; rfl
              have hdy : ts.drop (o + 1) = y2 :: (ky2.flat ++ (r.flat ++ rest)) := by
                rw [← List.drop_drop, hdd]
                show (y2 :: (ky2.flat ++ [])) ++ (r.flat ++ rest) = _
                rw [List.append_nil, List.cons_append]
              have hmk : (makeD S2 o L2 y.text).made = S2.made + 1 := rfl
              have hmd : (dTree y2 ky2 (o + 1) L2 (makeD S2 o L2 y.text)).made ≤ o + 1 + (Fs.cons y2 ky2 .nil).flat.length := by
                have h1 := dF_made ky2 (decide (y2.op = 3)) (o + 1 + 1) L2 (useD y2 (o + 1) L2 (makeD S2 o L2 y.text))
                have h2 := useD_made y2 (o + 1) L2 (makeD S2 o L2 y.text)
                unfold dTree
                omega
              have kMk := Lib.hid (fun (W : World) (hs : SMem w0 W gs gl ts.length cl (.slice (some ⟨g, off, none⟩) ts.length cap) ts S2) (hv : VarsAt W w0.heap.size (.slice ma2 L2.length mc2) L2) => make11_any hs (by omega) hv (by omega) hol hol (text := y.text) (by rw [hoy]))
              obtain ⟨S4, hS4⟩ := exHid (makeD S2 o L2 y.text)
              rw [hS4.out] at kMk hmk hmd hdf2
              have kP := Lib.hid (fun (W : World) (hs : SMem w0 W gs gl ts.length cl (.slice (some ⟨g, off, none⟩) ts.length cap) ts S4) (hv : VarsAt W w0.heap.size (.slice ma2 L2.length mc2) L2) => hP2 W S4 (o + 1) (r.flat ++ rest) (.slice ma2 L2.length mc2) L2 hs hdy hv (by omega) (by omega))
              obtain ⟨S3, hS3e⟩ := exHid (dTree y2 ky2 (o + 1) L2 S4)
              rw [hS3e.out] at hdf2 hmd kP
              rw [show ((o + 1 : Nat) : Int) = (o : Int) + 1 by omega] at kP
              replace hdf2 := Lib.hid hdf2
              generalize (Fs.cons y2 ky2 .nil).flat.length = fl at *
              unfold strV at kMk
              clear hdf hP hP2 hdd hyk hdy
              generalize y.op = yop at *
              generalize y.text = ytx at *
              go_wp2_with fail
              go_region
              have hkk4 : wr.drew.cell? ⟨gk, j, none⟩ = some (.int .i64 (o : Int)) := hkk
              have hgk3 : gk < wr.drew.heap.size := hgk2
              clear hkk c0 t0
              generalize wr.drew = w4 at *
              go_wp2_with fail
              refine (kMk.out _ hS3.out (hv3.out.low hw00)).mono ?_
              rintro e' w5 ⟨rfl, h5, o5⟩
              have hv5 := VarsAt.keep hv3.out o5 (keepV hS3.out)
              have hO5 := offs_keep hO3.out o5 (fun k e => by rcases e with e | e <;> omega)
              have o6 := o3.out.trans o5 (K := fun k => k = gs ∨ k = gl) (fun k _ e => e) (fun k _ e => e)
              have hkk5 : w5.cell? ⟨gk, j, none⟩ = some (.int .i64 (o : Int)) := by
                have hb := o5.block gk hgk3 (fun e => by rcases e with e | e <;> omega)
                simp only [World.cell?, hb]
                exact hkk4
              have hal6 := (Below.refl w5.heap.size w5).alloc (Nat.le_refl _) (.cells #[.string ⟨ytx.toArray⟩, .int .i64 (S2.made : Int)] 56)
              have hkk6 := Below.keeps hal6 hkk5
              go_wp2_with fail
              have hxv : (w5.alloc (.cells #[.string ⟨ytx.toArray⟩, .int .i64 (S2.made : Int)] 56)).heap[w5.heap.size]? = some (.cells #[.string ⟨ytx.toArray⟩, .int .i64 (S2.made : Int)] 56 (0, 0)) := heap_alloc_new w5 _
              have h6 := h5.below hal6
              have hv6 := hv5.below hal6
              have hO6 := hO5.below hal6
              have o7 := o6.trans (Only.of_below (F := fun _ => False) hal6) (K := fun k => k = gs ∨ k = gl) (fun k _ e => e) (fun k _ e => e.elim)
              have hz6 := hal6.size
              have hz5 := o6.size
              clear h5 hv5 hO5 o5 o6 hkk4 hkk5 hal6
              generalize (w5.alloc (.cells #[.string ⟨ytx.toArray⟩, .int .i64 (S2.made : Int)] 56)) = w6 at *
              refine (kP.out _ h6 (hv6.low hw00)).mono ?_
              rintro e' w7 ⟨rfl, h7, o8⟩
              have hv7 := VarsAt.keep hv6 o8 (keepV h6)
              have hO7 := offs_keep hO6 o8 (fun k e => by rcases e with e | e <;> omega)
              have o9 := o7.trans o8 (K := fun k => k = gs ∨ k = gl) (fun k _ e => e) (fun k _ e => e)
              have hxv7 := (o8.block _ (Array.getElem?_eq_some_iff.1 hxv).1 (fun e => by rcases e with e | e <;> omega)).trans hxv
              have x0 := cellC hxv7 0
              have x1 := cellC hxv7 1
              simp only [List.getElem?_toArray, List.getElem?_cons_succ, List.getElem?_cons_zero] at x0 x1
              have hal8 := (Below.refl w7.heap.size w7).alloc (Nat.le_refl _) (.cells #[.string ⟨ytx.toArray⟩, .int .i64 (S2.made : Int)] 56)
              have hcv8 : Hid (∀ j u, (rowOf varC [(ytx, S2.made)])[j]? = some u → (w7.alloc (.cells #[.string ⟨ytx.toArray⟩, .int .i64 (S2.made : Int)] 56)).cell? ⟨w7.heap.size, j, none⟩ = some u) := Lib.hid (by
                intro j u hj
                rw [one_cell, List.getElem?_toArray]
                exact hj)
              have hS8 := Lib.hid (h7.below hal8)
              have hv8 := Lib.hid (hv7.below hal8)
              have hO8 := Lib.hid (hO7.below hal8)
              have o10 := o9.trans (Only.of_below (F := fun _ => False) hal8) (K := fun k => k = gs ∨ k = gl) (fun k _ e => e) (fun k _ e => e.elim)
              have hz8 := o10.size
              replace o10 := Lib.hid o10
              clear h6 hv6 hO6 o7 o8 h7 hv7 hO7 o9 hxv hxv7 hal8 hkk6 kMk kP hS3 hv3 hO3 o3 hS2 hv2 hO2 o2
              go_wp2_with (at_builtin; refine wpList_append_vars (base := w.heap.size) (v := .slice ma2 L2.length mc2) (L := L2) (us := [(ytx, S2.made)]) rfl _ _ rfl rfl hv8.out rfl hcv8.out (by omega) (by simp) hz8 ?_; intro a9 c9 w9 hV9 oV9)
              have hS9 := Lib.hid (hS8.out.varKeep hv8.out hw00 oV9)
              have hO9 := Lib.hid (offs_keepT hO8.out hv8.out oV9)
              have o11 := Lib.hid (o10.out.trans oV9 (K := fun k => k = gs ∨ k = gl) (fun k _ e => e) (fun k hk e => absurd (hv8.out.block e).1 (by omega)))
              replace hV9 := Lib.hid hV9
              clear oV9 hS8 hv8 hO8 o10
              go_wp2_with fail
              go_roundw
              case rel => exact ⟨j + 1, o + 1 + fl, A ++ [o], r, S3, L2 ++ [(ytx, S2.made)], by go_num, hA6, hjr, hon, hdr, hAr, hrk, by omega, hmd, by rw [List.length_append, List.length_singleton]; omega, hS9, hV9, hO9, hdf2, o11⟩
              case measure => simp [intOf]; omega
            · have q4 : ((y.op : Int) == 4) = false := beq_eq_false_iff_ne.2 (by omega)
              have hdf2 : dF true k (i + 1) [] S = dF true r (o + 1 + ky.flat.length) L2 (dTree y ky o L2 S2) := hdf.out.trans (dF_cons (fun h => h4 h.2))
              have hmd : (dTree y ky o L2 S2).made ≤ o + 1 + ky.flat.length := by
                have h1 := dF_made ky (decide (y.op = 3)) (o + 1) L2 (useD y o L2 S2)
                have h2 := useD_made y o L2 S2
                unfold dTree
                omega
              replace hdf2 := Lib.hid hdf2
              obtain ⟨S3, hS3e⟩ := exHid (dTree y ky o L2 S2)
              rw [hS3e.out] at hdf2 hmd
              have kP := Lib.hid (fun (W : World) (hs : SMem w0 W gs gl ts.length cl (.slice (some ⟨g, off, none⟩) ts.length cap) ts S2) (hv : VarsAt W w0.heap.size (.slice ma2 L2.length mc2) L2) => hP W S2 o (r.flat ++ rest) (.slice ma2 L2.length mc2) L2 hs hdd hv hLo hmo2)
              rw [hS3e.out] at kP
              clear hdf hP hAk hdd hyk
              generalize y.op = yop at *
              go_wp2_with fail
              go_region
              have hkk4 : wr.drew.cell? ⟨gk, j, none⟩ = some (.int .i64 (o : Int)) := hkk
              clear hkk c0 t0
              generalize wr.drew = w4 at *
              go_wp2_with fail
              refine (kP.out _ hS3.out (hv3.out.low hw00)).mono ?_
              rintro e' w5 ⟨rfl, h5, o5⟩
              have hv5 := Lib.hid (VarsAt.keep hv3.out o5 (keepV hS3.out))
              have hO5 := Lib.hid (offs_keep hO3.out o5 (fun k e => by rcases e with e | e <;> omega))
              have o6 := Lib.hid (o3.out.trans o5 (K := fun k => k = gs ∨ k = gl) (fun k _ e => e) (fun k _ e => e))
              replace h5 := Lib.hid h5
              go_wp2_with fail
              go_roundw
              case rel => exact ⟨j + 1, o + 1 + ky.flat.length, A ++ [o], r, S3, L2, by go_num, hA6, hjr, hon, hdr, hAr, hrk, by omega, hmd, by omega, h5, hv5, hO5, hdf2, o6⟩
              case measure => simp [intOf]; omega
      | some ad =>
        obtain ⟨gv, rfl, hcv⟩ : ∃ gv, ad = ⟨gv, 0, none⟩ ∧ ∀ j u, (rowOf varC L)[j]? = some u → (w2.alloc (.cells #[] 56)).cell? ⟨gv, j, none⟩ = some u := by
          have hva := hv.out.below ((Below.refl w2.heap.size w2).alloc (Nat.le_refl _) (.cells #[] 56))
          rcases id hva.2 with ⟨e, _⟩ | ⟨g', cap', cur, e, _⟩
          · cases e
          · injection e with e1 _ e3
            injection e1 with e1
            subst e1 e3
            refine ⟨g', rfl, fun j u hj => ?_⟩
            have hjl := (List.getElem?_eq_some_iff.1 hj).1
            rw [rowOf_length varC_len] at hjl
            unfold VarsAt at hva
            exact (World.ownsRow.cellAt hva j hjl).trans hj
        have hal5 := (Below.refl w2.heap.size w2).alloc (Nat.le_refl _) (.cells #[] 56)
        have hz5 := hal5.size
        have hSA := Lib.hid (hS.out.below hal5)
        have hOA := Lib.hid (hO.out.below hal5)
        have oAA := Lib.hid (oA.out.trans (Only.of_below (F := fun _ => False) hal5) (K := fun k => k = gs ∨ k = gl) (fun k _ e => e) (fun k _ e => e.elim))
        replace hcv := Lib.hid hcv
        go_wp2_with (at_builtin; refine wpList_append_vars (base := w2.heap.size) (v := .slice (some ⟨w2.heap.size, 0, none⟩) 0 0) (L := []) (us := L) rfl _ _ rfl rfl (vars_new w2) rfl hcv.out (by simp) (by omega) hz5 ?_; intro ma mc w3 hVB0 oV0)
        have hVB := Lib.hid (VarsAt.low (b := w.heap.size) (show VarsAt w3 w2.heap.size (.slice ma L.length mc) L by simpa using hVB0) hw2.out)
        have hSB := Lib.hid (hSA.out.varKeep (vars_new w2) hS.out.b.size oV0)
        have hOB := Lib.hid (offs_keepT hOA.out (vars_new w2) oV0)
        have hw22 := hw2.out
        have oB := Lib.hid (oAA.out.trans oV0 (K := fun k => k = gs ∨ k = gl) (fun k _ e => e) (fun k hk e => by simp [Value.ownBlock] at e; omega))
        clear hVB0 oV0 hSA hOA oAA hcv hal5 hz5 hv hO hS oA
        go_loopw [9, 10, 11] (fun t9 t10 t11 wr => ∃ (j o : Nat) (A : List Nat) (G : Fs) (S2 : D11) (L2 : List (List UInt8 × Nat)), t10 = .int .i64 j ∧ Hid (A.length = j) ∧ j + G.count = k.count ∧ Hid (offsF k (i + 1) = A ++ offsF G o) ∧ Hid (ts.drop o = G.flat ++ rest) ∧ Hid (AllT (WalkP w0 gs gl ts.length cl (.slice (some ⟨g, off, none⟩) ts.length cap) ts) G) ∧ Hid G.ok ∧ i < o ∧ S2.made ≤ o ∧ L2.length ≤ o ∧ Hid (SMem w0 wr gs gl ts.length cl (.slice (some ⟨g, off, none⟩) ts.length cap) ts S2) ∧ Hid (VarsAt wr w.heap.size t9 L2) ∧ Hid (OffsAt wr W1.heap.size (.slice ka k.count kc) (offsF k (i + 1))) ∧ Hid (dF true k (i + 1) L S = dF true G o L2 S2) ∧ Hid (Only (fun k => k = gs ∨ k = gl) w wr)) (fun _ t10 _ _ => k.count - (intOf t10).toNat)
        case atStart => exact ⟨0, i + 1, [], k, S, L, rfl, Lib.hid rfl, by omega, Lib.hid rfl, hdk, hA, hkok, by omega, by omega, by omega, hSB, hVB, hOB, Lib.hid rfl, oB⟩
        case round =>
          obtain ⟨j, o, A, G, S2, L2, rfl, hAj, hj, hoo, hdo, hG, hGk, hio, hmo2, hLo, hS2, hv2, hO2, hdf, o2⟩ := hrel
          obtain ⟨ma2, mc2, rfl, _, _⟩ := id hv2.out.shape
          cases G with
          | nil =>
            have hjk : j = k.count := by have e : Fs.nil.count = 0 := rfl; omega
            have hlti : ¬ ((j : Int) < (k.count : Int)) := by omega
            have hfin : Hid (dTree ⟨op, kids, num, text⟩ k i L S = S2) := Lib.hid (hT1.out.trans hdf.out)
            clear hoo hdo hG hdf hAj hGk
            go_wp2_with fail
            refine bodyPost_end (results_none rfl _ _ _) rfl ?_
            rw [hfin.out]
            exact ⟨rfl, hS2.out, o2.out⟩
          | cons y ky r =>
            obtain ⟨hP, hAk, hAr⟩ := hG.out
            have hyk : (Fs.cons y ky .nil).ok := ⟨hGk.out.1, hGk.out.2.1, hGk.out.2.2.1, trivial⟩
            have hrk := hGk.out.2.2.2
            have hcc : (Fs.cons y ky r).count = r.count + 1 := rfl
            have hlti : (j : Int) < (k.count : Int) := by omega
            have hdd : ts.drop o = y :: (ky.flat ++ (r.flat ++ rest)) := by
              rw [hdo.out]
              show (y :: (ky.flat ++ r.flat)) ++ rest = _
              rw [List.cons_append, List.append_assoc]
            have hol : o < ts.length := by
              rcases Nat.lt_or_ge o ts.length with h | h
              · exact h
              · rw [List.drop_eq_nil_of_le h] at hdd; cases hdd
            have hoy : ts[o] = y := by
              have := List.drop_eq_getElem_cons hol
              rw [hdd] at this
              injection this with h _
              exact h.symm
            have hdr : ts.drop (o + 1 + ky.flat.length) = r.flat ++ rest := by
              rw [Nat.add_assoc, ← List.drop_drop, hdd, Nat.add_comm 1, List.drop_succ_cons, List.drop_left]
            have hon : offsF k (i + 1) = (A ++ [o]) ++ offsF r (o + 1 + ky.flat.length) := by
              rw [hoo.out, List.append_assoc]
              rfl
            have hlk := offsF_len k (i + 1)
            obtain ⟨gk, ck, e, hgk1, hgk2, hck⟩ := hO2.out.owned (by omega)
            rw [hlk] at e
            have hkk := hck j (by omega)
            have hgo : (offsF k (i + 1))[j]'(by omega) = o := by
              have h1 : (offsF k (i + 1))[j]? = some o := by rw [hoo.out, ← hAj.out, List.getElem?_append_right (Nat.le_refl _), Nat.sub_self]; rfl
              obtain ⟨_, h2⟩ := List.getElem?_eq_some_iff.1 h1
              exact h2
            rw [hgo] at hkk
            injection e with e1 e2 e3
            subst e1 e3
            unfold natV at hkk
            have hoi : (o : Int) < (ts.length : Int) := by omega
            have hjr : j + 1 + r.count = k.count := by omega
            have hA6 : Hid ((A ++ [o]).length = j + 1) := Lib.hid (by rw [List.length_append, hAj.out]; rfl)
            obtain ⟨g9, off9, cap9, e9, hc9⟩ := twText hS2.out.twin hol
            injection e9 with e91 e92 e93
            injection e91 with e91
            injection e91 with e94 e95 _
            subst e94 e95
            have t0 := hc9 0 (by omega)
            rw [hoy] at t0
            simp only [twC, List.getElem?_cons_zero, Nat.add_zero] at t0
            have c0 := cellC hS2.out.s 0
            simp only [headD, List.getElem?_toArray, List.getElem?_cons_zero] at c0
            have hS3 := Lib.hid (hS2.out.below (Below.refl _ _).drew)
            have hv3 := Lib.hid (hv2.out.below (Below.refl _ _).drew)
            have hO3 := Lib.hid (hO2.out.below (Below.refl _ _).drew)
            have o3 := Lib.hid o2.out.drew
            replace hdr := Lib.hid hdr
            replace hon := Lib.hid hon
            replace hAr := Lib.hid hAr
            replace hrk := Lib.hid hrk
            have hw0 := hS2.out.b.size
            clear hoo hdo hG hck hlk hgo e2 hc9 e92 e93 hGk
            by_cases h4 : y.op = 4
            · obtain ⟨y2, ky2, rfl⟩ := let_one hyk h4
              obtain ⟨hP2, _, _⟩ := hAk
              have q4 : ((y.op : Int) == 4) = true := by rw [h4]; rfl
              have hdf2 := hdf.out.trans (dF_let h4)
              have hfl : (Fs.cons y2 ky2 .nil).flat.length = 1 + ky2.flat.length := by rw [flat_len]; rfl
              have hdy : ts.drop (o + 1) = y2 :: (ky2.flat ++ (r.flat ++ rest)) := by
                rw [← List.drop_drop, hdd]
                show (y2 :: (ky2.flat ++ [])) ++ (r.flat ++ rest) = _
                rw [List.append_nil, List.cons_append]
              have hmk : (makeD S2 o L2 y.text).made = S2.made + 1 := rfl
              have hmd : (dTree y2 ky2 (o + 1) L2 (makeD S2 o L2 y.text)).made ≤ o + 1 + (Fs.cons y2 ky2 .nil).flat.length := by
                have h1 := dF_made ky2 (decide (y2.op = 3)) (o + 1 + 1) L2 (useD y2 (o + 1) L2 (makeD S2 o L2 y.text))
                have h2 := useD_made y2 (o + 1) L2 (makeD S2 o L2 y.text)
                unfold dTree
                omega
              have kMk := Lib.hid (fun (W : World) (hs : SMem w0 W gs gl ts.length cl (.slice (some ⟨g, off, none⟩) ts.length cap) ts S2) (hv : VarsAt W w0.heap.size (.slice ma2 L2.length mc2) L2) => make11_any hs (by omega) hv (by omega) hol hol (text := y.text) (by rw [hoy]))
              obtain ⟨S4, hS4⟩ := exHid (makeD S2 o L2 y.text)
              rw [hS4.out] at kMk hmk hmd hdf2
              have kP := Lib.hid (fun (W : World) (hs : SMem w0 W gs gl ts.length cl (.slice (some ⟨g, off, none⟩) ts.length cap) ts S4) (hv : VarsAt W w0.heap.size (.slice ma2 L2.length mc2) L2) => hP2 W S4 (o + 1) (r.flat ++ rest) (.slice ma2 L2.length mc2) L2 hs hdy hv (by omega) (by omega))
              obtain ⟨S3, hS3e⟩ := exHid (dTree y2 ky2 (o + 1) L2 S4)
              rw [hS3e.out] at hdf2 hmd kP
              rw [show ((o + 1 : Nat) : Int) = (o : Int) + 1 by omega] at kP
              replace hdf2 := Lib.hid hdf2
              generalize (Fs.cons y2 ky2 .nil).flat.length = fl at *
              unfold strV at kMk
              clear hdf hP hP2 hdd hyk hdy
              generalize y.op = yop at *
              generalize y.text = ytx at *
              go_wp2_with fail
              go_region
              have hkk4 : wr.drew.cell? ⟨gk, j, none⟩ = some (.int .i64 (o : Int)) := hkk
              have hgk3 : gk < wr.drew.heap.size := hgk2
              clear hkk c0 t0
              generalize wr.drew = w4 at *
              go_wp2_with fail
              refine (kMk.out _ hS3.out (hv3.out.low hw00)).mono ?_
              rintro e' w5 ⟨rfl, h5, o5⟩
              have hv5 := VarsAt.keep hv3.out o5 (keepV hS3.out)
              have hO5 := offs_keep hO3.out o5 (fun k e => by rcases e with e | e <;> omega)
              have o6 := o3.out.trans o5 (K := fun k => k = gs ∨ k = gl) (fun k _ e => e) (fun k _ e => e)
              have hkk5 : w5.cell? ⟨gk, j, none⟩ = some (.int .i64 (o : Int)) := by
                have hb := o5.block gk hgk3 (fun e => by rcases e with e | e <;> omega)
                simp only [World.cell?, hb]
                exact hkk4
              have hal6 := (Below.refl w5.heap.size w5).alloc (Nat.le_refl _) (.cells #[.string ⟨ytx.toArray⟩, .int .i64 (S2.made : Int)] 56)
              have hkk6 := Below.keeps hal6 hkk5
              go_wp2_with fail
              have hxv : (w5.alloc (.cells #[.string ⟨ytx.toArray⟩, .int .i64 (S2.made : Int)] 56)).heap[w5.heap.size]? = some (.cells #[.string ⟨ytx.toArray⟩, .int .i64 (S2.made : Int)] 56 (0, 0)) := heap_alloc_new w5 _
              have h6 := h5.below hal6
              have hv6 := hv5.below hal6
              have hO6 := hO5.below hal6
              have o7 := o6.trans (Only.of_below (F := fun _ => False) hal6) (K := fun k => k = gs ∨ k = gl) (fun k _ e => e) (fun k _ e => e.elim)
              have hz6 := hal6.size
              have hz5 := o6.size
              clear h5 hv5 hO5 o5 o6 hkk4 hkk5 hal6
              generalize (w5.alloc (.cells #[.string ⟨ytx.toArray⟩, .int .i64 (S2.made : Int)] 56)) = w6 at *
              refine (kP.out _ h6 (hv6.low hw00)).mono ?_
              rintro e' w7 ⟨rfl, h7, o8⟩
              have hv7 := VarsAt.keep hv6 o8 (keepV h6)
              have hO7 := offs_keep hO6 o8 (fun k e => by rcases e with e | e <;> omega)
              have o9 := o7.trans o8 (K := fun k => k = gs ∨ k = gl) (fun k _ e => e) (fun k _ e => e)
              have hxv7 := (o8.block _ (Array.getElem?_eq_some_iff.1 hxv).1 (fun e => by rcases e with e | e <;> omega)).trans hxv
              have x0 := cellC hxv7 0
              have x1 := cellC hxv7 1
              simp only [List.getElem?_toArray, List.getElem?_cons_succ, List.getElem?_cons_zero] at x0 x1
              have hal8 := (Below.refl w7.heap.size w7).alloc (Nat.le_refl _) (.cells #[.string ⟨ytx.toArray⟩, .int .i64 (S2.made : Int)] 56)
              have hcv8 : Hid (∀ j u, (rowOf varC [(ytx, S2.made)])[j]? = some u → (w7.alloc (.cells #[.string ⟨ytx.toArray⟩, .int .i64 (S2.made : Int)] 56)).cell? ⟨w7.heap.size, j, none⟩ = some u) := Lib.hid (by
                intro j u hj
                rw [one_cell, List.getElem?_toArray]
                exact hj)
              have hS8 := Lib.hid (h7.below hal8)
              have hv8 := Lib.hid (hv7.below hal8)
              have hO8 := Lib.hid (hO7.below hal8)
              have o10 := o9.trans (Only.of_below (F := fun _ => False) hal8) (K := fun k => k = gs ∨ k = gl) (fun k _ e => e) (fun k _ e => e.elim)
              have hz8 := o10.size
              replace o10 := Lib.hid o10
              clear h6 hv6 hO6 o7 o8 h7 hv7 hO7 o9 hxv hxv7 hal8 hkk6 kMk kP hS3 hv3 hO3 o3 hS2 hv2 hO2 o2
              go_wp2_with (at_builtin; refine wpList_append_vars (base := w.heap.size) (v := .slice ma2 L2.length mc2) (L := L2) (us := [(ytx, S2.made)]) rfl _ _ rfl rfl hv8.out rfl hcv8.out (by omega) (by simp) hz8 ?_; intro a9 c9 w9 hV9 oV9)
              have hS9 := Lib.hid (hS8.out.varKeep hv8.out hw00 oV9)
              have hO9 := Lib.hid (offs_keepT hO8.out hv8.out oV9)
              have o11 := Lib.hid (o10.out.trans oV9 (K := fun k => k = gs ∨ k = gl) (fun k _ e => e) (fun k hk e => absurd (hv8.out.block e).1 (by omega)))
              replace hV9 := Lib.hid hV9
              clear oV9 hS8 hv8 hO8 o10
              go_wp2_with fail
              go_roundw
              case rel => exact ⟨j + 1, o + 1 + fl, A ++ [o], r, S3, L2 ++ [(ytx, S2.made)], by go_num, hA6, hjr, hon, hdr, hAr, hrk, by omega, hmd, by rw [List.length_append, List.length_singleton]; omega, hS9, hV9, hO9, hdf2, o11⟩
              case measure => simp [intOf]; omega
            · have q4 : ((y.op : Int) == 4) = false := beq_eq_false_iff_ne.2 (by omega)
              have hdf2 : dF true k (i + 1) L S = dF true r (o + 1 + ky.flat.length) L2 (dTree y ky o L2 S2) := hdf.out.trans (dF_cons (fun h => h4 h.2))
              have hmd : (dTree y ky o L2 S2).made ≤ o + 1 + ky.flat.length := by
                have h1 := dF_made ky (decide (y.op = 3)) (o + 1) L2 (useD y o L2 S2)
                have h2 := useD_made y o L2 S2
                unfold dTree
                omega
              replace hdf2 := Lib.hid hdf2
              obtain ⟨S3, hS3e⟩ := exHid (dTree y ky o L2 S2)
              rw [hS3e.out] at hdf2 hmd
              have kP := Lib.hid (fun (W : World) (hs : SMem w0 W gs gl ts.length cl (.slice (some ⟨g, off, none⟩) ts.length cap) ts S2) (hv : VarsAt W w0.heap.size (.slice ma2 L2.length mc2) L2) => hP W S2 o (r.flat ++ rest) (.slice ma2 L2.length mc2) L2 hs hdd hv hLo hmo2)
              rw [hS3e.out] at kP
              clear hdf hP hAk hdd hyk
              generalize y.op = yop at *
              go_wp2_with fail
              go_region
              have hkk4 : wr.drew.cell? ⟨gk, j, none⟩ = some (.int .i64 (o : Int)) := hkk
              clear hkk c0 t0
              generalize wr.drew = w4 at *
              go_wp2_with fail
              refine (kP.out _ hS3.out (hv3.out.low hw00)).mono ?_
              rintro e' w5 ⟨rfl, h5, o5⟩
              have hv5 := Lib.hid (VarsAt.keep hv3.out o5 (keepV hS3.out))
              have hO5 := Lib.hid (offs_keep hO3.out o5 (fun k e => by rcases e with e | e <;> omega))
              have o6 := Lib.hid (o3.out.trans o5 (K := fun k => k = gs ∨ k = gl) (fun k _ e => e) (fun k _ e => e))
              replace h5 := Lib.hid h5
              go_wp2_with fail
              go_roundw
              case rel => exact ⟨j + 1, o + 1 + ky.flat.length, A ++ [o], r, S3, L2, by go_num, hA6, hjr, hon, hdr, hAr, hrk, by omega, hmd, by omega, h5, hv5, hO5, hdf2, o6⟩
              case measure => simp [intOf]; omega
    · have q3 : ((op : Int) != 3) = true := bne_iff_ne.2 (by omega)
      have hT1 : Hid (dTree ⟨op, kids, num, text⟩ k i L S = dF false k (i + 1) L S) := Lib.hid (by unfold dTree; rw [hU, decide_eq_false h3])
      clear hU hu h3
      go_wp2_with fail
      go_loopw [8] (fun t8 wr => ∃ (j o : Nat) (A : List Nat) (G : Fs) (S2 : D11), t8 = .int .i64 j ∧ Hid (A.length = j) ∧ j + G.count = k.count ∧ Hid (offsF k (i + 1) = A ++ offsF G o) ∧ Hid (ts.drop o = G.flat ++ rest) ∧ Hid (AllT (WalkP w0 gs gl ts.length cl (.slice (some ⟨g, off, none⟩) ts.length cap) ts) G) ∧ i < o ∧ S2.made ≤ o ∧ Hid (SMem w0 wr gs gl ts.length cl (.slice (some ⟨g, off, none⟩) ts.length cap) ts S2) ∧ Hid (VarsAt wr w0.heap.size (.slice va L.length vc) L) ∧ Hid (OffsAt wr W1.heap.size (.slice ka k.count kc) (offsF k (i + 1))) ∧ Hid (dF false k (i + 1) L S = dF false G o L S2) ∧ Hid (Only (fun k => k = gs ∨ k = gl) w wr)) (fun t8 _ => k.count - (intOf t8).toNat)
      case atStart => exact ⟨0, i + 1, [], k, S, rfl, Lib.hid rfl, by omega, Lib.hid rfl, hdk, hA, by omega, by omega, hS, hv, hO, Lib.hid rfl, oA⟩
      case round =>
        obtain ⟨j, o, A, G, S2, rfl, hAj, hj, hoo, hdo, hG, hio, hmo2, hS2, hv2, hO2, hdf, o2⟩ := hrel
        cases G with
        | nil =>
          have hjk : j = k.count := by have e : Fs.nil.count = 0 := rfl; omega
          have hlti : ¬ ((j : Int) < (k.count : Int)) := by omega
          have hfin : Hid (dTree ⟨op, kids, num, text⟩ k i L S = S2) := Lib.hid (hT1.out.trans hdf.out)
          clear hoo hdo hG hdf hAj
          go_wp2_with fail
          refine bodyPost_ret (results_none rfl _ _ _) rfl ?_
          rw [hfin.out]
          exact ⟨rfl, hS2.out, o2.out⟩
        | cons y ky r =>
          obtain ⟨hP, hAk, hAr⟩ := hG.out
          have hcc : (Fs.cons y ky r).count = r.count + 1 := rfl
          have hlti : (j : Int) < (k.count : Int) := by omega
          have hdd : ts.drop o = y :: (ky.flat ++ (r.flat ++ rest)) := by
            rw [hdo.out]
            show (y :: (ky.flat ++ r.flat)) ++ rest = _
            rw [List.cons_append, List.append_assoc]
          have hdr : ts.drop (o + 1 + ky.flat.length) = r.flat ++ rest := by
            rw [Nat.add_assoc, ← List.drop_drop, hdd, Nat.add_comm 1, List.drop_succ_cons, List.drop_left]
          have hon : offsF k (i + 1) = (A ++ [o]) ++ offsF r (o + 1 + ky.flat.length) := by
            rw [hoo.out, List.append_assoc]
            rfl
          have hlk := offsF_len k (i + 1)
          obtain ⟨gk, ck, e, _, hgk2, hck⟩ := hO2.out.owned (by omega)
          rw [hlk] at e
          have hkk := hck j (by omega)
          have hgo : (offsF k (i + 1))[j]'(by omega) = o := by
            have h1 : (offsF k (i + 1))[j]? = some o := by rw [hoo.out, ← hAj.out, List.getElem?_append_right (Nat.le_refl _), Nat.sub_self]; rfl
            obtain ⟨_, h2⟩ := List.getElem?_eq_some_iff.1 h1
            exact h2
          rw [hgo] at hkk
          injection e with e1 e2 e3
          subst e1 e3
          unfold natV at hkk
          have kP := Lib.hid (hP _ S2 o (r.flat ++ rest) (.slice va L.length vc) L hS2.out hdd hv2.out (by omega) hmo2)
          have hdf2 : dF false k (i + 1) L S = dF false r (o + 1 + ky.flat.length) L (dTree y ky o L S2) := hdf.out.trans (dF_cons (fun h => absurd h.1 (by decide)))
          have hmd : (dTree y ky o L S2).made ≤ o + 1 + ky.flat.length := by
            have h1 := dF_made ky (decide (y.op = 3)) (o + 1) L (useD y o L S2)
            have h2 := useD_made y o L S2
            unfold dTree
            omega
          have hjr : j + 1 + r.count = k.count := by omega
          have hA6 : Hid ((A ++ [o]).length = j + 1) := Lib.hid (by rw [List.length_append, hAj.out]; rfl)
          replace hdr := Lib.hid hdr
          replace hon := Lib.hid hon
          replace hAr := Lib.hid hAr
          replace hdf2 := Lib.hid hdf2
          obtain ⟨S3, hS3⟩ := exHid (dTree y ky o L S2)
          rw [hS3.out] at hdf2 hmd kP
          have hsz := hS2.out.glb.2
          clear hoo hdo hG hdf hAj hck hdd hlk hP hAk hgo e2
          go_wp2_with fail
          refine kP.out.mono ?_
          rintro e' w5 ⟨rfl, h5, o5⟩
          have hv5 := Lib.hid (VarsAt.keep hv2.out o5 (keepV hS2.out))
          have hO5 := Lib.hid (offs_keep hO2.out o5 (fun k e => by rcases e with e | e <;> omega))
          have o6 := Lib.hid (o2.out.trans o5 (fun k _ e => e) (fun k _ e => e))
          replace h5 := Lib.hid h5
          go_wp2_with fail
          go_roundw
          case rel => exact ⟨j + 1, o + 1 + ky.flat.length, A ++ [o], r, S3, by go_num, hA6, hjr, hon, hdr, hAr, by omega, hmd, h5, hv5, hO5, hdf2, o6⟩
          case measure => simp [intOf]; omega
end Go.Proofs.Ytnghfjlmmmjekaa
