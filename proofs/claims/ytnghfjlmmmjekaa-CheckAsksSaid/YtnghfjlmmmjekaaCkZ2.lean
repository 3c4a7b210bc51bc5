/- The document's Slots (layer 11) of a right flow, walked. No condition. -/
import Derived.Test.YtnghfjlmmmjekaaCkZ
import Derived.BigQuiet
namespace Go.Proofs.Ytnghfjlmmmjekaa
open Go.RowKit Go.Shelf

theorem IntsAt.low {w : World} {base b : Nat} {v : Value} {ns : List Int} (h : IntsAt w base v ns) (hb : b ≤ base) : IntsAt w b v ns := by
  refine ⟨h.1, ?_⟩
  rcases h.2 with h | ⟨g', cap, cur, hv, hbb, hr⟩
  · exact .inl h
  · exact .inr ⟨g', cap, cur, hv, Nat.le_trans hb hbb, hr⟩
theorem vars_nil (w : World) (b : Nat) : VarsAt w b (.slice none 0 0) [] := World.ownsRow_nil _ _ _ _
set_option maxRecDepth 20000 in
set_option maxHeartbeats 8000000 in
theorem refSlots_good {v : Value} {ts : List Tw} (w : World) (hT : TwIn w v ts) (hf : ∀ x ∈ ts, FitT x) (hg : (lookF ts).2.2 = 0) (hn : ts.length ≤ 2048) (hks : ∀ x ∈ ts, 0 ≤ x.kids ∧ x.kids ≤ 2048) {x : Tw} {K : Fs} (hok : (Fs.cons x K .nil).ok) (hx : ts = x :: K.flat) (hx1 : x.op = 1) :
    Calls Try.prog 9 #[v] w (SlotsP (slotsF x K) w) := by
  have kC := Lib.hid (refCheck_any w hT hf)
  rw [docF_eq11 hf] at kC
  have h0 : 0 < ts.length := by rw [hx]; simp
  obtain ⟨a, cap, rfl, h1, h2, h3⟩ := id hT
  obtain ⟨g, off, rfl, hgl, hc⟩ := h3 h0
  have y0 := hc 0 h0 0 (by omega)
  have hx0 : ts[0] = x := by simp [hx]
  rw [hx0] at y0
  simp only [twC, List.getElem?_cons_zero, Nat.zero_mul, Nat.add_zero] at y0
  have hl0 : (0 : Int) < (ts.length : Int) := by omega
  have hTT := Lib.hid (fun (W : World) (hb : Below w.heap.size w W) => hT.below hb)
  generalize lookF ts = D at *
  obtain ⟨d1, d2, d3⟩ := D
  dsimp only at hg kC
  subst hg
  have q1 : ((x.op : Int) != 1) = false := by rw [hx1]; rfl
  have hlen : ts.length = 1 + K.flat.length := by rw [hx]; show (x :: K.flat).length = _; rw [List.length_cons]; omega
  have hKne : K ≠ .nil := by
    rintro rfl
    obtain ⟨⟨kd, hk, ha, _⟩, hn0, _, _⟩ := id hok
    have h : (kindOf 1).map (·.least) = some 1 := by decide
    rw [hx1] at hk
    rw [hk] at h
    simp at h
    unfold allowsB at ha
    simp only [Bool.and_eq_true, decide_eq_true_eq] at ha
    have := ha.1.1.2
    rw [h, hn0] at this
    exact absurd this (by decide)
  have hd0 : ts.drop 0 = x :: (K.flat ++ []) := by rw [List.append_nil, List.drop_zero]; exact hx
  have hd1 : Hid (ts.drop 1 = K.flat) := Lib.hid (by rw [hx]; rfl)
  have hkn := hok.2.1
  have hko := hok.2.2.1
  have kK := Lib.hid (fun (W : World) (hT : TwIn W (.slice (some ⟨g, off, none⟩) ts.length cap) ts) => (KidsAt_any W hT hks hn (i := 0) hd0 hkn hko : Calls Try.prog 22 #[.slice (some ⟨g, off, none⟩) ts.length cap, .int .i64 0] W _))
  have hkc : K.count ≤ 2048 := by have h1 := fs_lens K; omega
  have hall := Lib.hid (fun (w1 : World) (gs gl cl : Nat) => all_t (fun y ky hy hA => walk_step (w0 := w1) (gs := gs) (gl := gl) (n := ts.length) (cl := cl) (tv := .slice (some ⟨g, off, none⟩) ts.length cap) (ts := ts) rfl hn hks y ky hy hA) K hko)
  replace hKne := Lib.hid hKne
  replace hlen := Lib.hid hlen
  clear hd0 hkn
  replace hko := Lib.hid hko
  replace hks := Lib.hid hks
  replace hx := Lib.hid hx
  replace hok := Lib.hid hok
  replace hx1 := Lib.hid hx1
  have hdoc := Lib.hid (doc_is hx1.out hok.out)
  generalize hxo : x.op = xop at *
  replace hxo := Lib.hid hxo
  replace hf := Lib.hid hf
  have hTh := Lib.hid hT
  clear hc h3 hx0 hT
  go_enter Try.func9, Try.ntmps9
  go_wp2_with fail
  refine kC.out.mono ?_
  rintro e' w1 ⟨rfl, hb1⟩
  have y1 := Below.keeps hb1 y0
  replace hb1 := Lib.hid hb1
  go_wp2_with fail
  have hz1 := hb1.out.size
  have hgsB : (w1.alloc (.cells #[.slice (some ⟨g, off, none⟩) ts.length cap, .slice none 0 0, .int .i64 0, .int .i64 0, .int .i64 0] 52)).heap[w1.heap.size]? = some (.cells #[.slice (some ⟨g, off, none⟩) ts.length cap, .slice none 0 0, .int .i64 0, .int .i64 0, .int .i64 0] 52 (0, 0)) := heap_alloc_new w1 _
  have hgsB' := Lib.hid hgsB
  have hb2 := Lib.hid ((Below.refl w1.heap.size w1).alloc (Nat.le_refl _) (.cells #[.slice (some ⟨g, off, none⟩) ts.length cap, .slice none 0 0, .int .i64 0, .int .i64 0, .int .i64 0] 52))
  clear hgsB
  go_loopw [8] (fun t8 wr => ∃ (j : Nat) (lv : Value), t8 = .int .i64 j ∧ j ≤ ts.length ∧ Hid (wr.heap[w1.heap.size]? = some (.cells #[.slice (some ⟨g, off, none⟩) ts.length cap, lv, .int .i64 0, .int .i64 0, .int .i64 0] 52 (0, 0))) ∧ Hid (IntsAt wr w1.heap.size lv (List.replicate j (-1))) ∧ Hid (Below w1.heap.size w1 wr)) (fun t8 _ => ts.length - (intOf t8).toNat)
  case atStart => exact ⟨0, .slice none 0 0, rfl, Nat.zero_le _, hgsB', Lib.hid (ints_nil _ _), hb2⟩
  case round =>
    obtain ⟨j, lv, rfl, hj, hgs, hli, hbr⟩ := hrel
    rcases Nat.lt_or_ge j ts.length with hlt | hge
    · have hlti : (j : Int) < (ts.length : Int) := by omega
      obtain ⟨la, lc, e, _, _⟩ := id hli.out.shape
      rw [List.length_replicate] at e
      subst e
      have c1 := cellC hgs.out 1
      simp only [List.getElem?_toArray, List.getElem?_cons_succ, List.getElem?_cons_zero] at c1
      have hal := (Below.refl wr.heap.size wr).alloc (Nat.le_refl _) (.cells #[.int .i64 (-1)] 3)
      have hsz := hbr.out.size
      have hlA := Lib.hid (hli.out.below hal)
      have hcA : (wr.alloc (.cells #[.int .i64 (-1)] 3)).cell? ⟨wr.heap.size, 0, none⟩ = some (intV (-1)) := one_cell _ _ _ 0
      have hzA : w1.heap.size ≤ (wr.alloc (.cells #[.int .i64 (-1)] 3)).heap.size := by have := hal.size; omega
      have hgA := Lib.hid ((hal.block _ (Array.getElem?_eq_some_iff.1 hgs.out).1).trans hgs.out)
      have hbA := Lib.hid (hbr.out.trans (hal.mono hsz))
      have hrep : (List.replicate j (-1 : Int)).length ≤ 1000000000 := by rw [List.length_replicate]; omega
      have hap : Hid (¬ (Value.slice la j lc).ownBlock = some w1.heap.size) := Lib.hid (hlA.out.apart hgA.out (by decide))
      have hPsh := Lib.hid (fun (w3 : World) (a3 : Option Addr) (c3 : Nat) (h3 : IntsAt w3 w1.heap.size (.slice a3 (j + 1) c3) (List.replicate (j + 1) (-1))) (ho : Only (fun k => (Value.slice la j lc).ownBlock = some k) (wr.alloc (.cells #[.int .i64 (-1)] 3)) w3) =>
        (show w3.heap[w1.heap.size]? = some (.cells #[.slice (some ⟨g, off, none⟩) ts.length cap, .slice la j lc, .int .i64 0, .int .i64 0, .int .i64 0] 52 (0, 0)) from heldC ho hgA.out hap.out))
      clear hli hgs hbr hal
      go_wp2_with (at_builtin; refine wpList_append_int (base := w1.heap.size) (v := .slice la j lc) (ns := List.replicate j (-1)) rfl _ _ rfl rfl hlA.out rfl hcA hrep hzA ?_; intro a3 c3 w3 hI3 ho3
                   have hI4 : Hid (IntsAt w3 w1.heap.size (.slice a3 (j + 1) c3) (List.replicate (j + 1) (-1))) := Lib.hid (by rw [List.replicate_succ']; simpa using hI3)
                   have hg3 := heldC ho3 hgA.out hap.out
                   have f3 := fzC hg3 1
                   have d3 := cellC hg3 1
                   simp only [List.getElem?_toArray, List.getElem?_cons_succ, List.getElem?_cons_zero] at d3
                   have hst := heap_setCell_same w3 w1.heap.size 1 _ _ (.slice a3 (j + 1) c3) hg3
                   have hst2 : Hid ((w3.setCell ⟨w1.heap.size, 1, none⟩ (.slice a3 (j + 1) c3)).heap[w1.heap.size]? = some (.cells #[.slice (some ⟨g, off, none⟩) ts.length cap, .slice a3 (j + 1) c3, .int .i64 0, .int .i64 0, .int .i64 0] 52 (0, 0))) := Lib.hid (by simpa using hst)
                   have hI5 : Hid (IntsAt (w3.setCell ⟨w1.heap.size, 1, none⟩ (.slice a3 (j + 1) c3)) w1.heap.size (.slice a3 (j + 1) c3) (List.replicate (j + 1) (-1))) := Lib.hid (ownsRow_only hI4.out (scOnly w3 w1.heap.size 1 _) (fun g hg e => (hI4.out.apart hg3 (by decide)) (e ▸ hg)))
                   have hb5 := Lib.hid ((hbA.out.trans (ho3.below hzA (fun k hk e => by have := (hlA.out.block e).1; omega))).setCell (p := ⟨w1.heap.size, 1, none⟩) (Nat.le_refl _) (.slice a3 (j + 1) c3))
                   clear hst hg3 hI3 ho3 hI4)
      go_roundw
      case rel => exact ⟨j + 1, .slice a3 (j + 1) c3, by go_num, by omega, hst2, hI5, hb5⟩
      case measure => simp [intOf]; omega
    · obtain rfl : j = ts.length := by omega
      have hlti : ¬ ((ts.length : Int) < (ts.length : Int)) := by omega
      obtain ⟨gl, lc, e, hgl2⟩ : ∃ gl lc, lv = .slice (some ⟨gl, 0, none⟩) ts.length lc ∧ w1.heap.size ≠ gl := by
        obtain ⟨gl, lc, e, _⟩ := ownsRow_head hli.out (by rw [List.length_replicate]; exact h0)
        rw [List.length_replicate] at e
        refine ⟨gl, lc, e, fun h => hli.out.apart hgs.out (by decide) ?_⟩
        rw [e, h]
        rfl
      subst e
      obtain ⟨S0, hS0⟩ := exHid (⟨List.replicate (1 + K.flat.length) (-1), 0, 0, 0⟩ : D11)
      have hm0 : S0.made = 0 := by rw [← hS0.out]
      have hSM : SMem w1 wr w1.heap.size gl ts.length lc (.slice (some ⟨g, off, none⟩) ts.length cap) ts S0 := by
        rw [← hS0.out]
        exact ⟨hbr.out, hTT.out w1 hb1.out, hgs.out, by rw [← hlen.out]; exact hli.out, Nat.le_refl _, hgl2⟩
      have hA0 := Lib.hid (hall.out w1 w1.heap.size gl lc)
      have hdc := hdoc.out
      rw [hS0.out] at hdc
      replace hdc := Lib.hid hdc
      replace hSM := Lib.hid hSM
      clear hgs hli hbr hdoc hall hgsB' hb2 hgl2
      go_wp2_with fail
      refine (kK.out _ hSM.out.twin).mono ?_
      rintro e' w2 ⟨kv, rfl, hO, hbk⟩
      have hS2 := Lib.hid (hSM.out.below hbk)
      have hw1r := hSM.out.b.size
      obtain ⟨ka, kc, rfl, _, _⟩ := id hO.shape
      rw [offsF_len] at hO ⊢
      replace hO := Lib.hid hO
      have hglr := Lib.hid (And.intro hSM.out.glb.2 (Array.getElem?_eq_some_iff.1 hSM.out.s).1)
      clear hbk kK hSM
      go_wp2_with fail
      have hO1 : Hid (OffsAt w2 wr.heap.size (.slice ka K.count kc) (offsF K 1)) := hO
      have hsgs := (Array.getElem?_eq_some_iff.1 hS2.out.s).1
      have hlo : Hid (∀ k, (k = w1.heap.size ∨ k = gl) → k < wr.heap.size) := Lib.hid (fun k e => by
        rcases e with e | e
        · rw [e]; exact hglr.out.2
        · rw [e]; exact hglr.out.1)
      clear hO
      go_loopw [10, 11, 12] (fun t10 t11 _ wq => ∃ (j o : Nat) (A : List Nat) (G : Fs) (S2 : D11) (L2 : List (List UInt8 × Nat)), t11 = .int .i64 j ∧ Hid (A.length = j) ∧ j + G.count = K.count ∧ Hid (G ≠ .nil) ∧ Hid (offsF K 1 = A ++ offsF G o) ∧ Hid (ts.drop o = G.flat) ∧ Hid (AllT (WalkP w1 w1.heap.size gl ts.length lc (.slice (some ⟨g, off, none⟩) ts.length cap) ts) G) ∧ 0 < o ∧ S2.made ≤ o ∧ L2.length ≤ o ∧ Hid (SMem w1 wq w1.heap.size gl ts.length lc (.slice (some ⟨g, off, none⟩) ts.length cap) ts S2) ∧ Hid (VarsAt wq w1.heap.size t10 L2) ∧ Hid (OffsAt wq wr.heap.size (.slice ka K.count kc) (offsF K 1)) ∧ Hid (dP K 1 [] S0 = dP G o L2 S2)) (fun _ t11 _ _ => K.count - (intOf t11).toNat)
      case atStart => exact ⟨0, 1, [], K, S0, [], rfl, Lib.hid rfl, by omega, hKne, Lib.hid rfl, hd1, hA0, by omega, by omega, by simp, hS2, Lib.hid (vars_nil _ _), hO1, Lib.hid rfl⟩
      case round =>
        obtain ⟨j, o, A, G, S2, L2, rfl, hAj, hj2, hGne, hoo, hdo, hG, hio, hmo2, hLo, hSa, hv2, hO2, hdf⟩ := hrel
        obtain ⟨ma2, mc2, rfl, _, _⟩ := id hv2.out.shape
        cases G with
        | nil => exact absurd rfl hGne.out
        | cons y ky r =>
          obtain ⟨hP, hAk, hAr⟩ := hG.out
          have hcc : (Fs.cons y ky r).count = r.count + 1 := rfl
          have hdd : ts.drop o = y :: (ky.flat ++ r.flat) := hdo.out
          have hol : o < ts.length := by
            rcases Nat.lt_or_ge o ts.length with h | h
            · exact h
            · rw [List.drop_eq_nil_of_le h] at hdd; cases hdd
          have hoy : ts[o] = y := by
            have := List.drop_eq_getElem_cons hol
            rw [hdd] at this
            injection this with h _
            exact h.symm
          have hlk := offsF_len K 1
          obtain ⟨gk, ck, e, hgk1, hgk2, hck⟩ := hO2.out.owned (by omega)
          rw [hlk] at e
          have hkk := hck j (by omega)
          have hgo : (offsF K 1)[j]'(by omega) = o := by
            have h1 : (offsF K 1)[j]? = some o := by rw [hoo.out, ← hAj.out, List.getElem?_append_right (Nat.le_refl _), Nat.sub_self]; rfl
            obtain ⟨_, h2⟩ := List.getElem?_eq_some_iff.1 h1
            exact h2
          rw [hgo] at hkk
          injection e with e1 e2 e3
          subst e1 e3
          unfold natV at hkk
          clear hck hgo hlk e2 hG hGne
          cases r with
          | nil =>
            have hjk : K.count = j + 1 := by have e : Fs.nil.count = 0 := rfl; omega
            have hfe : dP K 1 [] S0 = dTree y ky o L2 S2 := by
              rw [hdf.out]
              show dF false (.cons y ky .nil) o L2 S2 = _
              rw [dF_cons (fun h => absurd h.1 (by decide))]
              rfl
            have kP := Lib.hid (hP _ S2 o [] (.slice ma2 L2.length mc2) L2 hSa.out (by rw [hdd]; rfl) hv2.out hLo hmo2)
            obtain ⟨S3, hS3⟩ := exHid (dTree y ky o L2 S2)
            rw [hS3.out] at kP hfe
            have hres := hdc.out
            rw [hfe] at hres
            replace hres := Lib.hid hres
            have hlti : ¬ ((j : Int) + 1 < (K.count : Int)) := by omega
            have hki : (K.count : Int) - 1 = (j : Int) := by omega
            have hjlt : (j : Int) < (K.count : Int) := by omega
            clear hP hAk hAr hdd hdf hdo hoo hAj hoy hfe hdc
            go_wp2_with fail
            refine kP.out.mono ?_
            rintro e' w5 ⟨rfl, h5, o5⟩
            have e4 := cellC h5.s 4
            have e3 := cellC h5.s 3
            have e1 := cellC h5.s 1
            simp only [headD, List.getElem?_toArray, List.getElem?_cons_succ, List.getElem?_cons_zero] at e4 e3 e1
            have hbF := Lib.hid (hb1.out.trans (h5.b.mono hz1))
            have hl5 := Lib.hid (h5.l.low hz1)
            replace h5 := Lib.hid h5
            cases hz : (S3.e != 0) with
            | true =>
              have hs := Lib.hid (hres.out.1 (bne_iff_ne.1 hz))
              clear hres
              go_wp2_with fail
              go_quiet (fail)
              go_wp2_with fail
              go_ret3
              rw [hs.out]
              exact ⟨_, rfl, ints_nil _ _, below_dnC hbF.out _⟩
            | false =>
              have hs := Lib.hid (hres.out.2 (by simpa using hz))
              clear hres
              go_wp2_with fail
              go_ret3
              rw [hs.out]
              exact ⟨_, rfl, hl5.out, hbF.out⟩
          | cons z kz r2 =>
            have hc2 : (Fs.cons z kz r2).count = r2.count + 1 := rfl
            have hlti : (j : Int) + 1 < (K.count : Int) := by omega
            have hlt0 : (j : Int) < (K.count : Int) := by omega
            have hdr : ts.drop (o + 1 + ky.flat.length) = (Fs.cons z kz r2).flat := by
              rw [Nat.add_assoc, ← List.drop_drop, hdd, Nat.add_comm 1, List.drop_succ_cons, List.drop_left]
            have hon : offsF K 1 = (A ++ [o]) ++ offsF (.cons z kz r2) (o + 1 + ky.flat.length) := by
              rw [hoo.out, List.append_assoc]
              rfl
            have hA6 : Hid ((A ++ [o]).length = j + 1) := Lib.hid (by rw [List.length_append, hAj.out]; rfl)
            have hjr : j + 1 + (Fs.cons z kz r2).count = K.count := by omega
            have hdf2 : dP K 1 [] S0 = dP (.cons z kz r2) (o + 1 + ky.flat.length) (L2 ++ [(y.text, S2.made)]) (makeD S2 o L2 y.text) := hdf.out
            have kMk := Lib.hid (fun (W : World) (hs : SMem w1 W w1.heap.size gl ts.length lc (.slice (some ⟨g, off, none⟩) ts.length cap) ts S2) (hv : VarsAt W w1.heap.size (.slice ma2 L2.length mc2) L2) => make11_any hs (by omega) hv (by omega) hol hol (text := y.text) (by rw [hoy]))
            have hmk : (makeD S2 o L2 y.text).made = S2.made + 1 := rfl
            obtain ⟨S4, hS4⟩ := exHid (makeD S2 o L2 y.text)
            rw [hS4.out] at kMk hmk hdf2
            replace hdf2 := Lib.hid hdf2
            replace hdr := Lib.hid hdr
            replace hon := Lib.hid hon
            replace hAr := Lib.hid hAr
            have hrne : Hid (Fs.cons z kz r2 ≠ .nil) := Lib.hid (by simp)
            generalize (Fs.cons z kz r2) = R at *
            unfold strV at kMk
            clear hP hAk hdd hdf hdo hoo hAj hoy hdc
            generalize y.text = ytx at *
            go_wp2_with fail
            refine (kMk.out _ hSa.out hv2.out).mono ?_
            rintro e' w5 ⟨rfl, h5, o5⟩
            have hv5 := VarsAt.keep hv2.out o5 (keepV hSa.out)
            have hO5 := offs_keep hO2.out o5 (fun k e => hlo.out k e)
            have hal6 := (Below.refl w5.heap.size w5).alloc (Nat.le_refl _) (.cells #[.string ⟨ytx.toArray⟩, .int .i64 (S2.made : Int)] 56)
            have hxv : (w5.alloc (.cells #[.string ⟨ytx.toArray⟩, .int .i64 (S2.made : Int)] 56)).heap[w5.heap.size]? = some (.cells #[.string ⟨ytx.toArray⟩, .int .i64 (S2.made : Int)] 56 (0, 0)) := heap_alloc_new w5 _
            have x0 := cellC hxv 0
            have x1 := cellC hxv 1
            simp only [List.getElem?_toArray, List.getElem?_cons_succ, List.getElem?_cons_zero] at x0 x1
            have hal8 := (Below.refl (w5.alloc (.cells #[.string ⟨ytx.toArray⟩, .int .i64 (S2.made : Int)] 56)).heap.size (w5.alloc (.cells #[.string ⟨ytx.toArray⟩, .int .i64 (S2.made : Int)] 56))).alloc (Nat.le_refl _) (.cells #[.string ⟨ytx.toArray⟩, .int .i64 (S2.made : Int)] 56)
            have hcv8 : Hid (∀ j u, (rowOf varC [(ytx, S2.made)])[j]? = some u → ((w5.alloc (.cells #[.string ⟨ytx.toArray⟩, .int .i64 (S2.made : Int)] 56)).alloc (.cells #[.string ⟨ytx.toArray⟩, .int .i64 (S2.made : Int)] 56)).cell? ⟨w5.heap.size + 1, j, none⟩ = some u) := Lib.hid (by
              intro j u hj
              rw [show w5.heap.size + 1 = (w5.alloc (.cells #[.string ⟨ytx.toArray⟩, .int .i64 (S2.made : Int)] 56)).heap.size by simp]
              rw [one_cell, List.getElem?_toArray]
              exact hj)
            have hS8 := Lib.hid ((h5.below hal6).below hal8)
            have hv8 := Lib.hid ((hv5.below hal6).below hal8)
            have hO8 := Lib.hid ((hO5.below hal6).below hal8)
            have hz8 : w1.heap.size ≤ ((w5.alloc (.cells #[.string ⟨ytx.toArray⟩, .int .i64 (S2.made : Int)] 56)).alloc (.cells #[.string ⟨ytx.toArray⟩, .int .i64 (S2.made : Int)] 56)).heap.size := hS8.out.b.size
            replace hxv := Lib.hid hxv
            clear h5 hv5 hO5 o5 hal6 hal8 kMk hv2 hO2 hSa
            go_wp2_with (at_builtin; refine wpList_append_vars (base := w1.heap.size) (v := .slice ma2 L2.length mc2) (L := L2) (us := [(ytx, S2.made)]) rfl _ _ rfl rfl hv8.out rfl hcv8.out (by omega) (by simp) hz8 ?_; intro a9 c9 w9 hV9 oV9)
            have hS9 := Lib.hid (hS8.out.varKeep hv8.out (Nat.le_refl _) oV9)
            have hO9 := Lib.hid (offs_keepT hO8.out hv8.out oV9)
            replace hV9 := Lib.hid hV9
            clear oV9 hS8 hv8 hO8
            go_wp2_with fail
            go_roundw
            case rel => exact ⟨j + 1, o + 1 + ky.flat.length, A ++ [o], R, S4, L2 ++ [(ytx, S2.made)], by go_num, hA6, hjr, hrne, hon, hdr, hAr, by omega, by omega, by rw [List.length_append, List.length_singleton]; omega, hS9, hV9, hO9, hdf2⟩
            case measure => simp [intOf]; omega
end Go.Proofs.Ytnghfjlmmmjekaa
