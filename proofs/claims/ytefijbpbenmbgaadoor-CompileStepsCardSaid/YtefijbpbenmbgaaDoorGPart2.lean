/- compile's part (layer 15), walked: its first twig taken. No condition. -/
import Derived.Test.YtefijbpbenmbgaaDoorGLoop
import Derived.Test.YtefijbpbenmbgaaDoorGFork
import Derived.Deep.RegionHeld3
namespace Go.Proofs.YtefijbpbenmbgaaDoor
open Go.RowKit Go.Shelf

theorem ok_first {x : Tw} {k : Fs} (h : (Fs.cons x k .nil).ok) : x.kids = (k.count : Int) ∧ k.ok := ⟨h.2.1, h.2.2.1⟩
/-- Behind the first twig's taking. -/
theorem cm_taken {w0 W : World} {bc : Nat} {x : Tw} {tl : List Tw} {s : Int} {sl : List Int} {code : List Ins} {cv tv sv tu su : Value} (hb : Below w0.heap.size w0 W) (hbc : w0.heap.size ≤ bc) (hf : ∀ y ∈ x :: tl, FitT y)
    (hm : W.heap[bc]? = some (.cells #[cv, tv, sv] 47 (0, 0))) (hi : InsAt W w0.heap.size cv code) (ht : TwIn w0 tu tl) (hs : NumsIn w0 su sl) (hfit : SlotsFit (x :: tl) (s :: sl)) :
    CM w0 ((W.setCell ⟨bc, 1, none⟩ tu).setCell ⟨bc, 2, none⟩ su) bc tl code ∧ CM w0 ((W.setCell ⟨bc, 2, none⟩ su).setCell ⟨bc, 1, none⟩ tu) bc tl code := by
  have o1 : ∀ (V : World) (c : Nat) (u : Value), Only (fun k => k = bc) V (V.setCell ⟨bc, c, none⟩ u) := fun V c u => scOnly V bc c u
  have key : ∀ (V : World), Only (fun k => k = bc) W V → V.heap[bc]? = some (.cells #[cv, tu, su] 47 (0, 0)) → CM w0 V bc tl code := by
    intro V ho hV
    refine ⟨hb.trans (ho.below hb.size (fun k hk e => by omega)), hbc, ⟨cv, tu, su, sl, hV, ownsRow_only hi ho (fun g hg e => ?_), ht, hs, hfit.2⟩, fun y hy => hf y (List.mem_cons_of_mem _ hy)⟩
    subst e
    exact hi.apart hm (by decide) hg
  constructor
  · refine key _ ((o1 W 1 tu).then (o1 _ 2 su)) ?_
    have a1 := heap_setCell_same W bc 1 _ _ tu hm
    have a2 := heap_setCell_same _ bc 2 _ _ su a1
    simpa using a2
  · refine key _ ((o1 W 2 su).then (o1 _ 1 tu)) ?_
    have a1 := heap_setCell_same W bc 2 _ _ su hm
    have a2 := heap_setCell_same _ bc 1 _ _ tu a1
    simpa using a2
set_option maxRecDepth 20000 in
set_option maxHeartbeats 4000000 in
theorem part_step {w0 : World} {bc : Nat} (hO : OpsOK w0) {x : Tw} {k : Fs} (hok : (Fs.cons x k .nil).ok) (hK : AllP (PartOK w0 bc) k) : PartOK w0 bc x k := by
  intro w rest code hM hk
  have hsh := shape_of hok
  obtain ⟨hkn, -⟩ := ok_first hok
  have hfitx := hM.fit x (List.mem_cons_self ..)
  obtain ⟨cv, tv, sv, sl, h1, h2, h3, h4, h5⟩ := id hM.mem
  cases sl with
  | nil => exact h5.elim
  | cons s sl =>
  have hsf := h5.1
  obtain ⟨ta, tc, rfl, ht1, ht2, ht3⟩ := id h3
  obtain ⟨sa, sc, rfl, hs1, hs2, hs3⟩ := id h4
  obtain ⟨g, off, rfl, hg, hcg⟩ := ht3 (by simp)
  obtain ⟨gs, offs, rfl, hgs, hcs⟩ := hs3 (by simp)
  obtain ⟨tu, rt, htu⟩ := TwIn.tail1 h3
  obtain ⟨su, rs, hsu⟩ := NumsIn.tail h4
  obtain ⟨ua, uc, rfl, -, -, -⟩ := id htu
  obtain ⟨va, vc, rfl, -, -, -⟩ := id hsu
  have y := fun c (hc : c < 4) => (hM.b.cell (p := ⟨g, off + 0 * 4 + c, none⟩) hg).trans (hcg 0 (by simp) c hc)
  have ys := (hM.b.cell (p := ⟨gs, offs + 0, none⟩) hgs).trans (hcs 0 (by simp))
  have y0 := y 0 (by omega); have y1 := y 1 (by omega); have y2 := y 2 (by omega); have y3 := y 3 (by omega)
  obtain ⟨op, kids, num, text⟩ := x
  simp only [List.getElem_cons_zero, twC, List.getElem?_cons_zero, List.getElem?_cons_succ, Nat.add_zero, Nat.zero_mul] at y0 y1 y2 y3 ys
  have c1 := cellC h1 1
  have c2 := cellC h1 2
  simp only [List.getElem?_toArray, List.getElem?_cons_succ, List.getElem?_cons_zero] at c1 c2
  have hZ := (Below.refl w.heap.size w).alloc (Nat.le_refl _) (.cells #[.int .u8 0, .int .i64 0, .int .i64 0, .string ⟨#[]⟩] 34)
  have hX := (Below.refl w.heap.size w).alloc (Nat.le_refl _) (.cells #[.int .u8 op, .int .i64 kids, .int .i64 num, .string ⟨text.toArray⟩] 34)
  have a0 := Below.keeps hZ y0; have a1 := Below.keeps hZ y1; have a2 := Below.keeps hZ y2; have a3 := Below.keeps hZ y3; have as_ := Below.keeps hZ ys; have ac1 := Below.keeps hZ c1; have ac2 := Below.keeps hZ c2
  have b0 := Below.keeps hX y0; have b1 := Below.keeps hX y1; have b2 := Below.keeps hX y2; have b3 := Below.keeps hX y3; have bs := Below.keeps hX ys; have bc1 := Below.keeps hX c1; have bc2 := Below.keeps hX c2
  have hN : (w.alloc (.cells #[.int .u8 op, .int .i64 kids, .int .i64 num, .string ⟨text.toArray⟩] 34)).drew.heap[w.heap.size]? = some (.cells #[.int .u8 op, .int .i64 kids, .int .i64 num, .string ⟨text.toArray⟩] 34 (0, 0)) := heap_alloc_new w _
  have hM1 := hM.below hX.drew
  have h1' := heldC (F := fun _ => False) (Only.of_below hX.drew) h1 (fun e => e)
  have h2' := h2.below hX.drew
  have ho1 : Only (Fcm w0.heap.size w) w (w.alloc (.cells #[.int .u8 op, .int .i64 kids, .int .i64 num, .string ⟨text.toArray⟩] 34)).drew := Only.of_below hX.drew
  have hl1 : (0 : Int) < (((⟨op, kids, num, text⟩ : Tw) :: (k.flat ++ rest)).length : Int) := by simp only [List.length_cons]; omega
  have hl2 : (0 : Int) < ((s :: sl).length : Int) := by simp only [List.length_cons]; omega
  have hT := Lib.hid (cm_taken (s := s) (sl := sl) (tu := .slice ua (k.flat ++ rest).length uc) (su := .slice va sl.length vc) hM1.b hM1.hb hM1.fit h1' h2' htu hsu h5)
  replace hN := Lib.hid hN
  replace ho1 := Lib.hid ho1
  replace h1' := Lib.hid h1'
  have hbcl := (Array.getElem?_eq_some_iff.1 h1).1
  replace hfitx := Lib.hid hfitx
  replace hsf := Lib.hid hsf
  replace hsh := Lib.hid hsh
  replace hkn := Lib.hid hkn
  replace hK := Lib.hid hK
  replace hO := Lib.hid hO
  replace hh1 := Lib.hid h1
  have hhb := Lib.hid hM.hb
  clear y hcg hcs ht3 hs3 hZ hX h1 h2 h2' h3 h4 h5 hM hM1 htu hsu hok ht1 ht2 hs1 hs2
  generalize hn1 : ((⟨op, kids, num, text⟩ : Tw) :: (k.flat ++ rest)).length = n1 at *
  generalize hn2 : (s :: sl).length = n2 at *
  clear hn1 hn2
  generalize hn3 : (k.flat ++ rest).length = n3 at *
  generalize hn4 : sl.length = n4 at *
  clear hn3 hn4
  go_enter Tryd.func13, Tryd.ntmps13
  go_wp2_with fail
  go_region
  clear y0 y1 y2 y3 ys c1 c2 a0 a1 a2 a3 as_ ac1 ac2 b0 b1 b2 b3 bs bc1 bc2 hl1 hl2 hg hgs
  generalize hWW : (w.alloc (.cells #[.int .u8 op, .int .i64 kids, .int .i64 num, .string ⟨text.toArray⟩] 34)).drew = W1 at *
  replace hWW := Lib.hid hWW
  have d1 := cellC h1'.out 1
  have d2 := cellC h1'.out 2
  have f1 := fzC h1'.out 1
  have f2 := fzC h1'.out 2
  simp only [List.getElem?_toArray, List.getElem?_cons_succ, List.getElem?_cons_zero] at d1 d2
  go_wp2_with fail
  go_region
  have hne : w.heap.size ≠ bc := by omega
  have hoS : Only (fun k => k = bc) W1 ((W1.setCell ⟨bc, 1, none⟩ (.slice ua n3 uc)).setCell ⟨bc, 2, none⟩ (.slice va n4 vc)).drew := ((scOnly W1 bc 1 _).then (scOnly _ bc 2 _)).drew
  have hX2 := Lib.hid (heldC hoS hN.out hne)
  have hM2 := Lib.hid (hT.out.1.below (Below.refl _ _).drew)
  have ho2 := Lib.hid (ho1.out.trans (K := Fcm w0.heap.size w) hoS (fun _ _ h => h) (fun k' hk' e => ⟨by subst e; exact hhb.out, fun c t fr hc => by
    subst e
    rw [hh1.out] at hc
    injection hc with hc
    injection hc with _ hc _
    exact .inl hc.symm⟩))
  clear hoS hN hT ho1 hh1 h1' f1 f2 d1 d2 rt rs hbcl hne
  generalize hW2 : ((W1.setCell ⟨bc, 1, none⟩ (.slice ua n3 uc)).setCell ⟨bc, 2, none⟩ (.slice va n4 vc)).drew = W2 at *
  clear hW2 hWW W1
  generalize hbn : w.heap.size = bn at *
  replace hbn := Lib.hid hbn
  have n0 := cellC hX2.out 0; have n1' := cellC hX2.out 1; have n2' := cellC hX2.out 2; have n3' := cellC hX2.out 3
  simp only [List.getElem?_toArray, List.getElem?_cons_succ, List.getElem?_cons_zero] at n0 n1' n2' n3'
  cases hsh.out with
  | lone hx =>
    dsimp only at hx
    have hfc := lone_facts hx
    have q1 : ((op : Int) == 1) = false := beq_eq_false_iff_ne.2 (by omega)
    have q2 : ((op : Int) == 2) = false := beq_eq_false_iff_ne.2 (by omega)
    have q3 : ((op : Int) == 3) = false := beq_eq_false_iff_ne.2 (by omega)
    have q4 : ((op : Int) == 4) = false := beq_eq_false_iff_ne.2 (by omega)
    have q5 : ((op : Int) == 5) = false := beq_eq_false_iff_ne.2 (by omega)
    have q26 : ((op : Int) == 26) = false := beq_eq_false_iff_ne.2 (by omega)
    have q6 : ((op : Int) == 6) = false := beq_eq_false_iff_ne.2 (by omega)
    have q7 : ((op : Int) == 7) = false := beq_eq_false_iff_ne.2 (by omega)
    have q30 : ((op : Int) == 30) = false := beq_eq_false_iff_ne.2 (by omega)
    have q31 : ((op : Int) == 31) = false := beq_eq_false_iff_ne.2 (by omega)
    have q53 : ((op : Int) == 53) = false := beq_eq_false_iff_ne.2 (by omega)
    clear hfc
    have hk' : kids = (k.count : Int) := hkn.out
    subst hk'
    have kP := Lib.hid (parts_any hK.out hM2.out (by omega))
    have hO2 := hO.out
    have hMb := hM2.out.b
    replace hx := Lib.hid hx
    clear hM2 hK hkn hsh hfitx hO hsf n0 n1' n2' n3'
    have n0 := cellC hX2.out 0; have n1' := cellC hX2.out 1; have n2' := cellC hX2.out 2; have n3' := cellC hX2.out 3
    simp only [List.getElem?_toArray, List.getElem?_cons_succ, List.getElem?_cons_zero] at n0 n1' n2' n3'
    replace hMb := Lib.hid hMb
    replace hO2 := Lib.hid hO2
    go_wp2_with fail
    refine kP.out.mono ?_
    rintro e w3 ⟨rfl, c, hg1, hM3, ho3⟩
    have hl1 := gens_len hg1
    have hX3 := heldC ho3 hX2.out (notC hX2.out (by decide))
    have kL := Lib.hid (lone_any (x := ⟨op, (k.count : Int), num, text⟩) hx.out w3.drew (hO2.out.below hM3.b.drew))
    unfold twV at kL
    dsimp only at kL
    have m0 := cellC hX3 0; have m1 := cellC hX3 1; have m2 := cellC hX3 2; have m3 := cellC hX3 3
    simp only [List.getElem?_toArray, List.getElem?_cons_succ, List.getElem?_cons_zero] at m0 m1 m2 m3
    have ho4 := Lib.hid (cm_then ho2.out ho3)
    replace hM3 := Lib.hid hM3
    replace hg1 := Lib.hid hg1
    have hkk := Lib.hid (fun (w4 w5 : World) (hb4 : Below w3.drew.heap.size w3.drew w4) (ho6 : Only (Fcm w0.heap.size w4) w4 w5) => show w5.cell? ⟨bn, 0, none⟩ = some (.int .u8 op) ∧ w5.cell? ⟨bn, 1, none⟩ = some (.int .i64 (k.count : Int)) ∧ w5.cell? ⟨bn, 2, none⟩ = some (.int .i64 num) ∧ w5.cell? ⟨bn, 3, none⟩ = some (.string ⟨text.toArray⟩) from by
      have h4 := heldC (F := fun _ => False) (Only.of_below hb4) (show w3.drew.heap[bn]? = _ from hX3) (fun e => e)
      have h5 := heldC ho6 h4 (notC h4 (by decide))
      exact ⟨cellC h5 0, cellC h5 1, cellC h5 2, cellC h5 3⟩)
    clear kP ho3 hX3 n0 n1' n2' n3'
    go_wp2_with fail
    have kQ := Lib.hid (fun (W : World) (hb4 : Below w3.drew.heap.size w3.drew W) => put_any ((hM3.out.below (Below.refl _ w3).drew).below hb4) (loneI ⟨op, (k.count : Int), num, text⟩) (by simp only [List.length_append]; omega))
    go_region_held3 (fun w' => w'.cell? ⟨bn, 0, none⟩ = some (.int .u8 op) ∧ w'.cell? ⟨bn, 1, none⟩ = some (.int .i64 (k.count : Int)) ∧ w'.cell? ⟨bn, 2, none⟩ = some (.int .i64 num) ∧ w'.cell? ⟨bn, 3, none⟩ = some (.string ⟨text.toArray⟩))
      (first
        | exact ⟨m0, m1, m2, m3⟩
        | exact hold
        | exact hold2)
      ((first
        | (go_at_call 26; refine kL.out.mono ?_; rintro e w4 ⟨rfl, hb4⟩; have hold : w4.cell? ⟨bn, 0, none⟩ = some (.int .u8 op) ∧ w4.cell? ⟨bn, 1, none⟩ = some (.int .i64 (k.count : Int)) ∧ w4.cell? ⟨bn, 2, none⟩ = some (.int .i64 num) ∧ w4.cell? ⟨bn, 3, none⟩ = some (.string ⟨text.toArray⟩) := ⟨Below.keeps hb4 m0, Below.keeps hb4 m1, Below.keeps hb4 m2, Below.keeps hb4 m3⟩)
        | (go_at_call 21; refine (kQ.out w4 hb4).mono ?_; rintro e w5 ⟨rfl, hM5, ho6⟩; have hold2 : w5.cell? ⟨bn, 0, none⟩ = some (.int .u8 op) ∧ w5.cell? ⟨bn, 1, none⟩ = some (.int .i64 (k.count : Int)) ∧ w5.cell? ⟨bn, 2, none⟩ = some (.int .i64 num) ∧ w5.cell? ⟨bn, 3, none⟩ = some (.string ⟨text.toArray⟩) := (hkk.out w4 w5 hb4 ho6))))
    have ho5 : Only (Fcm w0.heap.size w) w w4 := ho4.out.trans (K := Fcm w0.heap.size w) (Only.of_below (F := fun _ => False) ((Below.refl _ w3).drew.trans hb4)) (fun _ _ h => h) (fun _ _ h => h.elim)
    have ho7 := Lib.hid (cm_then ho5 ho6)
    replace hM5 := Lib.hid hM5
    clear kQ ho6 ho5 hold hold2 hkk kL hb4
    go_wp2_with fail
    refine bodyPost_end (results_none rfl _ _ _) rfl ?_
    refine ⟨rfl, c ++ [loneI ⟨op, (k.count : Int), num, text⟩], .lone hx.out hg1.out, ?_, ho7.out⟩
    rw [← List.append_assoc]
    exact hM5.out
  | flow hx =>
    dsimp only at hx
    have q1 : ((op : Int) == 1) = true := by rw [hx]; rfl
    have hk' : kids = (k.count : Int) := hkn.out
    subst hk'
    have kP := Lib.hid (parts_any hK.out hM2.out (by omega))
    replace hx := Lib.hid hx
    clear hM2 hK hkn hsh hfitx hO hsf
    go_wp2_with fail
    refine kP.out.mono ?_
    rintro e w3 ⟨rfl, c, hg1, hM3, ho3⟩
    have hl1 := gens_len hg1
    have kQ := Lib.hid (op_any hM3 28 (by simp only [List.length_append]; omega))
    have ho4 := Lib.hid (cm_then ho2.out ho3)
    replace hg1 := Lib.hid hg1
    clear kP hM3 ho3
    go_wp2_with fail
    refine kQ.out.mono ?_
    rintro e w4 ⟨rfl, hM4, ho5⟩
    have ho6 := Lib.hid (cm_then ho4.out ho5)
    replace hM4 := Lib.hid hM4
    clear kQ ho5
    go_wp2_with fail
    refine bodyPost_end (results_none rfl _ _ _) rfl ?_
    refine ⟨rfl, c ++ [mkI 28 0], .flow hx.out hg1.out, ?_, ho6.out⟩
    rw [← List.append_assoc]
    exact hM4.out
  | block hx =>
    dsimp only at hx
    rcases hx with hx | hx
    · have q1 : ((op : Int) == 1) = false := beq_eq_false_iff_ne.2 (by omega)
      have q2 : ((op : Int) == 2) = true := by rw [hx]; rfl
      have hk' : kids = (k.count : Int) := hkn.out
      subst hk'
      have kP := Lib.hid (parts_any hK.out hM2.out (by omega))
      replace hx := Lib.hid hx
      clear hM2 hK hkn hsh hfitx hO hsf
      go_wp2_with fail
      refine kP.out.mono ?_
      rintro e w3 ⟨rfl, c, hg1, hM3, ho3⟩
      have ho4 := Lib.hid (cm_then ho2.out ho3)
      replace hg1 := Lib.hid hg1
      replace hM3 := Lib.hid hM3
      clear kP ho3
      go_wp2_with fail
      refine bodyPost_end (results_none rfl _ _ _) rfl ?_
      exact ⟨rfl, c, .block (by have := hx.out; show op = 2 ∨ op = 3; omega) hg1.out, hM3.out, ho4.out⟩
    · have q1 : ((op : Int) == 1) = false := beq_eq_false_iff_ne.2 (by omega)
      have q2 : ((op : Int) == 2) = false := beq_eq_false_iff_ne.2 (by omega)
      have q3 : ((op : Int) == 3) = true := by rw [hx]; rfl
      have hk' : kids = (k.count : Int) := hkn.out
      subst hk'
      have kP := Lib.hid (parts_any hK.out hM2.out (by omega))
      replace hx := Lib.hid hx
      clear hM2 hK hkn hsh hfitx hO hsf
      go_wp2_with fail
      refine kP.out.mono ?_
      rintro e w3 ⟨rfl, c, hg1, hM3, ho3⟩
      have ho4 := Lib.hid (cm_then ho2.out ho3)
      replace hg1 := Lib.hid hg1
      replace hM3 := Lib.hid hM3
      clear kP ho3
      go_wp2_with fail
      refine bodyPost_end (results_none rfl _ _ _) rfl ?_
      exact ⟨rfl, c, .block (by have := hx.out; show op = 2 ∨ op = 3; omega) hg1.out, hM3.out, ho4.out⟩
  | store hx =>
    dsimp only at hx
    rcases hx with hx | hx
    · have q1 : ((op : Int) == 1) = false := beq_eq_false_iff_ne.2 (by omega)
      have q2 : ((op : Int) == 2) = false := beq_eq_false_iff_ne.2 (by omega)
      have q3 : ((op : Int) == 3) = false := beq_eq_false_iff_ne.2 (by omega)
      have q4 : ((op : Int) == 4) = true := by rw [hx]; rfl
      have kP := Lib.hid (hK.out.1 W2 rest code (by have := hM2.out; simpa [Fs.flat] using this) (by have := hk; simp only [Fs.flat, List.length_cons, List.append_nil] at this; omega))
      obtain ⟨s1, s2, s3⟩ := hsf.out
      dsimp only at s3
      have s0 := s3 (by omega)
      replace hx := Lib.hid hx
      clear hM2 hK hkn hsh hfitx hO hsf s3 s1
      go_wp2_with fail
      refine kP.out.mono ?_
      rintro e w3 ⟨rfl, c, hg1, hM3, ho3⟩
      have hl1 := gens_len hg1
      rw [flat_one, List.length_cons] at hl1
      simp only [Fs.flat, List.length_cons, List.append_nil] at hk
      have kQ := Lib.hid (put_any hM3 (mkI 27 s) (by simp only [List.length_append]; omega))
      unfold insV mkI at kQ
      dsimp only at kQ
      have ho4 := Lib.hid (cm_then ho2.out ho3)
      replace hg1 := Lib.hid hg1
      clear kP hM3 ho3
      go_wp2_with fail
      refine kQ.out.mono ?_
      rintro e w4 ⟨rfl, hM4, ho5⟩
      have ho6 := Lib.hid (cm_then ho4.out ho5)
      replace hM4 := Lib.hid hM4
      clear kQ ho5
      go_wp2_with fail
      refine bodyPost_end (results_none rfl _ _ _) rfl ?_
      refine ⟨rfl, c ++ [mkI 27 s], .store (by have := hx.out; dsimp only; omega) s0 s2 hg1.out, ?_, ho6.out⟩
      rw [← List.append_assoc]
      exact hM4.out
    · have q1 : ((op : Int) == 1) = false := beq_eq_false_iff_ne.2 (by omega)
      have q2 : ((op : Int) == 2) = false := beq_eq_false_iff_ne.2 (by omega)
      have q3 : ((op : Int) == 3) = false := beq_eq_false_iff_ne.2 (by omega)
      have q4 : ((op : Int) == 4) = false := beq_eq_false_iff_ne.2 (by omega)
      have q5 : ((op : Int) == 5) = true := by rw [hx]; rfl
      have kP := Lib.hid (hK.out.1 W2 rest code (by have := hM2.out; simpa [Fs.flat] using this) (by have := hk; simp only [Fs.flat, List.length_cons, List.append_nil] at this; omega))
      obtain ⟨s1, s2, s3⟩ := hsf.out
      dsimp only at s3
      have s0 := s3 (by omega)
      replace hx := Lib.hid hx
      clear hM2 hK hkn hsh hfitx hO hsf s3 s1
      go_wp2_with fail
      refine kP.out.mono ?_
      rintro e w3 ⟨rfl, c, hg1, hM3, ho3⟩
      have hl1 := gens_len hg1
      rw [flat_one, List.length_cons] at hl1
      simp only [Fs.flat, List.length_cons, List.append_nil] at hk
      have kQ := Lib.hid (put_any hM3 (mkI 27 s) (by simp only [List.length_append]; omega))
      unfold insV mkI at kQ
      dsimp only at kQ
      have ho4 := Lib.hid (cm_then ho2.out ho3)
      replace hg1 := Lib.hid hg1
      clear kP hM3 ho3
      go_wp2_with fail
      refine kQ.out.mono ?_
      rintro e w4 ⟨rfl, hM4, ho5⟩
      have ho6 := Lib.hid (cm_then ho4.out ho5)
      replace hM4 := Lib.hid hM4
      clear kQ ho5
      go_wp2_with fail
      refine bodyPost_end (results_none rfl _ _ _) rfl ?_
      refine ⟨rfl, c ++ [mkI 27 s], .store (by have := hx.out; dsimp only; omega) s0 s2 hg1.out, ?_, ho6.out⟩
      rw [← List.append_assoc]
      exact hM4.out
  | load hx =>
    dsimp only at hx
    have q1 : ((op : Int) == 1) = false := beq_eq_false_iff_ne.2 (by omega)
    have q2 : ((op : Int) == 2) = false := beq_eq_false_iff_ne.2 (by omega)
    have q3 : ((op : Int) == 3) = false := beq_eq_false_iff_ne.2 (by omega)
    have q4 : ((op : Int) == 4) = false := beq_eq_false_iff_ne.2 (by omega)
    have q5 : ((op : Int) == 5) = false := beq_eq_false_iff_ne.2 (by omega)
    have q26 : ((op : Int) == 26) = true := by rw [hx]; rfl
    obtain ⟨s1, s2, s3⟩ := hsf.out
    dsimp only at s3
    have s0 := s3 (by omega)
    have kQ := Lib.hid (put_any hM2.out (mkI 26 s) (by omega))
    unfold insV mkI at kQ
    dsimp only at kQ
    replace hx := Lib.hid hx
    clear hM2 hK hkn hsh hfitx hO hsf s3 s1
    go_wp2_with fail
    refine kQ.out.mono ?_
    rintro e w4 ⟨rfl, hM4, ho5⟩
    have ho6 := Lib.hid (cm_then ho2.out ho5)
    replace hM4 := Lib.hid hM4
    clear kQ ho5
    go_wp2_with fail
    refine bodyPost_end (results_none rfl _ _ _) rfl ?_
    exact ⟨rfl, [mkI 26 s], .load hx.out s0 s2, hM4.out, ho6.out⟩
  | if2 hx hq =>
    dsimp only at hx
    have q1 : ((op : Int) == 1) = false := beq_eq_false_iff_ne.2 (by omega)
    have q2 : ((op : Int) == 2) = false := beq_eq_false_iff_ne.2 (by omega)
    have q3 : ((op : Int) == 3) = false := beq_eq_false_iff_ne.2 (by omega)
    have q4 : ((op : Int) == 4) = false := beq_eq_false_iff_ne.2 (by omega)
    have q5 : ((op : Int) == 5) = false := beq_eq_false_iff_ne.2 (by omega)
    have q26 : ((op : Int) == 26) = false := beq_eq_false_iff_ne.2 (by omega)
    have q6 : ((op : Int) == 6) = true := by rw [hx]; rfl
    dsimp only at hq
    subst hq
    have kQ := Lib.hid (choice2_any (x := ⟨op, 2, num, text⟩) hx hK.out.1 hK.out.2.1 (rest := rest) (code := code) (w := W2) (by have := hM2.out; simpa [Fs.flat] using this) (by have := hk; simp only [Fs.flat, List.length_cons, List.length_append, List.append_nil] at this; omega))
    replace hx := Lib.hid hx
    clear hM2 hK hkn hsh hfitx hO hsf
    go_wp2_with fail
    refine kQ.out.mono ?_
    rintro e w4 ⟨rfl, c, hg1, hM4, ho5⟩
    have ho6 := Lib.hid (cm_then ho2.out ho5)
    replace hM4 := Lib.hid hM4
    replace hg1 := Lib.hid hg1
    clear kQ ho5
    go_wp2_with fail
    refine bodyPost_end (results_none rfl _ _ _) rfl ?_
    exact ⟨rfl, c, hg1.out, hM4.out, ho6.out⟩
  | if3 hx hq =>
    dsimp only at hx
    have q1 : ((op : Int) == 1) = false := beq_eq_false_iff_ne.2 (by omega)
    have q2 : ((op : Int) == 2) = false := beq_eq_false_iff_ne.2 (by omega)
    have q3 : ((op : Int) == 3) = false := beq_eq_false_iff_ne.2 (by omega)
    have q4 : ((op : Int) == 4) = false := beq_eq_false_iff_ne.2 (by omega)
    have q5 : ((op : Int) == 5) = false := beq_eq_false_iff_ne.2 (by omega)
    have q26 : ((op : Int) == 26) = false := beq_eq_false_iff_ne.2 (by omega)
    have q6 : ((op : Int) == 6) = true := by rw [hx]; rfl
    dsimp only at hq
    subst hq
    have kQ := Lib.hid (choice3_any (x := ⟨op, 3, num, text⟩) hx hK.out.1 hK.out.2.1 hK.out.2.2.1 (rest := rest) (code := code) (w := W2) (by have := hM2.out; simpa [Fs.flat] using this) (by have := hk; simp only [Fs.flat, List.length_cons, List.length_append, List.append_nil] at this; omega))
    replace hx := Lib.hid hx
    clear hM2 hK hkn hsh hfitx hO hsf
    go_wp2_with fail
    refine kQ.out.mono ?_
    rintro e w4 ⟨rfl, c, hg1, hM4, ho5⟩
    have ho6 := Lib.hid (cm_then ho2.out ho5)
    replace hM4 := Lib.hid hM4
    replace hg1 := Lib.hid hg1
    clear kQ ho5
    go_wp2_with fail
    refine bodyPost_end (results_none rfl _ _ _) rfl ?_
    exact ⟨rfl, c, hg1.out, hM4.out, ho6.out⟩
  | loop hx =>
    dsimp only at hx
    have q1 : ((op : Int) == 1) = false := beq_eq_false_iff_ne.2 (by omega)
    have q2 : ((op : Int) == 2) = false := beq_eq_false_iff_ne.2 (by omega)
    have q3 : ((op : Int) == 3) = false := beq_eq_false_iff_ne.2 (by omega)
    have q4 : ((op : Int) == 4) = false := beq_eq_false_iff_ne.2 (by omega)
    have q5 : ((op : Int) == 5) = false := beq_eq_false_iff_ne.2 (by omega)
    have q26 : ((op : Int) == 26) = false := beq_eq_false_iff_ne.2 (by omega)
    have q6 : ((op : Int) == 6) = false := beq_eq_false_iff_ne.2 (by omega)
    have q7 : ((op : Int) == 7) = true := by rw [hx]; rfl
    have kQ := Lib.hid (loop_any (x := ⟨op, kids, num, text⟩) hx hK.out.1 hK.out.2.1 (rest := rest) (code := code) (w := W2) (by have := hM2.out; simpa [Fs.flat] using this) (by have := hk; simp only [Fs.flat, List.length_cons, List.length_append, List.append_nil] at this; omega))
    replace hx := Lib.hid hx
    clear hM2 hK hkn hsh hfitx hO hsf
    go_wp2_with fail
    refine kQ.out.mono ?_
    rintro e w4 ⟨rfl, c, hg1, hM4, ho5⟩
    have ho6 := Lib.hid (cm_then ho2.out ho5)
    replace hM4 := Lib.hid hM4
    replace hg1 := Lib.hid hg1
    clear kQ ho5
    go_wp2_with fail
    refine bodyPost_end (results_none rfl _ _ _) rfl ?_
    exact ⟨rfl, c, hg1.out, hM4.out, ho6.out⟩
  | either hx =>
    dsimp only at hx
    rcases hx with hx | hx
    · have q1 : ((op : Int) == 1) = false := beq_eq_false_iff_ne.2 (by omega)
      have q2 : ((op : Int) == 2) = false := beq_eq_false_iff_ne.2 (by omega)
      have q3 : ((op : Int) == 3) = false := beq_eq_false_iff_ne.2 (by omega)
      have q4 : ((op : Int) == 4) = false := beq_eq_false_iff_ne.2 (by omega)
      have q5 : ((op : Int) == 5) = false := beq_eq_false_iff_ne.2 (by omega)
      have q26 : ((op : Int) == 26) = false := beq_eq_false_iff_ne.2 (by omega)
      have q6 : ((op : Int) == 6) = false := beq_eq_false_iff_ne.2 (by omega)
      have q7 : ((op : Int) == 7) = false := beq_eq_false_iff_ne.2 (by omega)
      have q30 : ((op : Int) == 30) = true := by rw [hx]; rfl
      have kQ := Lib.hid (either_any (op := 3) (x := ⟨op, kids, num, text⟩) (by dsimp only; omega) hK.out.1 hK.out.2.1 (rest := rest) (code := code) (w := W2) (by have := hM2.out; simpa [Fs.flat] using this) (by have := hk; simp only [Fs.flat, List.length_cons, List.length_append, List.append_nil] at this; omega) (by dsimp only; omega))
      replace hx := Lib.hid hx
      clear hM2 hK hkn hsh hfitx hO hsf
      go_wp2_with fail
      refine kQ.out.mono ?_
      rintro e w4 ⟨rfl, c, hg1, hM4, ho5⟩
      have ho6 := Lib.hid (cm_then ho2.out ho5)
      replace hM4 := Lib.hid hM4
      replace hg1 := Lib.hid hg1
      clear kQ ho5
      go_wp2_with fail
      refine bodyPost_end (results_none rfl _ _ _) rfl ?_
      exact ⟨rfl, c, hg1.out, hM4.out, ho6.out⟩
    · have q1 : ((op : Int) == 1) = false := beq_eq_false_iff_ne.2 (by omega)
      have q2 : ((op : Int) == 2) = false := beq_eq_false_iff_ne.2 (by omega)
      have q3 : ((op : Int) == 3) = false := beq_eq_false_iff_ne.2 (by omega)
      have q4 : ((op : Int) == 4) = false := beq_eq_false_iff_ne.2 (by omega)
      have q5 : ((op : Int) == 5) = false := beq_eq_false_iff_ne.2 (by omega)
      have q26 : ((op : Int) == 26) = false := beq_eq_false_iff_ne.2 (by omega)
      have q6 : ((op : Int) == 6) = false := beq_eq_false_iff_ne.2 (by omega)
      have q7 : ((op : Int) == 7) = false := beq_eq_false_iff_ne.2 (by omega)
      have q30 : ((op : Int) == 30) = false := beq_eq_false_iff_ne.2 (by omega)
      have q31 : ((op : Int) == 31) = true := by rw [hx]; rfl
      have kQ := Lib.hid (either_any (op := 4) (x := ⟨op, kids, num, text⟩) (by dsimp only; omega) hK.out.1 hK.out.2.1 (rest := rest) (code := code) (w := W2) (by have := hM2.out; simpa [Fs.flat] using this) (by have := hk; simp only [Fs.flat, List.length_cons, List.length_append, List.append_nil] at this; omega) (by dsimp only; omega))
      replace hx := Lib.hid hx
      clear hM2 hK hkn hsh hfitx hO hsf
      go_wp2_with fail
      refine kQ.out.mono ?_
      rintro e w4 ⟨rfl, c, hg1, hM4, ho5⟩
      have ho6 := Lib.hid (cm_then ho2.out ho5)
      replace hM4 := Lib.hid hM4
      replace hg1 := Lib.hid hg1
      clear kQ ho5
      go_wp2_with fail
      refine bodyPost_end (results_none rfl _ _ _) rfl ?_
      exact ⟨rfl, c, hg1.out, hM4.out, ho6.out⟩
  | fork hx =>
    dsimp only at hx
    have q1 : ((op : Int) == 1) = false := beq_eq_false_iff_ne.2 (by omega)
    have q2 : ((op : Int) == 2) = false := beq_eq_false_iff_ne.2 (by omega)
    have q3 : ((op : Int) == 3) = false := beq_eq_false_iff_ne.2 (by omega)
    have q4 : ((op : Int) == 4) = false := beq_eq_false_iff_ne.2 (by omega)
    have q5 : ((op : Int) == 5) = false := beq_eq_false_iff_ne.2 (by omega)
    have q26 : ((op : Int) == 26) = false := beq_eq_false_iff_ne.2 (by omega)
    have q6 : ((op : Int) == 6) = false := beq_eq_false_iff_ne.2 (by omega)
    have q7 : ((op : Int) == 7) = false := beq_eq_false_iff_ne.2 (by omega)
    have q30 : ((op : Int) == 30) = false := beq_eq_false_iff_ne.2 (by omega)
    have q31 : ((op : Int) == 31) = false := beq_eq_false_iff_ne.2 (by omega)
    have q53 : ((op : Int) == 53) = true := by rw [hx]; rfl
    have kQ := Lib.hid (fork_any (x := ⟨op, kids, num, text⟩) hx hK.out.1 (rest := rest) (code := code) (w := W2) (by have := hM2.out; simpa [Fs.flat] using this) (by have := hk; simp only [Fs.flat, List.length_cons, List.append_nil] at this; omega))
    replace hx := Lib.hid hx
    clear hM2 hK hkn hsh hfitx hO hsf
    go_wp2_with fail
    refine kQ.out.mono ?_
    rintro e w4 ⟨rfl, c, hg1, hM4, ho5⟩
    have ho6 := Lib.hid (cm_then ho2.out ho5)
    replace hM4 := Lib.hid hM4
    replace hg1 := Lib.hid hg1
    clear kQ ho5
    go_wp2_with fail
    refine bodyPost_end (results_none rfl _ _ _) rfl ?_
    exact ⟨rfl, c, hg1.out, hM4.out, ho6.out⟩
end Go.Proofs.YtefijbpbenmbgaaDoor
