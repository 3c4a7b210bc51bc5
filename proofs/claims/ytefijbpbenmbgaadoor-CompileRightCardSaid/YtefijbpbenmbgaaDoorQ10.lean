/- A part of the proof: GFork, GPart2, CkB, RChk. No condition. -/
import Derived.StillTailTactics
import Derived.Deep.RegionHeld3
import Derived.Test.YtefijbpbenmbgaaDoorQ05
import Derived.Test.YtefijbpbenmbgaaDoorQ06
import Derived.Test.YtefijbpbenmbgaaDoorQ09
set_option linter.unusedVariables false
set_option linter.unusedSimpArgs false
namespace Go.Proofs.YtefijbpbenmbgaaDoor
open Go.RowKit Go.Shelf
section
variable {w0 : World} {bc : Nat} {a x : Tw} {ka : Fs}
set_option maxRecDepth 20000 in
set_option maxHeartbeats 2000000 in
theorem fork_any (hx : x.op = 53) (ha : PartOK w0 bc a ka) {w : World} {rest : List Tw} {code : List Ins} (hM : CM w0 w bc (a :: (ka.flat ++ rest)) code) (hk : code.length + 3 * (2 + ka.flat.length) ≤ 1000000) :
   Calls Tryd.prog 25 #[.pointer (some ⟨bc, 0, none⟩)] w (GP w0 bc rest (.cons x (.cons a ka .nil) .nil) code w) := by
 have kW := Lib.hid (here_any (hM.below (Below.refl _ w).drew));have kG := Lib.hid (goTo_any (hM.below (Below.refl _ w).drew) 53 ((code.length : Int) + 2) (by omega));replace ha := Lib.hid ha;replace hx := Lib.hid hx;have hcl : (code.length : Int) ≤ 1000000 := by omega
 clear hM;go_enter_defers Tryd.func25, Tryd.ntmps25
 go_wp2_with fail
 refine wp_region_still_tail 8 (by kernel_rfl) (by kernel_rfl) ?_;simp only [List.take_succ_cons, List.take_zero, List.drop_succ_cons, List.drop_zero]
 repeat still_step
 still_call kW.out
 repeat still_step
 refine wpStill_nil ?_
 change wpList _ _ _ _ _ w.drew
 go_wp2_with fail
 refine kG.out.mono ?_;rintro e w1 ⟨rfl, hM1, ho1⟩;have hoD : Only (Fcm w0.heap.size w) w w1 := Only.drew0 ho1;have kH := Lib.hid (hole_any hM1 1 (by simp only [List.length_append, List.length_cons, List.length_nil]; omega));unfold holeF at kH;replace ho1 := Lib.hid hoD;clear kG hM1 kW hoD;go_wp2_with fail
 refine kH.out.mono ?_;rintro e w2 ⟨gb, gi, rfl, hH2, hM2, ho2⟩;have kA := Lib.hid (ha.out w2 _ _ hM2 (by simp only [List.length_append, List.length_cons, List.length_nil]; omega));replace ho2 := Lib.hid (cm_then ho1.out ho2);replace hH2 := Lib.hid hH2;clear kH hM2 ho1;go_wp2_with fail
 refine kA.out.mono ?_;rintro e w3 ⟨rfl, c, hg1, hM3, ho3⟩;have hl1 := gens_len hg1;rw [flat_one, List.length_cons] at hl1;have kG := Lib.hid (op_any hM3 28 (by simp only [List.length_append, List.length_cons, List.length_nil]; omega));have hH3 := Lib.hid (hH2.out.keep ho3);have ho4 := Lib.hid (cm_then ho2.out ho3);replace hg1 := Lib.hid hg1;clear kA ho2 hH2 hM3 ho3;go_wp2_with fail
 refine kG.out.mono ?_;rintro e w4 ⟨rfl, hM4, ho5⟩;rw [List.append_assoc, List.append_assoc, List.singleton_append] at hM4;have kF := Lib.hid (fill_any .returning hM4 (hH3.out.keep ho5) (by simp only [List.length_append, List.length_cons, List.length_nil]; omega));have ho6 := Lib.hid (cm_then ho4.out ho5);clear kG hM4 ho4 ho5 hH3;go_wp2_with fail
 refine leaves_cons (f := 61) (args := #[.pointer (some ⟨gb, 0, none⟩), .pointer (some ⟨gi, 0, none⟩)]) (by simp) (by simp [go_sem]) ?_;refine kF.out.mono ?_;rintro e u' w5 ⟨rfl, rfl, hM5, ho7⟩;refine ⟨_, results_none rfl _ _ _, rfl, mkI 53 ((code.length + 2 : Nat) : Int) :: mkI 1 ((code.length + 2 + c.length + 1 : Nat) : Int) :: (c ++ [mkI 28 0]), ?_, ?_, cm_then ho6.out ho7⟩
 · refine .fork hx.out ?_
   have := hg1.out;simp only [List.length_append, List.length_cons, List.length_nil] at this;exact this
 · rw [filled (n := code.length + 2 + c.length + 1) (by simp only [List.length_append, List.length_cons, List.length_nil]; omega)] at hM5
   simpa using hM5
end
end Go.Proofs.YtefijbpbenmbgaaDoor
namespace Go.Proofs.YtefijbpbenmbgaaDoor
open Go.RowKit Go.Shelf
theorem ok_first {x : Tw} {k : Fs} (h : (Fs.cons x k .nil).ok) : x.kids = (k.count : Int) ∧ k.ok := ⟨h.2.1, h.2.2.1⟩
theorem cm_taken {w0 W : World} {bc : Nat} {x : Tw} {tl : List Tw} {s : Int} {sl : List Int} {code : List Ins} {cv tv sv tu su : Value} (hb : Below w0.heap.size w0 W) (hbc : w0.heap.size ≤ bc) (hf : ∀ y ∈ x :: tl, FitT y)
   (hm : W.heap[bc]? = some (.cells #[cv, tv, sv] 47 (0, 0))) (hi : InsAt W w0.heap.size cv code) (ht : TwIn w0 tu tl) (hs : NumsIn w0 su sl) (hfit : SlotsFit (x :: tl) (s :: sl)) :
   CM w0 ((W.setCell ⟨bc, 1, none⟩ tu).setCell ⟨bc, 2, none⟩ su) bc tl code ∧ CM w0 ((W.setCell ⟨bc, 2, none⟩ su).setCell ⟨bc, 1, none⟩ tu) bc tl code := by
 have o1 : ∀ (V : World) (c : Nat) (u : Value), Only (fun k => k = bc) V (V.setCell ⟨bc, c, none⟩ u) := fun V c u => scOnly V bc c u;have key : ∀ (V : World), Only (fun k => k = bc) W V → V.heap[bc]? = some (.cells #[cv, tu, su] 47 (0, 0)) → CM w0 V bc tl code := by
   intro V ho hV;refine ⟨hb.trans (ho.below hb.size (fun k hk e => by omega)), hbc, ⟨cv, tu, su, sl, hV, ownsRow_only hi ho (fun g hg e => ?_), ht, hs, hfit.2⟩, fun y hy => hf y (List.mem_cons_of_mem _ hy)⟩;subst e;exact hi.apart hm (by decide) hg
 constructor
 · refine key _ ((o1 W 1 tu).then (o1 _ 2 su)) ?_
   have a1 := heap_setCell_same W bc 1 _ _ tu hm;have a2 := heap_setCell_same _ bc 2 _ _ su a1
   simpa using a2
 · refine key _ ((o1 W 2 su).then (o1 _ 1 tu)) ?_
   have a1 := heap_setCell_same W bc 2 _ _ su hm;have a2 := heap_setCell_same _ bc 1 _ _ tu a1
   simpa using a2
set_option maxRecDepth 20000 in
set_option maxHeartbeats 4000000 in
theorem part_step {w0 : World} {bc : Nat} (hO : OpsOK w0) {x : Tw} {k : Fs} (hok : (Fs.cons x k .nil).ok) (hK : AllP (PartOK w0 bc) k) : PartOK w0 bc x k := by
 intro w rest code hM hk;have hsh := shape_of hok;obtain ⟨hkn, -⟩ := ok_first hok;have hfitx := hM.fit x (List.mem_cons_self ..);obtain ⟨cv, tv, sv, sl, h1, h2, h3, h4, h5⟩ := id hM.mem;cases sl with
 | nil => exact h5.elim
 | cons s sl =>
 have hsf := h5.1;obtain ⟨ta, tc, rfl, ht1, ht2, ht3⟩ := id h3;obtain ⟨sa, sc, rfl, hs1, hs2, hs3⟩ := id h4;obtain ⟨g, off, rfl, hg, hcg⟩ := ht3 (by simp);obtain ⟨gs, offs, rfl, hgs, hcs⟩ := hs3 (by simp);obtain ⟨tu, rt, htu⟩ := TwIn.tail1 h3;obtain ⟨su, rs, hsu⟩ := NumsIn.tail h4;obtain ⟨ua, uc, rfl, -, -, -⟩ := id htu;obtain ⟨va, vc, rfl, -, -, -⟩ := id hsu;have y := fun c (hc : c < 4) => (hM.b.cell (p := ⟨g, off + 0 * 4 + c, none⟩) hg).trans (hcg 0 (by simp) c hc)
 have ys := (hM.b.cell (p := ⟨gs, offs + 0, none⟩) hgs).trans (hcs 0 (by simp));have y0 := y 0 (by omega); have y1 := y 1 (by omega); have y2 := y 2 (by omega); have y3 := y 3 (by omega);obtain ⟨op, kids, num, text⟩ := x;simp only [List.getElem_cons_zero, twC, List.getElem?_cons_zero, List.getElem?_cons_succ, Nat.add_zero, Nat.zero_mul] at y0 y1 y2 y3 ys;have c1 := cellC h1 1;have c2 := cellC h1 2;simp only [List.getElem?_toArray, List.getElem?_cons_succ, List.getElem?_cons_zero] at c1 c2;have hZ := (Below.refl w.heap.size w).alloc (Nat.le_refl _) (.cells #[.int .u8 0, .int .i64 0, .int .i64 0, .string ⟨#[]⟩] 34);have hX := (Below.refl w.heap.size w).alloc (Nat.le_refl _) (.cells #[.int .u8 op, .int .i64 kids, .int .i64 num, .string ⟨text.toArray⟩] 34);have a0 := Below.keeps hZ y0; have a1 := Below.keeps hZ y1; have a2 := Below.keeps hZ y2; have a3 := Below.keeps hZ y3; have as_ := Below.keeps hZ ys; have ac1 := Below.keeps hZ c1; have ac2 := Below.keeps hZ c2;have b0 := Below.keeps hX y0; have b1 := Below.keeps hX y1; have b2 := Below.keeps hX y2; have b3 := Below.keeps hX y3; have bs := Below.keeps hX ys; have bc1 := Below.keeps hX c1; have bc2 := Below.keeps hX c2;have hN : (w.alloc (.cells #[.int .u8 op, .int .i64 kids, .int .i64 num, .string ⟨text.toArray⟩] 34)).drew.heap[w.heap.size]? = some (.cells #[.int .u8 op, .int .i64 kids, .int .i64 num, .string ⟨text.toArray⟩] 34 (0, 0)) := heap_alloc_new w _;have hM1 := hM.below hX.drew;have h1' := heldC (F := fun _ => False) (Only.of_below hX.drew) h1 (fun e => e);have h2' := h2.below hX.drew;have ho1 : Only (Fcm w0.heap.size w) w (w.alloc (.cells #[.int .u8 op, .int .i64 kids, .int .i64 num, .string ⟨text.toArray⟩] 34)).drew := Only.of_below hX.drew;have hl1 : (0 : Int) < (((⟨op, kids, num, text⟩ : Tw) :: (k.flat ++ rest)).length : Int) := by simp only [List.length_cons]; omega
 have hl2 : (0 : Int) < ((s :: sl).length : Int) := by simp only [List.length_cons]; omega
 have hT := Lib.hid (cm_taken (s := s) (sl := sl) (tu := .slice ua (k.flat ++ rest).length uc) (su := .slice va sl.length vc) hM1.b hM1.hb hM1.fit h1' h2' htu hsu h5);replace hN := Lib.hid hN;replace ho1 := Lib.hid ho1;replace h1' := Lib.hid h1';have hbcl := (Array.getElem?_eq_some_iff.1 h1).1;replace hfitx := Lib.hid hfitx;replace hsf := Lib.hid hsf;replace hsh := Lib.hid hsh;replace hkn := Lib.hid hkn;replace hK := Lib.hid hK;replace hO := Lib.hid hO;replace hh1 := Lib.hid h1;have hhb := Lib.hid hM.hb;clear y hcg hcs ht3 hs3 hZ hX h1 h2 h2' h3 h4 h5 hM hM1 htu hsu hok ht1 ht2 hs1 hs2;generalize hn1 : ((⟨op, kids, num, text⟩ : Tw) :: (k.flat ++ rest)).length = n1 at *;generalize hn2 : (s :: sl).length = n2 at *;clear hn1 hn2;generalize hn3 : (k.flat ++ rest).length = n3 at *;generalize hn4 : sl.length = n4 at *;clear hn3 hn4;go_enter Tryd.func13, Tryd.ntmps13
 go_wp2_with fail
 go_region
 clear y0 y1 y2 y3 ys c1 c2 a0 a1 a2 a3 as_ ac1 ac2 b0 b1 b2 b3 bs bc1 bc2 hl1 hl2 hg hgs;generalize hWW : (w.alloc (.cells #[.int .u8 op, .int .i64 kids, .int .i64 num, .string ⟨text.toArray⟩] 34)).drew = W1 at *;replace hWW := Lib.hid hWW;have d1 := cellC h1'.out 1;have d2 := cellC h1'.out 2;have f1 := fzC h1'.out 1;have f2 := fzC h1'.out 2;simp only [List.getElem?_toArray, List.getElem?_cons_succ, List.getElem?_cons_zero] at d1 d2;go_wp2_with fail
 go_region
 have hne : w.heap.size ≠ bc := by omega
 have hoS : Only (fun k => k = bc) W1 ((W1.setCell ⟨bc, 1, none⟩ (.slice ua n3 uc)).setCell ⟨bc, 2, none⟩ (.slice va n4 vc)).drew := ((scOnly W1 bc 1 _).then (scOnly _ bc 2 _)).drew;have hX2 := Lib.hid (heldC hoS hN.out hne);have hM2 := Lib.hid (hT.out.1.below (Below.refl _ _).drew);have ho2 := Lib.hid (ho1.out.trans (K := Fcm w0.heap.size w) hoS (fun _ _ h => h) (fun k' hk' e => ⟨by subst e; exact hhb.out, fun c t fr hc => by
   subst e;rw [hh1.out] at hc;injection hc with hc;injection hc with _ hc _;exact .inl hc.symm⟩))
 clear hoS hN hT ho1 hh1 h1' f1 f2 d1 d2 rt rs hbcl hne;generalize hW2 : ((W1.setCell ⟨bc, 1, none⟩ (.slice ua n3 uc)).setCell ⟨bc, 2, none⟩ (.slice va n4 vc)).drew = W2 at *;clear hW2 hWW W1;generalize hbn : w.heap.size = bn at *;replace hbn := Lib.hid hbn;have n0 := cellC hX2.out 0; have n1' := cellC hX2.out 1; have n2' := cellC hX2.out 2; have n3' := cellC hX2.out 3;simp only [List.getElem?_toArray, List.getElem?_cons_succ, List.getElem?_cons_zero] at n0 n1' n2' n3';cases hsh.out with
 | lone hx =>
   dsimp only at hx;have hfc := lone_facts hx;have q1 : ((op : Int) == 1) = false := beq_eq_false_iff_ne.2 (by omega);have q2 : ((op : Int) == 2) = false := beq_eq_false_iff_ne.2 (by omega);have q3 : ((op : Int) == 3) = false := beq_eq_false_iff_ne.2 (by omega);have q4 : ((op : Int) == 4) = false := beq_eq_false_iff_ne.2 (by omega);have q5 : ((op : Int) == 5) = false := beq_eq_false_iff_ne.2 (by omega);have q26 : ((op : Int) == 26) = false := beq_eq_false_iff_ne.2 (by omega);have q6 : ((op : Int) == 6) = false := beq_eq_false_iff_ne.2 (by omega);have q7 : ((op : Int) == 7) = false := beq_eq_false_iff_ne.2 (by omega);have q30 : ((op : Int) == 30) = false := beq_eq_false_iff_ne.2 (by omega);have q31 : ((op : Int) == 31) = false := beq_eq_false_iff_ne.2 (by omega);have q53 : ((op : Int) == 53) = false := beq_eq_false_iff_ne.2 (by omega);clear hfc;have hk' : kids = (k.count : Int) := hkn.out;subst hk';have kP := Lib.hid (parts_any hK.out hM2.out (by omega));have hO2 := hO.out;have hMb := hM2.out.b;replace hx := Lib.hid hx;clear hM2 hK hkn hsh hfitx hO hsf n0 n1' n2' n3';have n0 := cellC hX2.out 0; have n1' := cellC hX2.out 1; have n2' := cellC hX2.out 2; have n3' := cellC hX2.out 3;simp only [List.getElem?_toArray, List.getElem?_cons_succ, List.getElem?_cons_zero] at n0 n1' n2' n3';replace hMb := Lib.hid hMb;replace hO2 := Lib.hid hO2;go_wp2_with fail
   refine kP.out.mono ?_;rintro e w3 ⟨rfl, c, hg1, hM3, ho3⟩;have hl1 := gens_len hg1;have hX3 := heldC ho3 hX2.out (notC hX2.out (by decide));have kL := Lib.hid (lone_any (x := ⟨op, (k.count : Int), num, text⟩) hx.out w3.drew (hO2.out.below hM3.b.drew));unfold twV at kL;dsimp only at kL;have m0 := cellC hX3 0; have m1 := cellC hX3 1; have m2 := cellC hX3 2; have m3 := cellC hX3 3;simp only [List.getElem?_toArray, List.getElem?_cons_succ, List.getElem?_cons_zero] at m0 m1 m2 m3;have ho4 := Lib.hid (cm_then ho2.out ho3);replace hM3 := Lib.hid hM3;replace hg1 := Lib.hid hg1;have hkk := Lib.hid (fun (w4 w5 : World) (hb4 : Below w3.drew.heap.size w3.drew w4) (ho6 : Only (Fcm w0.heap.size w4) w4 w5) => show w5.cell? ⟨bn, 0, none⟩ = some (.int .u8 op) ∧ w5.cell? ⟨bn, 1, none⟩ = some (.int .i64 (k.count : Int)) ∧ w5.cell? ⟨bn, 2, none⟩ = some (.int .i64 num) ∧ w5.cell? ⟨bn, 3, none⟩ = some (.string ⟨text.toArray⟩) from by
     have h4 := heldC (F := fun _ => False) (Only.of_below hb4) (show w3.drew.heap[bn]? = _ from hX3) (fun e => e);have h5 := heldC ho6 h4 (notC h4 (by decide));exact ⟨cellC h5 0, cellC h5 1, cellC h5 2, cellC h5 3⟩)
   clear kP ho3 hX3 n0 n1' n2' n3';go_wp2_with fail
   have kQ := Lib.hid (fun (W : World) (hb4 : Below w3.drew.heap.size w3.drew W) => put_any ((hM3.out.below (Below.refl _ w3).drew).below hb4) (loneI ⟨op, (k.count : Int), num, text⟩) (by simp only [List.length_append]; omega));go_region_held3 (fun w' => w'.cell? ⟨bn, 0, none⟩ = some (.int .u8 op) ∧ w'.cell? ⟨bn, 1, none⟩ = some (.int .i64 (k.count : Int)) ∧ w'.cell? ⟨bn, 2, none⟩ = some (.int .i64 num) ∧ w'.cell? ⟨bn, 3, none⟩ = some (.string ⟨text.toArray⟩))
     (first
       | exact ⟨m0, m1, m2, m3⟩
       | exact hold
       | exact hold2)
     ((first
       | (go_at_call 26; refine kL.out.mono ?_; rintro e w4 ⟨rfl, hb4⟩; have hold : w4.cell? ⟨bn, 0, none⟩ = some (.int .u8 op) ∧ w4.cell? ⟨bn, 1, none⟩ = some (.int .i64 (k.count : Int)) ∧ w4.cell? ⟨bn, 2, none⟩ = some (.int .i64 num) ∧ w4.cell? ⟨bn, 3, none⟩ = some (.string ⟨text.toArray⟩) := ⟨Below.keeps hb4 m0, Below.keeps hb4 m1, Below.keeps hb4 m2, Below.keeps hb4 m3⟩)
       | (go_at_call 21; refine (kQ.out w4 hb4).mono ?_; rintro e w5 ⟨rfl, hM5, ho6⟩; have hold2 : w5.cell? ⟨bn, 0, none⟩ = some (.int .u8 op) ∧ w5.cell? ⟨bn, 1, none⟩ = some (.int .i64 (k.count : Int)) ∧ w5.cell? ⟨bn, 2, none⟩ = some (.int .i64 num) ∧ w5.cell? ⟨bn, 3, none⟩ = some (.string ⟨text.toArray⟩) := (hkk.out w4 w5 hb4 ho6))))
   have ho5 : Only (Fcm w0.heap.size w) w w4 := ho4.out.trans (K := Fcm w0.heap.size w) (Only.of_below (F := fun _ => False) ((Below.refl _ w3).drew.trans hb4)) (fun _ _ h => h) (fun _ _ h => h.elim);have ho7 := Lib.hid (cm_then ho5 ho6);replace hM5 := Lib.hid hM5;clear kQ ho6 ho5 hold hold2 hkk kL hb4;go_wp2_with fail
   refine bodyPost_end (results_none rfl _ _ _) rfl ?_;refine ⟨rfl, c ++ [loneI ⟨op, (k.count : Int), num, text⟩], .lone hx.out hg1.out, ?_, ho7.out⟩;rw [← List.append_assoc];exact hM5.out
 | flow hx =>
   dsimp only at hx;have q1 : ((op : Int) == 1) = true := by rw [hx]; rfl
   have hk' : kids = (k.count : Int) := hkn.out;subst hk';have kP := Lib.hid (parts_any hK.out hM2.out (by omega));replace hx := Lib.hid hx;clear hM2 hK hkn hsh hfitx hO hsf;go_wp2_with fail
   refine kP.out.mono ?_;rintro e w3 ⟨rfl, c, hg1, hM3, ho3⟩;have hl1 := gens_len hg1;have kQ := Lib.hid (op_any hM3 28 (by simp only [List.length_append]; omega));have ho4 := Lib.hid (cm_then ho2.out ho3);replace hg1 := Lib.hid hg1;clear kP hM3 ho3;go_wp2_with fail
   refine kQ.out.mono ?_;rintro e w4 ⟨rfl, hM4, ho5⟩;have ho6 := Lib.hid (cm_then ho4.out ho5);replace hM4 := Lib.hid hM4;clear kQ ho5;go_wp2_with fail
   refine bodyPost_end (results_none rfl _ _ _) rfl ?_;refine ⟨rfl, c ++ [mkI 28 0], .flow hx.out hg1.out, ?_, ho6.out⟩;rw [← List.append_assoc];exact hM4.out
 | block hx =>
   dsimp only at hx;rcases hx with hx | hx
   · have q1 : ((op : Int) == 1) = false := beq_eq_false_iff_ne.2 (by omega)
     have q2 : ((op : Int) == 2) = true := by rw [hx]; rfl
     have hk' : kids = (k.count : Int) := hkn.out;subst hk';have kP := Lib.hid (parts_any hK.out hM2.out (by omega));replace hx := Lib.hid hx;clear hM2 hK hkn hsh hfitx hO hsf;go_wp2_with fail
     refine kP.out.mono ?_;rintro e w3 ⟨rfl, c, hg1, hM3, ho3⟩;have ho4 := Lib.hid (cm_then ho2.out ho3);replace hg1 := Lib.hid hg1;replace hM3 := Lib.hid hM3;clear kP ho3;go_wp2_with fail
     refine bodyPost_end (results_none rfl _ _ _) rfl ?_;exact ⟨rfl, c, .block (by have := hx.out; show op = 2 ∨ op = 3; omega) hg1.out, hM3.out, ho4.out⟩
   · have q1 : ((op : Int) == 1) = false := beq_eq_false_iff_ne.2 (by omega)
     have q2 : ((op : Int) == 2) = false := beq_eq_false_iff_ne.2 (by omega);have q3 : ((op : Int) == 3) = true := by rw [hx]; rfl
     have hk' : kids = (k.count : Int) := hkn.out;subst hk';have kP := Lib.hid (parts_any hK.out hM2.out (by omega));replace hx := Lib.hid hx;clear hM2 hK hkn hsh hfitx hO hsf;go_wp2_with fail
     refine kP.out.mono ?_;rintro e w3 ⟨rfl, c, hg1, hM3, ho3⟩;have ho4 := Lib.hid (cm_then ho2.out ho3);replace hg1 := Lib.hid hg1;replace hM3 := Lib.hid hM3;clear kP ho3;go_wp2_with fail
     refine bodyPost_end (results_none rfl _ _ _) rfl ?_;exact ⟨rfl, c, .block (by have := hx.out; show op = 2 ∨ op = 3; omega) hg1.out, hM3.out, ho4.out⟩
 | store hx =>
   dsimp only at hx;rcases hx with hx | hx
   · have q1 : ((op : Int) == 1) = false := beq_eq_false_iff_ne.2 (by omega)
     have q2 : ((op : Int) == 2) = false := beq_eq_false_iff_ne.2 (by omega);have q3 : ((op : Int) == 3) = false := beq_eq_false_iff_ne.2 (by omega);have q4 : ((op : Int) == 4) = true := by rw [hx]; rfl
     have kP := Lib.hid (hK.out.1 W2 rest code (by have := hM2.out; simpa [Fs.flat] using this) (by have := hk; simp only [Fs.flat, List.length_cons, List.append_nil] at this; omega));obtain ⟨s1, s2, s3⟩ := hsf.out;dsimp only at s3;have s0 := s3 (by omega);replace hx := Lib.hid hx;clear hM2 hK hkn hsh hfitx hO hsf s3 s1;go_wp2_with fail
     refine kP.out.mono ?_;rintro e w3 ⟨rfl, c, hg1, hM3, ho3⟩;have hl1 := gens_len hg1;rw [flat_one, List.length_cons] at hl1;simp only [Fs.flat, List.length_cons, List.append_nil] at hk;have kQ := Lib.hid (put_any hM3 (mkI 27 s) (by simp only [List.length_append]; omega));unfold insV mkI at kQ;dsimp only at kQ;have ho4 := Lib.hid (cm_then ho2.out ho3);replace hg1 := Lib.hid hg1;clear kP hM3 ho3;go_wp2_with fail
     refine kQ.out.mono ?_;rintro e w4 ⟨rfl, hM4, ho5⟩;have ho6 := Lib.hid (cm_then ho4.out ho5);replace hM4 := Lib.hid hM4;clear kQ ho5;go_wp2_with fail
     refine bodyPost_end (results_none rfl _ _ _) rfl ?_;refine ⟨rfl, c ++ [mkI 27 s], .store (by have := hx.out; dsimp only; omega) s0 s2 hg1.out, ?_, ho6.out⟩;rw [← List.append_assoc];exact hM4.out
   · have q1 : ((op : Int) == 1) = false := beq_eq_false_iff_ne.2 (by omega)
     have q2 : ((op : Int) == 2) = false := beq_eq_false_iff_ne.2 (by omega);have q3 : ((op : Int) == 3) = false := beq_eq_false_iff_ne.2 (by omega);have q4 : ((op : Int) == 4) = false := beq_eq_false_iff_ne.2 (by omega);have q5 : ((op : Int) == 5) = true := by rw [hx]; rfl
     have kP := Lib.hid (hK.out.1 W2 rest code (by have := hM2.out; simpa [Fs.flat] using this) (by have := hk; simp only [Fs.flat, List.length_cons, List.append_nil] at this; omega));obtain ⟨s1, s2, s3⟩ := hsf.out;dsimp only at s3;have s0 := s3 (by omega);replace hx := Lib.hid hx;clear hM2 hK hkn hsh hfitx hO hsf s3 s1;go_wp2_with fail
     refine kP.out.mono ?_;rintro e w3 ⟨rfl, c, hg1, hM3, ho3⟩;have hl1 := gens_len hg1;rw [flat_one, List.length_cons] at hl1;simp only [Fs.flat, List.length_cons, List.append_nil] at hk;have kQ := Lib.hid (put_any hM3 (mkI 27 s) (by simp only [List.length_append]; omega));unfold insV mkI at kQ;dsimp only at kQ;have ho4 := Lib.hid (cm_then ho2.out ho3);replace hg1 := Lib.hid hg1;clear kP hM3 ho3;go_wp2_with fail
     refine kQ.out.mono ?_;rintro e w4 ⟨rfl, hM4, ho5⟩;have ho6 := Lib.hid (cm_then ho4.out ho5);replace hM4 := Lib.hid hM4;clear kQ ho5;go_wp2_with fail
     refine bodyPost_end (results_none rfl _ _ _) rfl ?_;refine ⟨rfl, c ++ [mkI 27 s], .store (by have := hx.out; dsimp only; omega) s0 s2 hg1.out, ?_, ho6.out⟩;rw [← List.append_assoc];exact hM4.out
 | load hx =>
   dsimp only at hx;have q1 : ((op : Int) == 1) = false := beq_eq_false_iff_ne.2 (by omega);have q2 : ((op : Int) == 2) = false := beq_eq_false_iff_ne.2 (by omega);have q3 : ((op : Int) == 3) = false := beq_eq_false_iff_ne.2 (by omega);have q4 : ((op : Int) == 4) = false := beq_eq_false_iff_ne.2 (by omega);have q5 : ((op : Int) == 5) = false := beq_eq_false_iff_ne.2 (by omega);have q26 : ((op : Int) == 26) = true := by rw [hx]; rfl
   obtain ⟨s1, s2, s3⟩ := hsf.out;dsimp only at s3;have s0 := s3 (by omega);have kQ := Lib.hid (put_any hM2.out (mkI 26 s) (by omega));unfold insV mkI at kQ;dsimp only at kQ;replace hx := Lib.hid hx;clear hM2 hK hkn hsh hfitx hO hsf s3 s1;go_wp2_with fail
   refine kQ.out.mono ?_;rintro e w4 ⟨rfl, hM4, ho5⟩;have ho6 := Lib.hid (cm_then ho2.out ho5);replace hM4 := Lib.hid hM4;clear kQ ho5;go_wp2_with fail
   refine bodyPost_end (results_none rfl _ _ _) rfl ?_;exact ⟨rfl, [mkI 26 s], .load hx.out s0 s2, hM4.out, ho6.out⟩
 | if2 hx hq =>
   dsimp only at hx;have q1 : ((op : Int) == 1) = false := beq_eq_false_iff_ne.2 (by omega);have q2 : ((op : Int) == 2) = false := beq_eq_false_iff_ne.2 (by omega);have q3 : ((op : Int) == 3) = false := beq_eq_false_iff_ne.2 (by omega);have q4 : ((op : Int) == 4) = false := beq_eq_false_iff_ne.2 (by omega);have q5 : ((op : Int) == 5) = false := beq_eq_false_iff_ne.2 (by omega);have q26 : ((op : Int) == 26) = false := beq_eq_false_iff_ne.2 (by omega);have q6 : ((op : Int) == 6) = true := by rw [hx]; rfl
   dsimp only at hq;subst hq;have kQ := Lib.hid (choice2_any (x := ⟨op, 2, num, text⟩) hx hK.out.1 hK.out.2.1 (rest := rest) (code := code) (w := W2) (by have := hM2.out; simpa [Fs.flat] using this) (by have := hk; simp only [Fs.flat, List.length_cons, List.length_append, List.append_nil] at this; omega));replace hx := Lib.hid hx;clear hM2 hK hkn hsh hfitx hO hsf;go_wp2_with fail
   refine kQ.out.mono ?_;rintro e w4 ⟨rfl, c, hg1, hM4, ho5⟩;have ho6 := Lib.hid (cm_then ho2.out ho5);replace hM4 := Lib.hid hM4;replace hg1 := Lib.hid hg1;clear kQ ho5;go_wp2_with fail
   refine bodyPost_end (results_none rfl _ _ _) rfl ?_;exact ⟨rfl, c, hg1.out, hM4.out, ho6.out⟩
 | if3 hx hq =>
   dsimp only at hx;have q1 : ((op : Int) == 1) = false := beq_eq_false_iff_ne.2 (by omega);have q2 : ((op : Int) == 2) = false := beq_eq_false_iff_ne.2 (by omega);have q3 : ((op : Int) == 3) = false := beq_eq_false_iff_ne.2 (by omega);have q4 : ((op : Int) == 4) = false := beq_eq_false_iff_ne.2 (by omega);have q5 : ((op : Int) == 5) = false := beq_eq_false_iff_ne.2 (by omega);have q26 : ((op : Int) == 26) = false := beq_eq_false_iff_ne.2 (by omega);have q6 : ((op : Int) == 6) = true := by rw [hx]; rfl
   dsimp only at hq;subst hq;have kQ := Lib.hid (choice3_any (x := ⟨op, 3, num, text⟩) hx hK.out.1 hK.out.2.1 hK.out.2.2.1 (rest := rest) (code := code) (w := W2) (by have := hM2.out; simpa [Fs.flat] using this) (by have := hk; simp only [Fs.flat, List.length_cons, List.length_append, List.append_nil] at this; omega));replace hx := Lib.hid hx;clear hM2 hK hkn hsh hfitx hO hsf;go_wp2_with fail
   refine kQ.out.mono ?_;rintro e w4 ⟨rfl, c, hg1, hM4, ho5⟩;have ho6 := Lib.hid (cm_then ho2.out ho5);replace hM4 := Lib.hid hM4;replace hg1 := Lib.hid hg1;clear kQ ho5;go_wp2_with fail
   refine bodyPost_end (results_none rfl _ _ _) rfl ?_;exact ⟨rfl, c, hg1.out, hM4.out, ho6.out⟩
 | loop hx =>
   dsimp only at hx;have q1 : ((op : Int) == 1) = false := beq_eq_false_iff_ne.2 (by omega);have q2 : ((op : Int) == 2) = false := beq_eq_false_iff_ne.2 (by omega);have q3 : ((op : Int) == 3) = false := beq_eq_false_iff_ne.2 (by omega);have q4 : ((op : Int) == 4) = false := beq_eq_false_iff_ne.2 (by omega);have q5 : ((op : Int) == 5) = false := beq_eq_false_iff_ne.2 (by omega);have q26 : ((op : Int) == 26) = false := beq_eq_false_iff_ne.2 (by omega);have q6 : ((op : Int) == 6) = false := beq_eq_false_iff_ne.2 (by omega);have q7 : ((op : Int) == 7) = true := by rw [hx]; rfl
   have kQ := Lib.hid (loop_any (x := ⟨op, kids, num, text⟩) hx hK.out.1 hK.out.2.1 (rest := rest) (code := code) (w := W2) (by have := hM2.out; simpa [Fs.flat] using this) (by have := hk; simp only [Fs.flat, List.length_cons, List.length_append, List.append_nil] at this; omega));replace hx := Lib.hid hx;clear hM2 hK hkn hsh hfitx hO hsf;go_wp2_with fail
   refine kQ.out.mono ?_;rintro e w4 ⟨rfl, c, hg1, hM4, ho5⟩;have ho6 := Lib.hid (cm_then ho2.out ho5);replace hM4 := Lib.hid hM4;replace hg1 := Lib.hid hg1;clear kQ ho5;go_wp2_with fail
   refine bodyPost_end (results_none rfl _ _ _) rfl ?_;exact ⟨rfl, c, hg1.out, hM4.out, ho6.out⟩
 | either hx =>
   dsimp only at hx;rcases hx with hx | hx
   · have q1 : ((op : Int) == 1) = false := beq_eq_false_iff_ne.2 (by omega)
     have q2 : ((op : Int) == 2) = false := beq_eq_false_iff_ne.2 (by omega);have q3 : ((op : Int) == 3) = false := beq_eq_false_iff_ne.2 (by omega);have q4 : ((op : Int) == 4) = false := beq_eq_false_iff_ne.2 (by omega);have q5 : ((op : Int) == 5) = false := beq_eq_false_iff_ne.2 (by omega);have q26 : ((op : Int) == 26) = false := beq_eq_false_iff_ne.2 (by omega);have q6 : ((op : Int) == 6) = false := beq_eq_false_iff_ne.2 (by omega);have q7 : ((op : Int) == 7) = false := beq_eq_false_iff_ne.2 (by omega);have q30 : ((op : Int) == 30) = true := by rw [hx]; rfl
     have kQ := Lib.hid (either_any (op := 3) (x := ⟨op, kids, num, text⟩) (by dsimp only; omega) hK.out.1 hK.out.2.1 (rest := rest) (code := code) (w := W2) (by have := hM2.out; simpa [Fs.flat] using this) (by have := hk; simp only [Fs.flat, List.length_cons, List.length_append, List.append_nil] at this; omega) (by dsimp only; omega));replace hx := Lib.hid hx;clear hM2 hK hkn hsh hfitx hO hsf;go_wp2_with fail
     refine kQ.out.mono ?_;rintro e w4 ⟨rfl, c, hg1, hM4, ho5⟩;have ho6 := Lib.hid (cm_then ho2.out ho5);replace hM4 := Lib.hid hM4;replace hg1 := Lib.hid hg1;clear kQ ho5;go_wp2_with fail
     refine bodyPost_end (results_none rfl _ _ _) rfl ?_;exact ⟨rfl, c, hg1.out, hM4.out, ho6.out⟩
   · have q1 : ((op : Int) == 1) = false := beq_eq_false_iff_ne.2 (by omega)
     have q2 : ((op : Int) == 2) = false := beq_eq_false_iff_ne.2 (by omega);have q3 : ((op : Int) == 3) = false := beq_eq_false_iff_ne.2 (by omega);have q4 : ((op : Int) == 4) = false := beq_eq_false_iff_ne.2 (by omega);have q5 : ((op : Int) == 5) = false := beq_eq_false_iff_ne.2 (by omega);have q26 : ((op : Int) == 26) = false := beq_eq_false_iff_ne.2 (by omega);have q6 : ((op : Int) == 6) = false := beq_eq_false_iff_ne.2 (by omega);have q7 : ((op : Int) == 7) = false := beq_eq_false_iff_ne.2 (by omega);have q30 : ((op : Int) == 30) = false := beq_eq_false_iff_ne.2 (by omega);have q31 : ((op : Int) == 31) = true := by rw [hx]; rfl
     have kQ := Lib.hid (either_any (op := 4) (x := ⟨op, kids, num, text⟩) (by dsimp only; omega) hK.out.1 hK.out.2.1 (rest := rest) (code := code) (w := W2) (by have := hM2.out; simpa [Fs.flat] using this) (by have := hk; simp only [Fs.flat, List.length_cons, List.length_append, List.append_nil] at this; omega) (by dsimp only; omega));replace hx := Lib.hid hx;clear hM2 hK hkn hsh hfitx hO hsf;go_wp2_with fail
     refine kQ.out.mono ?_;rintro e w4 ⟨rfl, c, hg1, hM4, ho5⟩;have ho6 := Lib.hid (cm_then ho2.out ho5);replace hM4 := Lib.hid hM4;replace hg1 := Lib.hid hg1;clear kQ ho5;go_wp2_with fail
     refine bodyPost_end (results_none rfl _ _ _) rfl ?_;exact ⟨rfl, c, hg1.out, hM4.out, ho6.out⟩
 | fork hx =>
   dsimp only at hx;have q1 : ((op : Int) == 1) = false := beq_eq_false_iff_ne.2 (by omega);have q2 : ((op : Int) == 2) = false := beq_eq_false_iff_ne.2 (by omega);have q3 : ((op : Int) == 3) = false := beq_eq_false_iff_ne.2 (by omega);have q4 : ((op : Int) == 4) = false := beq_eq_false_iff_ne.2 (by omega);have q5 : ((op : Int) == 5) = false := beq_eq_false_iff_ne.2 (by omega);have q26 : ((op : Int) == 26) = false := beq_eq_false_iff_ne.2 (by omega);have q6 : ((op : Int) == 6) = false := beq_eq_false_iff_ne.2 (by omega);have q7 : ((op : Int) == 7) = false := beq_eq_false_iff_ne.2 (by omega);have q30 : ((op : Int) == 30) = false := beq_eq_false_iff_ne.2 (by omega);have q31 : ((op : Int) == 31) = false := beq_eq_false_iff_ne.2 (by omega);have q53 : ((op : Int) == 53) = true := by rw [hx]; rfl
   have kQ := Lib.hid (fork_any (x := ⟨op, kids, num, text⟩) hx hK.out.1 (rest := rest) (code := code) (w := W2) (by have := hM2.out; simpa [Fs.flat] using this) (by have := hk; simp only [Fs.flat, List.length_cons, List.append_nil] at this; omega));replace hx := Lib.hid hx;clear hM2 hK hkn hsh hfitx hO hsf;go_wp2_with fail
   refine kQ.out.mono ?_;rintro e w4 ⟨rfl, c, hg1, hM4, ho5⟩;have ho6 := Lib.hid (cm_then ho2.out ho5);replace hM4 := Lib.hid hM4;replace hg1 := Lib.hid hg1;clear kQ ho5;go_wp2_with fail
   refine bodyPost_end (results_none rfl _ _ _) rfl ?_;exact ⟨rfl, c, hg1.out, hM4.out, ho6.out⟩
end Go.Proofs.YtefijbpbenmbgaaDoor
namespace Go.Proofs.YtefijbpbenmbgaaDoor
open Go.RowKit Go.Shelf
def makesB (x : Tw) : Bool := x.op == 2 || x.op == 4
def usesB (x : Tw) : Bool := x.op == 5 || x.op == 26
def namesL (l : List Tw) : List (List UInt8) := (l.filter makesB).map (·.text)
theorem namesL_app (a b : List Tw) : namesL (a ++ b) = namesL a ++ namesL b := by simp [namesL]
theorem namesL_one (x : Tw) : namesL [x] = if makesB x then [x.text] else [] := by
 unfold namesL;cases h : makesB x <;> simp [h]
def BoundAt (ns : List (List UInt8)) (x : Tw) (s : Int) : Prop :=
 if makesB x then s = (ns.length : Int) ∧ ns.length < 100 else if usesB x then ∃ k : Nat, s = (k : Int) ∧ ns[k]? = some x.text else s = -1
structure BInv (pre : List Tw) (st : CSt) : Prop where
 len : st.l.length = pre.length
 made : st.made = (namesL pre).length
 few : st.made ≤ 100
 seen : ∀ p ∈ st.seen, (namesL pre)[p.2]? = some p.1
 bound : ∀ (i : Nat) (x : Tw) (s : Int), pre[i]? = some x → st.l[i]? = some s → BoundAt (namesL (pre.take i)) x s
theorem slot_bound {pre : List Tw} {st : CSt} {x : Tw} (h : BInv pre st) (hE : ¬ (slotC st x).2.2 ≠ 0) : BInv (pre ++ [x]) ⟨st.l ++ [(slotC st x).1], st.seen, (slotC st x).2.1⟩ ∧ (makesB x = true → (slotC st x).1 = ((namesL pre).length : Int)) := by
 have key : BoundAt (namesL pre) x (slotC st x).1 ∧ (slotC st x).2.1 = (namesL (pre ++ [x])).length ∧ (slotC st x).2.1 ≤ 100 ∧ (makesB x = true → (slotC st x).1 = ((namesL pre).length : Int)) := by
   rw [namesL_app, namesL_one];unfold BoundAt;unfold slotC at hE ⊢;by_cases c : x.op = 2 ∨ x.op = 4
   · have hm : makesB x = true := by unfold makesB; rcases c with c | c <;> simp [c]
     rw [if_pos c] at hE ⊢;rw [if_pos hm, hm];simp only [↓reduceIte];cases hF : (findL st.seen x.text).isSome with
     | true => rw [hF] at hE; exact absurd (by simp) hE
     | false =>
       rw [hF] at hE;simp only [Bool.false_eq_true, ↓reduceIte] at hE ⊢;by_cases c2 : st.made = 100
       · rw [if_pos c2] at hE; exact absurd (by simp) hE
       · rw [if_neg c2]
         have h1 := h.made;have h2 := h.few;refine ⟨⟨by show (st.made : Int) = _; rw [h1], by omega⟩, ?_, by show st.made + 1 ≤ 100; omega, fun _ => by show (st.made : Int) = _; rw [h1]⟩;show st.made + 1 = _
         rw [List.length_append, List.length_singleton, h1]
   · have hm : makesB x = false := by unfold makesB; simp only [Bool.or_eq_false_iff, beq_eq_false_iff_ne]; omega
     rw [if_neg c] at hE ⊢;rw [hm];simp only [Bool.false_eq_true, ↓reduceIte];by_cases c2 : x.op = 5 ∨ x.op = 26
     · have hu : usesB x = true := by unfold usesB; rcases c2 with c2 | c2 <;> simp [c2]
       rw [if_pos c2] at hE ⊢;rw [hu];simp only [↓reduceIte];cases hF : findL st.seen x.text with
       | none => rw [hF] at hE; exact absurd (by simp) hE
       | some v =>
         refine ⟨⟨v, rfl, h.seen _ (findL_mem hF)⟩, ?_, h.few, fun e => by cases e⟩;show st.made = _
         rw [List.append_nil, h.made]
     · have hu : usesB x = false := by unfold usesB; simp only [Bool.or_eq_false_iff, beq_eq_false_iff_ne]; omega
       rw [if_neg c2, hu];simp only [Bool.false_eq_true, ↓reduceIte];refine ⟨trivial, ?_, h.few, fun e => by cases e⟩;rw [List.append_nil, h.made]
 obtain ⟨k1, k2, k3, k4⟩ := key;refine ⟨⟨?_, k2, k3, ?_, ?_⟩, k4⟩
 · show (st.l ++ [_]).length = _
   rw [List.length_append, List.length_append, h.len];rfl
 · intro p hp
   rw [namesL_app];have := h.seen p hp;rw [List.getElem?_append_left (by exact (List.getElem?_eq_some_iff.1 this).1)];exact this
 · intro i y s hy hs
   have hs' : (st.l ++ [(slotC st x).1])[i]? = some s := hs;rcases Nat.lt_or_ge i pre.length with hi | hi
   · rw [List.getElem?_append_left hi] at hy
     rw [List.getElem?_append_left (by rw [h.len]; exact hi)] at hs';rw [List.take_append_of_le_length (by omega)];exact h.bound i y s hy hs'
   · have hi2 : i = pre.length := by
       have := (List.getElem?_eq_some_iff.1 hy).1;rw [List.length_append, List.length_singleton] at this;omega
     subst hi2;rw [List.getElem?_append_right (Nat.le_refl _), Nat.sub_self] at hy;rw [List.getElem?_append_right (by rw [h.len]; exact Nat.le_refl _), h.len, Nat.sub_self] at hs';simp at hy hs'
     subst hy hs';rw [List.take_left];exact k1
theorem BInv.end {pre : List Tw} {st : CSt} (h : BInv pre st) (x : Tw) (s : Int) (n : Nat) (hx : makesB x = true → (namesL pre)[s.toNat]? = some x.text) : BInv pre (endC x s n st) := by
 unfold endC;split
 · rename_i c
   have hm : makesB x = true := by unfold makesB; rcases c with c | c <;> simp [c]
   refine ⟨h.len, h.made, h.few, fun p hp => ?_, h.bound⟩;rcases List.mem_append.1 (show p ∈ st.seen ++ [(x.text, s.toNat)] from hp) with hp | hp
   · exact h.seen p hp
   · simp at hp
     subst hp;exact hx hm
 · split
   · exact ⟨h.len, h.made, h.few, fun p hp => h.seen p (List.mem_of_mem_take hp), h.bound⟩
   · exact h
theorem trees_bound : ∀ (F : Fs) (pre : List Tw) (st : CSt), BInv pre st → (treesC F st).2 = 0 → BInv (pre ++ F.flat) (treesC F st).1
 | .nil, pre, st, h, _ => by rw [show Fs.nil.flat = [] from rfl, List.append_nil]; exact h
 | .cons x k r, pre, st, h, he => by
   unfold treesC at he ⊢;by_cases h1 : (slotC st x).2.2 ≠ 0
   · rw [if_pos h1] at he; exact absurd he h1
   · rw [if_neg h1] at he ⊢
     obtain ⟨b1, b2⟩ := slot_bound h h1;have ih := trees_bound k (pre ++ [x]) _ b1;generalize treesC k ⟨st.l ++ [(slotC st x).1], st.seen, (slotC st x).2.1⟩ = R at *;by_cases h2 : R.2 ≠ 0
     · rw [if_pos h2] at he; exact absurd he h2
     · rw [if_neg h2] at he ⊢
       have i1 := ih (by omega);have i2 : BInv (pre ++ [x] ++ k.flat) (endC x (slotC st x).1 st.seen.length R.1) := by
         refine i1.end _ _ _ (fun hm => ?_);rw [b2 hm, Int.toNat_natCast, namesL_app, namesL_app, namesL_one, if_pos hm];rw [List.append_assoc, List.getElem?_append_right (Nat.le_refl _), Nat.sub_self];rfl
       have := trees_bound r _ _ i2 he;rw [show (Fs.cons x k r).flat = x :: (k.flat ++ r.flat) from rfl];rw [show pre ++ x :: (k.flat ++ r.flat) = pre ++ [x] ++ k.flat ++ r.flat by simp];exact this
end Go.Proofs.YtefijbpbenmbgaaDoor
namespace Go.Proofs.YtefijbpbenmbgaaDoor
open Go.RowKit Go.Shelf
set_option maxRecDepth 20000 in
theorem Check_any {v : Value} {ts : List Tw} (w : World) (hT : TwIn w v ts) (hf : ∀ x ∈ ts, FitT x) :
   Calls Tryd.prog 17 #[v] w fun e w' => e = .returned (.tuple #[.int .i64 (lookF ts).1, .int .i64 (lookF ts).2.2]) ∧ Below w.heap.size w w' := by
 obtain ⟨Z, hZ⟩ := exHid (lookF ts);have hl : ∀ W b, TwIn W v ts → KMap W b tabL → Calls Tryd.prog 32 #[.map (some b), v] W fun e w' => e = .returned (.tuple #[.int .i64 Z.1, .int .i64 Z.2.1, .int .i64 Z.2.2]) ∧ Below W.heap.size W w' := fun W b h1 h2 => by rw [← hZ.out]; exact look_any W h1 hf h2
 rw [hZ.out];replace hl := Lib.hid hl;replace hf := Lib.hid hf;have hTT := Lib.hid hT;obtain ⟨a, cap, rfl, _, _, _⟩ := hT;go_enter Tryd.func17, Tryd.ntmps17
 go_wp2_with fail
 refine (table_any w).mono ?_;rintro e w1 ⟨b, rfl, hK, hb⟩;go_wp2_with fail
 refine (hl.out w1 b (hTT.out.below hb) hK).mono ?_;rintro e w2 ⟨rfl, hb2⟩;have hb3 : Below w.heap.size w w2 := hb.trans (hb2.mono hb.size);go_wp2_with fail
 go_ret2
 exact ⟨rfl, hb3⟩
end Go.Proofs.YtefijbpbenmbgaaDoor
