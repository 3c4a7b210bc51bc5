/- A part of the proof: SdE, SdF0. No condition. -/
import Derived.Deep.RegionHeld3
import Derived.Test.YtjiemkidmlgbeaaDoorQ13
set_option linter.unusedVariables false
set_option linter.unusedSimpArgs false
namespace Go.Proofs.YtjiemkidmlgbeaaDoor
open Go.RowKit Go.Shelf
def KidsIn (W : World) (kv : Value) (os : List Nat) : Prop := ∃ a c, kv = .slice a os.length c ∧ ∀ j (h : j < os.length), ∃ g off, a = some ⟨g, off, none⟩ ∧ g < W.heap.size ∧ W.cell? ⟨g, off + j, none⟩ = some (.int .i64 (os[j] : Nat))
theorem KidsIn.below {W W' : World} {kv : Value} {os : List Nat} (h : KidsIn W kv os) (hb : Below W.heap.size W W') : KidsIn W' kv os := by
 obtain ⟨a, c, e, h⟩ := h;refine ⟨a, c, e, fun j hj => ?_⟩;obtain ⟨g, off, e1, h1, h2⟩ := h j hj;exact ⟨g, off, e1, Nat.lt_of_lt_of_le h1 hb.size, (hb.cell (p := ⟨g, off + j, none⟩) h1).trans h2⟩
def Posd (ts : List Tw) : Fs → List Nat → Prop
 | .nil, [] => True
 | .cons x k r, o :: os => (∃ rest, ts.drop o = x :: (k.flat ++ rest)) ∧ Posd ts r os
 | _, _ => False
theorem Posd.len {ts : List Tw} : ∀ {F : Fs} {os : List Nat}, Posd ts F os → os.length = F.count
 | .nil, [], _ => rfl
 | .cons _ _ r, _ :: os, ⟨_, h⟩ => by
   show os.length + 1 = r.count + 1
   rw [h.len]
 | .nil, _ :: _, h => h.elim
 | .cons _ _ _, [], h => h.elim
theorem posd_offs {ts : List Tw} : ∀ (F : Fs) (i : Nat) (rest : List Tw), ts.drop i = F.flat ++ rest → Posd ts F (offsF F i)
 | .nil, _, _, _ => trivial
 | .cons x k r, i, rest, h => by
   have h' : ts.drop i = x :: (k.flat ++ (r.flat ++ rest)) := by
     rw [h];show (x :: (k.flat ++ r.flat)) ++ rest = _
     simp
   refine ⟨⟨_, h'⟩, posd_offs r _ rest ?_⟩;have : ts.drop (i + 1 + k.flat.length) = (ts.drop (i + 1)).drop k.flat.length := (List.drop_drop ..).symm;rw [this];have h2 : ts.drop (i + 1) = k.flat ++ (r.flat ++ rest) := by
     rw [← List.drop_drop, h'];rfl
   rw [h2, List.drop_left]
def SayF (w0 : World) (tv : Value) (ts : List Tw) (f : Nat) (args : List Value) : Fs → Prop
 | .nil => True
 | .cons x k r => (SayD w0 tv ts f args x k (bareS x k) ∧ bareS x k ≠ [] ∧ (bareS x k).length ≤ 1000000) ∧ SayF w0 tv ts f args r
section
variable {w0 : World} {tv : Value} {ts : List Tw}
set_option maxRecDepth 20000 in
set_option maxHeartbeats 2000000 in
theorem listD_any {W : World} (hb : Below w0.heap.size w0 W) {F : Fs} {os : List Nat} {kv : Value} (hF : SayF w0 tv ts 36 [.int .i64 1] F) (hP : Posd ts F os) (hK : KidsIn W kv os) (hn : F.count ≤ 5000) (hLn : (commaS 0 F).length ≤ 1000000) (o e : List UInt8) :
   Calls Tryd.prog 85 #[tv, kv, .string ⟨o.toArray⟩, .string ⟨e.toArray⟩] W fun e' w' => ∃ v', e' = .returned v' ∧ TgsAt w' W.heap.size v' (signTg o :: (commaS 0 F ++ [signTg e])) ∧ Below W.heap.size W w' := by
 obtain ⟨n, hnn⟩ : ∃ n, n = os.length := ⟨_, rfl⟩;have hnF : n = F.count := by rw [hnn]; exact hP.len
 obtain ⟨ka, kc, rfl, hkc⟩ := id hK;have kO := Lib.hid (signE_any o.toArray W);have hn9 : n ≤ 5000 := by omega
 rw [← hnn] at hK ⊢;replace hK := Lib.hid hK;replace hF := Lib.hid hF;replace hP := Lib.hid hP;replace hkc := Lib.hid hkc;go_enter Tryd.func85, Tryd.ntmps85
 go_wp2_with fail
 with_reducible refine kO.out.mono ?_
 rintro e1 w1 ⟨rfl, hb1⟩;have hal := (Below.refl w1.heap.size w1).alloc (Nat.le_refl _) (.cells #[.int .u8 4, .string ⟨o.toArray⟩, .int .i64 0, .int .i64 0] 35);have hN := Lib.hid ((tgs_new w1 [signTg o] (cs := #[.int .u8 4, .string ⟨o.toArray⟩, .int .i64 0, .int .i64 0]) rfl (n := 1) rfl (q := w1.heap.size) rfl (by simp)).low (b := W.heap.size) hb1.size);have hb2 := Lib.hid (below_next hb1 hal);clear hb1 hal kO;go_wp2_with fail
 go_loopw [9, 10] (fun t9 t10 wr => ∃ (j : Nat) (G : Fs) (A : List Tg), Hid (j + G.count = n) ∧ t10 = .int .i64 j ∧ Hid (SayF w0 tv ts 36 [.int .i64 1] G) ∧ Hid (Posd ts G (os.drop j)) ∧ Hid (A ++ commaS j G = commaS 0 F) ∧ Hid (TgsAt wr W.heap.size t9 (signTg o :: A)) ∧ Hid (Below W.heap.size W wr)) (fun _ t10 _ => n - (intOf t10).toNat)
 case atStart => exact ⟨0, F, [], Lib.hid (by omega), rfl, hF, hP, Lib.hid rfl, hN, hb2⟩
 case round =>
   obtain ⟨j, G, A, hj, rfl, hG, hPG, hA, hT, hB⟩ := hrel;have hAl : A.length ≤ 1000000 := by
     have := congrArg List.length hA.out;rw [List.length_append] at this;omega
   cases G with
   | nil =>
     have hjn : j = n := hj.out;subst hjn;have hlti : ¬ ((j : Int) < (j : Int)) := by omega
     have hAA : A = commaS 0 F := by rw [← hA.out]; exact (List.append_nil A).symm
     have kE := Lib.hid (signE_any e.toArray wr);clear hj hA hG hPG;go_wp2_with fail
     with_reducible refine kE.out.mono ?_
     rintro e3 w3 ⟨rfl, hb3⟩;have hal := (Below.refl w3.heap.size w3).alloc (Nat.le_refl _) (.cells #[.int .u8 4, .string ⟨e.toArray⟩, .int .i64 0, .int .i64 0] 35);have hN3 := Lib.hid (tgs_new w3 [signTg e] (cs := #[.int .u8 4, .string ⟨e.toArray⟩, .int .i64 0, .int .i64 0]) rfl (n := 1) rfl (q := w3.heap.size) rfl (by simp));have hT3 := Lib.hid ((hT.out.below hb3).below hal);have hB3 := Lib.hid (below_next (below_next hB.out hb3) hal);have hsz := hB3.out.size;clear hb3 hal kE hT hB;go_wp2_with (at_builtin; (refine wpList_append_tgr rfl _ _ rfl rfl hT3.out rfl hN3.out (by simp) (by simp only [List.length_cons]; omega) (by simp only [List.length_singleton]; omega) hsz ?_; intro v5 w5 h5 hb5))
     go_ret
     refine ⟨_, rfl, ?_, hB3.out.trans hb5⟩;rw [hAA] at h5;exact h5
   | cons x k r =>
     have hcc : (Fs.cons x k r).count = r.count + 1 := rfl;have hjj : j + 1 + r.count = n := by have := hj.out; omega
     have hjl : j < os.length := by omega
     have hlti : (j : Int) < (n : Int) := by omega
     obtain ⟨⟨kx, hne, hxl⟩, hGr⟩ := hG.out;have hd : os.drop j = os[j] :: os.drop (j + 1) := List.drop_eq_getElem_cons hjl;have hP0 := hPG.out;rw [hd] at hP0;obtain ⟨⟨rest, hdr⟩, hPr⟩ := hP0;obtain ⟨g, off, ea, hg, hcell⟩ := hkc.out j hjl;subst ea;have hcl := (hB.out.cell (p := ⟨g, off + j, none⟩) hg).trans hcell;have hgr : g < wr.heap.size := Nat.lt_of_lt_of_le hg hB.out.size;have hA0 := hA.out;rw [show commaS j (.cons x k r) = (comma j).1 ++ bareS x k ++ commaS (j + 1) r from rfl] at hA0;have hbw : Below w0.heap.size w0 wr := hb.trans (hB.out.mono hb.size);generalize os[j] = p at *;replace hGr := Lib.hid hGr;replace hPr := Lib.hid hPr;replace hcell := Lib.hid hcell;clear hj hcc hPG hA hG hd;by_cases h0 : j = 0
     · have hgt : ¬ (0 : Int) < (j : Int) := by omega
       have ec : (comma j).1 = [] := by unfold comma; rw [if_pos h0]
       rw [ec, List.nil_append, ← List.append_assoc] at hA0;have kE := Lib.hid (kx wr p rest hbw hdr);replace hA0 := Lib.hid hA0;clear kx hdr h0 ec hbw;go_wp2_with fail
       with_reducible refine kE.out.mono ?_
       rintro e3 w3 ⟨v3, rfl, ht3, hb3⟩;have hT3 := Lib.hid (hT.out.below hb3);have hB3 := Lib.hid (below_next hB.out hb3);have hsz := hB3.out.size;replace ht3 := Lib.hid ht3;clear hb3 kE hT hB hcl hgr;go_wp2_with (at_builtin; (refine wpList_append_tgr rfl _ _ rfl rfl hT3.out rfl ht3.out hne (by simp only [List.length_cons]; omega) (by omega) hsz ?_; intro v5 w5 h5 hb5))
       have hB5 := Lib.hid (hB3.out.trans hb5);replace h5 := Lib.hid h5;clear hb5;go_wp2_with fail
       go_roundw
       case rel => exact ⟨j + 1, r, A ++ bareS x k, Lib.hid hjj, by go_num, hGr, hPr, hA0, h5, hB5⟩
       case measure => simp [intOf]; omega
     · have hgt : (0 : Int) < (j : Int) := by omega
       have ec : (comma j).1 = [signTg B.com] := by unfold comma; rw [if_neg h0]
       rw [ec] at hA0;have hA1 : (A ++ signTg B.com :: bareS x k) ++ commaS (j + 1) r = commaS 0 F := by
         rw [← hA0];simp
       replace hA1 := Lib.hid hA1;have kC := Lib.hid (signE_any #[44] wr);replace kx := Lib.hid kx;replace hdr := Lib.hid hdr;clear h0 ec hA0;go_wp2_with fail
       with_reducible refine kC.out.mono ?_
       rintro e2 w2 ⟨rfl, hb2'⟩;have hal := (Below.refl w2.heap.size w2).alloc (Nat.le_refl _) (.cells #[.int .u8 4, .string ⟨#[44]⟩, .int .i64 0, .int .i64 0] 35);have hN2 := Lib.hid (tgs_new w2 [signTg B.com] (cs := #[.int .u8 4, .string ⟨#[44]⟩, .int .i64 0, .int .i64 0]) rfl (n := 1) rfl (q := w2.heap.size) rfl (by decide));have hT2 := Lib.hid ((hT.out.below hb2').below hal);have hB2 := Lib.hid (below_next (below_next hB.out hb2') hal);have hsz := hB2.out.size;clear hb2' hal kC hT hB hbw hcl;go_wp2_with (at_builtin; (refine wpList_append_tgr rfl _ _ rfl rfl hT2.out rfl hN2.out (by decide) (by simp only [List.length_cons]; omega) (by decide) hsz ?_; intro v4 w4 h4 hb4; have hB4 := Lib.hid (hB2.out.trans hb4); have hcl4 : w4.cell? ⟨g, off + j, none⟩ = some (.int .i64 (p : Int)) := (hB4.out.cell (p := ⟨g, off + j, none⟩) hg).trans hcell.out; have hgr4 : g < w4.heap.size := Nat.lt_of_lt_of_le hg hB4.out.size; clear hb4))
       have hbw4 : Below w0.heap.size w0 w4 := hb.trans (hB4.out.mono hb.size);have kE := Lib.hid (kx.out w4 p rest hbw4 hdr.out);have h4' := Lib.hid h4;clear hbw4 h4 hT2 hN2
       with_reducible refine kE.out.mono ?_
       rintro e3 w3 ⟨v3, rfl, ht3, hb3⟩;have hT3 := Lib.hid (h4'.out.below hb3);have hB3 := Lib.hid (below_next hB4.out hb3);have hsz3 := hB3.out.size;replace ht3 := Lib.hid ht3;clear hb3 kE h4' hcl4 hgr4;go_wp2_with (at_builtin; (refine wpList_append_tgr rfl _ _ rfl rfl hT3.out rfl ht3.out hne (by simp only [List.length_append, List.length_cons, List.length_nil]; omega) (by omega) hsz3 ?_; intro v5 w5 h5 hb5))
       have hB5 := Lib.hid (hB3.out.trans hb5);have h5' : Hid (TgsAt w5 W.heap.size v5 (signTg o :: (A ++ signTg B.com :: bareS x k))) := Lib.hid (by
         have e5 : signTg o :: (A ++ signTg B.com :: bareS x k) = (signTg o :: A ++ [signTg B.com]) ++ bareS x k := by simp
         rw [e5];exact h5)
       clear hb5 h5;go_wp2_with fail
       go_roundw
       case rel => exact ⟨j + 1, r, A ++ signTg B.com :: bareS x k, Lib.hid hjj, by go_num, hGr, hPr, hA1, h5', hB5⟩
       case measure => simp [intOf]; omega
end
end Go.Proofs.YtjiemkidmlgbeaaDoor
namespace Go.Proofs.YtjiemkidmlgbeaaDoor
open Go.RowKit Go.Shelf
set_option maxRecDepth 20000 in
set_option maxHeartbeats 2000000 in
theorem bareD_int {w0 : World} {tv : Value} {ts : List Tw} (hT : TwIn w0 tv ts) (hts : ts.length ≤ 2048) (hks : ∀ x ∈ ts, 0 ≤ x.kids ∧ x.kids ≤ 2048) {kids num : Int} {text : List UInt8} (hTT : bareS ⟨23, kids, num, text⟩ .nil = [⟨2, [], num, 0⟩]) (hok : (.nil : Fs).ok) (hkn : kids = ((.nil : Fs).count : Int)) : SayD w0 tv ts 70 [] ⟨23, kids, num, text⟩ .nil (bareS ⟨23, kids, num, text⟩ .nil) := by
 intro W i rest hb hd;rw [hTT];obtain ⟨hi, hxi, hlen⟩ := drop_facts hd;have hal := (Below.refl W.heap.size W).alloc (Nat.le_refl _) (.cells #[.int .u8 23, .int .i64 kids, .int .i64 num, .string ⟨text.toArray⟩] 37);have hX := heap_alloc_new W (.cells #[.int .u8 23, .int .i64 kids, .int .i64 num, .string ⟨text.toArray⟩] 37 (0, 0));have hPo := posd_offs (ts := ts) .nil (i + 1) rest (by rw [← List.drop_drop, hd]; rfl);have kK := Lib.hid (KidsAt_any (W.alloc (.cells #[.int .u8 23, .int .i64 kids, .int .i64 num, .string ⟨text.toArray⟩] 37)) ((hT.below hb).below hal) hks hts hd hkn hok);have kW : Hid (∀ W, Calls Tryd.prog 71 #[.int .u8 23] W fun e w' => e = .returned (.int .i64 (widthN 23 : Int)) ∧ w' = W) := Lib.hid (fun W => WidthD_any 23 W);obtain ⟨g, off, cap, rfl, hg, z0, z1, z2, z3⟩ := tw_at hT hb hi hxi;have hii : (i : Int) < (ts.length : Int) := by omega
 replace hPo := Lib.hid hPo;replace hX := Lib.hid hX;replace hal := Lib.hid hal;replace hTT := Lib.hid hTT;replace hkn := Lib.hid hkn;replace hb := Lib.hid hb;clear hd hxi hT hks hi;obtain ⟨n, hn⟩ : ∃ n, n = ts.length := ⟨_, rfl⟩;rw [← hn] at kK hii;show Calls Tryd.prog _ #[.slice (some ⟨g, off, none⟩) ts.length cap, .int .i64 (i : Int)] W _
 rw [← hn];replace hn := Lib.hid hn;go_enter Tryd.func70, Tryd.ntmps70
 go_wp2_with fail
 with_reducible refine kK.out.mono ?_
 rintro e w2 ⟨kv, rfl, hko, hb2⟩;have hX2 := (hb2.block _ (Array.getElem?_eq_some_iff.1 hX.out).1).trans hX.out;have hB2 := Lib.hid (below_next hal.out hb2);have x0 := cellD hX2 0; have x1 := cellD hX2 1; have x2 := cellD hX2 2; have x3 := cellD hX2 3;simp only [List.getElem?_toArray, List.getElem?_cons_zero, List.getElem?_cons_succ] at x0 x1 x2 x3;have hbw : Hid (Below w0.heap.size w0 w2) := Lib.hid (hb.out.trans (hB2.out.mono hb.out.size));replace hX2 := Lib.hid hX2;clear hX hal hb2 kK z0 z1 z2 z3;obtain ⟨ka, kc, rfl, _, _⟩ := id hko.shape;simp only [offsF, List.length_nil];clear hko;go_wp2_with fail
 with_reducible refine (kW.out _).mono ?_
 rintro e w3 ⟨rfl, rfl⟩;clear kW;go_wp2_with fail
 have hal := (Below.refl w3.heap.size w3).alloc (Nat.le_refl _) (.cells #[.int .u8 2, .string ⟨#[]⟩, .int .i64 num, .int .i64 0] 35);go_ret
 exact ⟨_, rfl, (tgs_new w3 [⟨2, [], num, 0⟩] (cs := #[.int .u8 2, .string ⟨#[]⟩, .int .i64 num, .int .i64 0]) rfl (n := 1) rfl (q := w3.heap.size) rfl (by simp)).low hB2.out.size, below_next hB2.out hal⟩
set_option maxRecDepth 20000 in
set_option maxHeartbeats 2000000 in
theorem bareD_text {w0 : World} {tv : Value} {ts : List Tw} (hT : TwIn w0 tv ts) (hts : ts.length ≤ 2048) (hks : ∀ x ∈ ts, 0 ≤ x.kids ∧ x.kids ≤ 2048) {kids num : Int} {text : List UInt8} (hTT : bareS ⟨24, kids, num, text⟩ .nil = [⟨3, text, 0, 0⟩]) (hok : (.nil : Fs).ok) (hkn : kids = ((.nil : Fs).count : Int)) : SayD w0 tv ts 70 [] ⟨24, kids, num, text⟩ .nil (bareS ⟨24, kids, num, text⟩ .nil) := by
 intro W i rest hb hd;rw [hTT];obtain ⟨hi, hxi, hlen⟩ := drop_facts hd;have hal := (Below.refl W.heap.size W).alloc (Nat.le_refl _) (.cells #[.int .u8 24, .int .i64 kids, .int .i64 num, .string ⟨text.toArray⟩] 37);have hX := heap_alloc_new W (.cells #[.int .u8 24, .int .i64 kids, .int .i64 num, .string ⟨text.toArray⟩] 37 (0, 0));have hPo := posd_offs (ts := ts) .nil (i + 1) rest (by rw [← List.drop_drop, hd]; rfl);have kK := Lib.hid (KidsAt_any (W.alloc (.cells #[.int .u8 24, .int .i64 kids, .int .i64 num, .string ⟨text.toArray⟩] 37)) ((hT.below hb).below hal) hks hts hd hkn hok);have kW : Hid (∀ W, Calls Tryd.prog 71 #[.int .u8 24] W fun e w' => e = .returned (.int .i64 (widthN 24 : Int)) ∧ w' = W) := Lib.hid (fun W => WidthD_any 24 W);obtain ⟨g, off, cap, rfl, hg, z0, z1, z2, z3⟩ := tw_at hT hb hi hxi;have hii : (i : Int) < (ts.length : Int) := by omega
 replace hPo := Lib.hid hPo;replace hX := Lib.hid hX;replace hal := Lib.hid hal;replace hTT := Lib.hid hTT;replace hkn := Lib.hid hkn;replace hb := Lib.hid hb;clear hd hxi hT hks hi;obtain ⟨n, hn⟩ : ∃ n, n = ts.length := ⟨_, rfl⟩;rw [← hn] at kK hii;show Calls Tryd.prog _ #[.slice (some ⟨g, off, none⟩) ts.length cap, .int .i64 (i : Int)] W _
 rw [← hn];replace hn := Lib.hid hn;go_enter Tryd.func70, Tryd.ntmps70
 go_wp2_with fail
 with_reducible refine kK.out.mono ?_
 rintro e w2 ⟨kv, rfl, hko, hb2⟩;have hX2 := (hb2.block _ (Array.getElem?_eq_some_iff.1 hX.out).1).trans hX.out;have hB2 := Lib.hid (below_next hal.out hb2);have x0 := cellD hX2 0; have x1 := cellD hX2 1; have x2 := cellD hX2 2; have x3 := cellD hX2 3;simp only [List.getElem?_toArray, List.getElem?_cons_zero, List.getElem?_cons_succ] at x0 x1 x2 x3;have hbw : Hid (Below w0.heap.size w0 w2) := Lib.hid (hb.out.trans (hB2.out.mono hb.out.size));replace hX2 := Lib.hid hX2;clear hX hal hb2 kK z0 z1 z2 z3;obtain ⟨ka, kc, rfl, _, _⟩ := id hko.shape;simp only [offsF, List.length_nil];clear hko;go_wp2_with fail
 with_reducible refine (kW.out _).mono ?_
 rintro e w3 ⟨rfl, rfl⟩;clear kW;go_wp2_with fail
 have hal := (Below.refl w3.heap.size w3).alloc (Nat.le_refl _) (.cells #[.int .u8 3, .string ⟨text.toArray⟩, .int .i64 0, .int .i64 0] 35);go_ret
 exact ⟨_, rfl, (tgs_new w3 [⟨3, text, 0, 0⟩] (cs := #[.int .u8 3, .string ⟨text.toArray⟩, .int .i64 0, .int .i64 0]) rfl (n := 1) rfl (q := w3.heap.size) rfl (by simp)).low hB2.out.size, below_next hB2.out hal⟩
set_option maxRecDepth 20000 in
set_option maxHeartbeats 2000000 in
theorem bareD_name {w0 : World} {tv : Value} {ts : List Tw} (hT : TwIn w0 tv ts) (hts : ts.length ≤ 2048) (hks : ∀ x ∈ ts, 0 ≤ x.kids ∧ x.kids ≤ 2048) {kids num : Int} {text : List UInt8} (hTT : bareS ⟨26, kids, num, text⟩ .nil = [wordTg text]) (hok : (.nil : Fs).ok) (hkn : kids = ((.nil : Fs).count : Int)) : SayD w0 tv ts 70 [] ⟨26, kids, num, text⟩ .nil (bareS ⟨26, kids, num, text⟩ .nil) := by
 intro W i rest hb hd;rw [hTT];obtain ⟨hi, hxi, hlen⟩ := drop_facts hd;have hal := (Below.refl W.heap.size W).alloc (Nat.le_refl _) (.cells #[.int .u8 26, .int .i64 kids, .int .i64 num, .string ⟨text.toArray⟩] 37);have hX := heap_alloc_new W (.cells #[.int .u8 26, .int .i64 kids, .int .i64 num, .string ⟨text.toArray⟩] 37 (0, 0));have hPo := posd_offs (ts := ts) .nil (i + 1) rest (by rw [← List.drop_drop, hd]; rfl);have kK := Lib.hid (KidsAt_any (W.alloc (.cells #[.int .u8 26, .int .i64 kids, .int .i64 num, .string ⟨text.toArray⟩] 37)) ((hT.below hb).below hal) hks hts hd hkn hok);have kW : Hid (∀ W, Calls Tryd.prog 71 #[.int .u8 26] W fun e w' => e = .returned (.int .i64 (widthN 26 : Int)) ∧ w' = W) := Lib.hid (fun W => WidthD_any 26 W);obtain ⟨g, off, cap, rfl, hg, z0, z1, z2, z3⟩ := tw_at hT hb hi hxi;have hii : (i : Int) < (ts.length : Int) := by omega
 replace hPo := Lib.hid hPo;replace hX := Lib.hid hX;replace hal := Lib.hid hal;replace hTT := Lib.hid hTT;replace hkn := Lib.hid hkn;replace hb := Lib.hid hb;clear hd hxi hT hks hi;obtain ⟨n, hn⟩ : ∃ n, n = ts.length := ⟨_, rfl⟩;rw [← hn] at kK hii;show Calls Tryd.prog _ #[.slice (some ⟨g, off, none⟩) ts.length cap, .int .i64 (i : Int)] W _
 rw [← hn];replace hn := Lib.hid hn;go_enter Tryd.func70, Tryd.ntmps70
 go_wp2_with fail
 with_reducible refine kK.out.mono ?_
 rintro e w2 ⟨kv, rfl, hko, hb2⟩;have hX2 := (hb2.block _ (Array.getElem?_eq_some_iff.1 hX.out).1).trans hX.out;have hB2 := Lib.hid (below_next hal.out hb2);have x0 := cellD hX2 0; have x1 := cellD hX2 1; have x2 := cellD hX2 2; have x3 := cellD hX2 3;simp only [List.getElem?_toArray, List.getElem?_cons_zero, List.getElem?_cons_succ] at x0 x1 x2 x3;have hbw : Hid (Below w0.heap.size w0 w2) := Lib.hid (hb.out.trans (hB2.out.mono hb.out.size));replace hX2 := Lib.hid hX2;clear hX hal hb2 kK z0 z1 z2 z3;obtain ⟨ka, kc, rfl, _, _⟩ := id hko.shape;simp only [offsF, List.length_nil];clear hko;go_wp2_with fail
 with_reducible refine (kW.out _).mono ?_
 rintro e w3 ⟨rfl, rfl⟩;clear kW;have kc1 := Lib.hid (wordE_any text.toArray w3);go_wp2_with fail
 with_reducible refine kc1.out.mono ?_
 rintro e w4 ⟨rfl, hb4⟩;have hB4 := below_next hB2.out hb4;clear kc1 hb4;go_wp2_with fail
 have hal := (Below.refl w4.heap.size w4).alloc (Nat.le_refl _) (.cells #[.int .u8 1, .string ⟨text.toArray⟩, .int .i64 0, .int .i64 0] 35);go_ret
 exact ⟨_, rfl, (tgs_new w4 [wordTg text] (cs := #[.int .u8 1, .string ⟨text.toArray⟩, .int .i64 0, .int .i64 0]) rfl (n := 1) rfl (q := w4.heap.size) rfl (by simp)).low hB4.size, below_next hB4 hal⟩
set_option maxRecDepth 20000 in
set_option maxHeartbeats 2000000 in
theorem bareD_bare {w0 : World} {tv : Value} {ts : List Tw} (hT : TwIn w0 tv ts) (hts : ts.length ≤ 2048) (hks : ∀ x ∈ ts, 0 ≤ x.kids ∧ x.kids ≤ 2048) {op : Nat} {kids num : Int} {text : List UInt8} (hw : widthN op = 9) (hop : op = 20 ∨ op = 21 ∨ op = 22 ∨ op = 57) {t : Tg} (hm : markTg op = [t]) (hTT : bareS ⟨op, kids, num, text⟩ .nil = [t]) (hok : (.nil : Fs).ok) (hkn : kids = ((.nil : Fs).count : Int)) : SayD w0 tv ts 70 [] ⟨op, kids, num, text⟩ .nil (bareS ⟨op, kids, num, text⟩ .nil) := by
 intro W i rest hb hd;rw [hTT];have t23 : ((op : Int) == 23) = false := beq_eq_false_iff_ne.2 (by omega);have t24 : ((op : Int) == 24) = false := beq_eq_false_iff_ne.2 (by omega);have t26 : ((op : Int) == 26) = false := beq_eq_false_iff_ne.2 (by omega);have t56 : ((op : Int) == 56) = false := beq_eq_false_iff_ne.2 (by omega);have t25 : ((op : Int) == 25) = false := beq_eq_false_iff_ne.2 (by omega);have t50 : ((op : Int) == 50) = false := beq_eq_false_iff_ne.2 (by omega);have t51 : ((op : Int) == 51) = false := beq_eq_false_iff_ne.2 (by omega);have t53 : ((op : Int) == 53) = false := beq_eq_false_iff_ne.2 (by omega);have t42 : ((op : Int) == 42) = false := beq_eq_false_iff_ne.2 (by omega);obtain ⟨hi, hxi, hlen⟩ := drop_facts hd;have hal := (Below.refl W.heap.size W).alloc (Nat.le_refl _) (.cells #[.int .u8 (op : Int), .int .i64 kids, .int .i64 num, .string ⟨text.toArray⟩] 37);have hX := heap_alloc_new W (.cells #[.int .u8 (op : Int), .int .i64 kids, .int .i64 num, .string ⟨text.toArray⟩] 37 (0, 0));have hPo := posd_offs (ts := ts) .nil (i + 1) rest (by rw [← List.drop_drop, hd]; rfl);have kK := Lib.hid (KidsAt_any (W.alloc (.cells #[.int .u8 (op : Int), .int .i64 kids, .int .i64 num, .string ⟨text.toArray⟩] 37)) ((hT.below hb).below hal) hks hts hd hkn hok);have kW : Hid (∀ W, Calls Tryd.prog 71 #[.int .u8 (op : Int)] W fun e w' => e = .returned (.int .i64 (widthN op : Int)) ∧ w' = W) := Lib.hid (fun W => WidthD_any op W);obtain ⟨g, off, cap, rfl, hg, z0, z1, z2, z3⟩ := tw_at hT hb hi hxi;have hii : (i : Int) < (ts.length : Int) := by omega
 replace hPo := Lib.hid hPo;replace hX := Lib.hid hX;replace hal := Lib.hid hal;replace hTT := Lib.hid hTT;replace hkn := Lib.hid hkn;replace hb := Lib.hid hb;clear hd hxi hT hks hi;obtain ⟨n, hn⟩ : ∃ n, n = ts.length := ⟨_, rfl⟩;rw [← hn] at kK hii;show Calls Tryd.prog _ #[.slice (some ⟨g, off, none⟩) ts.length cap, .int .i64 (i : Int)] W _
 rw [← hn];replace hn := Lib.hid hn;go_enter Tryd.func70, Tryd.ntmps70
 go_wp2_with fail
 with_reducible refine kK.out.mono ?_
 rintro e w2 ⟨kv, rfl, hko, hb2⟩;have hX2 := (hb2.block _ (Array.getElem?_eq_some_iff.1 hX.out).1).trans hX.out;have hB2 := Lib.hid (below_next hal.out hb2);have x0 := cellD hX2 0; have x1 := cellD hX2 1; have x2 := cellD hX2 2; have x3 := cellD hX2 3;simp only [List.getElem?_toArray, List.getElem?_cons_zero, List.getElem?_cons_succ] at x0 x1 x2 x3;have hbw : Hid (Below w0.heap.size w0 w2) := Lib.hid (hb.out.trans (hB2.out.mono hb.out.size));replace hX2 := Lib.hid hX2;clear hX hal hb2 kK z0 z1 z2 z3;obtain ⟨ka, kc, rfl, _, _⟩ := id hko.shape;simp only [offsF, List.length_nil];clear hko;go_wp2_with fail
 with_reducible refine (kW.out _).mono ?_
 rintro e w3 ⟨rfl, rfl⟩;clear kW;rw [hw];have kc1 := Lib.hid (markD_any hm (by omega) w3);go_wp2_with fail
 with_reducible refine kc1.out.mono ?_
 rintro e w4 ⟨rfl, hb4⟩;have hB4 := below_next hB2.out hb4;clear kc1 hb4;unfold tgV;go_wp2_with fail
 have hal := (Below.refl w4.heap.size w4).alloc (Nat.le_refl _) (.cells (tgC t).toArray 35);go_ret
 exact ⟨_, rfl, (tgs_new w4 [t] (cs := (tgC t).toArray) (by simp [rowOf]) (n := 1) rfl (q := w4.heap.size) rfl (by simp)).low hB4.size, below_next hB4 hal⟩
set_option maxRecDepth 20000 in
set_option maxHeartbeats 2000000 in
theorem bareD_take {w0 : World} {tv : Value} {ts : List Tw} (hT : TwIn w0 tv ts) (hts : ts.length ≤ 2048) (hks : ∀ x ∈ ts, 0 ≤ x.kids ∧ x.kids ≤ 2048) {kids num : Int} {text : List UInt8} (hTT : bareS ⟨56, kids, num, text⟩ .nil = [wordTg B.take, wordTg text]) (hok : (.nil : Fs).ok) (hkn : kids = ((.nil : Fs).count : Int)) : SayD w0 tv ts 70 [] ⟨56, kids, num, text⟩ .nil (bareS ⟨56, kids, num, text⟩ .nil) := by
 intro W i rest hb hd;rw [hTT];obtain ⟨hi, hxi, hlen⟩ := drop_facts hd;have hal := (Below.refl W.heap.size W).alloc (Nat.le_refl _) (.cells #[.int .u8 56, .int .i64 kids, .int .i64 num, .string ⟨text.toArray⟩] 37);have hX := heap_alloc_new W (.cells #[.int .u8 56, .int .i64 kids, .int .i64 num, .string ⟨text.toArray⟩] 37 (0, 0));have hPo := posd_offs (ts := ts) .nil (i + 1) rest (by rw [← List.drop_drop, hd]; rfl);have kK := Lib.hid (KidsAt_any (W.alloc (.cells #[.int .u8 56, .int .i64 kids, .int .i64 num, .string ⟨text.toArray⟩] 37)) ((hT.below hb).below hal) hks hts hd hkn hok);have kW : Hid (∀ W, Calls Tryd.prog 71 #[.int .u8 56] W fun e w' => e = .returned (.int .i64 (widthN 56 : Int)) ∧ w' = W) := Lib.hid (fun W => WidthD_any 56 W);obtain ⟨g, off, cap, rfl, hg, z0, z1, z2, z3⟩ := tw_at hT hb hi hxi;have hii : (i : Int) < (ts.length : Int) := by omega
 replace hPo := Lib.hid hPo;replace hX := Lib.hid hX;replace hal := Lib.hid hal;replace hTT := Lib.hid hTT;replace hkn := Lib.hid hkn;replace hb := Lib.hid hb;clear hd hxi hT hks hi;obtain ⟨n, hn⟩ : ∃ n, n = ts.length := ⟨_, rfl⟩;rw [← hn] at kK hii;show Calls Tryd.prog _ #[.slice (some ⟨g, off, none⟩) ts.length cap, .int .i64 (i : Int)] W _
 rw [← hn];replace hn := Lib.hid hn;go_enter Tryd.func70, Tryd.ntmps70
 go_wp2_with fail
 with_reducible refine kK.out.mono ?_
 rintro e w2 ⟨kv, rfl, hko, hb2⟩;have hX2 := (hb2.block _ (Array.getElem?_eq_some_iff.1 hX.out).1).trans hX.out;have hB2 := Lib.hid (below_next hal.out hb2);have x0 := cellD hX2 0; have x1 := cellD hX2 1; have x2 := cellD hX2 2; have x3 := cellD hX2 3;simp only [List.getElem?_toArray, List.getElem?_cons_zero, List.getElem?_cons_succ] at x0 x1 x2 x3;have hbw : Hid (Below w0.heap.size w0 w2) := Lib.hid (hb.out.trans (hB2.out.mono hb.out.size));replace hX2 := Lib.hid hX2;clear hX hal hb2 kK z0 z1 z2 z3;obtain ⟨ka, kc, rfl, _, _⟩ := id hko.shape;simp only [offsF, List.length_nil];clear hko;go_wp2_with fail
 with_reducible refine (kW.out _).mono ?_
 rintro e w3 ⟨rfl, rfl⟩;clear kW;have cX3 := fun (W' : World) (h : Below w3.heap.size w3 W') => (h.cell (p := ⟨W.heap.size, 3, none⟩) (Array.getElem?_eq_some_iff.1 hX2.out).1).trans x3
 have hz := Nat.le_refl w3.heap.size;have kt := Lib.hid (fun W => wordE_any #[116, 97, 107, 101] W);have kx := Lib.hid (fun W => wordE_any text.toArray W);clear x1 x2;go_wp2_with fail
 go_region_held3 (fun W' => w3.heap.size ≤ W'.heap.size ∧ Below w3.heap.size w3 W')
   (first
     | exact ⟨hz, (Below.refl _ _).drew⟩
     | (go_split_ands; rename_i hq0 hq1; exact ⟨Nat.le_trans hq0 hb9.size, hq1.trans (hb9.mono hq0)⟩)
     | (go_split_ands; rename_i hq0 hq1; exact ⟨Nat.le_trans hq0 ((Below.refl _ _).alloc (Nat.le_refl _) _).size, below_next hq1 ((Below.refl _ _).alloc (Nat.le_refl _) _)⟩))
   (first
     | (go_at_call 37; (first | (with_reducible refine (kt.out _).mono ?_) | (with_reducible refine (kx.out _).mono ?_)); rintro e w9 ⟨rfl, hb9⟩))
 all_goals
   have hzX := (Array.getElem?_eq_some_iff.1 hX2.out).1;go_split_ands
   rename_i hqa hqb
   have hz9 : W.heap.size ≤ w9.heap.size := by
     have := hqa;simp only [World.alloc, Array.size_push] at this;omega
   have hb8 := below_next hB2.out hqb;go_wp2_with fail
   go_ret
   exact ⟨_, rfl, (tgs_new w9 [wordTg B.take, wordTg text] (cs := #[.int .u8 1, .string ⟨#[116, 97, 107, 101]⟩, .int .i64 0, .int .i64 0, .int .u8 1, .string ⟨text.toArray⟩, .int .i64 0, .int .i64 0]) rfl (n := 2) rfl (q := w9.heap.size) rfl (by simp)).low hz9, hb8⟩
end Go.Proofs.YtjiemkidmlgbeaaDoor
