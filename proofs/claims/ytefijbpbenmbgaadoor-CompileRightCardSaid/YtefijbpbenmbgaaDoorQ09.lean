/- A part of the proof: CkR, GPart1, GIf, GLoop. No condition. -/
import Derived.LoopTactic
import Derived.IntWalk
import Derived.Deep.RegionWith
import Derived.Deep.RegionHeld
import Derived.Test.YtefijbpbenmbgaaDoorQ07
import Derived.Test.YtefijbpbenmbgaaDoorQ08
set_option linter.unusedVariables false
set_option linter.unusedSimpArgs false
namespace Go.Proofs.YtefijbpbenmbgaaDoor
open Go.RowKit Go.Shelf
theorem count_le : ∀ F : Fs, F.count ≤ F.flat.length
 | .nil => Nat.le_refl _
 | .cons x k r => by
   have := count_le r;show r.count + 1 ≤ (x :: (k.flat ++ r.flat)).length
   rw [List.length_cons, List.length_append];omega
def AllP (Q : Tw → Fs → Prop) : Fs → Prop
 | .nil => True
 | .cons x k r => Q x k ∧ AllP Q r
theorem slot_err {st : CSt} {x : Tw} (h : (slotC st x).2.2 ≠ 0) : (slotC st x).2.1 = st.made := by
 unfold slotC at h ⊢;by_cases h1 : x.op = 2 ∨ x.op = 4
 · rw [if_pos h1] at h ⊢
   cases hF : (findL st.seen x.text).isSome with
   | true => rfl
   | false =>
     rw [hF] at h;simp only [Bool.false_eq_true, ↓reduceIte] at h ⊢;by_cases h2 : st.made = 100
     · rw [if_pos h2]
     · rw [if_neg h2] at h; exact absurd rfl h
 · rw [if_neg h1] at h ⊢
   by_cases h2 : x.op = 5 ∨ x.op = 26
   · rw [if_pos h2] at h ⊢
     cases hF : findL st.seen x.text <;> rfl
   · rw [if_neg h2]
theorem trees_len : ∀ (F : Fs) (st : CSt), (treesC F st).2 = 0 → (treesC F st).1.l.length = st.l.length + F.flat.length
 | .nil, st, _ => by simp [treesC, Fs.flat]
 | .cons x k r, st, h => by
   unfold treesC at h ⊢;by_cases h1 : (slotC st x).2.2 ≠ 0
   · rw [if_pos h1] at h; exact absurd h h1
   · rw [if_neg h1] at h ⊢
     have ih := trees_len k ⟨st.l ++ [(slotC st x).1], st.seen, (slotC st x).2.1⟩;generalize treesC k ⟨st.l ++ [(slotC st x).1], st.seen, (slotC st x).2.1⟩ = R at *;by_cases h2 : R.2 ≠ 0
     · rw [if_pos h2] at h; exact absurd h h2
     · rw [if_neg h2] at h ⊢
       have i1 := ih (by omega);have i2 := trees_len r _ h;rw [i2];have e : (endC x (slotC st x).1 st.seen.length R.1).l = R.1.l := by
         unfold endC;split
         · rfl
         · split <;> rfl
       rw [e, i1];show (st.l ++ [(slotC st x).1]).length + k.flat.length + r.flat.length = _
       rw [List.length_append, List.length_singleton];show _ = st.l.length + (x :: (k.flat ++ r.flat)).length
       rw [List.length_cons, List.length_append];omega
theorem tree_len {x : Tw} {k : Fs} {st : CSt} (h : (treeC x k st).2 = 0) : (treeC x k st).1.l.length = st.l.length + 1 + k.flat.length := by
 rw [← tree_one] at h ⊢;rw [trees_len _ _ h];show _ + (x :: (k.flat ++ [])).length = _
 rw [List.append_nil, List.length_cons];omega
theorem tree_good {x : Tw} {k : Fs} {st : CSt} (hok : (Fs.cons x k .nil).ok) (hg : GoodC st) (h : (treeC x k st).2 = 0) : GoodC (treeC x k st).1 := by
 rw [← tree_one] at h ⊢;exact (trees_good _ _ hok hg h).1
section
variable (w0 : World) (gt gl gs gp : Nat) (v : Value) (ts : List Tw)
def PassOK (x : Tw) (K : Fs) : Prop := ∀ (w : World) (st : CSt) (rest : List Tw), CMem w0 w gt gl gs gp v ts st → ts.drop st.l.length = x :: (K.flat ++ rest) → GoodC st →
   Calls Tryd.prog 33 (capsC gt gl gs gp) w fun e w' => e = .returned (.int .i64 (treeC x K st).2) ∧ CMem w0 w' gt gl gs gp v ts (treeC x K st).1 ∧ Only (Fps w0.heap.size w) w w'
end
theorem drop_get {ts : List Tw} {i : Nat} {x : Tw} {l : List Tw} (h : ts.drop i = x :: l) : ∃ hi : i < ts.length, ts[i] = x := by
 have hi : i < ts.length := by
   have := congrArg List.length h;rw [List.length_drop, List.length_cons] at this;omega
 refine ⟨hi, ?_⟩;rw [List.drop_eq_getElem_cons hi] at h;injection h
set_option maxRecDepth 20000 in
set_option maxHeartbeats 4000000 in
theorem pass_step {w0 : World} {gt gl gs gp : Nat} {v : Value} {ts : List Tw} (hf : ∀ x ∈ ts, FitT x) (hn : ts.length ≤ 2048) {x : Tw} {K : Fs} (hok : (Fs.cons x K .nil).ok) (hK : AllP (PassOK w0 gt gl gs gp v ts) K) : PassOK w0 gt gl gs gp v ts x K := by
 intro w st rest hM hd hg;obtain ⟨hi, hx⟩ := drop_get hd;obtain ⟨Z, hZ⟩ := exHid (treeC x K st);rw [hZ.out];have hz := hZ.out;clear hZ;unfold treeC at hz;have hfit := hf _ (List.getElem_mem hi);rw [hx] at hfit;obtain ⟨a, cap, rfl, htc, htm, hcells⟩ := id hM.tw;obtain ⟨g, off, rfl, hg0, hc⟩ := hcells (by omega);have hbs := hM.b.size;obtain ⟨lv, hl1, hl2⟩ := hM.l;obtain ⟨la, lc, rfl, hlc, hlm⟩ := id hl2.shape;obtain ⟨b, nv, hV⟩ := id hM.s;obtain ⟨na, nc, rfl, _, _⟩ := id hV.n.shape;have hsl : (st.seen.map Prod.fst).length = st.seen.length := List.length_map ..;have hVs := hV.s;rw [hsl] at hVs;have hC : ∀ c, c < 4 → w.cell? ⟨g, off + st.l.length * 4 + c, none⟩ = (twC x)[c]? := fun c hc4 => by
   rw [← hx];exact (hM.b.cell (p := ⟨g, off + st.l.length * 4 + c, none⟩) hg0).trans (hc _ hi c hc4)
 have y0 := hC 0 (by omega); have y1 := hC 1 (by omega); have y2 := hC 2 (by omega); have y3 := hC 3 (by omega);obtain ⟨op, kids, num, text⟩ := x;simp only [twC, List.getElem?_cons_zero, List.getElem?_cons_succ, Nat.add_zero] at y0 y1 y2 y3;have x0 := cellC hM.t 0;have x1 := cellC hl1 0;have x2 := cellC hVs 1;simp only [List.getElem?_toArray, List.getElem?_cons_succ, List.getElem?_cons_zero] at x0 x1 x2;have hii : (st.l.length : Int) < (ts.length : Int) := by omega
 have hal := (Below.refl w.heap.size w).alloc (Nat.le_refl _) (.cells #[.int .u8 0, .int .i64 0, .int .i64 0, .string ⟨#[]⟩] 34);have hN : (w.alloc (.cells #[.int .u8 0, .int .i64 0, .int .i64 0, .string ⟨#[]⟩] 34)).heap[w.heap.size]? = some (.cells #[.int .u8 0, .int .i64 0, .int .i64 0, .string ⟨#[]⟩] 34 (0, 0)) := heap_alloc_new w _;have n0 := cellC hN 0; have n1 := cellC hN 1; have n2 := cellC hN 2; have n3 := cellC hN 3;simp only [List.getElem?_toArray, List.getElem?_cons_succ, List.getElem?_cons_zero] at n0 n1 n2 n3;have m0 := fzC hN 0; have m1 := fzC hN 1; have m2 := fzC hN 2; have m3 := fzC hN 3;replace hN := Lib.hid hN;have z0 := Below.keeps hal x0; have z1 := Below.keeps hal x1; have z2 := Below.keeps hal x2;have w0' := Below.keeps hal y0; have w1' := Below.keeps hal y1; have w2' := Below.keeps hal y2; have w3' := Below.keeps hal y3;have hal1 := (Below.refl w.heap.size w).alloc (Nat.le_refl _) (.cells #[.int .u8 op, .int .i64 kids, .int .i64 num, .string ⟨text.toArray⟩] 34);have u0 := Below.keeps hal1 x0; have u1 := Below.keeps hal1 x1; have u2 := Below.keeps hal1 x2;have v0' := Below.keeps hal1 y0; have v1' := Below.keeps hal1 y1; have v2' := Below.keeps hal1 y2; have v3' := Below.keeps hal1 y3;replace hal1 := Lib.hid hal1;have hoS := Lib.hid (stored4C hN.out (.int .u8 (op : Int)) (.int .i64 kids) (.int .i64 num) (.string ⟨text.toArray⟩));replace hal := Lib.hid hal;have kS := fun (W : World) (h : Sc W w0.heap.size gs st.seen st.made) => slot_any (st := st) h ⟨op, kids, num, text⟩ hfit.1 hg.few
 have hOK := slot_ok (x := ⟨op, kids, num, text⟩) hg;have hER := slot_err (st := st) (x := ⟨op, kids, num, text⟩);unfold twV at kS;dsimp only at kS;generalize slotC st ⟨op, kids, num, text⟩ = Q at *;obtain ⟨sl, md, er⟩ := Q;dsimp only at kS hOK hER hz;replace kS := Lib.hid kS;replace hOK := Lib.hid hOK;replace hER := Lib.hid hER;replace hz := Lib.hid hz;have hMM := Lib.hid hM;replace hd := Lib.hid hd;replace hK := Lib.hid hK;replace hok := Lib.hid hok;clear hC hc hcells hM hV hVs hl1 hl2 hx hf hi;generalize hSL : st.l.length = i at *;generalize hNL : st.seen.length = q at *;replace hSL := Lib.hid hSL;replace hNL := Lib.hid hNL;clear hsl;unfold capsC;go_enter Tryd.func33, Tryd.ntmps33
 go_wp2_with fail
 go_region
 have hM1 := hMM.out.below hal1.out.drew;have hx1 : (w.alloc (.cells #[.int .u8 op, .int .i64 kids, .int .i64 num, .string ⟨text.toArray⟩] 34)).drew.heap[w.heap.size]? = some (.cells #[.int .u8 op, .int .i64 kids, .int .i64 num, .string ⟨text.toArray⟩] 34 (0, 0)) := heap_alloc_new w _;have ho1 : Only (Fps w0.heap.size w) w (w.alloc (.cells #[.int .u8 op, .int .i64 kids, .int .i64 num, .string ⟨text.toArray⟩] 34)).drew := Only.of_below hal1.out.drew;clear n0 n1 n2 n3 m0 m1 m2 m3 z0 z1 z2 w0' w1' w2' w3' u0 u1 u2 v0' v1' v2' v3' hoS hal hal1 hN x0 x1 x2 y0 y1 y2 y3 hMM;generalize (w.alloc (.cells #[.int .u8 op, .int .i64 kids, .int .i64 num, .string ⟨text.toArray⟩] 34)).drew = W1 at *;have e0 := cellC hx1 0; have e1 := cellC hx1 1; have e2 := cellC hx1 2; have e3 := cellC hx1 3;simp only [List.getElem?_toArray, List.getElem?_cons_succ, List.getElem?_cons_zero] at e0 e1 e2 e3;go_wp2_with fail
 refine (kS.out _ hM1.s).mono ?_;rintro e' w2 ⟨rfl, hS2, ho2⟩;have hM2 := Lib.hid (hM1.scope hS2 ho2);have hx2 := Lib.hid (heldC ho2 hx1 (notF hx1 (by decide)));have ho3 := Lib.hid (ps_then ho1 (sc_ps ho2));have hxw : w.heap.size < w2.heap.size := (Array.getElem?_eq_some_iff.1 hx2.out).1;clear kS hM1 hx1 ho1 e0 e1 e2 e3 hS2 ho2;by_cases hE : er ≠ 0
 · have hq : (er != 0) = true := bne_iff_ne.2 hE
   have hzz := hz.out;rw [if_pos hE] at hzz;have hmd := hER.out hE;subst hmd;subst hzz;clear hE hOK hER hz;go_wp2_with fail
   go_ret
   exact ⟨rfl, hM2.out, ho3.out⟩
 · have hzz := hz.out
   rw [if_neg hE] at hzz;obtain ⟨s1, s2, s3⟩ := hOK.out hE;have her : er = 0 := by omega
   subst her;replace s3 := Lib.hid s3;replace hzz := Lib.hid hzz;obtain ⟨lv, l1, l2⟩ := hM2.out.l;have l1c := cellC l1 0;have l1f := fzC l1 0;simp only [List.getElem?_toArray, List.getElem?_cons_zero] at l1c;have hln : st.l.length ≤ 1000000 := by have := hSL.out; omega
   have hb0 : w0.heap.size ≤ w2.heap.size := hM2.out.b.size;have hal := (Below.refl w2.heap.size w2).alloc (Nat.le_refl _) (.cells #[.int .i64 sl] 3);have hnA := Lib.hid (IntsAt.below l2 hal);have hcA : (w2.alloc (.cells #[.int .i64 sl] 3)).cell? ⟨w2.heap.size, 0, none⟩ = some (intV sl) := one_cell _ _ _ 0;have hzA : w0.heap.size ≤ (w2.alloc (.cells #[.int .i64 sl] 3)).heap.size := by simp; omega
   have lA := Lib.hid (heldC (F := fun _ => False) (Only.of_below hal) l1 (fun h => h));have lAc := cellC lA.out 0;simp only [List.getElem?_toArray, List.getElem?_cons_zero] at lAc;have l1h := Lib.hid l1;have l2h := Lib.hid l2;clear hE hOK hER hz hal l1 l2;have hPsh := Lib.hid (fun (w3 : World) (v3 : Value) (h3 : IntsAt w3 w0.heap.size v3 (st.l ++ [sl])) (ho : Only (fun k => lv.ownBlock = some k) (w2.alloc (.cells #[.int .i64 sl] 3)) w3) =>
     show (CMem w0 (w3.setCell ⟨gl, 0, none⟩ v3) gt gl gs gp (.slice (some ⟨g, off, none⟩) ts.length cap) ts ⟨st.l ++ [sl], st.seen, md⟩ ∧ Only (Fps w0.heap.size w2) w2 (w3.setCell ⟨gl, 0, none⟩ v3)) ∧ w3.heap[gl]? = some (.cells #[lv] 41 (0, 0)) from
       ⟨hM2.out.push l1h.out l2h.out h3 ho, heldC ho lA.out (hnA.out.apart lA.out (by decide))⟩)
   go_wp2_with (at_builtin; refine wpList_append_int rfl _ _ rfl rfl hnA.out rfl hcA (by omega) hzA ?_
                intro a3 cap3 w3 hn3 hoA3;obtain ⟨⟨hM4, ho4⟩, g3⟩ := hPsh.out _ _ hn3 hoA3;have g3c := cellC g3 0;have g3f := fzC g3 0;simp only [List.getElem?_toArray, List.getElem?_cons_zero] at g3c;have hx4 := heldC ho4 hx2.out (notP hx2.out (by decide));have k4 := cellC hx4 1;simp only [List.getElem?_toArray, List.getElem?_cons_succ, List.getElem?_cons_zero] at k4;replace hM4 := Lib.hid hM4;replace ho4 := Lib.hid ho4;replace hx4 := Lib.hid hx4;clear hn3 hoA3 g3)
   have hg1 : GoodC ⟨st.l ++ [sl], st.seen, md⟩ := ⟨hg.nd, s2, fun p hp => Nat.lt_of_lt_of_le (hg.lt p hp) s1, Nat.le_trans hg.len s1, hg.tl⟩;have hd1 : ts.drop (st.l ++ [sl]).length = K.flat ++ rest := by
     have h1 := congrArg List.tail hd.out;rw [List.tail_drop, List.tail_cons] at h1;rw [List.length_append, List.length_singleton, hSL.out];exact h1
   have hokk : K.ok ∧ kids = (K.count : Int) := ⟨hok.out.2.2.1, hok.out.2.1⟩;have hTG := trees_good K ⟨st.l ++ [sl], st.seen, md⟩ hokk.1 hg1;obtain ⟨ZK, hZK⟩ := exHid (treesC K ⟨st.l ++ [sl], st.seen, md⟩);rw [hZK.out] at hTG;replace hTG := Lib.hid hTG;have hzk := hzz.out;rw [hZK.out] at hzk;replace hzk := Lib.hid hzk;have ho5 := Lib.hid (ps_then ho3.out ho4.out);replace hg1 := Lib.hid hg1;replace hd1 := Lib.hid hd1;replace hZK := Lib.hid hZK.out;obtain ⟨hok1, hkn⟩ := hokk;have hkc : kids ≤ 1000000 := by
     have := hfit.2.1;have h2 : kids = (K.count : Int) := hkn;have h3 := count_le K;have h4 := congrArg List.length hd1.out;simp only [List.length_append, List.length_drop] at h4;omega
   replace hok1 := Lib.hid hok1;replace hkn := Lib.hid hkn;generalize w3.setCell ⟨gl, 0, none⟩ (.slice a3 (st.l.length + 1) cap3) = W4 at *;clear hPsh hnA hcA hzA lA lAc l1h l2h g3c g3f k4 l1c l1f hM2 hx2 ho3 ho4 hzz hii hd hfit;go_loopw [9, 32] (fun t9 t32 wr => ∃ (j : Nat) (R : Fs) (s' : CSt), t32 = .int .i64 j ∧ Hid ((j : Int) + (R.count : Int) = kids) ∧ Hid (CMem w0 wr gt gl gs gp (.slice (some ⟨g, off, none⟩) ts.length cap) ts s') ∧ Hid (GoodC s') ∧ Hid (treesC R s' = ZK) ∧ Hid (AllP (PassOK w0 gt gl gs gp (.slice (some ⟨g, off, none⟩) ts.length cap) ts) R) ∧ Hid R.ok ∧ Hid (ts.drop s'.l.length = R.flat ++ rest) ∧ Hid (Only (Fps w0.heap.size w) w wr) ∧ Hid (wr.heap[w.heap.size]? = some (.cells #[.int .u8 op, .int .i64 kids, .int .i64 num, .string ⟨text.toArray⟩] 34 (0, 0)))) (fun _ t32 _ => kids.toNat - (intOf t32).toNat)
   case atStart => exact ⟨0, K, _, rfl, Lib.hid (by rw [hkn.out]; simp), hM4, hg1, hZK, hK, hok1, hd1, ho5, hx4⟩
   case round =>
     clear hM4 hg1 hZK hK hok1 hd1 ho5 hx4;obtain ⟨j, R, s', rfl, hjk, hMr, hgr, hZr, hAr, hor, hdr, hor2, hxr⟩ := hrel;cases R with
     | cons y ky r =>
       have hlt : (j : Int) < kids := by have := hjk.out; have h2 : (Fs.cons y ky r).count = r.count + 1 := rfl; omega
       have hpc := cellC hMr.out.p 0;simp only [List.getElem?_toArray, List.getElem?_cons_zero] at hpc;unfold capsC at hpc;have hdr2 : ts.drop s'.l.length = y :: (ky.flat ++ (r.flat ++ rest)) := by rw [hdr.out]; simp [Fs.flat]
       have kP := Lib.hid (hAr.out.1 wr s' _ hMr.out hdr2 hgr.out);unfold capsC at kP;have hstep := trees_step y ky r s';rw [hZr.out] at hstep;have hgood := tree_good (x := y) (k := ky) (st := s') ⟨hor.out.1, hor.out.2.1, hor.out.2.2.1, trivial⟩ hgr.out;have hlen := tree_len (x := y) (k := ky) (st := s');obtain ⟨TY, hTY⟩ := exHid (treeC y ky s');rw [hTY.out] at kP hstep hgood hlen;obtain ⟨sy, ey⟩ := TY;dsimp only at kP hstep hgood hlen;replace hstep := Lib.hid hstep;replace hgood := Lib.hid hgood;replace hlen := Lib.hid hlen;replace hdr2 := Lib.hid hdr2;clear hMr hgr hZr hTY;go_wp2_with fail
       refine kP.out.mono ?_;rintro e' w5 ⟨rfl, hM5, hoP⟩;have ho5 := Lib.hid (ps_then hor2.out hoP);have hx5 := Lib.hid (heldC hoP hxr.out (notP hxr.out (by decide)));replace hM5 := Lib.hid hM5;clear kP hoP hor2 hxr hpc;by_cases hE : ey ≠ 0
       · have hq : (ey != 0) = true := bne_iff_ne.2 hE
         have h1 := hstep.out;rw [if_pos hE] at h1;subst h1;have h2 := hzk.out;dsimp only at h2;rw [if_pos hE] at h2;subst h2;clear hE hstep hgood hlen hzk;go_wp2_with fail
         go_ret
         exact ⟨rfl, hM5.out, ho5.out⟩
       · have hey : ey = 0 := by omega
         subst hey;have h1 := hstep.out;rw [if_neg hE] at h1;have hg5 := Lib.hid (hgood.out rfl);have hl5 := hlen.out rfl;have hd5 : ts.drop sy.l.length = r.flat ++ rest := by
           rw [hl5, Nat.add_assoc, ← List.drop_drop, hdr2.out, Nat.add_comm 1, List.drop_succ_cons, List.drop_left]
         replace hd5 := Lib.hid hd5;have hj5 : Hid (((j + 1 : Nat) : Int) + (r.count : Int) = kids) := Lib.hid (by have := hjk.out; have h2 : (Fs.cons y ky r).count = r.count + 1 := rfl; omega);have hjb : (j : Int) + 1 ≤ 1000000 := by omega
         clear hE hstep hgood hlen hl5;go_wp2_with fail
         go_roundw
         case rel => exact ⟨j + 1, r, sy, by go_num, hj5, hM5, hg5, Lib.hid h1.symm, Lib.hid hAr.out.2, Lib.hid hor.out.2.2.2, hd5, ho5, hx5⟩
         case measure => simp [intOf]; omega
     | nil =>
       have hlt : ¬ (j : Int) < kids := by have := hjk.out; have h2 : Fs.nil.count = 0 := rfl; omega
       have hze : ZK = (s', 0) := hZr.out.symm;subst hze;have hE := hzk.out;dsimp only at hE;rw [if_neg (by simp)] at hE;replace hE := Lib.hid hE;have xr0 := cellC hxr.out 0;have xr3 := cellC hxr.out 3;simp only [List.getElem?_toArray, List.getElem?_cons_succ, List.getElem?_cons_zero] at xr0 xr3;obtain ⟨hgs, hms, ex, hex, hexp⟩ := hTG.out rfl;dsimp only at hgs hms hex;have hMr2 := hMr.out;have hbr := hMr2.b.size;have hsl100 : s'.seen.length ≤ 1000000 := by have := hgs.len; have := hgs.few; omega
       have hql : q ≤ s'.seen.length := by rw [hex, List.length_append, hNL.out]; omega
       by_cases c24 : op = 2 ∨ op = 4
       · obtain ⟨t1, t2, t3⟩ := s3.out c24
         have hpl : ex = [] := by
           obtain ⟨kd, hk, ha, hp⟩ := hok.out.1;exact hexp (kind_plain hk (by dsimp only; omega) (by dsimp only; omega) hp)
         rw [hpl, List.append_nil] at hex;rw [← hex] at t1;have hsv : st.made ≤ 1000000 := by have := hg.few; omega
         have htl : text.length ≤ 9223372036854775807 := by
           obtain ⟨kd, hk, ha, hp⟩ := hok.out.1;have := made_len hk ha c24;dsimp only at this;omega
         have kW := Lib.hid (show_any hMr2.s hbr t1 htl hsl100 hsv);have hend : endC ⟨op, kids, num, text⟩ sl q s' = ⟨s'.l, s'.seen ++ [(text, st.made)], s'.made⟩ := by
           unfold endC;rw [if_pos c24, t2, Int.toNat_natCast]
         have hE2 := hE.out;rw [hend] at hE2;rw [t2];have hM6 := Lib.hid (fun (W : World) (hS : Sc W w0.heap.size gs (s'.seen ++ [(text, st.made)]) s'.made) (ho : Only (Fsc w0.heap.size wr) wr W) => hMr2.scope hS ho);have hor3 := Lib.hid (fun (W : World) (ho : Only (Fsc w0.heap.size wr) wr W) => ps_then hor2.out (sc_ps ho));clear hE hTG hgs hms hex hexp hMr hgr hZr hAr hor hdr hor2 hxr hjk s3 t3 hMr2 hend;rcases c24 with c | c
         · have q2 : ((op : Int) == 2) = true := by rw [c]; rfl
           replace c := Lib.hid c;subst hE2;go_wp2_with fail
           refine kW.out.mono ?_;rintro e' w6 ⟨rfl, hS6, ho6⟩;go_wp2_with fail
           go_ret
           exact ⟨rfl, hM6.out _ hS6 ho6, hor3.out _ ho6⟩
         · have q2 : ((op : Int) == 2) = false := beq_eq_false_iff_ne.2 (by omega)
           have q4 : ((op : Int) == 4) = true := by rw [c]; rfl
           replace c := Lib.hid c;subst hE2;go_wp2_with fail
           refine kW.out.mono ?_;rintro e' w6 ⟨rfl, hS6, ho6⟩;go_wp2_with fail
           go_ret
           exact ⟨rfl, hM6.out _ hS6 ho6, hor3.out _ ho6⟩
       · have q2 : ((op : Int) == 2) = false := beq_eq_false_iff_ne.2 (by omega)
         have q4 : ((op : Int) == 4) = false := beq_eq_false_iff_ne.2 (by omega);by_cases c3 : op = 3
         · have q3 : ((op : Int) == 3) = true := by rw [c3]; rfl
           have kW := Lib.hid (hide_any hMr2.s hgs.nd (fun p hp => by have := hgs.tl p hp; omega) hsl100 hql);have hE2 := hE.out;unfold endC at hE2;rw [if_neg c24, if_pos c3] at hE2;have hM6 := Lib.hid (fun (W : World) (hS : Sc W w0.heap.size gs (s'.seen.take q) s'.made) (ho : Only (Fsc w0.heap.size wr) wr W) => hMr2.scope hS ho);have hor3 := Lib.hid (fun (W : World) (ho : Only (Fsc w0.heap.size wr) wr W) => ps_then hor2.out (sc_ps ho));replace c3 := Lib.hid c3;clear hE hTG hgs hms hex hexp hMr hgr hZr hAr hor hdr hor2 hxr hjk s3 hMr2 c24;subst hE2;go_wp2_with fail
           refine kW.out.mono ?_;rintro e' w6 ⟨rfl, hS6, ho6⟩;go_wp2_with fail
           go_ret
           exact ⟨rfl, hM6.out _ hS6 ho6, hor3.out _ ho6⟩
         · have q3 : ((op : Int) == 3) = false := beq_eq_false_iff_ne.2 (by omega)
           have hE2 := hE.out;unfold endC at hE2;rw [if_neg c24, if_neg c3] at hE2;clear hE hTG hgs hms hex hexp hgr hZr hAr hor hdr hxr hjk s3 hMr2 c24 c3;subst hE2;go_wp2_with fail
           go_ret
           exact ⟨rfl, hMr.out, hor2.out⟩
theorem pass_all {w0 : World} {gt gl gs gp : Nat} {v : Value} {ts : List Tw} (hf : ∀ x ∈ ts, FitT x) (hn : ts.length ≤ 2048) : ∀ F : Fs, F.ok → AllP (PassOK w0 gt gl gs gp v ts) F
 | .nil, _ => trivial
 | .cons _ k r, ⟨h1, h2, h3, h4⟩ => ⟨pass_step hf hn ⟨h1, h2, h3, trivial⟩ (pass_all hf hn k h3), pass_all hf hn r h4⟩
end Go.Proofs.YtefijbpbenmbgaaDoor
namespace Go.Proofs.YtefijbpbenmbgaaDoor
open Go.RowKit Go.Shelf
def GP (w0 : World) (bc : Nat) (rest : List Tw) (F : Fs) (code : List Ins) (w : World) (e : Ending) (w' : World) : Prop :=
 e = .returned (.tuple #[]) ∧ ∃ c, Gens F code.length c ∧ CM w0 w' bc rest (code ++ c) ∧ Only (Fcm w0.heap.size w) w w'
def PartOK (w0 : World) (bc : Nat) (x : Tw) (k : Fs) : Prop := ∀ (w : World) (rest : List Tw) (code : List Ins), CM w0 w bc (x :: (k.flat ++ rest)) code → code.length + 3 * (1 + k.flat.length) ≤ 1000000 →
 Calls Tryd.prog 13 #[.pointer (some ⟨bc, 0, none⟩)] w (GP w0 bc rest (.cons x k .nil) code w)
set_option maxRecDepth 20000 in
set_option maxHeartbeats 2000000 in
theorem parts_any {w0 : World} {bc : Nat} {F : Fs} (hF : AllP (PartOK w0 bc) F) {w : World} {rest : List Tw} {code : List Ins} (hM : CM w0 w bc (F.flat ++ rest) code) (hk : code.length + 3 * F.flat.length ≤ 1000000) :
   Calls Tryd.prog 19 #[.pointer (some ⟨bc, 0, none⟩), .int .i64 F.count] w (GP w0 bc rest F code w) := by
 have hcl := count_le F;obtain ⟨n, hn⟩ := exHid F.count;rw [hn.out];have hnb : n ≤ 1000000 := by have := hn.out; omega
 have st : Hid (∀ d, Gens F (code.length + ([] : List Ins).length) d → Gens F code.length ([] ++ d)) := Lib.hid (fun d h => h);have hM0 : Hid (CM w0 w bc (F.flat ++ rest) (code ++ [])) := Lib.hid (by rw [List.append_nil]; exact hM);have hk0 : Hid ((code ++ ([] : List Ins)).length + 3 * F.flat.length ≤ 1000000) := Lib.hid (by rw [List.append_nil]; exact hk);have hj0 : Hid (0 + F.count = n) := Lib.hid (by have := hn.out; omega);replace hF := Lib.hid hF;clear hM hcl hk hn;go_enter Tryd.func19, Tryd.ntmps19
 go_wp2_with fail
 go_loopw [5] (fun t5 wr => ∃ (j : Nat) (R : Fs) (c : List Ins), t5 = .int .i64 j ∧ Hid (j + R.count = n) ∧ Hid (CM w0 wr bc (R.flat ++ rest) (code ++ c)) ∧ Hid (∀ d, Gens R (code.length + c.length) d → Gens F code.length (c ++ d)) ∧ Hid (AllP (PartOK w0 bc) R) ∧ Hid ((code ++ c).length + 3 * R.flat.length ≤ 1000000) ∧ Hid (Only (Fcm w0.heap.size w) w wr)) (fun t5 _ => n - (intOf t5).toNat)
 case atStart => exact ⟨0, F, [], rfl, hj0, hM0, st, hF, hk0, Lib.hid (Only.refl _ _)⟩
 case round =>
   clear hM0 st hF hk0 hj0;obtain ⟨j, R, c, rfl, hjk, hMr, hcr, hAr, hkr, hor⟩ := hrel;cases R with
   | cons y ky r =>
     have hlt : (j : Int) < (n : Int) := by have := hjk.out; have h2 : (Fs.cons y ky r).count = r.count + 1 := rfl; omega
     have hfl : (Fs.cons y ky r).flat = y :: (ky.flat ++ r.flat) := rfl;have hm2 := hMr.out;have hk2 := hkr.out;rw [hfl, List.cons_append, List.append_assoc] at hm2;simp only [hfl, List.length_cons, List.length_append] at hk2;have kP := Lib.hid (hAr.out.1 wr (r.flat ++ rest) (code ++ c) hm2 (by simp only [List.length_append]; omega));replace hk2 := Lib.hid hk2;have hjb : (j : Int) + 1 ≤ 1000000 := by omega
     clear hMr hm2 hkr hfl;go_wp2_with fail
     refine kP.out.mono ?_;rintro e' w5 ⟨rfl, cy, hg, hM5, hoP⟩;have ho5 := Lib.hid (cm_then hor.out hoP);have hl := gens_len hg;rw [flat_one, List.length_cons] at hl;have hk5 : Hid ((code ++ (c ++ cy)).length + 3 * r.flat.length ≤ 1000000) := Lib.hid (by have := hk2.out; simp only [List.length_append] at *; omega);rw [List.append_assoc] at hM5;replace hM5 := Lib.hid hM5;have hc5 : Hid (∀ d, Gens r (code.length + (c ++ cy).length) d → Gens F code.length ((c ++ cy) ++ d)) := Lib.hid (fun d hd => by
       rw [List.append_assoc];refine hcr.out _ (.seq ?_ ?_)
       · rw [← List.length_append]; exact hg
       · rw [List.length_append, ← Nat.add_assoc] at hd; exact hd)
     have hj5 : Hid (j + 1 + r.count = n) := Lib.hid (by have := hjk.out; have h2 : (Fs.cons y ky r).count = r.count + 1 := rfl; omega);clear kP hoP hor hl hg hcr hk2 hjk;go_wp2_with fail
     go_roundw
     case rel => exact ⟨j + 1, r, c ++ cy, by go_num, hj5, hM5, hc5, Lib.hid hAr.out.2, hk5, ho5⟩
     case measure => simp [intOf]; omega
   | nil =>
     have hlt : ¬ (j : Int) < (n : Int) := by have := hjk.out; have h2 : Fs.nil.count = 0 := rfl; omega
     have hfin := hcr.out [] (.nil _);rw [List.append_nil] at hfin;have hm2 : CM w0 wr bc rest (code ++ c) := hMr.out;replace hfin := Lib.hid hfin;replace hm2 := Lib.hid hm2;clear hMr hcr hAr hkr hjk;go_wp2_with fail
     refine bodyPost_end (results_none rfl _ _ _) rfl ?_;exact ⟨rfl, c, hfin.out, hm2.out, hor.out⟩
end Go.Proofs.YtefijbpbenmbgaaDoor
namespace Go.Proofs.YtefijbpbenmbgaaDoor
open Go.RowKit Go.Shelf
section
variable {w0 : World} {bc : Nat} {a b f x : Tw} {ka kb kf : Fs}
set_option maxRecDepth 20000 in
set_option maxHeartbeats 2000000 in
theorem choice2_any (hx : x.op = 6) (ha : PartOK w0 bc a ka) (hb : PartOK w0 bc b kb) {w : World} {rest : List Tw} {code : List Ins} (hM : CM w0 w bc (a :: (ka.flat ++ (b :: (kb.flat ++ rest)))) code) (hk : code.length + 3 * (3 + ka.flat.length + kb.flat.length) ≤ 1000000) :
   Calls Tryd.prog 22 #[.pointer (some ⟨bc, 0, none⟩), .int .i64 2] w (GP w0 bc rest (.cons x (.cons a ka (.cons b kb .nil)) .nil) code w) := by
 have kA := Lib.hid (ha w _ code hM (by omega));replace hb := Lib.hid hb;replace hx := Lib.hid hx;clear hM ha;go_enter_defers Tryd.func22, Tryd.ntmps22
 go_wp2_with fail
 refine kA.out.mono ?_;rintro e w1 ⟨rfl, c, hg1, hM1, ho1⟩;have hl1 := gens_len hg1;rw [flat_one, List.length_cons] at hl1;have kH := Lib.hid (hole_any hM1 2 (by simp only [List.length_append]; omega));unfold holeF at kH;replace hg1 := Lib.hid hg1;replace ho1 := Lib.hid ho1;clear kA hM1;go_wp2_with fail
 refine kH.out.mono ?_;rintro e w2 ⟨gb, gi, rfl, hH2, hM2, ho2⟩;have kB := Lib.hid (hb.out w2 rest _ hM2 (by simp only [List.length_append, List.length_cons, List.length_nil]; omega));replace ho2 := Lib.hid (cm_then ho1.out ho2);replace hH2 := Lib.hid hH2;clear kH hM2 ho1;go_wp2_with fail
 refine kB.out.mono ?_;rintro e w3 ⟨rfl, d, hg2, hM3, ho3⟩;have hl2 := gens_len hg2;rw [flat_one, List.length_cons] at hl2;have hH3 := hH2.out.keep ho3;have ho4 := Lib.hid (cm_then ho2.out ho3);rw [List.append_assoc, List.singleton_append] at hM3;have kF := Lib.hid (fill_any .returning hM3 hH3 (by simp only [List.length_append, List.length_cons]; omega));replace hg2 := Lib.hid hg2;clear kB ho2 hH2 hM3 ho3 hH3;go_wp2_with fail
 refine leaves_cons (f := 61) (args := #[.pointer (some ⟨gb, 0, none⟩), .pointer (some ⟨gi, 0, none⟩)]) (by simp) (by simp [go_sem]) ?_;refine kF.out.mono ?_;rintro e u' w4 ⟨rfl, rfl, hM4, ho5⟩;refine ⟨_, results_none rfl _ _ _, rfl, c ++ mkI 2 ((code.length + c.length + 1 + d.length : Nat) : Int) :: d, ?_, ?_, cm_then ho4.out ho5⟩
 · refine .if2 hx.out hg1.out ?_
   have := hg2.out;rw [List.length_append, List.length_append] at this;exact this
 · rw [← List.append_assoc]
   have e1 : (⟨(mkI 2 0).op, (((code ++ c) ++ mkI 2 0 :: d).length : Int), (mkI 2 0).num, (mkI 2 0).text⟩ : Ins) = mkI 2 ((code.length + c.length + 1 + d.length : Nat) : Int) := by
     have : ((code ++ c) ++ mkI 2 0 :: d).length = code.length + c.length + 1 + d.length := by simp only [List.length_append, List.length_cons]; omega
     rw [this];rfl
   rw [e1] at hM4;exact hM4
theorem filled {L : List Ins} {op : Nat} {R : List Ins} {n : Nat} (h : (L ++ mkI op 0 :: R).length = n) : (⟨(mkI op 0).op, ((L ++ mkI op 0 :: R).length : Int), (mkI op 0).num, (mkI op 0).text⟩ : Ins) = mkI op (n : Int) := by
 rw [h]; rfl
set_option maxRecDepth 20000 in
set_option maxHeartbeats 2000000 in
theorem then_any (hb : PartOK w0 bc b kb) {w : World} {rest : List Tw} {code : List Ins} (hM : CM w0 w bc (b :: (kb.flat ++ rest)) code) (hk : code.length + 3 * (3 + kb.flat.length) ≤ 1000000) :
   Calls Tryd.prog 38 #[.pointer (some ⟨bc, 0, none⟩)] w fun e w' => ∃ gb gi d, e = .returned (holeF gb gi) ∧ HoleAt w' bc gb gi (code.length + 1 + d.length) ∧ Gens (.cons b kb .nil) (code.length + 1) d ∧
     CM w0 w' bc rest (code ++ mkI 2 ((code.length + 1 + d.length + 1 : Nat) : Int) :: (d ++ [mkI 1 0])) ∧ Only (Fcm w0.heap.size w) w w' := by
 have kH := Lib.hid (hole_any hM 2 (by omega));unfold holeF at kH ⊢;replace hb := Lib.hid hb;clear hM;go_enter_defers Tryd.func38, Tryd.ntmps38
 go_wp2_with fail
 refine kH.out.mono ?_;rintro e w2 ⟨gb, gi, rfl, hH2, hM2, ho2⟩;have kB := Lib.hid (hb.out w2 rest _ hM2 (by simp only [List.length_append, List.length_cons, List.length_nil]; omega));replace ho2 := Lib.hid ho2;replace hH2 := Lib.hid hH2;clear kH hM2;go_wp2_with fail
 refine kB.out.mono ?_;rintro e w3 ⟨rfl, d, hg2, hM3, ho3⟩;have hl2 := gens_len hg2;rw [flat_one, List.length_cons] at hl2;have kJ := Lib.hid (hole_any hM3 1 (by simp only [List.length_append, List.length_cons, List.length_nil]; omega));unfold holeF at kJ;have hH3 := Lib.hid (hH2.out.keep ho3);have ho4 := Lib.hid (cm_then ho2.out ho3);replace hg2 := Lib.hid hg2;clear kB ho2 hH2 hM3 ho3;go_wp2_with fail
 refine kJ.out.mono ?_;rintro e w4 ⟨gb2, gi2, rfl, hH4, hM4, ho5⟩;rw [List.append_assoc, List.append_assoc, List.singleton_append] at hM4;have kF := Lib.hid (fill_any .returning hM4 (hH3.out.keep ho5) (by simp only [List.length_append, List.length_cons, List.length_nil]; omega));have ho6 := Lib.hid (cm_then ho4.out ho5);replace hH4 := Lib.hid hH4;clear kJ hM4 ho4 ho5 hH3;go_wp2_with fail
 refine leaves_cons (f := 61) (args := #[.pointer (some ⟨gb, 0, none⟩), .pointer (some ⟨gi, 0, none⟩)]) (by simp) (by simp [go_sem]) ?_;refine kF.out.mono ?_;rintro e u' w5 ⟨rfl, rfl, hM5, ho7⟩;have hlen : (code ++ mkI 2 0 :: (d ++ [mkI 1 0])).length = code.length + 1 + d.length + 1 := by simp only [List.length_append, List.length_cons, List.length_nil]; omega
 have hH5 := hH4.out.keep ho7;simp only [List.length_append, List.length_cons, List.length_nil, Nat.zero_add] at hH5;refine ⟨.func (.func 61) #[] #[.pointer (some ⟨gb2, 0, none⟩), .pointer (some ⟨gi2, 0, none⟩)], ?_, gb2, gi2, d, rfl, hH5, ?_, ?_, cm_then ho6.out ho7⟩
 · simp [results, Tryd.results38, go_sem]
 · have := hg2.out
   rw [List.length_append] at this;exact this
 · rw [filled hlen] at hM5
   exact hM5
set_option maxRecDepth 20000 in
set_option maxHeartbeats 2000000 in
theorem choice3_any (hx : x.op = 6) (ha : PartOK w0 bc a ka) (hb : PartOK w0 bc b kb) (hf : PartOK w0 bc f kf) {w : World} {rest : List Tw} {code : List Ins} (hM : CM w0 w bc (a :: (ka.flat ++ (b :: (kb.flat ++ (f :: (kf.flat ++ rest)))))) code) (hk : code.length + 3 * (4 + ka.flat.length + kb.flat.length + kf.flat.length) ≤ 1000000) :
   Calls Tryd.prog 22 #[.pointer (some ⟨bc, 0, none⟩), .int .i64 3] w (GP w0 bc rest (.cons x (.cons a ka (.cons b kb (.cons f kf .nil))) .nil) code w) := by
 have kA := Lib.hid (ha w _ code hM (by omega));replace hb := Lib.hid hb;replace hf := Lib.hid hf;replace hx := Lib.hid hx;clear hM ha;go_enter_defers Tryd.func22, Tryd.ntmps22
 go_wp2_with fail
 refine kA.out.mono ?_;rintro e w1 ⟨rfl, c, hg1, hM1, ho1⟩;have hl1 := gens_len hg1;rw [flat_one, List.length_cons] at hl1;have kH := Lib.hid (then_any hb.out hM1 (by simp only [List.length_append]; omega));unfold holeF at kH;replace hg1 := Lib.hid hg1;replace ho1 := Lib.hid ho1;clear kA hM1;go_wp2_with fail
 refine kH.out.mono ?_;rintro e w2 ⟨gb, gi, d, rfl, hH2, hg2, hM2, ho2⟩;have hl2 := gens_len hg2;rw [flat_one, List.length_cons] at hl2;have kB := Lib.hid (hf.out w2 rest _ hM2 (by simp only [List.length_append, List.length_cons, List.length_nil]; omega));replace ho2 := Lib.hid (cm_then ho1.out ho2);replace hH2 := Lib.hid hH2;replace hg2 := Lib.hid hg2;clear kH hM2 ho1;go_wp2_with fail
 refine kB.out.mono ?_;rintro e w3 ⟨rfl, g, hg3, hM3, ho3⟩;have hl3 := gens_len hg3;rw [flat_one, List.length_cons] at hl3;have hH3 := hH2.out.keep ho3;have ho4 := Lib.hid (cm_then ho2.out ho3);have eL : code ++ c ++ mkI 2 (((code ++ c).length + 1 + d.length + 1 : Nat) : Int) :: (d ++ [mkI 1 0]) ++ g = (code ++ c ++ mkI 2 (((code ++ c).length + 1 + d.length + 1 : Nat) : Int) :: d) ++ mkI 1 0 :: g := by simp
 rw [eL] at hM3;have eN : (code ++ c).length + 1 + d.length = (code ++ c ++ mkI 2 (((code ++ c).length + 1 + d.length + 1 : Nat) : Int) :: d).length := by simp only [List.length_append, List.length_cons]; omega
 rw [eN] at hH3;have kF := Lib.hid (fill_any .returning hM3 hH3 (by simp only [List.length_append, List.length_cons]; omega));replace hg3 := Lib.hid hg3;clear kB ho2 hH2 hM3 ho3 hH3 eL eN;go_wp2_with fail
 refine leaves_cons (f := 61) (args := #[.pointer (some ⟨gb, 0, none⟩), .pointer (some ⟨gi, 0, none⟩)]) (by simp) (by simp [go_sem]) ?_;refine kF.out.mono ?_;rintro e u' w4 ⟨rfl, rfl, hM4, ho5⟩;refine ⟨_, results_none rfl _ _ _, rfl, c ++ mkI 2 ((code.length + c.length + 1 + d.length + 1 : Nat) : Int) :: (d ++ mkI 1 ((code.length + c.length + 1 + d.length + 1 + g.length : Nat) : Int) :: g), ?_, ?_, cm_then ho4.out ho5⟩
 · refine .if3 hx.out hg1.out ?_ ?_
   · have := hg2.out
     rw [List.length_append] at this;exact this
   · have := hg3.out
     simp only [List.length_append, List.length_cons, List.length_nil] at this;rw [show code.length + c.length + 1 + d.length + 1 = code.length + c.length + (d.length + (0 + 1) + 1) by omega];exact this
 · rw [filled (n := code.length + c.length + 1 + d.length + 1 + g.length) (by simp only [List.length_append, List.length_cons]; omega)] at hM4
   rw [List.length_append] at hM4
   simpa using hM4
end
end Go.Proofs.YtefijbpbenmbgaaDoor
namespace Go.Proofs.YtefijbpbenmbgaaDoor
open Go.RowKit Go.Shelf
section
variable {w0 : World} {bc : Nat} {a b f x : Tw} {ka kb kf : Fs}
set_option maxRecDepth 20000 in
set_option maxHeartbeats 2000000 in
theorem loop_any (hx : x.op = 7) (ha : PartOK w0 bc a ka) (hb : PartOK w0 bc b kb) {w : World} {rest : List Tw} {code : List Ins} (hM : CM w0 w bc (a :: (ka.flat ++ (b :: (kb.flat ++ rest)))) code) (hk : code.length + 3 * (3 + ka.flat.length + kb.flat.length) ≤ 1000000) :
   Calls Tryd.prog 23 #[.pointer (some ⟨bc, 0, none⟩)] w (GP w0 bc rest (.cons x (.cons a ka (.cons b kb .nil)) .nil) code w) := by
 have kW := Lib.hid (here_any hM);have kA := Lib.hid (ha w _ code hM (by omega));replace hb := Lib.hid hb;replace hx := Lib.hid hx;clear hM ha;go_enter_defers Tryd.func23, Tryd.ntmps23
 go_wp2_with fail
 refine kW.out.mono ?_;rintro e w1 ⟨rfl, rfl⟩;go_wp2_with fail
 refine kA.out.mono ?_;rintro e w1 ⟨rfl, c, hg1, hM1, ho1⟩;have hl1 := gens_len hg1;rw [flat_one, List.length_cons] at hl1;have kH := Lib.hid (hole_any hM1 2 (by simp only [List.length_append]; omega));unfold holeF at kH;replace hg1 := Lib.hid hg1;replace ho1 := Lib.hid ho1;clear kA hM1 kW;go_wp2_with fail
 refine kH.out.mono ?_;rintro e w2 ⟨gb, gi, rfl, hH2, hM2, ho2⟩;have kB := Lib.hid (hb.out w2 rest _ hM2 (by simp only [List.length_append, List.length_cons, List.length_nil]; omega));replace ho2 := Lib.hid (cm_then ho1.out ho2);replace hH2 := Lib.hid hH2;clear kH hM2 ho1;go_wp2_with fail
 refine kB.out.mono ?_;rintro e w3 ⟨rfl, d, hg2, hM3, ho3⟩;have hl2 := gens_len hg2;rw [flat_one, List.length_cons] at hl2;have kG := Lib.hid (goTo_any hM3 1 (code.length : Int) (by simp only [List.length_append, List.length_cons, List.length_nil]; omega));have hH3 := Lib.hid (hH2.out.keep ho3);have ho4 := Lib.hid (cm_then ho2.out ho3);replace hg2 := Lib.hid hg2;clear kB ho2 hH2 hM3 ho3;go_wp2_with fail
 refine kG.out.mono ?_;rintro e w4 ⟨rfl, hM4, ho5⟩;rw [List.append_assoc, List.append_assoc, List.singleton_append] at hM4;have kF := Lib.hid (fill_any .returning hM4 (hH3.out.keep ho5) (by simp only [List.length_append, List.length_cons, List.length_nil]; omega));have ho6 := Lib.hid (cm_then ho4.out ho5);clear kG hM4 ho4 ho5 hH3;go_wp2_with fail
 refine leaves_cons (f := 61) (args := #[.pointer (some ⟨gb, 0, none⟩), .pointer (some ⟨gi, 0, none⟩)]) (by simp) (by simp [go_sem]) ?_;refine kF.out.mono ?_;rintro e u' w5 ⟨rfl, rfl, hM5, ho7⟩;refine ⟨_, results_none rfl _ _ _, rfl, c ++ mkI 2 ((code.length + c.length + 1 + d.length + 1 : Nat) : Int) :: (d ++ [mkI 1 (code.length : Int)]), ?_, ?_, cm_then ho6.out ho7⟩
 · refine .loop hx.out hg1.out ?_
   have := hg2.out;rw [List.length_append, List.length_append] at this;exact this
 · rw [← List.append_assoc]
   rw [filled (n := code.length + c.length + 1 + d.length + 1) (by simp only [List.length_append, List.length_cons, List.length_nil]; omega)] at hM5;exact hM5
set_option maxRecDepth 20000 in
set_option maxHeartbeats 2000000 in
theorem either_any (hx : x.op = 30 ∨ x.op = 31) (ha : PartOK w0 bc a ka) (hb : PartOK w0 bc b kb) {w : World} {rest : List Tw} {code : List Ins} (hM : CM w0 w bc (a :: (ka.flat ++ (b :: (kb.flat ++ rest)))) code) (hk : code.length + 3 * (3 + ka.flat.length + kb.flat.length) ≤ 1000000) {op : Nat} (hop : op = x.op - 27) :
   Calls Tryd.prog 24 #[.pointer (some ⟨bc, 0, none⟩), .int .u8 op] w (GP w0 bc rest (.cons x (.cons a ka (.cons b kb .nil)) .nil) code w) := by
 have kA := Lib.hid (ha w _ code hM (by omega));replace hb := Lib.hid hb;replace hx := Lib.hid hx;replace hop := Lib.hid hop;clear hM ha;go_enter_defers Tryd.func24, Tryd.ntmps24
 go_wp2_with fail
 refine kA.out.mono ?_;rintro e w1 ⟨rfl, c, hg1, hM1, ho1⟩;have hl1 := gens_len hg1;rw [flat_one, List.length_cons] at hl1;have kH := Lib.hid (hole_any hM1 op (by simp only [List.length_append]; omega));unfold holeF at kH;replace hg1 := Lib.hid hg1;replace ho1 := Lib.hid ho1;clear kA hM1;go_wp2_with fail
 refine kH.out.mono ?_;rintro e w2 ⟨gb, gi, rfl, hH2, hM2, ho2⟩;have kB := Lib.hid (hb.out w2 rest _ hM2 (by simp only [List.length_append, List.length_cons, List.length_nil]; omega));replace ho2 := Lib.hid (cm_then ho1.out ho2);replace hH2 := Lib.hid hH2;clear kH hM2 ho1;go_wp2_with fail
 refine kB.out.mono ?_;rintro e w3 ⟨rfl, d, hg2, hM3, ho3⟩;have hl2 := gens_len hg2;rw [flat_one, List.length_cons] at hl2;have kG := Lib.hid (op_any hM3 5 (by simp only [List.length_append, List.length_cons, List.length_nil]; omega));have hH3 := Lib.hid (hH2.out.keep ho3);have ho4 := Lib.hid (cm_then ho2.out ho3);replace hg2 := Lib.hid hg2;clear kB ho2 hH2 hM3 ho3;go_wp2_with fail
 refine kG.out.mono ?_;rintro e w4 ⟨rfl, hM4, ho5⟩;rw [List.append_assoc, List.append_assoc, List.singleton_append] at hM4;have kF := Lib.hid (fill_any .returning hM4 (hH3.out.keep ho5) (by simp only [List.length_append, List.length_cons, List.length_nil]; omega));have ho6 := Lib.hid (cm_then ho4.out ho5);clear kG hM4 ho4 ho5 hH3;go_wp2_with fail
 refine leaves_cons (f := 61) (args := #[.pointer (some ⟨gb, 0, none⟩), .pointer (some ⟨gi, 0, none⟩)]) (by simp) (by simp [go_sem]) ?_;refine kF.out.mono ?_;rintro e u' w5 ⟨rfl, rfl, hM5, ho7⟩;refine ⟨_, results_none rfl _ _ _, rfl, c ++ mkI (x.op - 27) ((code.length + c.length + 1 + d.length + 1 : Nat) : Int) :: (d ++ [mkI 5 0]), ?_, ?_, cm_then ho6.out ho7⟩
 · refine .either hx.out hg1.out ?_
   have := hg2.out;rw [List.length_append, List.length_append] at this;exact this
 · rw [← List.append_assoc, ← hop.out]
   rw [filled (n := code.length + c.length + 1 + d.length + 1) (by simp only [List.length_append, List.length_cons, List.length_nil]; omega)] at hM5;exact hM5
end
end Go.Proofs.YtefijbpbenmbgaaDoor
