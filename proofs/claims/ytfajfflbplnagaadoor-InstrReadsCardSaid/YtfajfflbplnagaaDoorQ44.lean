/- A part of the proof: JOne. No condition. -/
import Derived.Test.YtfajfflbplnagaaDoorQ07
import Derived.Test.YtfajfflbplnagaaDoorQ12
import Derived.Test.YtfajfflbplnagaaDoorQ41
set_option linter.unusedVariables false
set_option linter.unusedSimpArgs false
namespace Go.Proofs.YtfajfflbplnagaaDoor
open Go.RowKit Go.Shelf
section
variable {w0 w W : World} {L cap : Nat} {a : Option Addr} {f : Nat → Nat}
structure OM (w0 W : World) (b6 b9 b10 : Nat) (op : Array Value) (x : Ins) : Prop where
 b : Below w0.heap.size w0 W
 k6 : W.heap[b6]? = some (.cells #[.int .u8 0, .int .i64 0, .int .i64 0, .string ⟨#[]⟩] 40 (0, 0))
 k9 : W.heap[b9]? = some (.cells #[.int .u8 x.op, .int .i64 x.a, .int .i64 x.num, .string ⟨x.text.toArray⟩] 40 (0, 0))
 k10 : W.heap[b10]? = some (.cells op 54 (0, 0))
 n6 : w0.heap.size ≤ b6
 n9 : w0.heap.size ≤ b9
 n10 : w0.heap.size ≤ b10
 ne69 : b6 ≠ b9
 ne109 : b10 ≠ b9
variable {b6 b9 b10 : Nat} {op : Array Value} {x : Ins}
theorem OM.below (h : OM w0 w b6 b9 b10 op x) (hb : Below w.heap.size w W) : OM w0 W b6 b9 b10 op x :=
 ⟨h.b.trans (hb.mono h.b.size), heldJ (F := fun _ => False) (Only.of_below hb) h.k6 (fun e => e), heldJ (F := fun _ => False) (Only.of_below hb) h.k9 (fun e => e), heldJ (F := fun _ => False) (Only.of_below hb) h.k10 (fun e => e), h.n6, h.n9, h.n10, h.ne69, h.ne109⟩
theorem OM.stored {x' : Ins} (h : OM w0 w b6 b9 b10 op x) (hW : W.heap[b9]? = some (.cells #[.int .u8 x'.op, .int .i64 x'.a, .int .i64 x'.num, .string ⟨x'.text.toArray⟩] 40 (0, 0))) (ho : Only (fun k => k = b9) w W) : OM w0 W b6 b9 b10 op x' := by
 have h9 := h.n9;exact ⟨h.b.trans (ho.below h.b.size (fun k hk e => by omega)), heldJ ho h.k6 h.ne69, hW, heldJ ho h.k10 h.ne109, h.n6, h.n9, h.n10, h.ne69, h.ne109⟩
theorem OM.setA (h : OM w0 w b6 b9 b10 op x) (v : Int) : OM w0 (w.setCell ⟨b9, 1, none⟩ (.int .i64 v)) b6 b9 b10 op ⟨x.op, v, x.num, x.text⟩ := by
 refine h.stored ?_ ((Only.refl (fun k => k = b9) w).setCell (p := ⟨b9, 1, none⟩) (.inl rfl) _);have := heap_setCell_same w b9 1 _ _ (.int .i64 v) h.k9
 simpa using this
theorem OM.setN (h : OM w0 w b6 b9 b10 op x) (v : Int) : OM w0 (w.setCell ⟨b9, 2, none⟩ (.int .i64 v)) b6 b9 b10 op ⟨x.op, x.a, v, x.text⟩ := by
 refine h.stored ?_ ((Only.refl (fun k => k = b9) w).setCell (p := ⟨b9, 2, none⟩) (.inl rfl) _);have := heap_setCell_same w b9 2 _ _ (.int .i64 v) h.k9
 simpa using this
theorem OM.setT (h : OM w0 w b6 b9 b10 op x) (v : List UInt8) : OM w0 (w.setCell ⟨b9, 3, none⟩ (.string ⟨v.toArray⟩)) b6 b9 b10 op ⟨x.op, x.a, x.num, v⟩ := by
 refine h.stored ?_ ((Only.refl (fun k => k = b9) w).setCell (p := ⟨b9, 3, none⟩) (.inl rfl) _);have := heap_setCell_same w b9 3 _ _ (.string ⟨v.toArray⟩) h.k9
 simpa using this
theorem OM.out (h : OM w0 w b6 b9 b10 op x) (q0 q1 q2 q3 : Value) : ((((w.setCell ⟨b6, 0, none⟩ q0).setCell ⟨b6, 1, none⟩ q1).setCell ⟨b6, 2, none⟩ q2).setCell ⟨b6, 3, none⟩ q3).heap[b6]? = some (.cells #[q0, q1, q2, q3] 40 (0, 0)) ∧
   Below w0.heap.size w0 ((((w.setCell ⟨b6, 0, none⟩ q0).setCell ⟨b6, 1, none⟩ q1).setCell ⟨b6, 2, none⟩ q2).setCell ⟨b6, 3, none⟩ q3) := by
 obtain ⟨h1, ho⟩ := stored4J h.k6 q0 q1 q2 q3;have h6 := h.n6;exact ⟨h1, h.b.trans (ho.below h.b.size (fun k hk e => by omega))⟩
theorem OM.row {q0 q5 q6 : Value} {K : Int} {b1 b2 b3 : Bool} (h : OM w0 w b6 b9 b10 #[q0, .int .i64 K, .bool b1, .bool b2, .bool b3, q5, q6] x) : w.cell? ⟨b10, 1, none⟩ = some (.int .i64 K) ∧ w.cell? ⟨b10, 2, none⟩ = some (.bool b1) ∧ w.cell? ⟨b10, 3, none⟩ = some (.bool b2) ∧ w.cell? ⟨b10, 4, none⟩ = some (.bool b3) := ⟨cellJ h.k10 1, cellJ h.k10 2, cellJ h.k10 3, cellJ h.k10 4⟩
theorem OM.ins (h : OM w0 w b6 b9 b10 op x) : w.cell? ⟨b9, 0, none⟩ = some (.int .u8 x.op) ∧ w.cell? ⟨b9, 1, none⟩ = some (.int .i64 x.a) ∧ w.cell? ⟨b9, 2, none⟩ = some (.int .i64 x.num) ∧ w.cell? ⟨b9, 3, none⟩ = some (.string ⟨x.text.toArray⟩) ∧ w.frozen? ⟨b9, 1, none⟩ = false ∧ w.frozen? ⟨b9, 2, none⟩ = false ∧ w.frozen? ⟨b9, 3, none⟩ = false :=
 ⟨cellJ h.k9 0, cellJ h.k9 1, cellJ h.k9 2, cellJ h.k9 3, fzJ h.k9 1, fzJ h.k9 2, fzJ h.k9 3⟩
theorem OM.res (h : OM w0 w b6 b9 b10 op x) : w.cell? ⟨b6, 0, none⟩ = some (.int .u8 0) ∧ w.cell? ⟨b6, 1, none⟩ = some (.int .i64 0) ∧ w.cell? ⟨b6, 2, none⟩ = some (.int .i64 0) ∧ w.cell? ⟨b6, 3, none⟩ = some (.string ⟨#[]⟩) ∧ w.frozen? ⟨b6, 0, none⟩ = false ∧ w.frozen? ⟨b6, 1, none⟩ = false ∧ w.frozen? ⟨b6, 2, none⟩ = false ∧ w.frozen? ⟨b6, 3, none⟩ = false :=
 ⟨cellJ h.k6 0, cellJ h.k6 1, cellJ h.k6 2, cellJ h.k6 3, fzJ h.k6 0, fzJ h.k6 1, fzJ h.k6 2, fzJ h.k6 3⟩
theorem results_one {W : World} {b : Nat} {x : Ins} {to code : Int} {tmps : Array Value} (h6 : tmps.getD 6 undef = .pointer (some ⟨b, 0, none⟩)) (h7 : tmps.getD 7 undef = .int .i64 to) (h8 : tmps.getD 8 undef = .int .i64 code) (hc : W.heap[b]? = some (.cells #[.int .u8 x.op, .int .i64 x.a, .int .i64 x.num, .string ⟨x.text.toArray⟩] 40 (0, 0))) :
   (results Tryd.f12 tmps).run Tryd.prog W = .ok (.tuple #[insV x, .int .i64 to, .int .i64 code]) W := by
 have c0 := cellJ hc 0; have c1 := cellJ hc 1; have c2 := cellJ hc 2; have c3 := cellJ hc 3;simp only [List.getElem?_toArray, List.getElem?_cons_succ, List.getElem?_cons_zero] at c0 c1 c2 c3;have h6' : tmps[6]?.getD undef = .pointer (some ⟨b, 0, none⟩) := by simpa using h6
 have h7' : tmps[7]?.getD undef = .int .i64 to := by simpa using h7
 have h8' : tmps[8]?.getD undef = .int .i64 code := by simpa using h8
 unfold insV;simp [results, Tryd.results12, go_sem, h6', h7', h8', c0, c1, c2, c3]
theorem tok_le {L : Nat} {r : Rn} (h : textCode L r = 0) : r.v ≤ L := by
 unfold textCode at h;split at h
 · split at h
   · cases h
   · omega
 · rename_i q
   exact absurd h q
def OneP (Z : InR) (w : World) (e : Ending) (w' : World) : Prop := Below w.heap.size w w' ∧ ∃ x, e = .returned (.tuple #[insV x, .int .i64 Z.to, .int .i64 Z.code]) ∧ (Z.code = 0 → x = Z.x)
set_option maxRecDepth 20000 in
set_option maxHeartbeats 4000000 in
theorem one_any {p n : Nat} (h : By w a L f) (hlc : L ≤ cap) (hcm : cap ≤ 9223372036854775807) (hnl : a = none → cap = 0) (hL : L ≤ 20000) (hp : p ≤ L) (hn : n ≤ 8192) : Calls Tryd.prog 12 #[.slice a L cap, .int .i64 p, .int .i64 n] w (OneP (insR f L n p) w) := by
 obtain ⟨Z, hZ⟩ := exHid (insR f L n p);rw [hZ.out];have hz := hZ.out;unfold insR at hz;have N6 := heap_alloc_new w (.cells #[.int .u8 0, .int .i64 0, .int .i64 0, .string ⟨#[]⟩] 40);have B6 := (Below.refl w.heap.size w).alloc (Nat.le_refl _) (.cells #[.int .u8 0, .int .i64 0, .int .i64 0, .string ⟨#[]⟩] 40);by_cases c0 : L ≤ p
 · rw [if_pos c0] at hz
   have c0i : (L : Int) ≤ (p : Int) := by omega
   replace hz := Lib.hid hz;replace N6 := Lib.hid N6;replace B6 := Lib.hid B6;clear h;go_enter Tryd.func12, Tryd.ntmps12
   go_wp2_with fail
   refine bodyPost_ret (results_one (x := zeroI) rfl rfl rfl N6.out) rfl ⟨B6.out, zeroI, ?_, fun h => ?_⟩
   · first | (rw [← hz.out]; done) | (rw [← hz.out]; rfl)
   · first | (rw [← hz.out]; done) | (rw [← hz.out]; rfl)
 · rw [if_neg c0] at hz
   have c0i : ¬ (L : Int) ≤ (p : Int) := by omega
   have c0j : (p : Int) < (L : Int) := by omega
   have c0k : (0 : Int) ≤ (p : Int) := by omega
   obtain ⟨bb, off, rfl, hbb, hcc⟩ := id h (by omega);obtain ⟨yp, hfp⟩ := hcc p (by omega);obtain ⟨op, hop⟩ := exHid (f p);rw [hop.out] at hz hfp yp;have yp1 := Below.keeps B6 yp;have hBy := Lib.hid (fun (W : World) (hb : Below w.heap.size w W) => h.kept (F := fun _ => False) (Only.of_below hb) (fun _ _ _ e => e));have hlt := Lib.hid (fun q (hq : q ≤ L) => numR_range hq (fun j _ hj => h.lt j hj));have hB6 := Lib.hid B6;replace N6 := Lib.hid N6;have hlen : (L : Int) ≤ 20000 := by omega
   clear hcc B6 h yp;go_enter Tryd.func12, Tryd.ntmps12
   go_wp2_with fail
   generalize hw1 : w.alloc (.cells #[.int .u8 0, .int .i64 0, .int .i64 0, .string ⟨#[]⟩] 40) = w1 at *;have hs1 := Lib.hid (show w1.heap.size = w.heap.size + 1 by rw [← hw1]; simp);replace hw1 := Lib.hid hw1;have N9 := heap_alloc_new w1 (.cells #[.int .u8 op, .int .i64 0, .int .i64 0, .string ⟨#[]⟩] 40);have B9 := (Below.refl w1.heap.size w1).alloc (Nat.le_refl _) (.cells #[.int .u8 op, .int .i64 0, .int .i64 0, .string ⟨#[]⟩] 40);obtain ⟨K, hK⟩ := exHid ((akI op : Nat) : Int);obtain ⟨b23, hb23⟩ := exHid (op == 23);obtain ⟨b24, hb24⟩ := exHid (op == 24);obtain ⟨bN, hbN⟩ := exHid (nameI op);have kOf := fun W => Of_any op W
   unfold rowV at kOf;rw [hK.out, hb23.out, hb24.out, hbN.out] at kOf;refine (kOf _).mono ?_;rintro e w4 ⟨rfl, hb4⟩;have B10 := hb4.trans (((Below.refl w4.heap.size w4).alloc (Nat.le_refl _) (.cells #[.string ⟨(wordI op).toArray⟩, .int .i64 K, .bool b23, .bool b24, .bool bN, .int .i64 (takesR op), .int .i64 (leaveR op)] 54)).mono hb4.size);have hO : Hid (OM w (w4.alloc (.cells #[.string ⟨(wordI op).toArray⟩, .int .i64 K, .bool b23, .bool b24, .bool bN, .int .i64 (takesR op), .int .i64 (leaveR op)] 54)) w.heap.size (w.heap.size + 1) w4.heap.size #[.string ⟨(wordI op).toArray⟩, .int .i64 K, .bool b23, .bool b24, .bool bN, .int .i64 (takesR op), .int .i64 (leaveR op)] ⟨op, 0, 0, []⟩) := Lib.hid (by
     have hz9 := (Array.getElem?_eq_some_iff.1 N9).1;have hz4 := hb4.size;have hz6 := hB6.out.size;have hs1 := hs1.out;rw [hs1] at N9 hz9;exact ⟨hB6.out.trans ((B9.mono hz6).trans (B10.mono (Nat.le_trans hz6 B9.size))), heldJ (F := fun _ => False) (Only.of_below B10) (heldJ (F := fun _ => False) (Only.of_below B9) N6.out (fun e => e)) (fun e => e), heldJ (F := fun _ => False) (Only.of_below B10) N9 (fun e => e), heap_alloc_new w4 _, Nat.le_refl _, by omega, by omega, by omega, by omega⟩)
   have fin : Hid (∀ (W : World) (y : Ins), OM w W w.heap.size (w.heap.size + 1) w4.heap.size #[.string ⟨(wordI op).toArray⟩, .int .i64 K, .bool b23, .bool b24, .bool bN, .int .i64 (takesR op), .int .i64 (leaveR op)] y → ((((W.setCell ⟨w.heap.size, 0, none⟩ (.int .u8 y.op)).setCell ⟨w.heap.size, 1, none⟩ (.int .i64 y.a)).setCell ⟨w.heap.size, 2, none⟩ (.int .i64 y.num)).setCell ⟨w.heap.size, 3, none⟩ (.string ⟨y.text.toArray⟩)).heap[w.heap.size]? = some (.cells #[.int .u8 y.op, .int .i64 y.a, .int .i64 y.num, .string ⟨y.text.toArray⟩] 40 (0, 0)) ∧ Below w.heap.size w ((((W.setCell ⟨w.heap.size, 0, none⟩ (.int .u8 y.op)).setCell ⟨w.heap.size, 1, none⟩ (.int .i64 y.a)).setCell ⟨w.heap.size, 2, none⟩ (.int .i64 y.num)).setCell ⟨w.heap.size, 3, none⟩ (.string ⟨y.text.toArray⟩))) := Lib.hid (fun W y h => h.out _ _ _ _);clear kOf;generalize hg6 : w.heap.size = b6 at *;generalize hg9 : b6 + 1 = b9 at *;generalize hg10 : w4.heap.size = b10 at *;clear N9 B9 hb4 B10 hB6 N6 yp1 hs1;obtain ⟨z0, z1, z2, z3⟩ := hO.out.row;obtain ⟨y0, y1, y2, y3, g1, g2, g3⟩ := hO.out.ins;obtain ⟨x0, x1, x2, x3, k0, k1, k2, k3⟩ := hO.out.res;have hn23 : op = 23 → akI op = 0 ∧ (op == 24) = false ∧ nameI op = false := fun e => by subst e; exact ⟨rfl, rfl, rfl⟩
   have h24 : op = 24 → akI op = 0 ∧ ¬ op = 23 := fun e => by subst e; exact ⟨rfl, by decide⟩
   replace hn23 := Lib.hid hn23;replace h24 := Lib.hid h24;replace hz := Lib.hid hz;have hpc := Lib.hid (show ((p : Int) + 1) = ((p + 1 : Nat) : Int) by omega);by_cases hA : akI op = 0
   · have hK0 : K = 0 := by rw [← hK.out, hA]; rfl
     subst hK0;by_cases hN : op = 23
     · obtain ⟨_, h4, hm⟩ := hn23.out hN
       have e23 : b23 = true := by rw [← hb23.out]; exact beq_iff_eq.2 hN
       have e24 : b24 = false := by rw [← hb24.out]; exact h4
       have eN : bN = false := by rw [← hbN.out]; exact hm
       subst e23 e24 eN;have hTx : hasText op = false := by unfold hasText; rw [h4, hm]; rfl
       have hz' := hz.out;simp only [aR, nR, tTo, tCode, tText, noneR, if_pos hA, if_pos hN, hTx, ↓reduceIte, Bool.false_eq_true, ne_eq, not_true_eq_false] at hz';replace hz := Lib.hid hz';clear hz';replace hA := Lib.hid hA;replace h4 := Lib.hid h4
       try replace hm := Lib.hid hm
       try replace hTx := Lib.hid hTx
       replace hN := Lib.hid hN;clear hn23 h24;obtain ⟨r2, hr2⟩ := exHid (numR f L (p + 1));have kA := refInt_any5 (hBy.out _ (by rw [← hg6]; exact hO.out.b)) hlc hcm hL (show (p + 1) ≤ L by omega);have hrr := hlt.out (p + 1) (by omega);have hzz := hz.out;rw [hr2.out] at kA hrr hzz;rw [← hpc.out] at kA;obtain ⟨v2, t2, c2⟩ := r2;dsimp only at kA hrr hzz;have ht2 : t2 ≤ L := hrr.2.1;have hv2 := Lib.hid hrr.1;clear hrr;obtain ⟨U, hU⟩ := exHid (unfN v2)
       skip
       replace kA := Lib.hid kA;by_cases e2 : c2 ≠ 0
       · rw [if_pos e2] at hzz
         replace hz := Lib.hid hzz;have qe : ((c2 : Int) != 0) = true := bne_iff_ne.2 (by omega);replace e2 := Lib.hid e2;clear hzz;go_wp2_with fail
         refine kA.out.mono ?_;rintro e w5 ⟨rfl, hwe⟩;subst hwe;have hO := Lib.hid (hO.out.setN (unfN v2));dsimp only at hO;clear kA z0 z1 z2 z3 x0 x1 x2 x3 k0 k1 k2 k3;obtain ⟨z0, z1, z2, z3⟩ := hO.out.row;obtain ⟨y0', y1', y2', y3', g1', g2', g3'⟩ := hO.out.ins;obtain ⟨x0, x1, x2, x3, k0, k1, k2, k3⟩ := hO.out.res;have E := Lib.hid (fin.out _ _ hO.out);go_wp2_with fail
         refine bodyPost_ret (results_one (x := ⟨op, 0, (unfN v2), []⟩) rfl rfl rfl E.out.1) rfl ⟨(by rw [hg6]; exact E.out.2), ⟨op, 0, (unfN v2), []⟩, ?_, fun h => ?_⟩
         · first | (rw [← hz.out]; done) | (rw [← hz.out]; rfl)
         · rw [← hz.out] at h; exact absurd h e2.out
       · rw [if_neg e2] at hzz
         replace hz := Lib.hid hzz;have hc2 : c2 = 0 := by omega
         subst hc2;clear hzz e2;go_wp2_with fail
         refine kA.out.mono ?_;rintro e w5 ⟨rfl, hwe⟩;subst hwe;have hO := Lib.hid (hO.out.setN (unfN v2));dsimp only at hO;clear kA z0 z1 z2 z3 x0 x1 x2 x3 k0 k1 k2 k3;obtain ⟨z0, z1, z2, z3⟩ := hO.out.row;obtain ⟨m0, m1, m2, m3, n1, n2, n3⟩ := hO.out.ins;obtain ⟨x0, x1, x2, x3, k0, k1, k2, k3⟩ := hO.out.res;have hOs := hO;have hO := Lib.hid (hOs.out.setA 0);dsimp only at hO;clear z0 z1 z2 z3 x0 x1 x2 x3 k0 k1 k2 k3;obtain ⟨z0, z1, z2, z3⟩ := hO.out.row;obtain ⟨y0', y1', y2', y3', g1', g2', g3'⟩ := hO.out.ins;obtain ⟨x0, x1, x2, x3, k0, k1, k2, k3⟩ := hO.out.res;have hfit : FitIns ⟨op, 0, (unfN v2), []⟩ := ⟨by show ([] : List UInt8).length ≤ _; decide, ⟨by show (-9223372036854775808 : Int) ≤ 0; decide, by show (0 : Int) ≤ 9223372036854775807; decide⟩, unf_range hv2.out, hfp⟩;have kR := fun W => refRight_any ⟨op, 0, (unfN v2), []⟩ hfit (n : Int) W
         unfold insV at kR;dsimp only at kR;obtain ⟨B, hB⟩ := exHid (rightI ⟨op, 0, (unfN v2), []⟩ n);have hzz := hz.out;have hzero : ((0 : Nat) : Int) = 0 := rfl;rw [hzero] at hzz
         skip
         skip
         rw [hB.out] at hzz;simp only [hB.out] at kR;replace kR := Lib.hid kR;replace hz := Lib.hid hzz;clear hzz hfit;cases B with
         | true =>
           have hzz := hz.out;simp only [↓reduceIte] at hzz;replace hz := Lib.hid hzz;clear hzz;go_wp2_with fail
           refine (kR.out _).mono ?_;rintro e w20 ⟨rfl, hb20⟩;have hO := Lib.hid (hO.out.below hb20);clear kR hb20 hOs z0 z1 z2 z3 y0 y1 y2 y3 g1 g2 g3 y0' y1' y2' y3' g1' g2' g3' x0 x1 x2 x3 k0 k1 k2 k3;obtain ⟨z0, z1, z2, z3⟩ := hO.out.row;obtain ⟨y0, y1, y2, y3, g1, g2, g3⟩ := hO.out.ins;obtain ⟨x0, x1, x2, x3, k0, k1, k2, k3⟩ := hO.out.res;have E := Lib.hid (fin.out _ _ hO.out);go_wp2_with fail
           refine bodyPost_ret (results_one (x := ⟨op, 0, (unfN v2), []⟩) rfl rfl rfl E.out.1) rfl ⟨(by rw [hg6]; exact E.out.2), ⟨op, 0, (unfN v2), []⟩, ?_, fun h => ?_⟩
           · first | (rw [← hz.out]; done) | (rw [← hz.out]; rfl)
           · first | (rw [← hz.out]; done) | (rw [← hz.out]; rfl)
         | false =>
           have hzz := hz.out;simp only [Bool.false_eq_true, ↓reduceIte] at hzz;replace hz := Lib.hid hzz;clear hzz;go_wp2_with fail
           refine (kR.out _).mono ?_;rintro e w20 ⟨rfl, hb20⟩;have hO := Lib.hid (hO.out.below hb20);clear kR hb20 hOs z0 z1 z2 z3 y0 y1 y2 y3 g1 g2 g3 y0' y1' y2' y3' g1' g2' g3' x0 x1 x2 x3 k0 k1 k2 k3;obtain ⟨z0, z1, z2, z3⟩ := hO.out.row;obtain ⟨y0, y1, y2, y3, g1, g2, g3⟩ := hO.out.ins;obtain ⟨x0, x1, x2, x3, k0, k1, k2, k3⟩ := hO.out.res;have E := Lib.hid (fin.out _ _ hO.out);go_wp2_with fail
           refine bodyPost_ret (results_one (x := ⟨op, 0, (unfN v2), []⟩) rfl rfl rfl E.out.1) rfl ⟨(by rw [hg6]; exact E.out.2), ⟨op, 0, (unfN v2), []⟩, ?_, fun h => ?_⟩
           · first | (rw [← hz.out]; done) | (rw [← hz.out]; rfl)
           · rw [← hz.out] at h; cases h
     · have e23 : b23 = false := by rw [← hb23.out]; exact beq_eq_false_iff_ne.2 hN
       subst e23;cases h4 : (op == 24) with
       | true =>
         have e24 : b24 = true := by rw [← hb24.out]; exact h4
         subst e24;have hTx : hasText op = true := by unfold hasText; rw [h4]; rfl
         have hz' := hz.out;simp only [aR, nR, tTo, tCode, tText, noneR, if_pos hA, if_neg hN, hTx, ↓reduceIte, Bool.false_eq_true, ne_eq, not_true_eq_false] at hz';replace hz := Lib.hid hz';clear hz';replace hA := Lib.hid hA;replace h4 := Lib.hid h4
         try replace hm := Lib.hid hm
         try replace hTx := Lib.hid hTx
         replace hN := Lib.hid hN;clear hn23 h24;obtain ⟨r3, hr3⟩ := exHid (numR f L (p + 1));have kA := refText_any5 (hBy.out _ (by rw [← hg6]; exact hO.out.b)) hlc hcm hnl hL (show (p + 1) ≤ L by omega);have hrr := hlt.out (p + 1) (by omega);have hzz := hz.out;rw [hr3.out] at kA hrr hzz;rw [← hpc.out] at kA;obtain ⟨v3, t3, c3⟩ := r3;obtain ⟨tt, htt⟩ := exHid (textTo L ⟨v3, t3, c3⟩);obtain ⟨tc, htc⟩ := exHid (textCode L ⟨v3, t3, c3⟩);have htok : tc = 0 → v3 ≤ L := fun e => tok_le (r := ⟨v3, t3, c3⟩) (htc.out.trans e)
         have hTV : textV f L ⟨v3, t3, c3⟩ = if tc = 0 then .string (textB f t3 v3) else .string ⟨#[]⟩ := by rw [← htc.out]; rfl
         rw [hTV, htt.out, htc.out] at kA;rw [htt.out, htc.out] at hzz;dsimp only at hzz;clear hrr hTV;by_cases e3 : tc ≠ 0
         · rw [if_neg (fun h => e3 h)] at kA
           rw [if_pos e3] at hzz;replace kA := Lib.hid kA;replace hz := Lib.hid hzz;have qe : ((tc : Int) != 0) = true := bne_iff_ne.2 (by omega);replace e3 := Lib.hid e3;clear hzz htok;go_wp2_with fail
           refine kA.out.mono ?_;rintro e w5 ⟨rfl, hwe⟩;subst hwe;have hO := Lib.hid (hO.out.setT []);dsimp only at hO;clear kA z0 z1 z2 z3 x0 x1 x2 x3 k0 k1 k2 k3;obtain ⟨z0, z1, z2, z3⟩ := hO.out.row;obtain ⟨y0', y1', y2', y3', g1', g2', g3'⟩ := hO.out.ins;obtain ⟨x0, x1, x2, x3, k0, k1, k2, k3⟩ := hO.out.res;have E := Lib.hid (fin.out _ _ hO.out);go_wp2_with fail
           refine bodyPost_ret (results_one (x := ⟨op, 0, 0, []⟩) rfl rfl rfl E.out.1) rfl ⟨(by rw [hg6]; exact E.out.2), ⟨op, 0, 0, []⟩, ?_, fun h => ?_⟩
           · first | (rw [← hz.out]; done) | (rw [← hz.out]; rfl)
           · rw [← hz.out] at h; exact absurd h e3.out
         · have htc0 : tc = 0 := by omega
           have hTok := Lib.hid (htok htc0);subst htc0;rw [if_pos rfl] at kA;rw [if_neg e3] at hzz;unfold textB at kA;replace kA := Lib.hid kA;replace hz := Lib.hid hzz;clear hzz e3 htok;go_wp2_with fail
           refine kA.out.mono ?_;rintro e w5 ⟨rfl, hwe⟩;subst hwe;have hO := Lib.hid (hO.out.setT (textL f t3 v3));dsimp only at hO;clear kA z0 z1 z2 z3 x0 x1 x2 x3 k0 k1 k2 k3;obtain ⟨z0, z1, z2, z3⟩ := hO.out.row;obtain ⟨m0, m1, m2, m3, n1, n2, n3⟩ := hO.out.ins;obtain ⟨x0, x1, x2, x3, k0, k1, k2, k3⟩ := hO.out.res;have hOs := hO;have hO := Lib.hid (hOs.out.setA 0);dsimp only at hO;clear z0 z1 z2 z3 x0 x1 x2 x3 k0 k1 k2 k3;obtain ⟨z0, z1, z2, z3⟩ := hO.out.row;obtain ⟨y0', y1', y2', y3', g1', g2', g3'⟩ := hO.out.ins;obtain ⟨x0, x1, x2, x3, k0, k1, k2, k3⟩ := hO.out.res;have hfit : FitIns ⟨op, 0, 0, (textL f t3 v3)⟩ := ⟨by rw [textL_length]; have := hTok.out; omega, ⟨by show (-9223372036854775808 : Int) ≤ 0; decide, by show (0 : Int) ≤ 9223372036854775807; decide⟩, ⟨by show (-9223372036854775808 : Int) ≤ 0; decide, by show (0 : Int) ≤ 9223372036854775807; decide⟩, hfp⟩;have kR := fun W => refRight_any ⟨op, 0, 0, (textL f t3 v3)⟩ hfit (n : Int) W
           unfold insV at kR;dsimp only at kR;obtain ⟨B, hB⟩ := exHid (rightI ⟨op, 0, 0, (textL f t3 v3)⟩ n);have hzz := hz.out;have hzero : ((0 : Nat) : Int) = 0 := rfl;rw [hzero] at hzz;have hun : unfN 0 = 0 := by decide
           rw [hun] at hzz;rw [hB.out] at hzz;simp only [hB.out] at kR;replace kR := Lib.hid kR;replace hz := Lib.hid hzz;clear hzz hfit;cases B with
           | true =>
             have hzz := hz.out;simp only [↓reduceIte] at hzz;replace hz := Lib.hid hzz;clear hzz;go_wp2_with fail
             refine (kR.out _).mono ?_;rintro e w20 ⟨rfl, hb20⟩;have hO := Lib.hid (hO.out.below hb20);clear kR hb20 hOs z0 z1 z2 z3 y0 y1 y2 y3 g1 g2 g3 y0' y1' y2' y3' g1' g2' g3' x0 x1 x2 x3 k0 k1 k2 k3;obtain ⟨z0, z1, z2, z3⟩ := hO.out.row;obtain ⟨y0, y1, y2, y3, g1, g2, g3⟩ := hO.out.ins;obtain ⟨x0, x1, x2, x3, k0, k1, k2, k3⟩ := hO.out.res;have E := Lib.hid (fin.out _ _ hO.out);go_wp2_with fail
             refine bodyPost_ret (results_one (x := ⟨op, 0, 0, (textL f t3 v3)⟩) rfl rfl rfl E.out.1) rfl ⟨(by rw [hg6]; exact E.out.2), ⟨op, 0, 0, (textL f t3 v3)⟩, ?_, fun h => ?_⟩
             · first | (rw [← hz.out]; done) | (rw [← hz.out]; rfl)
             · first | (rw [← hz.out]; done) | (rw [← hz.out]; rfl)
           | false =>
             have hzz := hz.out;simp only [Bool.false_eq_true, ↓reduceIte] at hzz;replace hz := Lib.hid hzz;clear hzz;go_wp2_with fail
             refine (kR.out _).mono ?_;rintro e w20 ⟨rfl, hb20⟩;have hO := Lib.hid (hO.out.below hb20);clear kR hb20 hOs z0 z1 z2 z3 y0 y1 y2 y3 g1 g2 g3 y0' y1' y2' y3' g1' g2' g3' x0 x1 x2 x3 k0 k1 k2 k3;obtain ⟨z0, z1, z2, z3⟩ := hO.out.row;obtain ⟨y0, y1, y2, y3, g1, g2, g3⟩ := hO.out.ins;obtain ⟨x0, x1, x2, x3, k0, k1, k2, k3⟩ := hO.out.res;have E := Lib.hid (fin.out _ _ hO.out);go_wp2_with fail
             refine bodyPost_ret (results_one (x := ⟨op, 0, 0, (textL f t3 v3)⟩) rfl rfl rfl E.out.1) rfl ⟨(by rw [hg6]; exact E.out.2), ⟨op, 0, 0, (textL f t3 v3)⟩, ?_, fun h => ?_⟩
             · first | (rw [← hz.out]; done) | (rw [← hz.out]; rfl)
             · rw [← hz.out] at h; cases h
       | false =>
         have e24 : b24 = false := by rw [← hb24.out]; exact h4
         subst e24;cases hm : nameI op with
         | true =>
           have eN : bN = true := by rw [← hbN.out]; exact hm
           subst eN;have hTx : hasText op = true := by unfold hasText; rw [h4, hm]; rfl
           have hz' := hz.out;simp only [aR, nR, tTo, tCode, tText, noneR, if_pos hA, if_neg hN, hTx, ↓reduceIte, Bool.false_eq_true, ne_eq, not_true_eq_false] at hz';replace hz := Lib.hid hz';clear hz';replace hA := Lib.hid hA;replace h4 := Lib.hid h4
           try replace hm := Lib.hid hm
           try replace hTx := Lib.hid hTx
           replace hN := Lib.hid hN;clear hn23 h24;obtain ⟨r3, hr3⟩ := exHid (numR f L (p + 1));have kA := refText_any5 (hBy.out _ (by rw [← hg6]; exact hO.out.b)) hlc hcm hnl hL (show (p + 1) ≤ L by omega);have hrr := hlt.out (p + 1) (by omega);have hzz := hz.out;rw [hr3.out] at kA hrr hzz;rw [← hpc.out] at kA;obtain ⟨v3, t3, c3⟩ := r3;obtain ⟨tt, htt⟩ := exHid (textTo L ⟨v3, t3, c3⟩);obtain ⟨tc, htc⟩ := exHid (textCode L ⟨v3, t3, c3⟩);have htok : tc = 0 → v3 ≤ L := fun e => tok_le (r := ⟨v3, t3, c3⟩) (htc.out.trans e)
           have hTV : textV f L ⟨v3, t3, c3⟩ = if tc = 0 then .string (textB f t3 v3) else .string ⟨#[]⟩ := by rw [← htc.out]; rfl
           rw [hTV, htt.out, htc.out] at kA;rw [htt.out, htc.out] at hzz;dsimp only at hzz;clear hrr hTV;by_cases e3 : tc ≠ 0
           · rw [if_neg (fun h => e3 h)] at kA
             rw [if_pos e3] at hzz;replace kA := Lib.hid kA;replace hz := Lib.hid hzz;have qe : ((tc : Int) != 0) = true := bne_iff_ne.2 (by omega);replace e3 := Lib.hid e3;clear hzz htok;go_wp2_with fail
             refine kA.out.mono ?_;rintro e w5 ⟨rfl, hwe⟩;subst hwe;have hO := Lib.hid (hO.out.setT []);dsimp only at hO;clear kA z0 z1 z2 z3 x0 x1 x2 x3 k0 k1 k2 k3;obtain ⟨z0, z1, z2, z3⟩ := hO.out.row;obtain ⟨y0', y1', y2', y3', g1', g2', g3'⟩ := hO.out.ins;obtain ⟨x0, x1, x2, x3, k0, k1, k2, k3⟩ := hO.out.res;have E := Lib.hid (fin.out _ _ hO.out);go_wp2_with fail
             refine bodyPost_ret (results_one (x := ⟨op, 0, 0, []⟩) rfl rfl rfl E.out.1) rfl ⟨(by rw [hg6]; exact E.out.2), ⟨op, 0, 0, []⟩, ?_, fun h => ?_⟩
             · first | (rw [← hz.out]; done) | (rw [← hz.out]; rfl)
             · rw [← hz.out] at h; exact absurd h e3.out
           · have htc0 : tc = 0 := by omega
             have hTok := Lib.hid (htok htc0);subst htc0;rw [if_pos rfl] at kA;rw [if_neg e3] at hzz;unfold textB at kA;replace kA := Lib.hid kA;replace hz := Lib.hid hzz;clear hzz e3 htok;go_wp2_with fail
             refine kA.out.mono ?_;rintro e w5 ⟨rfl, hwe⟩;subst hwe;have hO := Lib.hid (hO.out.setT (textL f t3 v3));dsimp only at hO;clear kA z0 z1 z2 z3 x0 x1 x2 x3 k0 k1 k2 k3;obtain ⟨z0, z1, z2, z3⟩ := hO.out.row;obtain ⟨m0, m1, m2, m3, n1, n2, n3⟩ := hO.out.ins;obtain ⟨x0, x1, x2, x3, k0, k1, k2, k3⟩ := hO.out.res;have hOs := hO;have hO := Lib.hid (hOs.out.setA 0);dsimp only at hO;clear z0 z1 z2 z3 x0 x1 x2 x3 k0 k1 k2 k3;obtain ⟨z0, z1, z2, z3⟩ := hO.out.row;obtain ⟨y0', y1', y2', y3', g1', g2', g3'⟩ := hO.out.ins;obtain ⟨x0, x1, x2, x3, k0, k1, k2, k3⟩ := hO.out.res;have hfit : FitIns ⟨op, 0, 0, (textL f t3 v3)⟩ := ⟨by rw [textL_length]; have := hTok.out; omega, ⟨by show (-9223372036854775808 : Int) ≤ 0; decide, by show (0 : Int) ≤ 9223372036854775807; decide⟩, ⟨by show (-9223372036854775808 : Int) ≤ 0; decide, by show (0 : Int) ≤ 9223372036854775807; decide⟩, hfp⟩;have kR := fun W => refRight_any ⟨op, 0, 0, (textL f t3 v3)⟩ hfit (n : Int) W
             unfold insV at kR;dsimp only at kR;obtain ⟨B, hB⟩ := exHid (rightI ⟨op, 0, 0, (textL f t3 v3)⟩ n);have hzz := hz.out;have hzero : ((0 : Nat) : Int) = 0 := rfl;rw [hzero] at hzz;have hun : unfN 0 = 0 := by decide
             rw [hun] at hzz;rw [hB.out] at hzz;simp only [hB.out] at kR;replace kR := Lib.hid kR;replace hz := Lib.hid hzz;clear hzz hfit;cases B with
             | true =>
               have hzz := hz.out;simp only [↓reduceIte] at hzz;replace hz := Lib.hid hzz;clear hzz;go_wp2_with fail
               refine (kR.out _).mono ?_;rintro e w20 ⟨rfl, hb20⟩;have hO := Lib.hid (hO.out.below hb20);clear kR hb20 hOs z0 z1 z2 z3 y0 y1 y2 y3 g1 g2 g3 y0' y1' y2' y3' g1' g2' g3' x0 x1 x2 x3 k0 k1 k2 k3;obtain ⟨z0, z1, z2, z3⟩ := hO.out.row;obtain ⟨y0, y1, y2, y3, g1, g2, g3⟩ := hO.out.ins;obtain ⟨x0, x1, x2, x3, k0, k1, k2, k3⟩ := hO.out.res;have E := Lib.hid (fin.out _ _ hO.out);go_wp2_with fail
               refine bodyPost_ret (results_one (x := ⟨op, 0, 0, (textL f t3 v3)⟩) rfl rfl rfl E.out.1) rfl ⟨(by rw [hg6]; exact E.out.2), ⟨op, 0, 0, (textL f t3 v3)⟩, ?_, fun h => ?_⟩
               · first | (rw [← hz.out]; done) | (rw [← hz.out]; rfl)
               · first | (rw [← hz.out]; done) | (rw [← hz.out]; rfl)
             | false =>
               have hzz := hz.out;simp only [Bool.false_eq_true, ↓reduceIte] at hzz;replace hz := Lib.hid hzz;clear hzz;go_wp2_with fail
               refine (kR.out _).mono ?_;rintro e w20 ⟨rfl, hb20⟩;have hO := Lib.hid (hO.out.below hb20);clear kR hb20 hOs z0 z1 z2 z3 y0 y1 y2 y3 g1 g2 g3 y0' y1' y2' y3' g1' g2' g3' x0 x1 x2 x3 k0 k1 k2 k3;obtain ⟨z0, z1, z2, z3⟩ := hO.out.row;obtain ⟨y0, y1, y2, y3, g1, g2, g3⟩ := hO.out.ins;obtain ⟨x0, x1, x2, x3, k0, k1, k2, k3⟩ := hO.out.res;have E := Lib.hid (fin.out _ _ hO.out);go_wp2_with fail
               refine bodyPost_ret (results_one (x := ⟨op, 0, 0, (textL f t3 v3)⟩) rfl rfl rfl E.out.1) rfl ⟨(by rw [hg6]; exact E.out.2), ⟨op, 0, 0, (textL f t3 v3)⟩, ?_, fun h => ?_⟩
               · first | (rw [← hz.out]; done) | (rw [← hz.out]; rfl)
               · rw [← hz.out] at h; cases h
         | false =>
           have eN : bN = false := by rw [← hbN.out]; exact hm
           subst eN;have hTx : hasText op = false := by unfold hasText; rw [h4, hm]; rfl
           have hz' := hz.out;simp only [aR, nR, tTo, tCode, tText, noneR, if_pos hA, if_neg hN, hTx, ↓reduceIte, Bool.false_eq_true, ne_eq, not_true_eq_false] at hz';replace hz := Lib.hid hz';clear hz';replace hA := Lib.hid hA;replace h4 := Lib.hid h4
           try replace hm := Lib.hid hm
           try replace hTx := Lib.hid hTx
           replace hN := Lib.hid hN;clear hn23 h24;have hOs := hO;have hO := Lib.hid (hOs.out.setA 0);dsimp only at hO;clear z0 z1 z2 z3 x0 x1 x2 x3 k0 k1 k2 k3;obtain ⟨z0, z1, z2, z3⟩ := hO.out.row;obtain ⟨y0', y1', y2', y3', g1', g2', g3'⟩ := hO.out.ins;obtain ⟨x0, x1, x2, x3, k0, k1, k2, k3⟩ := hO.out.res;have hfit : FitIns ⟨op, 0, 0, []⟩ := ⟨by show ([] : List UInt8).length ≤ _; decide, ⟨by show (-9223372036854775808 : Int) ≤ 0; decide, by show (0 : Int) ≤ 9223372036854775807; decide⟩, ⟨by show (-9223372036854775808 : Int) ≤ 0; decide, by show (0 : Int) ≤ 9223372036854775807; decide⟩, hfp⟩;have kR := fun W => refRight_any ⟨op, 0, 0, []⟩ hfit (n : Int) W
           unfold insV at kR;dsimp only at kR;obtain ⟨B, hB⟩ := exHid (rightI ⟨op, 0, 0, []⟩ n);have hzz := hz.out;have hzero : ((0 : Nat) : Int) = 0 := rfl;rw [hzero] at hzz;have hun : unfN 0 = 0 := by decide
           rw [hun] at hzz;rw [hB.out] at hzz;simp only [hB.out] at kR;replace kR := Lib.hid kR;replace hz := Lib.hid hzz;clear hzz hfit;cases B with
           | true =>
             have hzz := hz.out;simp only [↓reduceIte] at hzz;replace hz := Lib.hid hzz;clear hzz;go_wp2_with fail
             refine (kR.out _).mono ?_;rintro e w20 ⟨rfl, hb20⟩;have hO := Lib.hid (hO.out.below hb20);clear kR hb20 hOs z0 z1 z2 z3 y0 y1 y2 y3 g1 g2 g3 y0' y1' y2' y3' g1' g2' g3' x0 x1 x2 x3 k0 k1 k2 k3;obtain ⟨z0, z1, z2, z3⟩ := hO.out.row;obtain ⟨y0, y1, y2, y3, g1, g2, g3⟩ := hO.out.ins;obtain ⟨x0, x1, x2, x3, k0, k1, k2, k3⟩ := hO.out.res;have E := Lib.hid (fin.out _ _ hO.out);go_wp2_with fail
             refine bodyPost_ret (results_one (x := ⟨op, 0, 0, []⟩) rfl rfl rfl E.out.1) rfl ⟨(by rw [hg6]; exact E.out.2), ⟨op, 0, 0, []⟩, ?_, fun h => ?_⟩
             · first | (rw [← hz.out]; done) | (rw [← hz.out]; rfl)
             · first | (rw [← hz.out]; done) | (rw [← hz.out]; rfl)
           | false =>
             have hzz := hz.out;simp only [Bool.false_eq_true, ↓reduceIte] at hzz;replace hz := Lib.hid hzz;clear hzz;go_wp2_with fail
             refine (kR.out _).mono ?_;rintro e w20 ⟨rfl, hb20⟩;have hO := Lib.hid (hO.out.below hb20);clear kR hb20 hOs z0 z1 z2 z3 y0 y1 y2 y3 g1 g2 g3 y0' y1' y2' y3' g1' g2' g3' x0 x1 x2 x3 k0 k1 k2 k3;obtain ⟨z0, z1, z2, z3⟩ := hO.out.row;obtain ⟨y0, y1, y2, y3, g1, g2, g3⟩ := hO.out.ins;obtain ⟨x0, x1, x2, x3, k0, k1, k2, k3⟩ := hO.out.res;have E := Lib.hid (fin.out _ _ hO.out);go_wp2_with fail
             refine bodyPost_ret (results_one (x := ⟨op, 0, 0, []⟩) rfl rfl rfl E.out.1) rfl ⟨(by rw [hg6]; exact E.out.2), ⟨op, 0, 0, []⟩, ?_, fun h => ?_⟩
             · first | (rw [← hz.out]; done) | (rw [← hz.out]; rfl)
             · rw [← hz.out] at h; cases h
   · have hN : ¬ op = 23 := fun e => hA (hn23.out e).1
     have h4 : (op == 24) = false := beq_eq_false_iff_ne.2 (fun e => hA (h24.out e).1);have e23 : b23 = false := by rw [← hb23.out]; exact beq_eq_false_iff_ne.2 hN
     have e24 : b24 = false := by rw [← hb24.out]; exact h4
     subst e23 e24;cases hm : nameI op with
     | true =>
       have eN : bN = true := by rw [← hbN.out]; exact hm
       subst eN;have qa : (K != 0) = true := bne_iff_ne.2 (by rw [← hK.out]; omega);have hTx : hasText op = true := by unfold hasText; rw [h4, hm]; rfl
       have hz' := hz.out;simp only [aR, nR, tTo, tCode, tText, noneR, if_neg hA, if_neg hN, hTx, ↓reduceIte, Bool.false_eq_true, ne_eq, not_true_eq_false] at hz';replace hz := Lib.hid hz';clear hz';replace hA := Lib.hid hA;replace h4 := Lib.hid h4
       try replace hm := Lib.hid hm
       try replace hTx := Lib.hid hTx
       replace hN := Lib.hid hN;clear hn23 h24;obtain ⟨r1, hr1⟩ := exHid (numR f L (p + 1));have kA := refUint_any (hBy.out _ (by rw [← hg6]; exact hO.out.b)) hlc hcm hL (show (p + 1) ≤ L by omega);have hrr := hlt.out (p + 1) (by omega);have hzz := hz.out;rw [hr1.out] at kA hrr hzz;rw [← hpc.out] at kA;obtain ⟨v1, t1, c1⟩ := r1;dsimp only at kA hrr hzz;have ht1 : t1 ≤ L := hrr.2.1;have hv1 := hrr.1;clear hrr;replace kA := Lib.hid kA;by_cases e1 : c1 ≠ 0
       · rw [if_pos e1] at hzz
         replace hz := Lib.hid hzz;have qe : ((c1 : Int) != 0) = true := bne_iff_ne.2 (by omega);replace e1 := Lib.hid e1;clear hzz;go_wp2_with fail
         refine kA.out.mono ?_;rintro e w5 ⟨rfl, hwe⟩;subst hwe;clear kA;have E := Lib.hid (fin.out _ _ hO.out);go_wp2_with fail
         refine bodyPost_ret (results_one (x := ⟨op, 0, 0, []⟩) rfl rfl rfl E.out.1) rfl ⟨(by rw [hg6]; exact E.out.2), ⟨op, 0, 0, []⟩, ?_, fun h => ?_⟩
         · first | (rw [← hz.out]; done) | (rw [← hz.out]; rfl)
         · rw [← hz.out] at h; exact absurd h e1.out
       · rw [if_neg e1] at hzz
         replace hz := Lib.hid hzz;have hc1 : c1 = 0 := by omega
         subst hc1;clear hzz e1;go_wp2_with fail
         refine kA.out.mono ?_;rintro e w5 ⟨rfl, hwe⟩;subst hwe;clear kA;obtain ⟨r3, hr3⟩ := exHid (numR f L t1);have kA := refText_any5 (hBy.out _ (by rw [← hg6]; exact hO.out.b)) hlc hcm hnl hL (show t1 ≤ L by omega);have hrr := hlt.out t1 (by omega);have hzz := hz.out;rw [hr3.out] at kA hrr hzz;obtain ⟨v3, t3, c3⟩ := r3;obtain ⟨tt, htt⟩ := exHid (textTo L ⟨v3, t3, c3⟩);obtain ⟨tc, htc⟩ := exHid (textCode L ⟨v3, t3, c3⟩);have htok : tc = 0 → v3 ≤ L := fun e => tok_le (r := ⟨v3, t3, c3⟩) (htc.out.trans e)
         have hTV : textV f L ⟨v3, t3, c3⟩ = if tc = 0 then .string (textB f t3 v3) else .string ⟨#[]⟩ := by rw [← htc.out]; rfl
         rw [hTV, htt.out, htc.out] at kA;rw [htt.out, htc.out] at hzz;dsimp only at hzz;clear hrr hTV;by_cases e3 : tc ≠ 0
         · rw [if_neg (fun h => e3 h)] at kA
           rw [if_pos e3] at hzz;replace kA := Lib.hid kA;replace hz := Lib.hid hzz;have qe : ((tc : Int) != 0) = true := bne_iff_ne.2 (by omega);replace e3 := Lib.hid e3;clear hzz htok;go_wp2_with fail
           refine kA.out.mono ?_;rintro e w5 ⟨rfl, hwe⟩;subst hwe;have hO := Lib.hid (hO.out.setT []);dsimp only at hO;clear kA z0 z1 z2 z3 x0 x1 x2 x3 k0 k1 k2 k3;obtain ⟨z0, z1, z2, z3⟩ := hO.out.row;obtain ⟨y0', y1', y2', y3', g1', g2', g3'⟩ := hO.out.ins;obtain ⟨x0, x1, x2, x3, k0, k1, k2, k3⟩ := hO.out.res;have E := Lib.hid (fin.out _ _ hO.out);go_wp2_with fail
           refine bodyPost_ret (results_one (x := ⟨op, 0, 0, []⟩) rfl rfl rfl E.out.1) rfl ⟨(by rw [hg6]; exact E.out.2), ⟨op, 0, 0, []⟩, ?_, fun h => ?_⟩
           · first | (rw [← hz.out]; done) | (rw [← hz.out]; rfl)
           · rw [← hz.out] at h; exact absurd h e3.out
         · have htc0 : tc = 0 := by omega
           have hTok := Lib.hid (htok htc0);subst htc0;rw [if_pos rfl] at kA;rw [if_neg e3] at hzz;unfold textB at kA;replace kA := Lib.hid kA;replace hz := Lib.hid hzz;clear hzz e3 htok;go_wp2_with fail
           refine kA.out.mono ?_;rintro e w5 ⟨rfl, hwe⟩;subst hwe;have hO := Lib.hid (hO.out.setT (textL f t3 v3));dsimp only at hO;clear kA z0 z1 z2 z3 x0 x1 x2 x3 k0 k1 k2 k3;obtain ⟨z0, z1, z2, z3⟩ := hO.out.row;obtain ⟨m0, m1, m2, m3, n1, n2, n3⟩ := hO.out.ins;obtain ⟨x0, x1, x2, x3, k0, k1, k2, k3⟩ := hO.out.res;by_cases hbig : 1099511627776 < v1
           · have qb : (1099511627776 : Int) < (v1 : Int) := by omega
             have hzz := hz.out;rw [if_neg (fun h => by have := right_small (by omega) h; omega)] at hzz;replace hz := Lib.hid hzz;have E := Lib.hid (fin.out _ _ hO.out);go_wp2_with fail
             refine bodyPost_ret (results_one (x := ⟨op, 0, 0, (textL f t3 v3)⟩) rfl rfl rfl E.out.1) rfl ⟨(by rw [hg6]; exact E.out.2), ⟨op, 0, 0, (textL f t3 v3)⟩, ?_, fun h => ?_⟩
             · first | (rw [← hz.out]; done) | (rw [← hz.out]; rfl)
             · rw [← hz.out] at h; cases h
           · have qb : ¬ (1099511627776 : Int) < (v1 : Int) := by omega
             have qb2 : (v1 : Int) ≤ 1099511627776 := by omega
             have hOs := hO;have hO := Lib.hid (hOs.out.setA (v1 : Int));dsimp only at hO;clear z0 z1 z2 z3 x0 x1 x2 x3 k0 k1 k2 k3;obtain ⟨z0, z1, z2, z3⟩ := hO.out.row;obtain ⟨y0', y1', y2', y3', g1', g2', g3'⟩ := hO.out.ins;obtain ⟨x0, x1, x2, x3, k0, k1, k2, k3⟩ := hO.out.res;have hfit : FitIns ⟨op, (v1 : Int), 0, (textL f t3 v3)⟩ := ⟨by rw [textL_length]; have := hTok.out; omega, ⟨by show (-9223372036854775808 : Int) ≤ (v1 : Int); omega, by show (v1 : Int) ≤ 9223372036854775807; omega⟩, ⟨by show (-9223372036854775808 : Int) ≤ 0; decide, by show (0 : Int) ≤ 9223372036854775807; decide⟩, hfp⟩;have kR := fun W => refRight_any ⟨op, (v1 : Int), 0, (textL f t3 v3)⟩ hfit (n : Int) W
             unfold insV at kR;dsimp only at kR;obtain ⟨B, hB⟩ := exHid (rightI ⟨op, (v1 : Int), 0, (textL f t3 v3)⟩ n);have hzz := hz.out
             skip
             skip
             have hun : unfN 0 = 0 := by decide
             rw [hun] at hzz;rw [hB.out] at hzz;simp only [hB.out] at kR;replace kR := Lib.hid kR;replace hz := Lib.hid hzz;clear hzz hfit;cases B with
             | true =>
               have hzz := hz.out;simp only [↓reduceIte] at hzz;replace hz := Lib.hid hzz;clear hzz;go_wp2_with fail
               refine (kR.out _).mono ?_;rintro e w20 ⟨rfl, hb20⟩;have hO := Lib.hid (hO.out.below hb20);clear kR hb20 hOs z0 z1 z2 z3 y0 y1 y2 y3 g1 g2 g3 y0' y1' y2' y3' g1' g2' g3' x0 x1 x2 x3 k0 k1 k2 k3;obtain ⟨z0, z1, z2, z3⟩ := hO.out.row;obtain ⟨y0, y1, y2, y3, g1, g2, g3⟩ := hO.out.ins;obtain ⟨x0, x1, x2, x3, k0, k1, k2, k3⟩ := hO.out.res;have E := Lib.hid (fin.out _ _ hO.out);go_wp2_with fail
               refine bodyPost_ret (results_one (x := ⟨op, (v1 : Int), 0, (textL f t3 v3)⟩) rfl rfl rfl E.out.1) rfl ⟨(by rw [hg6]; exact E.out.2), ⟨op, (v1 : Int), 0, (textL f t3 v3)⟩, ?_, fun h => ?_⟩
               · first | (rw [← hz.out]; done) | (rw [← hz.out]; rfl)
               · first | (rw [← hz.out]; done) | (rw [← hz.out]; rfl)
             | false =>
               have hzz := hz.out;simp only [Bool.false_eq_true, ↓reduceIte] at hzz;replace hz := Lib.hid hzz;clear hzz;go_wp2_with fail
               refine (kR.out _).mono ?_;rintro e w20 ⟨rfl, hb20⟩;have hO := Lib.hid (hO.out.below hb20);clear kR hb20 hOs z0 z1 z2 z3 y0 y1 y2 y3 g1 g2 g3 y0' y1' y2' y3' g1' g2' g3' x0 x1 x2 x3 k0 k1 k2 k3;obtain ⟨z0, z1, z2, z3⟩ := hO.out.row;obtain ⟨y0, y1, y2, y3, g1, g2, g3⟩ := hO.out.ins;obtain ⟨x0, x1, x2, x3, k0, k1, k2, k3⟩ := hO.out.res;have E := Lib.hid (fin.out _ _ hO.out);go_wp2_with fail
               refine bodyPost_ret (results_one (x := ⟨op, (v1 : Int), 0, (textL f t3 v3)⟩) rfl rfl rfl E.out.1) rfl ⟨(by rw [hg6]; exact E.out.2), ⟨op, (v1 : Int), 0, (textL f t3 v3)⟩, ?_, fun h => ?_⟩
               · first | (rw [← hz.out]; done) | (rw [← hz.out]; rfl)
               · rw [← hz.out] at h; cases h
     | false =>
       have eN : bN = false := by rw [← hbN.out]; exact hm
       subst eN;have qa : (K != 0) = true := bne_iff_ne.2 (by rw [← hK.out]; omega);have hTx : hasText op = false := by unfold hasText; rw [h4, hm]; rfl
       have hz' := hz.out;simp only [aR, nR, tTo, tCode, tText, noneR, if_neg hA, if_neg hN, hTx, ↓reduceIte, Bool.false_eq_true, ne_eq, not_true_eq_false] at hz';replace hz := Lib.hid hz';clear hz';replace hA := Lib.hid hA;replace h4 := Lib.hid h4
       try replace hm := Lib.hid hm
       try replace hTx := Lib.hid hTx
       replace hN := Lib.hid hN;clear hn23 h24;obtain ⟨r1, hr1⟩ := exHid (numR f L (p + 1));have kA := refUint_any (hBy.out _ (by rw [← hg6]; exact hO.out.b)) hlc hcm hL (show (p + 1) ≤ L by omega);have hrr := hlt.out (p + 1) (by omega);have hzz := hz.out;rw [hr1.out] at kA hrr hzz;rw [← hpc.out] at kA;obtain ⟨v1, t1, c1⟩ := r1;dsimp only at kA hrr hzz;have ht1 : t1 ≤ L := hrr.2.1;have hv1 := hrr.1;clear hrr;replace kA := Lib.hid kA;by_cases e1 : c1 ≠ 0
       · rw [if_pos e1] at hzz
         replace hz := Lib.hid hzz;have qe : ((c1 : Int) != 0) = true := bne_iff_ne.2 (by omega);replace e1 := Lib.hid e1;clear hzz;go_wp2_with fail
         refine kA.out.mono ?_;rintro e w5 ⟨rfl, hwe⟩;subst hwe;clear kA;have E := Lib.hid (fin.out _ _ hO.out);go_wp2_with fail
         refine bodyPost_ret (results_one (x := ⟨op, 0, 0, []⟩) rfl rfl rfl E.out.1) rfl ⟨(by rw [hg6]; exact E.out.2), ⟨op, 0, 0, []⟩, ?_, fun h => ?_⟩
         · first | (rw [← hz.out]; done) | (rw [← hz.out]; rfl)
         · rw [← hz.out] at h; exact absurd h e1.out
       · rw [if_neg e1] at hzz
         replace hz := Lib.hid hzz;have hc1 : c1 = 0 := by omega
         subst hc1;clear hzz e1;go_wp2_with fail
         refine kA.out.mono ?_;rintro e w5 ⟨rfl, hwe⟩;subst hwe;clear kA;by_cases hbig : 1099511627776 < v1
         · have qb : (1099511627776 : Int) < (v1 : Int) := by omega
           have hzz := hz.out;rw [if_neg (fun h => by have := right_small (by omega) h; omega)] at hzz;replace hz := Lib.hid hzz;have E := Lib.hid (fin.out _ _ hO.out);go_wp2_with fail
           refine bodyPost_ret (results_one (x := ⟨op, 0, 0, []⟩) rfl rfl rfl E.out.1) rfl ⟨(by rw [hg6]; exact E.out.2), ⟨op, 0, 0, []⟩, ?_, fun h => ?_⟩
           · first | (rw [← hz.out]; done) | (rw [← hz.out]; rfl)
           · rw [← hz.out] at h; cases h
         · have qb : ¬ (1099511627776 : Int) < (v1 : Int) := by omega
           have qb2 : (v1 : Int) ≤ 1099511627776 := by omega
           have hOs := hO;have hO := Lib.hid (hOs.out.setA (v1 : Int));dsimp only at hO;clear z0 z1 z2 z3 x0 x1 x2 x3 k0 k1 k2 k3;obtain ⟨z0, z1, z2, z3⟩ := hO.out.row;obtain ⟨y0', y1', y2', y3', g1', g2', g3'⟩ := hO.out.ins;obtain ⟨x0, x1, x2, x3, k0, k1, k2, k3⟩ := hO.out.res;have hfit : FitIns ⟨op, (v1 : Int), 0, []⟩ := ⟨by show ([] : List UInt8).length ≤ _; decide, ⟨by show (-9223372036854775808 : Int) ≤ (v1 : Int); omega, by show (v1 : Int) ≤ 9223372036854775807; omega⟩, ⟨by show (-9223372036854775808 : Int) ≤ 0; decide, by show (0 : Int) ≤ 9223372036854775807; decide⟩, hfp⟩;have kR := fun W => refRight_any ⟨op, (v1 : Int), 0, []⟩ hfit (n : Int) W
           unfold insV at kR;dsimp only at kR;obtain ⟨B, hB⟩ := exHid (rightI ⟨op, (v1 : Int), 0, []⟩ n);have hzz := hz.out
           skip
           skip
           have hun : unfN 0 = 0 := by decide
           rw [hun] at hzz;rw [hB.out] at hzz;simp only [hB.out] at kR;replace kR := Lib.hid kR;replace hz := Lib.hid hzz;clear hzz hfit;cases B with
           | true =>
             have hzz := hz.out;simp only [↓reduceIte] at hzz;replace hz := Lib.hid hzz;clear hzz;go_wp2_with fail
             refine (kR.out _).mono ?_;rintro e w20 ⟨rfl, hb20⟩;have hO := Lib.hid (hO.out.below hb20);clear kR hb20 hOs z0 z1 z2 z3 y0 y1 y2 y3 g1 g2 g3 y0' y1' y2' y3' g1' g2' g3' x0 x1 x2 x3 k0 k1 k2 k3;obtain ⟨z0, z1, z2, z3⟩ := hO.out.row;obtain ⟨y0, y1, y2, y3, g1, g2, g3⟩ := hO.out.ins;obtain ⟨x0, x1, x2, x3, k0, k1, k2, k3⟩ := hO.out.res;have E := Lib.hid (fin.out _ _ hO.out);go_wp2_with fail
             refine bodyPost_ret (results_one (x := ⟨op, (v1 : Int), 0, []⟩) rfl rfl rfl E.out.1) rfl ⟨(by rw [hg6]; exact E.out.2), ⟨op, (v1 : Int), 0, []⟩, ?_, fun h => ?_⟩
             · first | (rw [← hz.out]; done) | (rw [← hz.out]; rfl)
             · first | (rw [← hz.out]; done) | (rw [← hz.out]; rfl)
           | false =>
             have hzz := hz.out;simp only [Bool.false_eq_true, ↓reduceIte] at hzz;replace hz := Lib.hid hzz;clear hzz;go_wp2_with fail
             refine (kR.out _).mono ?_;rintro e w20 ⟨rfl, hb20⟩;have hO := Lib.hid (hO.out.below hb20);clear kR hb20 hOs z0 z1 z2 z3 y0 y1 y2 y3 g1 g2 g3 y0' y1' y2' y3' g1' g2' g3' x0 x1 x2 x3 k0 k1 k2 k3;obtain ⟨z0, z1, z2, z3⟩ := hO.out.row;obtain ⟨y0, y1, y2, y3, g1, g2, g3⟩ := hO.out.ins;obtain ⟨x0, x1, x2, x3, k0, k1, k2, k3⟩ := hO.out.res;have E := Lib.hid (fin.out _ _ hO.out);go_wp2_with fail
             refine bodyPost_ret (results_one (x := ⟨op, (v1 : Int), 0, []⟩) rfl rfl rfl E.out.1) rfl ⟨(by rw [hg6]; exact E.out.2), ⟨op, (v1 : Int), 0, []⟩, ?_, fun h => ?_⟩
             · first | (rw [← hz.out]; done) | (rw [← hz.out]; rfl)
             · rw [← hz.out] at h; cases h
end
end Go.Proofs.YtfajfflbplnagaaDoor
