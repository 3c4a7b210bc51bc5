/- A part of the proof: GPut, GOps, GFill, GLone. No condition. -/
import Derived.LoopTactic
import Derived.IntWalk
import Derived.Deep.RegionWith
import Derived.Deep.RegionHeld
import Derived.Deep.RegionLaw
import Derived.Deep.AppendLies
import Derived.Defers
import Derived.Test.YtefijbpbenmbgaaDoorQ07
set_option linter.unusedVariables false
set_option linter.unusedSimpArgs false
namespace Go.Proofs.YtefijbpbenmbgaaDoor
open Go.RowKit Go.Shelf
theorem cells_newG (w : World) (xs : List Value) (t : TypeId) (j : Nat) (u : Value) (h : xs[j]? = some u) : (w.alloc (.cells xs.toArray t)).cell? ((⟨w.heap.size, 0, none⟩ : Addr).add j) = some u := by
 rw [show (⟨w.heap.size, 0, none⟩ : Addr).add j = ⟨w.heap.size, j, none⟩ by simp [Addr.add]; omega];simp only [World.cell?, heap_alloc_new]
 simpa using h
set_option maxRecDepth 20000 in
set_option maxHeartbeats 4000000 in
theorem put_any {w0 w : World} {bc : Nat} {tl : List Tw} {code : List Ins} (h : CM w0 w bc tl code) (x : Ins) (hk : code.length ≤ 1000000) :
   Calls Tryd.prog 21 #[.pointer (some ⟨bc, 0, none⟩), insV x] w fun e w' => e = .returned (.tuple #[]) ∧ CM w0 w' bc tl (code ++ [x]) ∧ Only (Fcm w0.heap.size w) w w' := by
 obtain ⟨cv, tv, sv, sl, h1, h2, h3, h4, h5⟩ := id h.mem;obtain ⟨ca, cc, rfl, hl1, hl2⟩ := id h2.shape;have hh := Lib.hid h;have c0 := cellC h1 0;simp only [List.getElem?_toArray, List.getElem?_cons_zero] at c0;have hbs := h.b.size;obtain ⟨i0, hi, hz0, hz1, hz2⟩ := ins_parts;obtain ⟨op, a, num, text⟩ := x;unfold insV;dsimp only;have hH1 := Lib.hid h1;have hH2 := Lib.hid h2;clear h h1 h2;go_enter Tryd.func21, Tryd.ntmps21
 go_wp2_with fail
 have hal := (Below.refl w.heap.size w).alloc (Nat.le_refl _) (.cells #[.int .u8 op, .int .i64 a, .int .i64 num, .string ⟨text.toArray⟩] 36);have hN : (w.alloc (.cells #[.int .u8 op, .int .i64 a, .int .i64 num, .string ⟨text.toArray⟩] 36)).heap[w.heap.size]? = some (.cells #[.int .u8 op, .int .i64 a, .int .i64 num, .string ⟨text.toArray⟩] 36 (0, 0)) := heap_alloc_new w _;have hC1 := Below.keeps hal c0;have hM1 := Lib.hid (hh.out.below hal);have hI1 := Lib.hid (InsAt.below hH2.out hal);have hB1 := Lib.hid ((hal.block bc (Array.getElem?_eq_some_iff.1 hH1.out).1).trans hH1.out);have hal1 := Lib.hid hal;clear c0 hal;generalize hW : w.alloc (.cells #[.int .u8 op, .int .i64 a, .int .i64 num, .string ⟨text.toArray⟩] 36) = W1 at *;have n0 := cellC hN 0; have n1 := cellC hN 1; have n2 := cellC hN 2; have n3 := cellC hN 3;simp only [List.getElem?_toArray, List.getElem?_cons_succ, List.getElem?_cons_zero] at n0 n1 n2 n3;replace hW := Lib.hid hW;replace hN := Lib.hid hN;have hoA : Only (fun _ => False) W1 (W1.drew.alloc (.cells #[.int .u8 op, .int .i64 a, .int .i64 num, .string ⟨text.toArray⟩] 36)) := Only.of_below ((Below.refl _ W1).drew.alloc (Nat.le_refl _) _);have hIA := Lib.hid (ownsRow_only hI1.out hoA (fun _ _ e => e));have hBA := Lib.hid (heldC hoA hB1.out (fun e => e));have hsA : w0.heap.size ≤ (W1.drew.alloc (.cells #[.int .u8 op, .int .i64 a, .int .i64 num, .string ⟨text.toArray⟩] 36)).heap.size := Nat.le_trans (Nat.le_trans hbs hal1.out.size) hoA.size;have hCA := cellC hBA.out 0;simp only [List.getElem?_toArray, List.getElem?_cons_zero] at hCA
 change (W1.alloc (.cells #[.int .u8 op, .int .i64 a, .int .i64 num, .string ⟨text.toArray⟩] 36)).cell? _ = _ at hCA
 replace hoA := Lib.hid hoA;have key := Lib.hid (fun (g cap : Nat) (w3 : World) (q1 : w3.ownsRow w0.heap.size 36 4 (.slice (some ⟨g, 0, none⟩) (code.length + 1) cap) (code.length + 1) (rowOf insC code ++ insC ⟨op, a, num, text⟩)) (q2 : (W1.drew.alloc (.cells #[.int .u8 op, .int .i64 a, .int .i64 num, .string ⟨text.toArray⟩] 36)).grownBy w3 (Value.slice ca code.length cc).ownBlock) => show Hid (w3.heap[bc]? = some (.cells #[.slice ca code.length cc, tv, sv] 47 (0, 0))) ∧ w3.cell? ⟨bc, 0, none⟩ = some (.slice ca code.length cc) ∧ w3.frozen? ⟨bc, 0, none⟩ = false ∧ Hid (InsAt w3 w0.heap.size (.slice (some ⟨g, 0, none⟩) (code.length + 1) cap) (code ++ [⟨op, a, num, text⟩])) ∧ Hid (Only (Fcm w0.heap.size w) w w3) from by
   have ho : Only (fun k => (Value.slice ca code.length cc).ownBlock = some k) (W1.drew.alloc (.cells #[.int .u8 op, .int .i64 a, .int .i64 num, .string ⟨text.toArray⟩] 36)) w3 := Only.of_grown q2 (fun k hk => hk);have hb := heldC ho hBA.out (InsAt.apart (ns := code) hIA.out hBA.out (by decide));have hb0 := cellC hb 0;simp only [List.getElem?_toArray, List.getElem?_cons_zero] at hb0;refine ⟨Lib.hid hb, hb0, fzC hb 0, Lib.hid ?_, Lib.hid ?_⟩
   · unfold InsAt
     rw [List.length_append, List.length_singleton, rowOf_append];have : rowOf insC [⟨op, a, num, text⟩] = insC ⟨op, a, num, text⟩ := List.append_nil _;rw [this];exact q1
   · refine ((Only.of_below (F := Fcm w0.heap.size w) hal1.out).trans (K := Fcm w0.heap.size w) hoA.out (fun _ _ h => h) (fun _ _ h => h.elim)).trans (K := Fcm w0.heap.size w) ho (fun _ _ h => h) ?_
     intro k hk e;obtain ⟨m1, _, cur, m3⟩ := hH2.out.block e;refine ⟨m1, fun c t fr hc => ?_⟩;rw [m3] at hc;injection hc with hc;injection hc with _ hc _;exact .inr hc.symm)
 go_region_law ((refine step_append_lies (W1.drew.alloc (.cells #[.int .u8 op, .int .i64 a, .int .i64 num, .string ⟨text.toArray⟩] 36)) rfl (.tmp 8) (.tmp 10) 25 rfl w0.heap.size 36 i0 (.agg #[.int .u8 0, .int .i64 0, .int .i64 0, .string ⟨#[]⟩]) 4 40 Tryd.underlying25 hi hz0 hz1 hz2 rfl (by decide) (.slice ca code.length cc) code.length (rowOf insC code) rfl hIA.out ⟨W1.heap.size, 0, none⟩ 1 1 (insC ⟨op, a, num, text⟩) rfl rfl (fun j u hj => cells_newG W1.drew _ _ j u hj) (insC_one _) (by omega) (by unfold maxLen; omega) (by omega) hsA _ rfl ?_; intro g cap w3 q1 q2 _ _; obtain ⟨e1, e2, e3, e4, e5⟩ := key.out g cap w3 q1 q2; clear q1 q2))
 all_goals
   go_wp2_with fail
   refine bodyPost_end (results_none rfl _ _ _) rfl ?_;have hsT := scOnly w3 bc 0 (.slice (some ⟨g, 0, none⟩) (code.length + 1) cap);have e1' := stored3 e1.out (.slice (some ⟨g, 0, none⟩) (code.length + 1) cap);have hB3 : Below w0.heap.size w0 w3 := hh.out.b.trans (e5.out.below hh.out.b.size (fun k hk e => by have := e.1; omega));have hoT : Only (Fcm w0.heap.size w) w (w3.setCell ⟨bc, 0, none⟩ (.slice (some ⟨g, 0, none⟩) (code.length + 1) cap)) := e5.out.setCell (p := ⟨bc, 0, none⟩) (.inl ⟨hh.out.hb, fun c t fr hc => by
     rw [hH1.out] at hc;injection hc with hc;injection hc with _ hc _;exact .inl hc.symm⟩) _
   exact ⟨rfl, ⟨hB3.trans (hsT.below hB3.size (fun k hk e => by have := hh.out.hb; omega)), hh.out.hb, ⟨_, tv, sv, sl, e1', ownsRow_only e4.out hsT (fun g' hg' e => by subst e; exact e4.out.apart e1.out (by decide) hg'), h3, h4, h5⟩, hh.out.fit⟩, hoT⟩
end Go.Proofs.YtefijbpbenmbgaaDoor
namespace Go.Proofs.YtefijbpbenmbgaaDoor
open Go.RowKit Go.Shelf
def PutP (w0 : World) (bc : Nat) (tl : List Tw) (code : List Ins) (w : World) (e : Ending) (w' : World) : Prop := e = .returned (.tuple #[]) ∧ CM w0 w' bc tl code ∧ Only (Fcm w0.heap.size w) w w'
theorem here_any {w0 w : World} {bc : Nat} {tl : List Tw} {code : List Ins} (h : CM w0 w bc tl code) :
   Calls Tryd.prog 39 #[.pointer (some ⟨bc, 0, none⟩)] w fun e w' => e = .returned (.int .i64 code.length) ∧ w' = w := by
 obtain ⟨cv, tv, sv, sl, h1, h2, _⟩ := id h.mem;obtain ⟨ca, cc, rfl, hl1, hl2⟩ := id h2.shape;have c0 := cellC h1 0;simp only [List.getElem?_toArray, List.getElem?_cons_zero] at c0;clear h h1 h2;go_enter Tryd.func39, Tryd.ntmps39
 go_wp2_with fail
 go_ret
 exact ⟨rfl, rfl⟩
set_option maxRecDepth 20000 in
theorem op_any {w0 w : World} {bc : Nat} {tl : List Tw} {code : List Ins} (h : CM w0 w bc tl code) (op : Nat) (hk : code.length ≤ 1000000) :
   Calls Tryd.prog 20 #[.pointer (some ⟨bc, 0, none⟩), .int .u8 op] w (PutP w0 bc tl (code ++ [mkI op 0]) w) := by
 have hp := Lib.hid (put_any h (mkI op 0) hk);unfold insV mkI at hp;dsimp only at hp;clear h;go_enter Tryd.func20, Tryd.ntmps20
 go_wp2_with fail
 refine hp.out.mono ?_;rintro e w' ⟨rfl, h1, h2⟩;replace h1 := Lib.hid h1;replace h2 := Lib.hid h2;go_wp2_with fail
 refine bodyPost_end (results_none rfl _ _ _) rfl ?_;exact ⟨rfl, h1.out, h2.out⟩
set_option maxRecDepth 20000 in
theorem goTo_any {w0 w : World} {bc : Nat} {tl : List Tw} {code : List Ins} (h : CM w0 w bc tl code) (op : Nat) (a : Int) (hk : code.length ≤ 1000000) :
   Calls Tryd.prog 40 #[.pointer (some ⟨bc, 0, none⟩), .int .u8 op, .int .i64 a] w (PutP w0 bc tl (code ++ [mkI op a]) w) := by
 have hp := Lib.hid (put_any h (mkI op a) hk);unfold insV mkI at hp;dsimp only at hp;clear h;go_enter Tryd.func40, Tryd.ntmps40
 go_wp2_with fail
 refine hp.out.mono ?_;rintro e w' ⟨rfl, h1, h2⟩;replace h1 := Lib.hid h1;replace h2 := Lib.hid h2;go_wp2_with fail
 refine bodyPost_end (results_none rfl _ _ _) rfl ?_;exact ⟨rfl, h1.out, h2.out⟩
structure HoleAt (w : World) (bc gb gi at_ : Nat) : Prop where
 m : w.heap[gb]? = some (.cells #[.pointer (some ⟨bc, 0, none⟩)] 79 (0, 0))
 i : w.heap[gi]? = some (.cells #[.int .i64 at_] 3 (0, 0))
theorem HoleAt.keep {w W : World} {bc gb gi at_ base : Nat} (h : HoleAt w bc gb gi at_) (ho : Only (Fcm base w) w W) : HoleAt W bc gb gi at_ :=
 ⟨heldC ho h.m (notC h.m (by decide)), heldC ho h.i (notC h.i (by decide))⟩
def holeF (gb gi : Nat) : Value := .func (.func 61) #[] #[.pointer (some ⟨gb, 0, none⟩), .pointer (some ⟨gi, 0, none⟩)]
set_option maxRecDepth 20000 in
set_option maxHeartbeats 1000000 in
theorem hole_any {w0 w : World} {bc : Nat} {tl : List Tw} {code : List Ins} (h : CM w0 w bc tl code) (op : Nat) (hk : code.length ≤ 1000000) :
   Calls Tryd.prog 37 #[.pointer (some ⟨bc, 0, none⟩), .int .u8 op] w fun e w' => ∃ gb gi, e = .returned (holeF gb gi) ∧ HoleAt w' bc gb gi code.length ∧ CM w0 w' bc tl (code ++ [mkI op 0]) ∧ Only (Fcm w0.heap.size w) w w' := by
 have hmf : ∀ (fn : Fn) (first cap : Array Value) (w : World), (Instr.makeFunc fn first cap).run Tryd.prog w = .ok (.func fn first cap) w := fun _ _ _ _ => rfl;have hbox := (Below.refl w.heap.size w).alloc (Nat.le_refl _) (.cells #[.pointer (some ⟨bc, 0, none⟩)] 79);have hN : (w.alloc (.cells #[.pointer (some ⟨bc, 0, none⟩)] 79)).heap[w.heap.size]? = some (.cells #[.pointer (some ⟨bc, 0, none⟩)] 79 (0, 0)) := heap_alloc_new w _;have hM1 := h.below hbox;have kH := Lib.hid (here_any hM1);have hbM := Lib.hid hbox;have hM1' := Lib.hid hM1;have hNc := cellC hN 0;simp only [List.getElem?_toArray, List.getElem?_cons_zero] at hNc;replace hN := Lib.hid hN;clear hbox hM1;go_enter Tryd.func37, Tryd.ntmps37
 go_wp2_with fail
 generalize hW : w.alloc (.cells #[.pointer (some ⟨bc, 0, none⟩)] 79) = W1 at *;replace hW := Lib.hid hW;refine kH.out.mono ?_;rintro e w2 ⟨rfl, rfl⟩;have hb2 := (Below.refl w2.heap.size w2).alloc (Nat.le_refl _) (.cells #[.int .i64 (code.length : Int)] 3);have hN2 : (w2.alloc (.cells #[.int .i64 (code.length : Int)] 3)).heap[w2.heap.size]? = some (.cells #[.int .i64 (code.length : Int)] 3 (0, 0)) := heap_alloc_new w2 _;have hNk := heldC (F := fun _ => False) (Only.of_below hb2) hN.out (fun e => e);have hNc2 := cellC hNk 0;simp only [List.getElem?_toArray, List.getElem?_cons_zero] at hNc2;have hH : HoleAt (w2.alloc (.cells #[.int .i64 (code.length : Int)] 3)) bc w.heap.size w2.heap.size code.length := ⟨hNk, hN2⟩;have kO := Lib.hid (op_any (hM1'.out.below hb2) op hk);have ho2 : Only (Fcm w0.heap.size w) w (w2.alloc (.cells #[.int .i64 (code.length : Int)] 3)) := (Only.of_below hbM.out).trans (K := Fcm w0.heap.size w) (Only.of_below (F := fun _ => False) hb2) (fun _ _ h => h) (fun _ _ h => h.elim);replace ho2 := Lib.hid ho2;replace hH := Lib.hid hH;clear hb2 hN2 hNk kH;go_wp2_with fail
 refine kO.out.mono ?_;rintro e w3 ⟨rfl, q1, q2⟩;have q3 := cm_then ho2.out q2;have hH3 := hH.out.keep q2;have hc3 := cellC hH3.m 0;simp only [List.getElem?_toArray, List.getElem?_cons_zero] at hc3;replace q1 := Lib.hid q1;replace q3 := Lib.hid q3;replace hH3 := Lib.hid hH3;clear q2 kO hH ho2;go_wp2_with fail
 go_ret
 exact ⟨_, _, rfl, hH3.out, q1.out, q3.out⟩
end Go.Proofs.YtefijbpbenmbgaaDoor
namespace Go.Proofs.YtefijbpbenmbgaaDoor
open Go.RowKit Go.Shelf
theorem row_set {L R : List Ins} {y : Ins} (a : Int) : (rowOf insC (L ++ y :: R)).set (L.length * 4 + 1) (.int .i64 a) = rowOf insC (L ++ ⟨y.op, a, y.num, y.text⟩ :: R) := by
 rw [rowOf_append, rowOf_append, List.set_append, rowOf_length insC_len L, if_neg (by omega), Nat.add_sub_cancel_left];rfl
set_option maxRecDepth 20000 in
set_option maxHeartbeats 1000000 in
theorem fill_any {w0 w : World} {bc gb gi : Nat} {tl : List Tw} {L R : List Ins} {y : Ins} (u : FrameMode) (h : CM w0 w bc tl (L ++ y :: R)) (hH : HoleAt w bc gb gi L.length) (_hk : (L ++ y :: R).length ≤ 1000000) :
   CallsD Tryd.prog 61 #[.pointer (some ⟨gb, 0, none⟩), .pointer (some ⟨gi, 0, none⟩)] u w fun e u' w' => u' = u ∧ PutP w0 bc tl (L ++ ⟨y.op, ((L ++ y :: R).length : Int), y.num, y.text⟩ :: R) w e w' := by
 obtain ⟨cv, tv, sv, sl, h1, h2, h3, h4, h5⟩ := id h.mem;have hcl : 0 < (L ++ y :: R).length := by simp; omega
 obtain ⟨g, cap, e, hgb, hgl, hcc, hcm⟩ := ownsRow_head h2 hcl;subst e;have c0 := cellC h1 0;have m0 := cellC hH.m 0;have i0 := cellC hH.i 0;simp only [List.getElem?_toArray, List.getElem?_cons_zero] at c0 m0 i0;have hst := World.ownsRow.stored h2 (L.length * 4 + 1) (.int .i64 ((L ++ y :: R).length : Int));rw [row_set] at hst;have hcell := World.ownsRow.cellAt (g := g) (cap := cap) h2 (L.length * 4 + 1) (by simp; omega);have hfz := World.ownsRow.frozenAt (n := (L ++ y :: R).length) h2 (L.length * 4 + 1);rw [rowOf_append, List.getElem?_append_right (by rw [rowOf_length insC_len]; omega), rowOf_length insC_len, Nat.add_sub_cancel_left] at hcell;have hcell' : w.cell? ⟨g, L.length * 4 + 1, none⟩ = some (.int .i64 y.a) := hcell;have hlt : (L.length : Int) < ((L ++ y :: R).length : Int) := by simp; omega
 have kH := Lib.hid (here_any (h.below (Below.refl _ w).drew));have hbg : bc ≠ g := by
   intro e;exact InsAt.apart h2 h1 (by decide) (by rw [e]; rfl)
 have hP : PutP w0 bc tl (L ++ ⟨y.op, ((L ++ y :: R).length : Int), y.num, y.text⟩ :: R) w (.returned (.tuple #[])) ((w.setCell ⟨g, L.length * 4 + 1, none⟩ (.int .i64 ((L ++ y :: R).length : Int))).drew) := by
   have ho : Only (Fcm w0.heap.size w) w (w.setCell ⟨g, L.length * 4 + 1, none⟩ (.int .i64 ((L ++ y :: R).length : Int))) := (Only.refl _ w).setCell (p := ⟨g, L.length * 4 + 1, none⟩) (.inl ⟨hgb, fun c t fr hc => by
     obtain ⟨cur, hcur, _⟩ := hcm.2;rw [hcur] at hc;injection hc with hc;injection hc with _ hc _;exact .inr hc.symm⟩) _
   have hl : (L ++ y :: R).length = (L ++ (⟨y.op, ((L ++ y :: R).length : Int), y.num, y.text⟩ : Ins) :: R).length := by simp
   have hi : InsAt (w.setCell ⟨g, L.length * 4 + 1, none⟩ (.int .i64 ((L ++ y :: R).length : Int))) w0.heap.size (.slice (some ⟨g, 0, none⟩) (L ++ y :: R).length cap) (L ++ ⟨y.op, ((L ++ y :: R).length : Int), y.num, y.text⟩ :: R) := by
     unfold InsAt;rw [← hl];exact hst.1
   have hm : (w.setCell ⟨g, L.length * 4 + 1, none⟩ (.int .i64 ((L ++ y :: R).length : Int))).heap[bc]? = some (.cells #[.slice (some ⟨g, 0, none⟩) (L ++ y :: R).length cap, tv, sv] 47 (0, 0)) :=
     ((scOnly w g (L.length * 4 + 1) _).block bc (Array.getElem?_eq_some_iff.1 h1).1 hbg).trans h1
   have hB := h.b.trans (ho.below h.b.size (fun k hk e => by have := e.1; omega));exact ⟨rfl, ⟨⟨hB.os, hB.tape, hB.output, hB.size, hB.block⟩, h.hb, ⟨_, tv, sv, sl, hm, hi, h3, h4, h5⟩, h.fit⟩, ho.drew⟩
 replace hP := Lib.hid hP;have hL0 : (0 : Int) ≤ (L.length : Int) := by omega
 clear hst h2 h1 h hH hcm h3 h4 h5 hcell;generalize hN : (L ++ y :: R).length = n at *;go_enter_d Tryd.func61, Tryd.ntmps61
 go_wp2_with fail
 go_region_with (go_at_call 39; refine kH.out.mono ?_; rintro e w' ⟨rfl, rfl⟩)
 all_goals
   refine bodyPost_end (results_none rfl _ _ _) rfl ?_;exact hP.out
end Go.Proofs.YtefijbpbenmbgaaDoor
namespace Go.Proofs.YtefijbpbenmbgaaDoor
open Go.RowKit Go.Shelf
def opsL : List Nat := [0, 0, 0, 0, 0, 0, 0, 0, 8, 9, 10, 6, 0, 0, 0, 0, 0, 0, 0, 0, 20, 21, 22, 23, 24, 25, 0, 0, 0, 0, 0, 0, 32, 33, 34, 35, 36, 37, 38, 39, 40, 41, 42, 43, 44, 45, 46, 47, 48, 0, 50, 51, 52, 0, 54, 55, 56, 57]
def OpsOK (w : World) : Prop := ∀ i, i < 58 → w.cell? ⟨0, i, none⟩ = some (.int .u8 (opsL.getD i 0 : Nat))
theorem OpsOK.below {w W : World} (h : OpsOK w) (hb : Below w.heap.size w W) : OpsOK W := by
 intro i hi;have h0 := h i hi;exact (hb.cell (p := ⟨0, i, none⟩) (World.block_lt_of_cell? w _ h0)).trans h0
theorem ops_at {op : Nat} (h : op ∈ loneOps) : opsL.getD op 0 = opI op := by
 have : ∀ o ∈ loneOps, opsL.getD o 0 = opI o := by decide
 exact this op h
set_option maxRecDepth 20000 in
set_option maxHeartbeats 4000000 in
theorem lone_any {x : Tw} (hx : x.op ∈ loneOps) (w : World) (hO : OpsOK w) :
   Calls Tryd.prog 26 #[twV x] w fun e w' => e = .returned (insV (loneI x)) ∧ Below w.heap.size w w' := by
 obtain ⟨op, kids, num, text⟩ := x;dsimp only at hx;have hf := lone_facts hx;have g0 := hO op hf.1;rw [ops_at hx] at g0;have hlt : (op : Int) < 58 := by have := hf.1; omega
 have hop0 : (0 : Int) ≤ (op : Int) := by omega
 obtain ⟨O, hOP⟩ := exHid (opI op);rw [hOP.out] at g0;have hgb := World.block_lt_of_cell? w _ g0;unfold loneI twV insV;dsimp only;rw [hOP.out];obtain ⟨K, hK⟩ := exHid (if op = 25 ∨ op = 50 ∨ op = 51 then kids else 0);rw [hK.out];have B1 := (Below.refl w.heap.size w).alloc (Nat.le_refl _) (.cells #[.int .u8 op, .int .i64 kids, .int .i64 num, .string ⟨text.toArray⟩] 34);have N1 : (w.alloc (.cells #[.int .u8 op, .int .i64 kids, .int .i64 num, .string ⟨text.toArray⟩] 34)).heap[w.heap.size]? = some (.cells #[.int .u8 op, .int .i64 kids, .int .i64 num, .string ⟨text.toArray⟩] 34 (0, 0)) := heap_alloc_new w _;have g1 := Below.keeps B1 g0;clear hO g0;go_enter Tryd.func26, Tryd.ntmps26
 go_wp2_with fail
 have B2 := B1.alloc (by simp) (.cells #[.int .u8 0, .int .i64 0, .int .i64 0, .string ⟨#[]⟩] 36);have A2 : Below (w.alloc (.cells #[.int .u8 op, .int .i64 kids, .int .i64 num, .string ⟨text.toArray⟩] 34)).heap.size (w.alloc (.cells #[.int .u8 op, .int .i64 kids, .int .i64 num, .string ⟨text.toArray⟩] 34)) ((w.alloc (.cells #[.int .u8 op, .int .i64 kids, .int .i64 num, .string ⟨text.toArray⟩] 34)).alloc (.cells #[.int .u8 0, .int .i64 0, .int .i64 0, .string ⟨#[]⟩] 36)) := (Below.refl _ _).alloc (Nat.le_refl _) _;have N2 : ((w.alloc (.cells #[.int .u8 op, .int .i64 kids, .int .i64 num, .string ⟨text.toArray⟩] 34)).alloc (.cells #[.int .u8 0, .int .i64 0, .int .i64 0, .string ⟨#[]⟩] 36)).heap[w.heap.size + 1]? = some (.cells #[.int .u8 0, .int .i64 0, .int .i64 0, .string ⟨#[]⟩] 36 (0, 0)) := by
   have := heap_alloc_new (w.alloc (.cells #[.int .u8 op, .int .i64 kids, .int .i64 num, .string ⟨text.toArray⟩] 34)) (.cells #[.int .u8 0, .int .i64 0, .int .i64 0, .string ⟨#[]⟩] 36)
   simpa using this
 have N1b := heldC (F := fun _ => False) (Only.of_below A2) N1 (fun e => e);have g2 := Below.keeps A2 g1;have hs2 : ((w.alloc (.cells #[.int .u8 op, .int .i64 kids, .int .i64 num, .string ⟨text.toArray⟩] 34)).alloc (.cells #[.int .u8 0, .int .i64 0, .int .i64 0, .string ⟨#[]⟩] 36)).heap.size = w.heap.size + 2 := by simp
 clear N1 g1 B1 A2;generalize hW : (w.alloc (.cells #[.int .u8 op, .int .i64 kids, .int .i64 num, .string ⟨text.toArray⟩] 34)).alloc (.cells #[.int .u8 0, .int .i64 0, .int .i64 0, .string ⟨#[]⟩] 36) = W2 at *;replace hW := Lib.hid hW;have n0 := cellC N1b 0; have n1 := cellC N1b 1; have n2 := cellC N1b 2; have n3 := cellC N1b 3;simp only [List.getElem?_toArray, List.getElem?_cons_succ, List.getElem?_cons_zero] at n0 n1 n2 n3;have B3 := (Below.refl W2.heap.size W2).alloc (Nat.le_refl _) (.cells #[.int .u8 0, .int .i64 0, .int .i64 0, .string ⟨#[]⟩] 36);have B4 := (Below.refl W2.heap.size W2).alloc (Nat.le_refl _) (.cells #[.int .u8 O, .int .i64 0, .int .i64 num, .string ⟨text.toArray⟩] 36);have z0 := Below.keeps B3 n0; have z2 := Below.keeps B3 n2; have z3 := Below.keeps B3 n3; have z4 := Below.keeps B3 g2;have N3 : (W2.alloc (.cells #[.int .u8 O, .int .i64 0, .int .i64 num, .string ⟨text.toArray⟩] 36)).drew.heap[W2.heap.size]? = some (.cells #[.int .u8 O, .int .i64 0, .int .i64 num, .string ⟨text.toArray⟩] 36 (0, 0)) := heap_alloc_new W2 _;have N2c := Lib.hid (heldC (F := fun _ => False) (Only.of_below B4.drew) N2 (fun e => e));have N1c := Lib.hid (heldC (F := fun _ => False) (Only.of_below B4.drew) N1b (fun e => e));have hB4 : Below w.heap.size w (W2.alloc (.cells #[.int .u8 O, .int .i64 0, .int .i64 num, .string ⟨text.toArray⟩] 36)).drew := B2.trans ((B4.drew).mono (by omega));have B2h := Lib.hid hB4;have hn12 : w.heap.size + 1 ≠ W2.heap.size := by omega
 replace N3 := Lib.hid N3;clear B2 B3 B4 N2 N1b hB4;go_region
 generalize hW3 : (W2.alloc (.cells #[.int .u8 O, .int .i64 0, .int .i64 num, .string ⟨text.toArray⟩] 36)).drew = W3 at *;replace hW3 := Lib.hid hW3;clear n0 n1 n2 n3 z0 z2 z3 z4 g2;have N3' := N3.out;rw [hs2] at N3';replace N3 := Lib.hid N3';clear N3';replace hn12 : w.heap.size + 1 ≠ w.heap.size + 2 := by omega
 clear hs2;have n0 := cellC N1c.out 0; have n1 := cellC N1c.out 1;have r0 := cellC N3.out 0; have r1 := cellC N3.out 1; have r2 := cellC N3.out 2; have r3 := cellC N3.out 3;have r1f := fzC N3.out 1;have s0 := fzC N2c.out 0; have s1 := fzC N2c.out 1; have s2 := fzC N2c.out 2; have s3 := fzC N2c.out 3;have k0 := cellC N2c.out 0; have k1 := cellC N2c.out 1; have k2 := cellC N2c.out 2; have k3 := cellC N2c.out 3;simp only [List.getElem?_toArray, List.getElem?_cons_succ, List.getElem?_cons_zero] at n0 n1 r0 r1 r2 r3 k0 k1 k2 k3;generalize hy : w.heap.size + 2 = by_ at *;generalize hz : w.heap.size + 1 = bz at *;generalize hbn : w.heap.size = bn at *;have fin : ∀ (W : World) (a b c d : Value), W.heap[bz]? = some (.cells #[.int .u8 0, .int .i64 0, .int .i64 0, .string ⟨#[]⟩] 36 (0, 0)) → Below bn w W → ((((W.setCell ⟨bz, 0, none⟩ a).setCell ⟨bz, 1, none⟩ b).setCell ⟨bz, 2, none⟩ c).setCell ⟨bz, 3, none⟩ d).heap[bz]? = some (.cells #[a, b, c, d] 36 (0, 0)) ∧ Below bn w ((((W.setCell ⟨bz, 0, none⟩ a).setCell ⟨bz, 1, none⟩ b).setCell ⟨bz, 2, none⟩ c).setCell ⟨bz, 3, none⟩ d) := by
   intro W a b c d h1 h2;obtain ⟨q1, q2⟩ := stored4C h1 a b c d;exact ⟨q1, h2.trans (q2.below (by have := h2.size; omega) (fun k hk e => by omega))⟩
 by_cases c : op = 25 ∨ op = 50 ∨ op = 51
 · have hk := hK.out
   rw [if_pos c] at hk;subst hk;have P3 : (W3.setCell ⟨by_, 1, none⟩ (.int .i64 kids)).heap[by_]? = some (.cells #[.int .u8 O, .int .i64 kids, .int .i64 num, .string ⟨text.toArray⟩] 36 (0, 0)) := by
     have := heap_setCell_same W3 by_ 1 _ _ (.int .i64 kids) N3.out
     simpa using this
   have P2 := ((scOnly W3 by_ 1 (.int .i64 kids)).block bz (Array.getElem?_eq_some_iff.1 N2c.out).1 hn12).trans N2c.out;have PB : Below bn w (W3.setCell ⟨by_, 1, none⟩ (.int .i64 kids)) := B2h.out.trans ((scOnly W3 by_ 1 (.int .i64 kids)).below (by have := B2h.out.size; omega) (fun k hk e => by omega));have t0 := cellC P3 0; have t1 := cellC P3 1; have t2 := cellC P3 2; have t3 := cellC P3 3;have v0 := cellC P2 0; have v1 := cellC P2 1; have v2 := cellC P2 2; have v3 := cellC P2 3;have u0 := fzC P2 0; have u1 := fzC P2 1; have u2 := fzC P2 2; have u3 := fzC P2 3;simp only [List.getElem?_toArray, List.getElem?_cons_succ, List.getElem?_cons_zero] at t0 t1 t2 t3 v0 v1 v2 v3;obtain ⟨E1, E2⟩ := fin _ (.int .u8 O) (.int .i64 kids) (.int .i64 num) (.string ⟨text.toArray⟩) P2 PB;replace E1 := Lib.hid E1;replace E2 := Lib.hid E2;clear fin P3 P2 PB;rcases c with c | c | c
   all_goals
     first
       | (have q1 : ((op : Int) == 25) = true := by rw [c]; rfl)
       | (have q1 : ((op : Int) == 25) = false := beq_eq_false_iff_ne.2 (by omega)
          first
            | (have q2 : ((op : Int) == 50) = true := by rw [c]; rfl)
            | (have q2 : ((op : Int) == 50) = false := beq_eq_false_iff_ne.2 (by omega)
               have q3 : ((op : Int) == 51) = true := by rw [c]; rfl))
     replace c := Lib.hid c;go_wp2_with fail
     refine bodyPost_ret (results_cell_row rfl _ _ bz _ _ (0, 0) _ rfl E1.out Tryd.underlying36 rfl (by kernel_rfl)) rfl ⟨rfl, by rw [hbn]; exact E2.out⟩
 · have hk := hK.out
   rw [if_neg c] at hk;subst hk;have q1 : ((op : Int) == 25) = false := beq_eq_false_iff_ne.2 (by omega);have q2 : ((op : Int) == 50) = false := beq_eq_false_iff_ne.2 (by omega);have q3 : ((op : Int) == 51) = false := beq_eq_false_iff_ne.2 (by omega);obtain ⟨E1, E2⟩ := fin W3 (.int .u8 O) (.int .i64 0) (.int .i64 num) (.string ⟨text.toArray⟩) N2c.out B2h.out;replace E1 := Lib.hid E1;replace E2 := Lib.hid E2;clear fin;replace c := Lib.hid c;go_wp2_with fail
   refine bodyPost_ret (results_cell_row rfl _ _ bz _ _ (0, 0) _ rfl E1.out Tryd.underlying36 rfl (by kernel_rfl)) rfl ⟨rfl, by rw [hbn]; exact E2.out⟩
end Go.Proofs.YtefijbpbenmbgaaDoor
