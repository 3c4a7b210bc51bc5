/- A part of the proof: RDChk. No condition. -/
import Derived.Test.YtjiemkidmlgbeaaDoorQ21
import Derived.Test.YtjiemkidmlgbeaaDoorQ22
set_option linter.unusedVariables false
set_option linter.unusedSimpArgs false
namespace Go.Proofs.YtjiemkidmlgbeaaDoor
open Go.RowKit Go.Shelf
def deepV (d : Nat) : Int := if d = 0 then -1 else d
theorem deepV_pos {d : Nat} (h : 0 < d) : deepV d = d := by unfold deepV; rw [if_neg (by omega)]
theorem fine_kids {x : Tw} (h : fineB x = true) (hx : x.op < 256) : 0 ≤ x.kids ∧ x.kids ≤ 2048 := by
 rw [fine_doc hx] at h;split at h
 · cases h
 · rename_i k hk
   have := allows_kids h;have := (kind_most hk).1;omega
theorem alloc_then {b : Nat} {w W w2 : World} {o : Obj} (hB : Below b w W) (h2 : Below (W.alloc o).heap.size (W.alloc o) w2) (hb : b ≤ w.heap.size := by exact Nat.le_refl _) : Below b w w2 := by
 have h := hB.alloc (Nat.le_trans hb hB.size) o;exact h.trans (h2.mono (Nat.le_trans hb h.size))
theorem op_cells (W : World) (op kn : Nat) : ∀ j, j < 3 → (W.alloc (.cells #[.int .u8 (op : Int), .int .i64 0, .int .i64 (kn : Int)] 63)).cell? ⟨W.heap.size, j, none⟩ = (opC ⟨op, 0, kn⟩)[j]? := by
 intro j hj;rw [one_cell];simp [opC]
def lenO : Value → Nat
 | .slice _ n _ => n
 | _ => 0
theorem GoodI.nil : GoodI [] := ⟨fun _ h => (by cases h), fun _ h => (by cases h)⟩
theorem popF_nil : popF [] = [] := by rw [popF]
theorem popF_one {u : Op3} (h : u.came = u.n) : popF [u] = [] := by rw [popF, if_pos h]
theorem popF_two {u v : Op3} {r : List Op3} (h : u.came = u.n) : popF (u :: v :: r) = popF (⟨v.op, v.came + 1, v.n⟩ :: r) := by rw [popF_whole _ _ h]; rfl
set_option maxRecDepth 20000 in
set_option maxHeartbeats 4000000 in
theorem refCheck_text {v : Value} {ts : List Tw} (w : World) (hT : TwIn w v ts) (hf : ∀ x ∈ ts, x.op < 256 ∧ x.text.length ≤ 9223372036854775807) :
   Calls Tryd.prog 18 #[v] w fun e w' => e = .returned (.tuple #[.int .i64 ((docF ts).1 : Int), .int .i64 (docF ts).2]) ∧ Below w.heap.size w w' := by
 obtain ⟨D, hD⟩ := exHid (docF ts);rw [hD.out];have hd := hD.out;unfold docF at hd;clear hD;obtain ⟨a, cap, rfl, hlc, hcm, h3⟩ := hT;obtain ⟨N, hN⟩ := exHid ts.length;rw [hN.out] at hlc hd ⊢;replace hf := Lib.hid hf;have hTT := Lib.hid h3;clear h3;by_cases h1 : 2048 < N
 · have h1i : (2048 : Int) < (N : Int) := by omega
   rw [if_pos h1] at hd;subst hd;go_enter Tryd.func18, Tryd.ntmps18
   go_wp2_with fail
   go_ret2
   exact ⟨rfl, Below.refl _ _⟩
 · have h1i : ¬ (2048 : Int) < (N : Int) := by omega
   rw [if_neg h1] at hd;replace hd := Lib.hid hd;go_enter Tryd.func18, Tryd.ntmps18
   go_wp2_with fail
   go_loopw [4, 5, 6] (fun t4 t5 t6 wr => ∃ (i d : Nat) (L : List Op3), i ≤ N ∧ L.length ≤ i ∧ t6 = .int .i64 i ∧ t5 = .int .i64 (deepV d) ∧ d ≤ i ∧ Hid (OpsAt wr w.heap.size t4 L) ∧ Hid (GoodO L) ∧ Hid (machAt ts i L d = D) ∧ Hid (Below w.heap.size w wr)) (fun _ _ t6 _ => N - (intOf t6).toNat)
   case atStart => exact ⟨0, 0, [], by omega, by simp, by go_num, rfl, by omega, Lib.hid ⟨rfl, .inl ⟨rfl, rfl⟩⟩, Lib.hid GoodI.out_nil, hd, Lib.hid (Below.refl _ _)⟩
   case round =>
     obtain ⟨i, d, L, hi, hLi, rfl, rfl, hdN, hO, hG, hM, hB⟩ := hrel;obtain ⟨aO, cO, eO, hO1, hO2⟩ := hO.out.shape;subst eO;rcases Nat.lt_or_ge i N with hlt | hge
     · have hlti : (i : Int) < (N : Int) := by omega
       have hit : i < ts.length := by rw [hN.out]; exact hlt
       obtain ⟨g, off, rfl, hg, hc⟩ := hTT.out (by omega);have hms := hM.out;rw [machAt_step hit] at hms;have hx0 := hf.out ts[i] (List.getElem_mem hit);have htw : twAt ts i = ts[i] := by simp [twAt, List.getD_eq_getElem?_getD, List.getElem?_eq_getElem hit]
       rw [htw] at hms;have y := fun c (h : c < 4) => (hB.out.cell (p := ⟨g, off + i * 4 + c, none⟩) hg).trans (hc i hit c h)
       clear hc htw;generalize ts[i] = x at *;rcases x with ⟨op, kids, num, text⟩
       have y0 := y 0 (by omega); have y1 := y 1 (by omega); have y2 := y 2 (by omega); have y3 := y 3 (by omega);simp only [twC, List.getElem?_cons_succ, List.getElem?_cons_zero, Nat.add_zero] at y0 y1 y2 y3;clear y;have cF := fun W => refFine_text ⟨op, kids, num, text⟩ W hx0.2
       obtain ⟨fb, hfb⟩ := exHid (fineB ⟨op, kids, num, text⟩);rw [hfb.out] at hms cF;unfold twV at cF;dsimp only at cF hms;replace cF := Lib.hid cF;replace hx0 := Lib.hid hx0;rcases fb with _ | _
       · have hms2 : ((i, 3) : Nat × Int) = D := by rw [← hms, if_pos (.inr rfl)]
         subst hms2;clear hms;rcases L with _ | ⟨u, r⟩
         · rcases Nat.eq_zero_or_pos i with hi0 | hi0
           · have hi0i : ¬ (0 : Int) < (i : Int) := by omega
             replace hi0 := Lib.hid hi0;go_wp2_with fail
             refine (cF.out _).mono ?_;rintro e w2 ⟨rfl, hb2⟩;go_wp2_with fail
             go_ret2
             exact ⟨rfl, alloc_then hB.out hb2⟩
           · have hi0i : (0 : Int) < (i : Int) := by omega
             go_wp2_with fail
             go_ret2
             exact ⟨rfl, hB.out.alloc hB.out.size _⟩
         · have hi0i : (0 : Int) < (i : Int) := by rw [List.length_cons] at hLi; omega
           have hLn : (((u :: r).length : Int) == 0) = false := beq_eq_false_iff_ne.2 (by rw [List.length_cons]; omega);go_wp2_with fail
           refine (cF.out _).mono ?_;rintro e w2 ⟨rfl, hb2⟩;go_wp2_with fail
           go_ret2
           exact ⟨rfl, alloc_then hB.out hb2⟩
       · obtain ⟨hkl, hku⟩ := fine_kids hfb.out hx0.out.1
         dsimp only at hkl hku;obtain ⟨kn, rfl⟩ : ∃ kn : Nat, kids = kn := ⟨kids.toNat, by omega⟩;rw [Int.toNat_natCast] at hms;have hop : op < 256 := hx0.out.1;have z := fun j => one_cell wr #[.int .u8 (op : Int), .int .i64 (kn : Int), .int .i64 num, .string ⟨text.toArray⟩] 37 j
         have z0 := (z 0).trans (show _ = some (Value.int .u8 (op : Int)) from rfl);have z1 := (z 1).trans (show _ = some (Value.int .i64 (kn : Int)) from rfl);have hBz := Lib.hid (hB.out.alloc hB.out.size (.cells #[.int .u8 (op : Int), .int .i64 (kn : Int), .int .i64 num, .string ⟨text.toArray⟩] 37));have hOz := Lib.hid (hO.out.below ((Below.refl _ wr).alloc (Nat.le_refl _) (.cells #[.int .u8 (op : Int), .int .i64 (kn : Int), .int .i64 num, .string ⟨text.toArray⟩] 37)));have hGI := Lib.hid (hG.out.push op kn hop (by omega));have hLk : L.length ≤ 1000000000 := by omega
         clear z;rcases L with _ | ⟨u, r⟩
         · rcases Nat.eq_zero_or_pos i with hi0 | hi0
           · have hi0i : ¬ (0 : Int) < (i : Int) := by omega
             obtain rfl : d = 0 := by omega
             rw [if_neg (by rintro (c | c); exact absurd c.1 (by omega); cases c), if_neg (show ¬ (topBad [] _ = true) by simp [topBad]), if_neg (by simp)] at hms;replace hms := Lib.hid hms;replace hi0 := Lib.hid hi0;rw [show deepV 0 = -1 from rfl];go_wp2_with fail
             refine (cF.out _).mono ?_;rintro e w2 ⟨rfl, hb2⟩;have hB3 := hBz.out.trans (hb2.mono hBz.out.size);have v0 := cell_on z0 hb2; have v1 := cell_on z1 hb2;have hO3 := hOz.out.below hb2;have hcl := Lib.hid (op_cells w2 op kn);have hsz4 : w.heap.size ≤ (w2.alloc (.cells #[.int .u8 (op : Int), .int .i64 0, .int .i64 (kn : Int)] 63)).heap.size := by have := hB3.size; simp; omega
             have hB4 := Lib.hid (hB3.alloc hB3.size (.cells #[.int .u8 (op : Int), .int .i64 0, .int .i64 (kn : Int)] 63));have hO4 := Lib.hid (hO3.below ((Below.refl _ w2).alloc (Nat.le_refl _) (.cells #[.int .u8 (op : Int), .int .i64 0, .int .i64 (kn : Int)] 63)));clear z0 z1 hBz hOz hb2 hB3 hO3;have hLs : (Op3.mk op 0 kn :: ([] : List Op3)).length ≤ i + 1 := by simp
             go_wp2_with (at_builtin; (refine wpList_append_op (base := w.heap.size) (u := ⟨op, 0, kn⟩) rfl _ _ rfl rfl hO4.out rfl hcl.out hLk hsz4 ?_; intro g5 c5 w5 hO5 hB5))
             have hB6 := Lib.hid (hB4.out.trans hB5);replace hO5 := Lib.hid hO5;clear hB5 hO4 hcl hB4;go_loopw [4] (fun t4 wr => ∃ L2 : List Op3, L2.length ≤ i + 1 ∧ Hid (OpsAt wr w.heap.size t4 L2) ∧ Hid (GoodI L2) ∧ Hid (popF L2 = popF (⟨op, 0, kn⟩ :: [])) ∧ Hid (Below w.heap.size w wr)) (fun t4 _ => lenO t4)
             case atStart => exact ⟨⟨op, 0, kn⟩ :: [], hLs, hO5, hGI, Lib.hid rfl, hB6⟩
             case round =>
               clear hO5 hB6 hGI;obtain ⟨L2, hL2, hO, hG, hP, hB⟩ := hrel;rcases L2 with _ | ⟨u2, r2⟩
               · obtain ⟨a2, c2, e2, _, _⟩ := hO.out.shape
                 subst e2;go_wp2_with fail
                 go_quiet (fail)
                 go_wp2_with fail
                 go_roundw
                 case rel => exact ⟨i + 1, 0, [], by omega, by simp, by go_num, (by rfl), by omega, Lib.hid (OpsAt.below hO.out (below_drewN (Below.refl _ _) _)), Lib.hid GoodI.out_nil, Lib.hid (by rw [← hms.out, ← hP.out, popF_nil]), Lib.hid (below_drewN hB.out _)⟩
                 case measure => simp [intOf]; omega
               · by_cases hcn : u2.came = u2.n
                 · have he2 : (u2.came : Int) = (u2.n : Int) := by omega
                   have he : ((u2.came : Int) == (u2.n : Int)) = true := by rw [hcn]; exact beq_self_eq_true _
                   rcases r2 with _ | ⟨v3, r3⟩
                   · obtain ⟨g2, c2, e2, hg2, hg2l, hc2, hc2m⟩ := hO.out.head
                     subst e2;have x1 := fun n => below_cell (n := n) (hO.out.cell (k := 0) rfl 1 (by omega))
                     have x2 := fun n => below_cell (n := n) (hO.out.cell (k := 0) rfl 2 (by omega))
                     have hpop := hO.out.pop (k := 0) rfl;have hs := run_headO g2 0 1 c2 (by omega) (by simpa using hc2) (by simp at hc2; omega);simp only [Nat.zero_mul, Nat.zero_add] at x1 x2;replace hcn := Lib.hid hcn;replace hpop := Lib.hid hpop;go_wp2_with fail
                     go_quiet (fail)
                     go_wp2_with fail
                     go_roundw
                     case rel => exact ⟨[], by simp, Lib.hid (OpsAt.below hpop.out (below_drewN (Below.refl _ _) _)), Lib.hid GoodI.nil, Lib.hid (by rw [← hP.out, popF_one hcn.out, popF_nil]), Lib.hid (below_drewN hB.out _)⟩
                     case measure => simp [lenO]
                   · exfalso
                     rw [hi0.out] at hL2;simp at hL2
                 · obtain ⟨g2, c2, e2, hg2, hg2l, hc2, hc2m⟩ := hO.out.head
                   subst e2;obtain ⟨m, hm⟩ := exHid r2.length;rw [hm.out] at hc2;have hO2 := hO.out;rw [hm.out] at hO2;have x1 := fun n => below_cell (n := n) (hO2.cell hm.out.symm 1 (by omega))
                   have x2 := fun n => below_cell (n := n) (hO2.cell hm.out.symm 2 (by omega))
                   try simp only [opC, List.getElem?_cons_succ, List.getElem?_cons_zero] at x1 x2
                   have he : ((u2.came : Int) == (u2.n : Int)) = false := beq_eq_false_iff_ne.2 (by omega);have hPo := Lib.hid (hP.out.symm.trans (popF_not u2 r2 hcn));have hL3 : m + 1 ≤ i + 1 := by rw [List.length_cons, hm.out] at hL2; exact hL2
                   have hGo := Lib.hid (hG.out.out hcn);replace hcn := Lib.hid hcn;rw [show (Value.slice (some ⟨g2, 0, none⟩) (r2.length + 1) c2) = Value.slice (some ⟨g2, 0, none⟩) (m + 1) c2 by rw [hm.out]];have hgd : (0 : Int) < (m : Int) + 1 := by omega
                   have hwm : IntKind.i64.wrap (m : Int) = (m : Int) := IntWalk.i64_in _ (by omega);have hgm2 : (m : Int) < (m : Int) + 1 := by omega
                   replace hO2 := Lib.hid hO2;replace hm := Lib.hid hm;go_wp2_with fail
                   go_quiet (fail)
                   go_wp2_with fail
                   go_roundw
                   case rel => exact ⟨i + 1, 0, u2 :: r2, by omega, hL2, by go_num, (by rfl), by omega, Lib.hid (OpsAt.below hO2.out (below_drewN (Below.refl _ _) _)), hGo, Lib.hid (by rw [← hms.out]; rw [hPo.out]), Lib.hid (below_drewN hB.out _)⟩
                   case measure => simp [intOf]; omega
           · rw [if_pos (.inl ⟨hi0, rfl⟩)] at hms
             have hi0i : (0 : Int) < (i : Int) := by omega
             go_wp2_with fail
             subst hms;go_ret2
             exact ⟨rfl, hB.out.alloc hB.out.size _⟩
         · have hi0i : (0 : Int) < (i : Int) := by rw [List.length_cons] at hLi; omega
           have hi0n : ¬ (i = 0) := by omega
           have hGu := hG.out u (by simp);obtain ⟨uo, uc, un⟩ := u;dsimp only at hGu;obtain ⟨hu1, hu2, hu3⟩ := hGu;obtain ⟨g1, c1, e1, hg1, hg1l, hc1, hc1m⟩ := hO.out.head;obtain ⟨M, hM1⟩ := exHid r.length;rw [hM1.out] at e1 hc1;rw [e1] at hO hOz ⊢;have hLM : (Op3.mk uo uc un :: r).length = M + 1 := by rw [List.length_cons, hM1.out]
           rw [hLM] at hLi hO1;clear e1;have hLs : (Op3.mk op 0 kn :: Op3.mk uo uc un :: r).length ≤ i + 1 := by rw [List.length_cons, hLM]; omega
           have hLn : (((M : Int) + 1) == 0) = false := beq_eq_false_iff_ne.2 (by omega);have hLn2 : (((M + 1 : Nat) : Int) == 0) = false := beq_eq_false_iff_ne.2 (by omega);have hgd : (0 : Int) < (M : Int) + 1 := by omega
           have hwm : IntKind.i64.wrap (M : Int) = (M : Int) := IntWalk.i64_in _ (by omega);have hgm2 : (M : Int) < (M : Int) + 1 := by omega
           have hgm0 : (0 : Int) ≤ (M : Int) := by omega
           rw [if_neg (by rintro (c | c); exact absurd c.2 (by simp); cases c)] at hms;obtain ⟨pb, hpb⟩ := exHid (partR uo uc un op);rw [show topBad (Op3.mk uo uc un :: r) ⟨op, kn, num, text⟩ = !pb by show (!partR uo uc un op) = !pb; rw [hpb.out]] at hms;have cP := Lib.hid (fun W => refPart_any uo (uc : Int) (un : Int) op W (by omega) (by omega));rw [hpb.out] at cP;replace hLM := Lib.hid hLM;replace hms := Lib.hid hms;go_wp2_with fail
           refine (cF.out _).mono ?_;rintro e w2 ⟨rfl, hb2⟩;have hB3 := hBz.out.trans (hb2.mono hBz.out.size);have v0 := cell_on z0 hb2; have v1 := cell_on z1 hb2;have hO3 := Lib.hid (hOz.out.below hb2);have t0 := hO3.out.cell hM1.out.symm 0 (by omega);have t1 := hO3.out.cell hM1.out.symm 1 (by omega);have t2 := hO3.out.cell hM1.out.symm 2 (by omega);simp only [opC, List.getElem?_cons_succ, List.getElem?_cons_zero, Nat.add_zero] at t0 t1 t2;have hBa := (Below.refl _ w2).alloc (Nat.le_refl _) (.cells #[.int .u8 (uo : Int), .int .i64 (uc : Int), .int .i64 (un : Int)] 63);have v0b := cell_on v0 hBa; have v1b := cell_on v1 hBa;have hO5 := Lib.hid (hO3.out.below hBa);have hB5 := Lib.hid (hB3.alloc hB3.size (.cells #[.int .u8 (uo : Int), .int .i64 (uc : Int), .int .i64 (un : Int)] 63));clear hb2 hO hB3 hBa z0 z1 hBz hOz;go_wp2_with fail
           refine (cP.out _).mono ?_;rintro e w3 ⟨rfl, rfl⟩;have hmq := hms.out;clear hms;rcases pb with _ | _
           · rw [if_pos (by rfl)] at hmq
             subst hmq;go_wp2_with fail
             go_ret2
             exact ⟨rfl, hB5.out⟩
           · rw [if_neg (show ¬ ((!true) = true) by decide)] at hmq
             clear t0 t1 t2 hO3;generalize (w2.alloc (.cells #[.int .u8 (uo : Int), .int .i64 (uc : Int), .int .i64 (un : Int)] 63)) = W3 at *;have hcl := Lib.hid (op_cells W3 op kn);have hsz4 : w.heap.size ≤ (W3.alloc (.cells #[.int .u8 (op : Int), .int .i64 0, .int .i64 (kn : Int)] 63)).heap.size := by have := hB5.out.size; simp; omega
             have hB4 := Lib.hid (hB5.out.alloc hB5.out.size (.cells #[.int .u8 (op : Int), .int .i64 0, .int .i64 (kn : Int)] 63));have hO4 := Lib.hid (hO5.out.below ((Below.refl _ W3).alloc (Nat.le_refl _) (.cells #[.int .u8 (op : Int), .int .i64 0, .int .i64 (kn : Int)] 63)));clear hB5 hO5;by_cases hd0 : d = 0
             · subst hd0
               rw [show deepV 0 = -1 from rfl];by_cases h40 : 40 ≤ M + 1
               · have h40i : (40 : Int) ≤ (M : Int) + 1 := by omega
                 rw [if_pos ⟨rfl, by rw [hLM.out]; exact h40⟩] at hmq;have hms := Lib.hid hmq;clear hmq;go_wp2_with (at_builtin; (refine wpList_append_op (base := w.heap.size) (u := ⟨op, 0, kn⟩) rfl _ _ rfl rfl hO4.out rfl hcl.out hLk hsz4 ?_; intro g5 c5 w5 hO5 hB5))
                 have hB6 := Lib.hid (hB4.out.trans hB5);replace hO5 := Lib.hid hO5;clear hB5 hO4 hcl hB4;go_loopw [4] (fun t4 wr => ∃ L2 : List Op3, L2.length ≤ i + 1 ∧ Hid (OpsAt wr w.heap.size t4 L2) ∧ Hid (GoodI L2) ∧ Hid (popF L2 = popF (⟨op, 0, kn⟩ :: (Op3.mk uo uc un :: r))) ∧ Hid (Below w.heap.size w wr)) (fun t4 _ => lenO t4)
                 case atStart => exact ⟨⟨op, 0, kn⟩ :: (Op3.mk uo uc un :: r), hLs, hO5, hGI, Lib.hid rfl, hB6⟩
                 case round =>
                   clear hO5 hB6 hGI;obtain ⟨L2, hL2, hO, hG, hP, hB⟩ := hrel;rcases L2 with _ | ⟨u2, r2⟩
                   · obtain ⟨a2, c2, e2, _, _⟩ := hO.out.shape
                     subst e2;go_wp2_with fail
                     go_quiet (fail)
                     go_wp2_with fail
                     go_roundw
                     case rel => exact ⟨i + 1, i, [], by omega, by simp, by go_num, (by rw [deepV_pos (by omega)]), by omega, Lib.hid (OpsAt.below hO.out (below_drewN (Below.refl _ _) _)), Lib.hid GoodI.out_nil, Lib.hid (by rw [← hms.out, ← hP.out, popF_nil]), Lib.hid (below_drewN hB.out _)⟩
                     case measure => simp [intOf]; omega
                   · by_cases hcn : u2.came = u2.n
                     · have he2 : (u2.came : Int) = (u2.n : Int) := by omega
                       have he : ((u2.came : Int) == (u2.n : Int)) = true := by rw [hcn]; exact beq_self_eq_true _
                       rcases r2 with _ | ⟨v3, r3⟩
                       · obtain ⟨g2, c2, e2, hg2, hg2l, hc2, hc2m⟩ := hO.out.head
                         subst e2;have x1 := fun n => below_cell (n := n) (hO.out.cell (k := 0) rfl 1 (by omega))
                         have x2 := fun n => below_cell (n := n) (hO.out.cell (k := 0) rfl 2 (by omega))
                         have hpop := hO.out.pop (k := 0) rfl;have hs := run_headO g2 0 1 c2 (by omega) (by simpa using hc2) (by simp at hc2; omega);simp only [Nat.zero_mul, Nat.zero_add] at x1 x2;replace hcn := Lib.hid hcn;replace hpop := Lib.hid hpop;go_wp2_with fail
                         go_quiet (fail)
                         go_wp2_with fail
                         go_roundw
                         case rel => exact ⟨[], by simp, Lib.hid (OpsAt.below hpop.out (below_drewN (Below.refl _ _) _)), Lib.hid GoodI.nil, Lib.hid (by rw [← hP.out, popF_one hcn.out, popF_nil]), Lib.hid (below_drewN hB.out _)⟩
                         case measure => simp [lenO]
                       · obtain ⟨g2, c2, e2, hg2, hg2l, hc2, hc2m⟩ := hO.out.head
                         subst e2;obtain ⟨m, hm⟩ := exHid r3.length;have hkm : m + 1 = (v3 :: r3).length := by rw [← hm.out]; rfl
                         rw [← hkm] at hc2;have hO2 := hO.out;rw [← hkm] at hO2;have hpop := hO2.pop hkm;have x1 := fun n => below_cell (n := n) (hO2.cell hkm 1 (by omega))
                         have x2 := fun n => below_cell (n := n) (hO2.cell hkm 2 (by omega))
                         have y1 := fun n => below_cell (n := n) (hpop.cell hm.out.symm 1 (by omega))
                         have fz := fun n => (show (wr.drewN n).frozen? ⟨g2, m * 3 + 1, none⟩ = false from hpop.frozen hm.out.symm _)
                         have hs := run_headO g2 (m + 1) (m + 1 + 1) c2 (by omega) (by omega) (by omega);have hst := fun n => Lib.hid ((hpop.below (below_drewN (Below.refl _ _) n)).came hm.out.symm ((v3.came : Int) + 1) (by omega))
                         have hBs := fun n z => Lib.hid ((below_drewN hB.out n).setCell (p := ⟨g2, m * 3 + 1, none⟩) hg2 z)
                         have hv3 := (hG.out.1 v3 (by simp)).2.1;have hv4 := (hG.out.2 v3 (by simp))
                         try simp only [opC, List.getElem?_cons_succ, List.getElem?_cons_zero] at x1 x2 y1
                         have hL3 : m + 1 + 1 ≤ i + 1 := by rw [List.length_cons, ← hkm] at hL2; exact hL2
                         have hP2 := Lib.hid (popF_two (v := v3) (r := r3) hcn);replace hcn := Lib.hid hcn;replace hpop := Lib.hid hpop;replace hO2 := Lib.hid hO2;rw [show (Value.slice (some ⟨g2, 0, none⟩) ((v3 :: r3).length + 1) c2) = Value.slice (some ⟨g2, 0, none⟩) (m + 1 + 1) c2 by rw [← hkm]];replace hkm := Lib.hid hkm;have hgd : (0 : Int) < (m : Int) + 1 + 1 := by omega
                         have hgd2 : (0 : Int) < ((m + 1 + 1 : Nat) : Int) := by omega
                         have hw1 : IntKind.i64.wrap ((m : Int) + 1) = (m : Int) + 1 := IntWalk.i64_in _ (by omega);have hw2 : ((m : Int) + 1).toNat = m + 1 := by omega
                         have hgd3 : (0 : Int) ≤ (m : Int) + 1 := by omega
                         have hgd4 : (m : Int) + 1 < (m : Int) + 1 + 1 := by omega
                         go_wp2_with fail
                         go_quiet (fail)
                         have y1' := y1 nq; have fz' := fz nq; have hst' := hst nq; have hBs' := hBs nq;clear x1 x2 y1 fz hst hBs;generalize wr.drewN nq = w6 at *;clear he he2 hw2 hgd hgd2 hgd3 hgd4 hs hw1;have hw3 : IntKind.i64.wrap ((v3.came : Int) + 1) = (v3.came : Int) + 1 := IntWalk.i64_in _ (by omega);have hgm : (0 : Int) < (m : Int) + 1 := by omega
                         have hwm : IntKind.i64.wrap (m : Int) = (m : Int) := IntWalk.i64_in _ (by omega);have hgm2 : (m : Int) < (m : Int) + 1 := by omega
                         go_wp2_with fail
                         go_roundw
                         case rel => exact ⟨⟨v3.op, v3.came + 1, v3.n⟩ :: r3, by simp at hL2 ⊢; omega, hst', Lib.hid (GoodI.next hG.out), Lib.hid (by rw [← hP.out, hP2.out]), hBs' _⟩
                         case measure => simp [lenO]
                     · obtain ⟨g2, c2, e2, hg2, hg2l, hc2, hc2m⟩ := hO.out.head
                       subst e2;obtain ⟨m, hm⟩ := exHid r2.length;rw [hm.out] at hc2;have hO2 := hO.out;rw [hm.out] at hO2;have x1 := fun n => below_cell (n := n) (hO2.cell hm.out.symm 1 (by omega))
                       have x2 := fun n => below_cell (n := n) (hO2.cell hm.out.symm 2 (by omega))
                       try simp only [opC, List.getElem?_cons_succ, List.getElem?_cons_zero] at x1 x2
                       have he : ((u2.came : Int) == (u2.n : Int)) = false := beq_eq_false_iff_ne.2 (by omega);have hPo := Lib.hid (hP.out.symm.trans (popF_not u2 r2 hcn));have hL3 : m + 1 ≤ i + 1 := by rw [List.length_cons, hm.out] at hL2; exact hL2
                       have hGo := Lib.hid (hG.out.out hcn);replace hcn := Lib.hid hcn;rw [show (Value.slice (some ⟨g2, 0, none⟩) (r2.length + 1) c2) = Value.slice (some ⟨g2, 0, none⟩) (m + 1) c2 by rw [hm.out]];have hgd : (0 : Int) < (m : Int) + 1 := by omega
                       have hwm : IntKind.i64.wrap (m : Int) = (m : Int) := IntWalk.i64_in _ (by omega);have hgm2 : (m : Int) < (m : Int) + 1 := by omega
                       replace hO2 := Lib.hid hO2;replace hm := Lib.hid hm;go_wp2_with fail
                       go_quiet (fail)
                       go_wp2_with fail
                       go_roundw
                       case rel => exact ⟨i + 1, i, u2 :: r2, by omega, hL2, by go_num, (by rw [deepV_pos (by omega)]), by omega, Lib.hid (OpsAt.below hO2.out (below_drewN (Below.refl _ _) _)), hGo, Lib.hid (by rw [← hms.out]; rw [hPo.out]), Lib.hid (below_drewN hB.out _)⟩
                       case measure => simp [intOf]; omega
               · have h40i : ¬ (40 : Int) ≤ (M : Int) + 1 := by omega
                 rw [if_neg (fun c => h40 (by have := c.2; rw [hLM.out] at this; exact this))] at hmq;have hms := Lib.hid hmq;clear hmq;go_wp2_with (at_builtin; (refine wpList_append_op (base := w.heap.size) (u := ⟨op, 0, kn⟩) rfl _ _ rfl rfl hO4.out rfl hcl.out hLk hsz4 ?_; intro g5 c5 w5 hO5 hB5))
                 have hB6 := Lib.hid (hB4.out.trans hB5);replace hO5 := Lib.hid hO5;clear hB5 hO4 hcl hB4;go_loopw [4] (fun t4 wr => ∃ L2 : List Op3, L2.length ≤ i + 1 ∧ Hid (OpsAt wr w.heap.size t4 L2) ∧ Hid (GoodI L2) ∧ Hid (popF L2 = popF (⟨op, 0, kn⟩ :: (Op3.mk uo uc un :: r))) ∧ Hid (Below w.heap.size w wr)) (fun t4 _ => lenO t4)
                 case atStart => exact ⟨⟨op, 0, kn⟩ :: (Op3.mk uo uc un :: r), hLs, hO5, hGI, Lib.hid rfl, hB6⟩
                 case round =>
                   clear hO5 hB6 hGI;obtain ⟨L2, hL2, hO, hG, hP, hB⟩ := hrel;rcases L2 with _ | ⟨u2, r2⟩
                   · obtain ⟨a2, c2, e2, _, _⟩ := hO.out.shape
                     subst e2;go_wp2_with fail
                     go_quiet (fail)
                     go_wp2_with fail
                     go_roundw
                     case rel => exact ⟨i + 1, 0, [], by omega, by simp, by go_num, (by rfl), by omega, Lib.hid (OpsAt.below hO.out (below_drewN (Below.refl _ _) _)), Lib.hid GoodI.out_nil, Lib.hid (by rw [← hms.out, ← hP.out, popF_nil]), Lib.hid (below_drewN hB.out _)⟩
                     case measure => simp [intOf]; omega
                   · by_cases hcn : u2.came = u2.n
                     · have he2 : (u2.came : Int) = (u2.n : Int) := by omega
                       have he : ((u2.came : Int) == (u2.n : Int)) = true := by rw [hcn]; exact beq_self_eq_true _
                       rcases r2 with _ | ⟨v3, r3⟩
                       · obtain ⟨g2, c2, e2, hg2, hg2l, hc2, hc2m⟩ := hO.out.head
                         subst e2;have x1 := fun n => below_cell (n := n) (hO.out.cell (k := 0) rfl 1 (by omega))
                         have x2 := fun n => below_cell (n := n) (hO.out.cell (k := 0) rfl 2 (by omega))
                         have hpop := hO.out.pop (k := 0) rfl;have hs := run_headO g2 0 1 c2 (by omega) (by simpa using hc2) (by simp at hc2; omega);simp only [Nat.zero_mul, Nat.zero_add] at x1 x2;replace hcn := Lib.hid hcn;replace hpop := Lib.hid hpop;go_wp2_with fail
                         go_quiet (fail)
                         go_wp2_with fail
                         go_roundw
                         case rel => exact ⟨[], by simp, Lib.hid (OpsAt.below hpop.out (below_drewN (Below.refl _ _) _)), Lib.hid GoodI.nil, Lib.hid (by rw [← hP.out, popF_one hcn.out, popF_nil]), Lib.hid (below_drewN hB.out _)⟩
                         case measure => simp [lenO]
                       · obtain ⟨g2, c2, e2, hg2, hg2l, hc2, hc2m⟩ := hO.out.head
                         subst e2;obtain ⟨m, hm⟩ := exHid r3.length;have hkm : m + 1 = (v3 :: r3).length := by rw [← hm.out]; rfl
                         rw [← hkm] at hc2;have hO2 := hO.out;rw [← hkm] at hO2;have hpop := hO2.pop hkm;have x1 := fun n => below_cell (n := n) (hO2.cell hkm 1 (by omega))
                         have x2 := fun n => below_cell (n := n) (hO2.cell hkm 2 (by omega))
                         have y1 := fun n => below_cell (n := n) (hpop.cell hm.out.symm 1 (by omega))
                         have fz := fun n => (show (wr.drewN n).frozen? ⟨g2, m * 3 + 1, none⟩ = false from hpop.frozen hm.out.symm _)
                         have hs := run_headO g2 (m + 1) (m + 1 + 1) c2 (by omega) (by omega) (by omega);have hst := fun n => Lib.hid ((hpop.below (below_drewN (Below.refl _ _) n)).came hm.out.symm ((v3.came : Int) + 1) (by omega))
                         have hBs := fun n z => Lib.hid ((below_drewN hB.out n).setCell (p := ⟨g2, m * 3 + 1, none⟩) hg2 z)
                         have hv3 := (hG.out.1 v3 (by simp)).2.1;have hv4 := (hG.out.2 v3 (by simp))
                         try simp only [opC, List.getElem?_cons_succ, List.getElem?_cons_zero] at x1 x2 y1
                         have hL3 : m + 1 + 1 ≤ i + 1 := by rw [List.length_cons, ← hkm] at hL2; exact hL2
                         have hP2 := Lib.hid (popF_two (v := v3) (r := r3) hcn);replace hcn := Lib.hid hcn;replace hpop := Lib.hid hpop;replace hO2 := Lib.hid hO2;rw [show (Value.slice (some ⟨g2, 0, none⟩) ((v3 :: r3).length + 1) c2) = Value.slice (some ⟨g2, 0, none⟩) (m + 1 + 1) c2 by rw [← hkm]];replace hkm := Lib.hid hkm;have hgd : (0 : Int) < (m : Int) + 1 + 1 := by omega
                         have hgd2 : (0 : Int) < ((m + 1 + 1 : Nat) : Int) := by omega
                         have hw1 : IntKind.i64.wrap ((m : Int) + 1) = (m : Int) + 1 := IntWalk.i64_in _ (by omega);have hw2 : ((m : Int) + 1).toNat = m + 1 := by omega
                         have hgd3 : (0 : Int) ≤ (m : Int) + 1 := by omega
                         have hgd4 : (m : Int) + 1 < (m : Int) + 1 + 1 := by omega
                         go_wp2_with fail
                         go_quiet (fail)
                         have y1' := y1 nq; have fz' := fz nq; have hst' := hst nq; have hBs' := hBs nq;clear x1 x2 y1 fz hst hBs;generalize wr.drewN nq = w6 at *;clear he he2 hw2 hgd hgd2 hgd3 hgd4 hs hw1;have hw3 : IntKind.i64.wrap ((v3.came : Int) + 1) = (v3.came : Int) + 1 := IntWalk.i64_in _ (by omega);have hgm : (0 : Int) < (m : Int) + 1 := by omega
                         have hwm : IntKind.i64.wrap (m : Int) = (m : Int) := IntWalk.i64_in _ (by omega);have hgm2 : (m : Int) < (m : Int) + 1 := by omega
                         go_wp2_with fail
                         go_roundw
                         case rel => exact ⟨⟨v3.op, v3.came + 1, v3.n⟩ :: r3, by simp at hL2 ⊢; omega, hst', Lib.hid (GoodI.next hG.out), Lib.hid (by rw [← hP.out, hP2.out]), hBs' _⟩
                         case measure => simp [lenO]
                     · obtain ⟨g2, c2, e2, hg2, hg2l, hc2, hc2m⟩ := hO.out.head
                       subst e2;obtain ⟨m, hm⟩ := exHid r2.length;rw [hm.out] at hc2;have hO2 := hO.out;rw [hm.out] at hO2;have x1 := fun n => below_cell (n := n) (hO2.cell hm.out.symm 1 (by omega))
                       have x2 := fun n => below_cell (n := n) (hO2.cell hm.out.symm 2 (by omega))
                       try simp only [opC, List.getElem?_cons_succ, List.getElem?_cons_zero] at x1 x2
                       have he : ((u2.came : Int) == (u2.n : Int)) = false := beq_eq_false_iff_ne.2 (by omega);have hPo := Lib.hid (hP.out.symm.trans (popF_not u2 r2 hcn));have hL3 : m + 1 ≤ i + 1 := by rw [List.length_cons, hm.out] at hL2; exact hL2
                       have hGo := Lib.hid (hG.out.out hcn);replace hcn := Lib.hid hcn;rw [show (Value.slice (some ⟨g2, 0, none⟩) (r2.length + 1) c2) = Value.slice (some ⟨g2, 0, none⟩) (m + 1) c2 by rw [hm.out]];have hgd : (0 : Int) < (m : Int) + 1 := by omega
                       have hwm : IntKind.i64.wrap (m : Int) = (m : Int) := IntWalk.i64_in _ (by omega);have hgm2 : (m : Int) < (m : Int) + 1 := by omega
                       replace hO2 := Lib.hid hO2;replace hm := Lib.hid hm;go_wp2_with fail
                       go_quiet (fail)
                       go_wp2_with fail
                       go_roundw
                       case rel => exact ⟨i + 1, 0, u2 :: r2, by omega, hL2, by go_num, (by rfl), by omega, Lib.hid (OpsAt.below hO2.out (below_drewN (Below.refl _ _) _)), hGo, Lib.hid (by rw [← hms.out]; rw [hPo.out]), Lib.hid (below_drewN hB.out _)⟩
                       case measure => simp [intOf]; omega
             · have hd1 : 0 < d := by omega
               rw [deepV_pos hd1];have hd2 : ¬ (d : Int) < 0 := by omega
               rw [if_neg (fun c => hd0 c.1)] at hmq;have hms := Lib.hid hmq;clear hmq;go_wp2_with (at_builtin; (refine wpList_append_op (base := w.heap.size) (u := ⟨op, 0, kn⟩) rfl _ _ rfl rfl hO4.out rfl hcl.out hLk hsz4 ?_; intro g5 c5 w5 hO5 hB5))
               have hB6 := Lib.hid (hB4.out.trans hB5);replace hO5 := Lib.hid hO5;clear hB5 hO4 hcl hB4;go_loopw [4] (fun t4 wr => ∃ L2 : List Op3, L2.length ≤ i + 1 ∧ Hid (OpsAt wr w.heap.size t4 L2) ∧ Hid (GoodI L2) ∧ Hid (popF L2 = popF (⟨op, 0, kn⟩ :: (Op3.mk uo uc un :: r))) ∧ Hid (Below w.heap.size w wr)) (fun t4 _ => lenO t4)
               case atStart => exact ⟨⟨op, 0, kn⟩ :: (Op3.mk uo uc un :: r), hLs, hO5, hGI, Lib.hid rfl, hB6⟩
               case round =>
                 clear hO5 hB6 hGI;obtain ⟨L2, hL2, hO, hG, hP, hB⟩ := hrel;rcases L2 with _ | ⟨u2, r2⟩
                 · obtain ⟨a2, c2, e2, _, _⟩ := hO.out.shape
                   subst e2;go_wp2_with fail
                   go_quiet (fail)
                   go_wp2_with fail
                   go_roundw
                   case rel => exact ⟨i + 1, d, [], by omega, by simp, by go_num, (by rw [deepV_pos hd1]), by omega, Lib.hid (OpsAt.below hO.out (below_drewN (Below.refl _ _) _)), Lib.hid GoodI.out_nil, Lib.hid (by rw [← hms.out, ← hP.out, popF_nil]), Lib.hid (below_drewN hB.out _)⟩
                   case measure => simp [intOf]; omega
                 · by_cases hcn : u2.came = u2.n
                   · have he2 : (u2.came : Int) = (u2.n : Int) := by omega
                     have he : ((u2.came : Int) == (u2.n : Int)) = true := by rw [hcn]; exact beq_self_eq_true _
                     rcases r2 with _ | ⟨v3, r3⟩
                     · obtain ⟨g2, c2, e2, hg2, hg2l, hc2, hc2m⟩ := hO.out.head
                       subst e2;have x1 := fun n => below_cell (n := n) (hO.out.cell (k := 0) rfl 1 (by omega))
                       have x2 := fun n => below_cell (n := n) (hO.out.cell (k := 0) rfl 2 (by omega))
                       have hpop := hO.out.pop (k := 0) rfl;have hs := run_headO g2 0 1 c2 (by omega) (by simpa using hc2) (by simp at hc2; omega);simp only [Nat.zero_mul, Nat.zero_add] at x1 x2;replace hcn := Lib.hid hcn;replace hpop := Lib.hid hpop;go_wp2_with fail
                       go_quiet (fail)
                       go_wp2_with fail
                       go_roundw
                       case rel => exact ⟨[], by simp, Lib.hid (OpsAt.below hpop.out (below_drewN (Below.refl _ _) _)), Lib.hid GoodI.nil, Lib.hid (by rw [← hP.out, popF_one hcn.out, popF_nil]), Lib.hid (below_drewN hB.out _)⟩
                       case measure => simp [lenO]
                     · obtain ⟨g2, c2, e2, hg2, hg2l, hc2, hc2m⟩ := hO.out.head
                       subst e2;obtain ⟨m, hm⟩ := exHid r3.length;have hkm : m + 1 = (v3 :: r3).length := by rw [← hm.out]; rfl
                       rw [← hkm] at hc2;have hO2 := hO.out;rw [← hkm] at hO2;have hpop := hO2.pop hkm;have x1 := fun n => below_cell (n := n) (hO2.cell hkm 1 (by omega))
                       have x2 := fun n => below_cell (n := n) (hO2.cell hkm 2 (by omega))
                       have y1 := fun n => below_cell (n := n) (hpop.cell hm.out.symm 1 (by omega))
                       have fz := fun n => (show (wr.drewN n).frozen? ⟨g2, m * 3 + 1, none⟩ = false from hpop.frozen hm.out.symm _)
                       have hs := run_headO g2 (m + 1) (m + 1 + 1) c2 (by omega) (by omega) (by omega);have hst := fun n => Lib.hid ((hpop.below (below_drewN (Below.refl _ _) n)).came hm.out.symm ((v3.came : Int) + 1) (by omega))
                       have hBs := fun n z => Lib.hid ((below_drewN hB.out n).setCell (p := ⟨g2, m * 3 + 1, none⟩) hg2 z)
                       have hv3 := (hG.out.1 v3 (by simp)).2.1;have hv4 := (hG.out.2 v3 (by simp))
                       try simp only [opC, List.getElem?_cons_succ, List.getElem?_cons_zero] at x1 x2 y1
                       have hL3 : m + 1 + 1 ≤ i + 1 := by rw [List.length_cons, ← hkm] at hL2; exact hL2
                       have hP2 := Lib.hid (popF_two (v := v3) (r := r3) hcn);replace hcn := Lib.hid hcn;replace hpop := Lib.hid hpop;replace hO2 := Lib.hid hO2;rw [show (Value.slice (some ⟨g2, 0, none⟩) ((v3 :: r3).length + 1) c2) = Value.slice (some ⟨g2, 0, none⟩) (m + 1 + 1) c2 by rw [← hkm]];replace hkm := Lib.hid hkm;have hgd : (0 : Int) < (m : Int) + 1 + 1 := by omega
                       have hgd2 : (0 : Int) < ((m + 1 + 1 : Nat) : Int) := by omega
                       have hw1 : IntKind.i64.wrap ((m : Int) + 1) = (m : Int) + 1 := IntWalk.i64_in _ (by omega);have hw2 : ((m : Int) + 1).toNat = m + 1 := by omega
                       have hgd3 : (0 : Int) ≤ (m : Int) + 1 := by omega
                       have hgd4 : (m : Int) + 1 < (m : Int) + 1 + 1 := by omega
                       go_wp2_with fail
                       go_quiet (fail)
                       have y1' := y1 nq; have fz' := fz nq; have hst' := hst nq; have hBs' := hBs nq;clear x1 x2 y1 fz hst hBs;generalize wr.drewN nq = w6 at *;clear he he2 hw2 hgd hgd2 hgd3 hgd4 hs hw1;have hw3 : IntKind.i64.wrap ((v3.came : Int) + 1) = (v3.came : Int) + 1 := IntWalk.i64_in _ (by omega);have hgm : (0 : Int) < (m : Int) + 1 := by omega
                       have hwm : IntKind.i64.wrap (m : Int) = (m : Int) := IntWalk.i64_in _ (by omega);have hgm2 : (m : Int) < (m : Int) + 1 := by omega
                       go_wp2_with fail
                       go_roundw
                       case rel => exact ⟨⟨v3.op, v3.came + 1, v3.n⟩ :: r3, by simp at hL2 ⊢; omega, hst', Lib.hid (GoodI.next hG.out), Lib.hid (by rw [← hP.out, hP2.out]), hBs' _⟩
                       case measure => simp [lenO]
                   · obtain ⟨g2, c2, e2, hg2, hg2l, hc2, hc2m⟩ := hO.out.head
                     subst e2;obtain ⟨m, hm⟩ := exHid r2.length;rw [hm.out] at hc2;have hO2 := hO.out;rw [hm.out] at hO2;have x1 := fun n => below_cell (n := n) (hO2.cell hm.out.symm 1 (by omega))
                     have x2 := fun n => below_cell (n := n) (hO2.cell hm.out.symm 2 (by omega))
                     try simp only [opC, List.getElem?_cons_succ, List.getElem?_cons_zero] at x1 x2
                     have he : ((u2.came : Int) == (u2.n : Int)) = false := beq_eq_false_iff_ne.2 (by omega);have hPo := Lib.hid (hP.out.symm.trans (popF_not u2 r2 hcn));have hL3 : m + 1 ≤ i + 1 := by rw [List.length_cons, hm.out] at hL2; exact hL2
                     have hGo := Lib.hid (hG.out.out hcn);replace hcn := Lib.hid hcn;rw [show (Value.slice (some ⟨g2, 0, none⟩) (r2.length + 1) c2) = Value.slice (some ⟨g2, 0, none⟩) (m + 1) c2 by rw [hm.out]];have hgd : (0 : Int) < (m : Int) + 1 := by omega
                     have hwm : IntKind.i64.wrap (m : Int) = (m : Int) := IntWalk.i64_in _ (by omega);have hgm2 : (m : Int) < (m : Int) + 1 := by omega
                     replace hO2 := Lib.hid hO2;replace hm := Lib.hid hm;go_wp2_with fail
                     go_quiet (fail)
                     go_wp2_with fail
                     go_roundw
                     case rel => exact ⟨i + 1, d, u2 :: r2, by omega, hL2, by go_num, (by rw [deepV_pos hd1]), by omega, Lib.hid (OpsAt.below hO2.out (below_drewN (Below.refl _ _) _)), hGo, Lib.hid (by rw [← hms.out]; rw [hPo.out]), Lib.hid (below_drewN hB.out _)⟩
                     case measure => simp [intOf]; omega
     · have hiN : i = N := by omega
       have hms : machEnd N L d = D := by
         have h := hM.out;have e := machAt_end ts L d;rw [hN.out] at e;rw [← e, ← h, hiN]
       have hlti : ¬ ((i : Int) < (N : Int)) := by omega
       unfold machEnd at hms;rcases L with _ | ⟨u, r⟩
       · by_cases hN0 : N = 0
         · have q : ((N : Int) == 0) = true := beq_iff_eq.2 (by omega)
           rw [if_pos (.inl hN0)] at hms;subst hms;go_wp2_with fail
           go_ret2
           exact ⟨rfl, hB.out⟩
         · have q : ((N : Int) == 0) = false := beq_eq_false_iff_ne.2 (by omega)
           rw [if_neg (by rintro (c | c); exact hN0 c; exact c rfl)] at hms;rcases Nat.eq_zero_or_pos d with hd0 | hd0
           · subst hd0
             rw [if_neg (by omega)] at hms;subst hms;rw [show deepV 0 = -1 from rfl];go_wp2_with fail
             go_ret2
             exact ⟨rfl, hB.out⟩
           · rw [if_pos hd0] at hms
             subst hms;rw [deepV_pos hd0];have hdi : (0 : Int) ≤ (d : Int) := by omega
             go_wp2_with fail
             go_ret2
             exact ⟨rfl, hB.out⟩
       · rw [if_pos (.inr (by simp))] at hms
         subst hms;have hLi2 : 0 < N := by rw [List.length_cons] at hLi; omega
         have q : ((N : Int) == 0) = false := beq_eq_false_iff_ne.2 (by omega);have hgd : (0 : Int) < ((u :: r).length : Int) := by rw [List.length_cons]; omega
         go_wp2_with fail
         go_ret2
         exact ⟨rfl, hB.out⟩
theorem refCheck_any {v : Value} {ts : List Tw} (w : World) (hT : TwIn w v ts) (hf : ∀ x ∈ ts, FitT x) :
   Calls Tryd.prog 18 #[v] w fun e w' => e = .returned (.tuple #[.int .i64 ((docF ts).1 : Int), .int .i64 (docF ts).2]) ∧ Below w.heap.size w w' :=
 refCheck_text w hT (fun x hx => ⟨(hf x hx).2.2.2, (hf x hx).1⟩)
end Go.Proofs.YtjiemkidmlgbeaaDoor
