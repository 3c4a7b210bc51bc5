/- A part of the proof: ICir, ICir2, IWd, IRt, IAll, IAr. No condition. -/
import Derived.Shelf.Abstract
import Derived.Test.YtefijbpbenmbgaaDoorQ12
import Derived.Test.YtefijbpbenmbgaaDoorQ14
import Derived.Test.YtefijbpbenmbgaaDoorQ17
import Derived.Test.YtefijbpbenmbgaaDoorQ20
set_option linter.unusedVariables false
set_option linter.unusedSimpArgs false
namespace Go.Proofs.YtefijbpbenmbgaaDoor
open Go.RowKit
set_option maxRecDepth 20000 in
set_option maxHeartbeats 1000000 in
theorem behind_any {code : List Ins} {v : Value} {w : World} (h : InsIn w v code) {q : Nat} (hq : q < code.length) (hn : code.length ≤ 8192) (h0 : (inAt code q).op = 1 → 0 ≤ (inAt code q).a) :
   Calls Tryd.prog 50 #[v, .int .i64 q] w fun e w' => e = .returned (.int .i64 (succI code q : Nat)) ∧ w = w' := by
 obtain ⟨g, off, cap, rfl, hg, x0, x1, x2, x3⟩ := h.cells (Below.refl _ w) hq (op := (inAt code q).op) (a := (inAt code q).a) (x := (inAt code q).num) (tx := (inAt code q).text) rfl;obtain ⟨R, hR⟩ := exHid (succI code q);rw [hR.out];have hR' := hR.out;unfold succI at hR';clear hR;have hlt : (q : Int) < (code.length : Int) := by omega
 have hq2 : (q : Int) ≤ 8192 := by omega
 obtain ⟨n, hN⟩ := exHid code.length;rw [hN.out] at hlt ⊢;generalize (inAt code q).op = op at *;generalize (inAt code q).a = a at *;by_cases h1 : op = 1
 · rw [if_pos h1] at hR'
   have t1 : ((op : Int) == 1) = true := by rw [h1]; rfl
   have ha := h0 h1;replace h1 := Lib.hid h1;replace hR' := Lib.hid hR';clear h0;go_enter Tryd.func50, Tryd.ntmps50
   go_wp2
   go_ret
   exact ⟨ret_int (by rw [← hR'.out]; omega), rfl⟩
 · rw [if_neg h1] at hR'
   have t1 : ((op : Int) == 1) = false := beq_eq_false_iff_ne.2 (by omega);replace h1 := Lib.hid h1;replace hR' := Lib.hid hR';clear h0;go_enter Tryd.func50, Tryd.ntmps50
   go_wp2
   go_ret
   exact ⟨ret_int (by rw [← hR'.out]; omega), rfl⟩
def StopsI (code : List Ins) (q : Nat) : Prop := ∃ k, freeI (inAt code (itI code k q)).op = false
theorem stops_it {code : List Ins} {m j i : Nat} (hj : j ≤ m) (h : StopsI code (itI code m i)) : StopsI code (itI code j i) := by
 obtain ⟨k, hk⟩ := h;refine ⟨m - j + k, ?_⟩;rw [← itI_add, show j + (m - j + k) = m + k by omega, itI_add];exact hk
theorem itI_succ (code : List Ins) (m i : Nat) : itI code (m + 1) i = succI code (itI code m i) := by
 rw [itI_add]; rfl
def triedI (tr : List Int) : Nat → Bool := fun q => decide (tr.getD q (-1) ≠ -1)
theorem tried_set {tr : List Int} {p : Nat} {v : Int} (hp : p < tr.length) (hv : v ≠ -1) : triedI (tr.set p v) = goneI (triedI tr) p := by
 funext q
 unfold triedI goneI;rw [getD_set _ _ _ _ hp];by_cases e : q = p
 · rw [if_pos e, decide_eq_true hv, decide_eq_true e]; rfl
 · rw [if_neg e, decide_eq_false e]; rfl
structure OutI (code : List Ins) (d tr : List Int) (i : Nat) : Prop where
 len : tr.length = d.length
 old : ∀ q, tr.getD q (-1) ≠ -1 → 0 ≤ tr.getD q (-1) ∧ tr.getD q (-1) < i ∧ StopsI code q
 all : ∀ q, q < i → d.getD q (-1) ≠ -1 → StopsI code q
structure InI (code : List Ins) (d tr : List Int) (i m c : Nat) : Prop where
 len : tr.length = d.length
 old : ∀ q, tr.getD q (-1) ≠ -1 → (0 ≤ tr.getD q (-1) ∧ tr.getD q (-1) < i ∧ StopsI code q) ∨ (tr.getD q (-1) = i ∧ ∃ j, j < m ∧ q = itI code j i)
 all : ∀ q, q < i → d.getD q (-1) ≠ -1 → StopsI code q
 free : ∀ j, j < m → freeI (inAt code (itI code j i)).op = true
 cnt : cntI (triedI tr) d.length = c
theorem InI.start {code : List Ins} {d tr : List Int} {i : Nat} (h : OutI code d tr i) : InI code d tr i 0 (cntI (triedI tr) d.length) :=
 ⟨h.len, fun q hq => .inl (h.old q hq), h.all, fun j hj => by omega, rfl⟩
section
variable {code : List Ins} {d tr : List Int} {i m c : Nat}
theorem InI.met (h : InI code d tr i m c) (hf : FitsI code d) (h0 : ∀ p, 0 ≤ takesI (inAt code p)) (hi : d.getD i (-1) ≠ -1) : d.getD (itI code m i) (-1) ≠ -1 := it_met hf h0 m i hi h.free
theorem InI.step (h : InI code d tr i m c) (hf : FitsI code d) (h0 : ∀ p, 0 ≤ takesI (inAt code p)) (hi : d.getD i (-1) ≠ -1) (hu : tr.getD (itI code m i) (-1) = -1) (hfr : freeI (inAt code (itI code m i)).op = true) : 1 ≤ c ∧ InI code d (tr.set (itI code m i) i) i (m + 1) (c - 1) := by
 have hlt : itI code m i < tr.length := by rw [h.len]; exact met_lt (h.met hf h0 hi)
 have hc := cntI_gone (g := triedI tr) (p := itI code m i) (by unfold triedI; rw [hu]; rfl) (n := d.length) (by rw [← h.len]; exact hlt);rw [h.cnt] at hc;refine ⟨by omega, ⟨by rw [List.length_set]; exact h.len, fun q hq => ?_, h.all, fun j hj => ?_, ?_⟩⟩
 · rw [getD_set _ _ _ _ hlt] at hq ⊢
   by_cases e : q = itI code m i
   · rw [if_pos e]; exact .inr ⟨rfl, m, by omega, e⟩
   · rw [if_neg e] at hq ⊢
     rcases h.old q hq with a | ⟨a, j, b, e2⟩
     · exact .inl a
     · exact .inr ⟨a, j, by omega, e2⟩
 · by_cases e : j = m
   · rw [e]; exact hfr
   · exact h.free j (by omega)
 · rw [tried_set hlt (by omega)]
   omega
theorem InI.round (h : InI code d tr i m c) (hf : FitsI code d) (h0 : ∀ p, 0 ≤ takesI (inAt code p)) (hi : d.getD i (-1) ≠ -1) (hu : tr.getD (itI code m i) (-1) = i) : circI code d = some i := by
 unfold circI;rw [List.find?_range_eq_some];have hj : ∃ j, j < m ∧ itI code m i = itI code j i := by
   rcases h.old (itI code m i) (by rw [hu]; omega) with ⟨a, b, _⟩ | ⟨_, j, b, e⟩
   · rw [hu] at b; omega
   · exact ⟨j, b, e⟩
 obtain ⟨j, hj, e⟩ := hj;refine ⟨?_, List.mem_range.2 (met_lt hi), fun q hq => ?_⟩
 · rw [run_round hj e h.free, decide_eq_true hi]; rfl
 · by_cases hm : d.getD q (-1) = -1
   · rw [decide_eq_false (fun h => h hm)]; rfl
   · obtain ⟨k, hk⟩ := h.all q hq hm
     rw [run_stops hf h0 hm hk, Bool.and_false]; rfl
theorem InI.out (h : InI code d tr i m c) (hs : StopsI code (itI code m i)) : OutI code d tr (i + 1) := by
 have hsi : StopsI code i := stops_it (j := 0) (by omega) hs;refine ⟨h.len, fun q hq => ?_, fun q hq hm => ?_⟩
 · rcases h.old q hq with ⟨a, b, e⟩ | ⟨a, j, b, e⟩
   · exact ⟨a, by omega, e⟩
   · exact ⟨by omega, by omega, by rw [e]; exact stops_it (by omega) hs⟩
 · by_cases e : q = i
   · rw [e]; exact hsi
   · exact h.all q (by omega) hm
end
theorem OutI.skip {code : List Ins} {d tr : List Int} {i : Nat} (h : OutI code d tr i) (hi : d.getD i (-1) = -1) : OutI code d tr (i + 1) :=
 ⟨h.len, fun q hq => ⟨(h.old q hq).1, by have := (h.old q hq).2.1; omega, (h.old q hq).2.2⟩, fun q hq hm => h.all q (by
   by_cases e : q = i
   · rw [e] at hm; exact absurd hi hm
   · omega) hm⟩
theorem OutI.none {code : List Ins} {d tr : List Int} (hf : FitsI code d) (h0 : ∀ p, 0 ≤ takesI (inAt code p)) (h : OutI code d tr d.length) : circI code d = none := by
 unfold circI;rw [List.find?_eq_none];intro q hq;by_cases hm : d.getD q (-1) = -1
 · rw [decide_eq_false (fun h => h hm)]; simp
 · obtain ⟨k, hk⟩ := h.all q (List.mem_range.1 hq) hm
   rw [run_stops hf h0 hm hk, Bool.and_false]; simp
theorem OutI.zero {code : List Ins} {d : List Int} : OutI code d (List.replicate d.length (-1)) 0 :=
 ⟨List.length_replicate .., fun q hq => absurd (by rw [List.getD_eq_getElem?_getD, List.getElem?_replicate]; split <;> rfl) hq, fun q hq => by omega⟩
end Go.Proofs.YtefijbpbenmbgaaDoor
namespace Go.Proofs.YtefijbpbenmbgaaDoor
open Go.RowKit
def cirV (r : Option Nat) : Value := .tuple #[.int .i64 (r.getD 0 : Nat), .bool r.isSome]
def InAt (code : List Ins) (d : List Int) (B gt i : Nat) (w0 : World) (c : Nat) (wr : World) (pl : Value) : Prop :=
 ∃ tr m, DepAt wr gt tr ∧ InI code d tr i m c ∧ pl = .int .i64 (itI code m i : Nat) ∧ Below B w0 wr
set_option maxRecDepth 20000 in
set_option maxHeartbeats 4000000 in
theorem circle_any {code : List Ins} {v : Value} {w : World} {d : List Int} {g : Nat} (h : InsIn w v code) (hn0 : 0 < code.length) (hn : code.length ≤ 8192) (hR : AllRt code) (hD : DepAt w g d) (hf : FitsI code d) :
   Calls Tryd.prog 29 #[v, .slice (some ⟨g, 0, none⟩) d.length d.length] w fun e w' => e = .returned (cirV (circI code d)) ∧ Below w.heap.size w w' := by
 obtain ⟨r, hr⟩ := exHid (circI code d);rw [hr.out];have hgw := hD.lt;obtain ⟨ad, cap, hv, hlc, hcm, hbig⟩ := id h;clear hbig;subst hv;obtain ⟨n, hN⟩ := exHid d.length;have hcl : code.length = n := by rw [← hf.len, hN.out]
 have hI : Hid (InsIn w (.slice ad n cap) code) := Lib.hid (by rw [← hcl]; exact h);rw [hN.out, hcl];clear h;have hn1 : n ≤ 8192 := by omega
 have hnp : 0 < n := by omega
 have rep := fun (W : World) (gx : Nat) (hx : W.cell? ⟨gx, 0, none⟩ = some (.int .i64 (-1))) => repeat_any (-1) n hnp hn1 W hx
 have h0 : ∀ p, 0 ≤ takesI (inAt code p) := fun p => (hR.takes p).1;replace hR := Lib.hid hR;replace hcl := Lib.hid hcl;replace hf := Lib.hid hf;replace h0 := Lib.hid h0;replace hD := Lib.hid hD;clear hn hn0 hlc hcm;go_enter Tryd.func29, Tryd.ntmps29
 go_wp2_with (go_at_call 44; refine (rep _ _ (World.cell?_alloc_new ..)).mono ?_; rintro e w1 ⟨gt, rfl, hg1, hD1, hb1⟩; have hk1 : Below w.heap.size w w1 := below_next (by go_grown) hb1; replace hD1 := Lib.hid hD1; clear hb1)
 have hgt : w.heap.size < gt := by simp at hg1; omega
 clear hg1;go_loopw [7, 8, 9, 16] (fun t7 t8 t9 t16 wr => ∃ (i : Nat) (tr : List Int), i ≤ n ∧ t16 = .int .i64 i ∧ Hid (DepAt wr gt tr) ∧ Hid (OutI code d tr i) ∧ Below w.heap.size w wr) (fun _ _ _ t16 _ => n - (intOf t16).toNat)
 case atStart => exact ⟨0, List.replicate n (-1), by omega, rfl, hD1, Lib.hid (by rw [← hN.out]; exact OutI.zero), hk1⟩
 case round =>
   obtain ⟨i, tr, hi, rfl, hT, hO, hbw⟩ := hrel;rcases Nat.lt_or_ge i n with hlt | hge
   · have hlti : (i : Int) < (n : Int) := by omega
     have hx := (hD.out.below hbw).cell (i := i) (by rw [hN.out]; exact hlt);obtain ⟨di, hdi⟩ := exHid (d.getD i (-1));rw [hdi.out] at hx;have hwg := hT.out.lt;by_cases hm : di = -1
     · have e1 : (di == -1) = true := by rw [hm]; rfl
       replace hm := Lib.hid hm;go_wp2
       go_roundw
       case rel => exact ⟨i + 1, tr, by omega, by go_num, hT, Lib.hid (hO.out.skip (by rw [hdi.out]; exact hm.out)), hbw⟩
       case measure => simp [intOf]; omega
     · have e1 : (di == -1) = false := beq_eq_false_iff_ne.2 hm
       have hmet : Hid (d.getD i (-1) ≠ -1) := Lib.hid (by rw [hdi.out]; exact hm);replace hm := Lib.hid hm;have hix : (i : Int) ≤ 8192 := by omega
       have hTo := hT; have hOo := hO;clear hT hO;go_wp2
       clear hx;go_loopw [9] (fun t9 wi => ∃ c, InAt code d w.heap.size gt i w c wi t9) (fun t9 wi => Classical.epsilon (fun c => InAt code d w.heap.size gt i w c wi t9 ∧ ∀ m, InAt code d w.heap.size gt i w m wi t9 → c ≤ m))
       case atStart => exact ⟨_, tr, 0, hTo.out, InI.start hOo.out, rfl, hbw⟩
       case round =>
         clear hTo hOo hbw hwg;obtain ⟨c, hce, hc⟩ : ∃ c, Hid (Classical.epsilon (fun c => InAt code d w.heap.size gt i w c wr u9 ∧ ∀ m, InAt code d w.heap.size gt i w m wr u9 → c ≤ m) = c) ∧ InAt code d w.heap.size gt i w c wr u9 := ⟨_, Lib.hid rfl, (least_of hrel).1⟩;obtain ⟨tr', m, hT, hII, hpl, hbw⟩ := hc;have hqm := hII.met hf.out h0.out hmet.out;have hql := met_lt hqm;obtain ⟨q, hq⟩ : ∃ x, itI code m i = x := ⟨_, rfl⟩;rw [hq] at hqm hql hpl;subst hpl;have hwg := hT.lt;have hqn : (q : Int) < (n : Int) := by have := hN.out; omega
         have x0 := hT.cell (i := q) (by rw [hII.len]; exact hql);have f0 := hT.fr q;obtain ⟨tq, htq⟩ : ∃ x, tr'.getD q (-1) = x := ⟨_, rfl⟩;rw [htq] at x0;obtain ⟨g0, off, cap0, ecv, hg0, y0, y1, y2, y3⟩ := hI.out.cells hbw (i := q) (by rw [hcl.out]; omega) (op := (inAt code q).op) (a := (inAt code q).a) (x := (inAt code q).num) (tx := (inAt code q).text) rfl;injection ecv with ec1 ec2 ec3;subst ec1 ec3;clear ec2;obtain ⟨op, hop⟩ : ∃ x, (inAt code q).op = x := ⟨_, rfl⟩;rw [hop] at y0;have Fr := fun W => isFree_any (inAt code q).op W
         have Bh := fun (W : World) (hbW : Below w.heap.size w W) => behind_any (q := q) (hI.out.below hbW) (by rw [hcl.out]; omega) (by rw [hcl.out]; exact hn1) (fun ho => (hR.out.goal (by rw [hcl.out]; omega) (by rw [ho]; rfl)).1)
         obtain ⟨fr, hfr⟩ : ∃ x, freeI (inAt code q).op = x := ⟨_, rfl⟩;rw [hfr, hop] at Fr;replace Bh := Lib.hid Bh;replace hop := Lib.hid hop;clear y1 y2 y3;by_cases h1 : tq = -1
         · have e2 : (tq == -1) = true := by rw [h1]; rfl
           have hu : Hid (tr'.getD (itI code m i) (-1) = -1) := Lib.hid (by rw [hq, htq]; exact h1);replace h1 := Lib.hid h1;cases fr with
           | true =>
             obtain ⟨hc1, hII2⟩ := hII.step hf.out h0.out hmet.out hu.out (by rw [hq]; exact hfr);rw [hq] at hII2;have hT2 := hT.set q i;have hb2 : Below w.heap.size w (wr.setCell ⟨gt, q, none⟩ (.int .i64 i)) := by go_grown
             have hnew : InAt code d w.heap.size gt i w (c - 1) (wr.setCell ⟨gt, q, none⟩ (.int .i64 i)) (.int .i64 (succI code q : Nat)) := ⟨_, m + 1, hT2, hII2, by rw [itI_succ, hq], hb2⟩;replace hnew := Lib.hid hnew;replace hII := Lib.hid hII;replace hII2 := Lib.hid hII2;replace hT2 := Lib.hid hT2;replace hT := Lib.hid hT;replace hfr := Lib.hid hfr;replace htq := Lib.hid htq;replace hq := Lib.hid hq;replace hqm := Lib.hid hqm;replace hrel := Lib.hid hrel;clear hrel rep;go_wp2_with first
               | (go_at_call 49; refine (Fr _).mono ?_; rintro e w4 ⟨rfl, rfl⟩)
               | (go_at_call 50; refine (Bh.out _ hb2).mono ?_; rintro e w4 ⟨rfl, rfl⟩)
             go_roundw
             case rel => exact ⟨_, hnew.out⟩
             case measure =>
               have hl2 := (least_of (P := fun c => InAt code d w.heap.size gt i w c (wr.setCell ⟨gt, q, none⟩ (.int .i64 i)) (.int .i64 (succI code q : Nat))) ⟨_, hnew.out⟩).2 _ hnew.out;have hf2 := hce.out;show Classical.epsilon _ < Classical.epsilon _
               rw [hf2];exact Nat.lt_of_le_of_lt hl2 (by omega)
           | false =>
             have hst : Hid (OutI code d tr' (i + 1)) := Lib.hid (hII.out ⟨0, by show freeI (inAt code (itI code m i)).op = false; rw [hq]; exact hfr⟩);have e3 : (tq == (i : Int)) = false := beq_eq_false_iff_ne.2 (by have := h1.out; omega);replace hII := Lib.hid hII;replace hT := Lib.hid hT;replace hfr := Lib.hid hfr;replace htq := Lib.hid htq;replace hq := Lib.hid hq;replace hqm := Lib.hid hqm;replace hrel := Lib.hid hrel;clear hrel rep;go_wp2_with (go_at_call 49; refine (Fr _).mono ?_; rintro e w4 ⟨rfl, rfl⟩)
             go_roundw
             case rel => exact ⟨i + 1, tr', by omega, by go_num, hT, hst, hbw⟩
             case measure => simp [intOf]; omega
         · have e2 : (tq == -1) = false := beq_eq_false_iff_ne.2 h1
           have hu : Hid (tr'.getD (itI code m i) (-1) ≠ -1) := Lib.hid (by rw [hq, htq]; exact h1);replace h1 := Lib.hid h1;by_cases h3 : tq = (i : Int)
           · have e3 : (tq == (i : Int)) = true := by rw [h3]; simp
             have hcr := hII.round hf.out h0.out hmet.out (by rw [hq, htq, h3]);rw [hr.out] at hcr;replace hcr := Lib.hid hcr;replace h3 := Lib.hid h3;replace hII := Lib.hid hII;replace hT := Lib.hid hT;replace hfr := Lib.hid hfr;replace htq := Lib.hid htq;replace hq := Lib.hid hq;replace hqm := Lib.hid hqm;replace hrel := Lib.hid hrel;clear hrel rep;go_wp2
             refine bodyPost_ret (results_tmp2 rfl _ _ _) rfl ?_;refine ⟨?_, hbw⟩;rw [hcr.out];rfl
           · have e3 : (tq == (i : Int)) = false := beq_eq_false_iff_ne.2 h3
             have hst : Hid (OutI code d tr' (i + 1)) := Lib.hid (hII.out (by
               rcases hII.old (itI code m i) hu.out with ⟨_, _, hs⟩ | ⟨hs, _⟩
               · exact hs
               · rw [hq, htq] at hs; exact absurd hs h3))
             replace h3 := Lib.hid h3;replace hII := Lib.hid hII;replace hT := Lib.hid hT;replace hfr := Lib.hid hfr;replace htq := Lib.hid htq;replace hq := Lib.hid hq;replace hqm := Lib.hid hqm;replace hrel := Lib.hid hrel;clear hrel rep;go_wp2
             go_roundw
             case rel => exact ⟨i + 1, tr', by omega, by go_num, hT, hst, hbw⟩
             case measure => simp [intOf]; omega
   · obtain rfl : i = n := by omega
     have hlti : ¬ ((i : Int) < (i : Int)) := by omega
     go_wp2
     refine bodyPost_ret (results_tmp2 rfl _ _ _) rfl ?_;refine ⟨?_, hbw⟩;have := OutI.none hf.out h0.out (by rw [hN.out]; exact hO.out);rw [← hr.out, this];rfl
end Go.Proofs.YtefijbpbenmbgaaDoor
namespace Go.Proofs.YtefijbpbenmbgaaDoor
open Go.RowKit
def WordsOK (w : World) : Prop := ∀ i, i < 58 → w.cell? ⟨1, i, none⟩ = some (.string ⟨(wordI i).toArray⟩)
theorem WordsOK.below {w W : World} (h : WordsOK w) (hb : Below w.heap.size w W) : WordsOK W := by
 intro i hi;have h0 := h i hi;exact (hb.cell (p := ⟨1, i, none⟩) (World.block_lt_of_cell? w _ h0)).trans h0
theorem wordI_none {op : Nat} (h : 58 ≤ op) : wordI op = [] := by
 unfold wordI;rw [List.getD_eq_getElem?_getD, List.getElem?_eq_none (by exact h)];rfl
set_option maxRecDepth 20000 in
theorem Word_any (op : Nat) (hop : op < 256) (w : World) (hW : WordsOK w) :
   Calls Tryd.prog 73 #[.int .u8 op] w fun e w' => e = .returned (.string ⟨(wordI op).toArray⟩) ∧ w = w' := by
 rcases Nat.lt_or_ge op 58 with h | h
 · have hc := hW op h
   generalize wordI op = s at *;clear hW;have h1 : (op : Int) < 58 := by omega
   go_enter Tryd.func73, Tryd.ntmps73
   go_wp2
   go_ret
   exact ⟨rfl, rfl⟩
 · rw [wordI_none h]
   have h1 : ¬ (op : Int) < 58 := by omega
   have h2 : (op : Int) < 256 := by omega
   go_enter Tryd.func73, Tryd.ntmps73
   go_wp2
   go_ret
   exact ⟨rfl, rfl⟩
set_option maxRecDepth 20000 in
theorem allowsText_any (op : Nat) (s : List UInt8) (hs : s.length ≤ 9223372036854775807) (w : World) :
   Calls Tryd.prog 75 #[.int .i64 (tkI op), .string ⟨s.toArray⟩] w fun e w' => e = .returned (.bool (txOK op s)) ∧ w = w' := by
 have hN := name_any ⟨s.toArray⟩ w hs;have eN : (⟨s.toArray⟩ : ByteArray).data.toList = s := rfl;rw [eN] at hN;obtain ⟨n, hn⟩ := exHid (nameL s);rw [hn.out] at hN;obtain ⟨B, hB⟩ := exHid (txOK op s);rw [hB.out];have hB' := hB.out;unfold txOK nameI at hB';rw [hn.out] at hB';have ek : tkI op = if op = 24 then 5 else if op = 50 ∨ op = 51 ∨ op = 56 then 6 else 0 := rfl;replace hN := Lib.hid hN;by_cases h24 : op = 24
 · rw [if_pos h24] at hB' ek
   rw [ek];clear ek hB hn hN;by_cases hl : s.length ≤ 4095
   · rw [decide_eq_true hl] at hB'
     have hl' : (s.length : Int) ≤ 4095 := by omega
     replace hB' := Lib.hid hB';go_enter Tryd.func75, Tryd.ntmps75
     go_wp2
     go_ret
     exact ⟨ret_bool hB'.out, rfl⟩
   · rw [decide_eq_false hl] at hB'
     have hl' : ¬ (s.length : Int) ≤ 4095 := by omega
     replace hB' := Lib.hid hB';go_enter Tryd.func75, Tryd.ntmps75
     go_wp2
     go_ret
     exact ⟨ret_bool hB'.out, rfl⟩
 · rw [if_neg h24] at hB' ek
   by_cases hnm : op = 50 ∨ op = 51 ∨ op = 56
   · rw [if_pos (by simp only [Bool.or_eq_true, beq_iff_eq]; omega)] at hB'
     rw [if_pos hnm] at ek;rw [ek];clear ek hB hn;replace hB' := Lib.hid hB';go_enter Tryd.func75, Tryd.ntmps75
     go_wp2_with (go_at_call 69; refine hN.out.mono ?_; rintro e w' ⟨rfl, rfl⟩)
     go_ret
     exact ⟨ret_bool hB'.out, rfl⟩
   · rw [if_neg (by simp only [Bool.or_eq_true, beq_iff_eq]; omega)] at hB'
     rw [if_neg hnm] at ek;rw [ek];clear ek hB hn hN;by_cases hl : s = []
     · rw [decide_eq_true hl] at hB'
       subst hl;replace hB' := Lib.hid hB';go_enter Tryd.func75, Tryd.ntmps75
       go_wp2
       go_ret
       exact ⟨ret_bool hB'.out, rfl⟩
     · rw [decide_eq_false hl] at hB'
       have hl' : (s == []) = false := beq_eq_false_iff_ne.2 hl;replace hB' := Lib.hid hB';go_enter Tryd.func75, Tryd.ntmps75
       go_wp2
       go_ret
       exact ⟨ret_bool hB'.out, rfl⟩
end Go.Proofs.YtefijbpbenmbgaaDoor
namespace Go.Proofs.YtefijbpbenmbgaaDoor
open Go.RowKit
def shapedI (x : Ins) : Bool := decide (wordI x.op ≠ []) && (akI x.op == 1 || aOK (akI x.op) 0 x.a) && (decide (x.num = 0) || x.op == 23) && txOK x.op x.text
def targetI (x : Ins) (n : Int) : Bool := !(akI x.op == 1) || decide (0 ≤ x.a ∧ x.a < n)
theorem akI_lt (op : Nat) : akI op < 4 := by unfold akI; (repeat' split) <;> omega
theorem rightI_two (x : Ins) (n : Int) : rightI x n = (shapedI x && targetI x n) := by
 unfold rightI shapedI targetI;have h := akI_lt x.op;generalize akI x.op = k at *;generalize decide (wordI x.op ≠ []) = p;generalize (decide (x.num = 0) || x.op == 23) = q;generalize txOK x.op x.text = r;have e : aOK k n x.a = ((k == 1 || aOK k 0 x.a) && (!(k == 1) || decide (0 ≤ x.a ∧ x.a < n))) := by
   match k, h with
   | 0, _ => simp [aOK]
   | 1, _ => simp [aOK]
   | 2, _ => simp [aOK]
   | 3, _ => simp [aOK]
 rw [e];cases (k == 1 || aOK k 0 x.a) <;> cases (!(k == 1) || decide (0 ≤ x.a ∧ x.a < n)) <;> cases p <;> cases q <;> cases r <;> rfl
set_option maxRecDepth 20000 in
set_option maxHeartbeats 4000000 in
theorem isShaped_any (x : Ins) (hx : FitIns x) (w : World) (hW : WordsOK w) :
   Calls Tryd.prog 62 #[insV x] w fun e w' => e = .returned (.bool (shapedI x)) ∧ Below w.heap.size w w' := by
 obtain ⟨h1, h2, h3, h4⟩ := hx;obtain ⟨op, a, num, tx⟩ := x;dsimp only at h1 h2 h3 h4;unfold insV;dsimp only;have F := fun W => fieldsOf_any op W
 unfold fldV at F;have Wd := fun (W : World) (hb : Below w.heap.size w W) => Word_any op h4 W (hW.below hb)
 have A := fun W => allowsF_any op a W
 have T := fun W => allowsText_any op tx h1 W
 obtain ⟨B, hB⟩ := exHid (shapedI ⟨op, a, num, tx⟩);rw [hB.out];have hB' := hB.out;unfold shapedI at hB';dsimp only at hB';clear hB;have eN : ((nkI op : Int) == 4) = (op == 23) := by
   unfold nkI;rw [Bool.eq_iff_iff, beq_iff_eq, beq_iff_eq];split <;> omega
 have eN0 : (num == 0) = decide (num = 0) := by rw [Bool.eq_iff_iff, beq_iff_eq, decide_eq_true_eq]
 have eW : (wordI op == []) = !decide (wordI op ≠ []) := by
   by_cases h : wordI op = [] <;> simp [h]
 generalize akI op = k at *;generalize tkI op = t at *;generalize nkI op = nk at *;generalize wordI op = wd at *;generalize (k == 1 || aOK k 0 a) = ak at *;generalize txOK op tx = tk at *;rcases q1 : decide (wd ≠ []) with _ | _ <;> rcases ak with _ | _ <;> rcases q3 : decide (num = 0) with _ | _ <;> rcases q4 : (op == 23) with _ | _ <;> rcases tk with _ | _
 all_goals
   rw [q1, q3, q4] at hB';rw [q1] at eW;rw [q3] at eN0;rw [q4] at eN;replace hB' := Lib.hid hB';replace hW := Lib.hid hW;clear q1 q3 q4 h1 h2 h3;simp only [Bool.not_true, Bool.not_false] at eW;go_enter Tryd.func62, Tryd.ntmps62
   go_wp2_with first
     | (go_at_call 30; refine (F _).mono ?_; rintro e w1 ⟨rfl, hb⟩; have hk : Below w.heap.size w w1 := below_next (by go_grown) hb; have hz := hk.size; have k0 := fun o2 => Go.Proofs.YtefijbpbenmbgaaDoor.cell_kept hb o2 0; have k1 := fun o2 => Go.Proofs.YtefijbpbenmbgaaDoor.cell_kept hb o2 1; have k2 := fun o2 => Go.Proofs.YtefijbpbenmbgaaDoor.cell_kept hb o2 2; have k3 := fun o2 => Go.Proofs.YtefijbpbenmbgaaDoor.cell_kept hb o2 3; replace hb := Lib.hid hb; simp at k0 k1 k2 k3)
     | (go_at_call 73; refine (Wd _ (by go_grown)).mono ?_; rintro e w2 ⟨rfl, rfl⟩)
     | (go_at_call 74; refine (A _).mono ?_; rintro e w2 ⟨rfl, rfl⟩)
     | (go_at_call 75; refine (T _).mono ?_; rintro e w2 ⟨rfl, rfl⟩)
   go_ret
   exact ⟨ret_bool hB'.out, by go_grown⟩
end Go.Proofs.YtefijbpbenmbgaaDoor
namespace Go.Proofs.YtefijbpbenmbgaaDoor
open Go.RowKit
set_option maxRecDepth 20000 in
set_option maxHeartbeats 4000000 in
theorem hasTarget_any (x : Ins) (n : Int) (w : World) :
   Calls Tryd.prog 63 #[insV x, .int .i64 n] w fun e w' => e = .returned (.bool (targetI x n)) ∧ Below w.heap.size w w' := by
 obtain ⟨op, a, num, tx⟩ := x;unfold insV;dsimp only;have F := fun W => fieldsOf_any op W
 have rF := run_field_fld op;obtain ⟨B, hB⟩ := exHid (targetI ⟨op, a, num, tx⟩ n);rw [hB.out];have hB' := hB.out;unfold targetI at hB';dsimp only at hB';clear hB;have e1 : ((akI op : Int) == 1) = (akI op == 1) := by rw [Bool.eq_iff_iff, beq_iff_eq, beq_iff_eq]; omega
 generalize fldV op = fv at *;generalize akI op = k at *;rcases q1 : (k == 1) with _ | _
 · rw [q1] at e1 hB'
   have e2 : ((k : Int) != 1) = true := by rw [bne, e1]; rfl
   replace hB' := Lib.hid hB';go_enter Tryd.func63, Tryd.ntmps63
   go_wp2_with (go_at_call 30; refine (F _).mono ?_; rintro e w1 ⟨rfl, hb⟩; have hk : Below w.heap.size w w1 := below_next (by go_grown) hb; have hz := hk.size; have k0 := (hb.cell (p := ⟨w.heap.size, 0, none⟩) (by simp)).trans (World.cell?_alloc_new ..); have k1 := (hb.cell (p := ⟨w.heap.size, 1, none⟩) (by simp)).trans (World.cell?_alloc_new ..); replace hb := Lib.hid hb; simp at k0 k1)
   go_ret
   exact ⟨ret_bool (by rw [← hB'.out]; rfl), by go_grown⟩
 · rw [q1] at e1 hB'
   have e2 : ((k : Int) != 1) = false := by rw [bne, e1]; rfl
   by_cases h0 : 0 ≤ a
   · by_cases hn : a < n
     · rw [decide_eq_true (show 0 ≤ a ∧ a < n from ⟨h0, hn⟩)] at hB'
       replace hB' := Lib.hid hB';go_enter Tryd.func63, Tryd.ntmps63
       go_wp2_with (go_at_call 30; refine (F _).mono ?_; rintro e w1 ⟨rfl, hb⟩; have hk : Below w.heap.size w w1 := below_next (by go_grown) hb; have hz := hk.size; have k0 := (hb.cell (p := ⟨w.heap.size, 0, none⟩) (by simp)).trans (World.cell?_alloc_new ..); have k1 := (hb.cell (p := ⟨w.heap.size, 1, none⟩) (by simp)).trans (World.cell?_alloc_new ..); replace hb := Lib.hid hb; simp at k0 k1)
       go_ret
       exact ⟨ret_bool (by rw [← hB'.out]; rfl), by go_grown⟩
     · rw [decide_eq_false (show ¬ (0 ≤ a ∧ a < n) from fun h => hn h.2)] at hB'
       replace hB' := Lib.hid hB';go_enter Tryd.func63, Tryd.ntmps63
       go_wp2_with (go_at_call 30; refine (F _).mono ?_; rintro e w1 ⟨rfl, hb⟩; have hk : Below w.heap.size w w1 := below_next (by go_grown) hb; have hz := hk.size; have k0 := (hb.cell (p := ⟨w.heap.size, 0, none⟩) (by simp)).trans (World.cell?_alloc_new ..); have k1 := (hb.cell (p := ⟨w.heap.size, 1, none⟩) (by simp)).trans (World.cell?_alloc_new ..); replace hb := Lib.hid hb; simp at k0 k1)
       go_ret
       exact ⟨ret_bool (by rw [← hB'.out, decide_eq_false (by omega)]; rfl), by go_grown⟩
   · rw [decide_eq_false (show ¬ (0 ≤ a ∧ a < n) from fun h => h0 h.1)] at hB'
     replace hB' := Lib.hid hB';go_enter Tryd.func63, Tryd.ntmps63
     go_wp2_with (go_at_call 30; refine (F _).mono ?_; rintro e w1 ⟨rfl, hb⟩; have hk : Below w.heap.size w w1 := below_next (by go_grown) hb; have hz := hk.size; have k0 := (hb.cell (p := ⟨w.heap.size, 0, none⟩) (by simp)).trans (World.cell?_alloc_new ..); have k1 := (hb.cell (p := ⟨w.heap.size, 1, none⟩) (by simp)).trans (World.cell?_alloc_new ..); replace hb := Lib.hid hb; simp at k0 k1)
     go_ret
     exact ⟨ret_bool (by rw [← hB'.out]; rfl), by go_grown⟩
set_option maxRecDepth 20000 in
set_option maxHeartbeats 4000000 in
theorem isRight_any (x : Ins) (hx : FitIns x) (n : Int) (w : World) (hW : WordsOK w) :
   Calls Tryd.prog 43 #[insV x, .int .i64 n] w fun e w' => e = .returned (.bool (rightI x n)) ∧ Below w.heap.size w w' := by
 have Sh := fun (W : World) (hb : Below w.heap.size w W) => isShaped_any x hx W (hW.below hb)
 have Ta := fun W => hasTarget_any x n W
 rw [rightI_two];obtain ⟨op, a, num, tx⟩ := x;unfold insV at *;dsimp only at *;generalize targetI ⟨op, a, num, tx⟩ n = t at *;replace hW := Lib.hid hW;rcases q1 : shapedI ⟨op, a, num, tx⟩ with _ | _
 all_goals
   rw [q1] at Sh;go_enter Tryd.func43, Tryd.ntmps43
   go_wp2_with first
     | (go_at_call 62; refine (Sh _ (by go_grown)).mono ?_; rintro e w1 ⟨rfl, hb⟩; have hk : Below w.heap.size w w1 := below_next (by go_grown) hb; have hz := hk.size; have k0 := (hb.cell (p := ⟨w.heap.size, 0, none⟩) (by simp)).trans (World.cell?_alloc_new ..); have k1 := (hb.cell (p := ⟨w.heap.size, 1, none⟩) (by simp)).trans (World.cell?_alloc_new ..); have k2 := (hb.cell (p := ⟨w.heap.size, 2, none⟩) (by simp)).trans (World.cell?_alloc_new ..); have k3 := (hb.cell (p := ⟨w.heap.size, 3, none⟩) (by simp)).trans (World.cell?_alloc_new ..); replace hb := Lib.hid hb; simp at k0 k1 k2 k3)
     | (go_at_call 63; refine (Ta _).mono ?_; rintro e w2 ⟨rfl, hb2⟩; have hk2 : Below w.heap.size w w2 := below_next hk hb2)
   go_ret
   exact ⟨rfl, by go_grown⟩
end Go.Proofs.YtefijbpbenmbgaaDoor
namespace Go.Proofs.YtefijbpbenmbgaaDoor
open Go.RowKit Go.Shelf
set_option maxRecDepth 20000 in
set_option maxHeartbeats 4000000 in
theorem right_closure (x : Ins) (hx : FitIns x) (w : World) (hW : WordsOK w) {gl n cap : Nat} {ad : Option Addr} (hg : w.cell? ⟨gl, 0, none⟩ = some (.slice ad n cap)) :
   Calls Tryd.prog 42 #[insV x, .pointer (some ⟨gl, 0, none⟩)] w fun e w' => e = .returned (.bool (!rightI x n)) ∧ Below w.heap.size w w' := by
 have R := fun (W : World) (hb : Below w.heap.size w W) => isRight_any x hx n W (hW.below hb)
 have hgl := World.block_lt_of_cell? w _ hg;obtain ⟨op, a, num, tx⟩ := x;unfold insV at *;dsimp only at *;generalize rightI ⟨op, a, num, tx⟩ n = t at *;replace hW := Lib.hid hW;go_enter Tryd.func42, Tryd.ntmps42
 go_wp2_with (go_at_call 43; refine (R _ (by go_grown)).mono ?_; rintro e w1 ⟨rfl, hb⟩; have hk : Below w.heap.size w w1 := below_next (by go_grown) hb; have hz := hk.size)
 go_ret
 exact ⟨rfl, by go_grown⟩
theorem badI_some {code : List Ins} {i : Nat} (hi : i < code.length) (h : rightI (inAt code i) code.length = false) (hj : ∀ j, j < i → rightI (inAt code j) code.length = true) : badI code = some i := by
 unfold badI;rw [List.findIdx?_eq_some_iff_getElem];refine ⟨hi, by rw [← inAt_get hi, h]; rfl, fun j hji => ?_⟩;rw [← inAt_get (by omega), hj j hji];simp
theorem badI_none {code : List Ins} (hj : ∀ j, j < code.length → rightI (inAt code j) code.length = true) : badI code = none := by
 unfold badI;rw [List.findIdx?_eq_none_iff];intro x hx;obtain ⟨j, hjl, rfl⟩ := List.mem_iff_getElem.1 hx;rw [← inAt_get hjl, hj j hjl];rfl
def badN (code : List Ins) : Int := match badI code with
 | some i => i
 | none => -1
set_option maxRecDepth 20000 in
set_option maxHeartbeats 4000000 in
theorem indexFunc_any {code : List Ins} {v : Value} {w : World} (h : InsIn w v code) (hx : ∀ x ∈ code, FitIns x) (hW : WordsOK w) {gl : Nat} (hg : w.cell? ⟨gl, 0, none⟩ = some v) :
   Calls Tryd.prog 41 #[v, .func (.func 42) #[] #[.pointer (some ⟨gl, 0, none⟩)]] w fun e w' => e = .returned (.int .i64 (badN code)) ∧ Below w.heap.size w w' := by
 have hgl := World.block_lt_of_cell? w _ hg;have hK := Lib.hid h;have hen : ∀ args w, (callFunc 42 args).run Tryd.prog w = .ok (.enter 42 args) w := enters_of Tryd.func42 (by kernel_rfl) rfl;obtain ⟨ad, cap, rfl, hlc, hcm, h3⟩ := h;have C := fun (x : Ins) (hxx : FitIns x) (W : World) (hb : Below w.heap.size w W) => right_closure x hxx W (hW.below hb) (gl := gl) (n := code.length) (cap := cap) (ad := ad) ((hb.cell (p := ⟨gl, 0, none⟩) hgl).trans hg)
 replace C := Lib.hid C;replace h3 := Lib.hid h3;replace hx := Lib.hid hx;replace hW := Lib.hid hW;obtain ⟨R, hR⟩ := exHid (badN code);rw [hR.out];obtain ⟨n, hn⟩ := exHid code.length;rw [hn.out] at hlc ⊢;go_enter Tryd.func41, Tryd.ntmps41
 go_wp2
 go_loopw [5, 8] (fun t5 t8 wr => ∃ i : Nat, i ≤ n ∧ t8 = .int .i64 i ∧ Below w.heap.size w wr ∧ Hid (∀ j, j < i → rightI (inAt code j) code.length = true)) (fun _ t8 _ => n - (intOf t8).toNat)
 case atStart => exact ⟨0, by omega, rfl, Below.refl _ _, Lib.hid (fun j hj => by omega)⟩
 case round =>
   obtain ⟨i, hi, rfl, hbw, hall⟩ := hrel;rcases Nat.lt_or_ge i n with hlt | hge
   · have hil : i < code.length := by rw [hn.out]; exact hlt
     obtain ⟨g, off, rfl, hgw, hc⟩ := h3.out (by omega);have hlti : (i : Int) < (n : Int) := by omega
     have Ci := C.out (inAt code i) (hx.out _ (by rw [inAt_get hil]; exact List.getElem_mem hil));obtain ⟨B, hB⟩ := exHid (rightI (inAt code i) code.length);rw [hB.out] at Ci;rcases hxi : inAt code i with ⟨op, a, num, tx⟩
     rw [hxi] at Ci;obtain ⟨p0, p1, p2, p3⟩ := ins_cells hgw hc hbw hil ((inAt_get hil).symm.trans hxi);unfold insV at Ci;dsimp only at Ci;replace hc := Lib.hid hc;have hbw' := Lib.hid hbw;cases B with
     | true =>
       go_wp2_with (refine (Ci wr hbw).mono ?_; rintro e w1 ⟨rfl, hb⟩; have hk : Below w.heap.size w w1 := below_next hbw hb)
       go_roundw
       case rel => exact ⟨i + 1, by omega, by go_num, hk, Lib.hid (fun j hj => by
         by_cases e : j = i
         · subst e; exact hB.out
         · exact hall.out j (by omega))⟩
       case measure => simp [intOf]; omega
     | false =>
       go_wp2_with (refine (Ci wr hbw).mono ?_; rintro e w1 ⟨rfl, hb⟩; have hk : Below w.heap.size w w1 := below_next hbw hb)
       go_ret
       exact ⟨ret_int (by rw [← hR.out]; unfold badN; rw [badI_some hil hB.out hall.out]), hk⟩
   · obtain rfl : i = n := by omega
     have hlti : ¬ ((i : Int) < (i : Int)) := by omega
     go_wp2
     go_ret
     exact ⟨ret_int (by rw [← hR.out]; unfold badN; rw [badI_none (fun j hj => hall.out j (by rw [← hn.out]; exact hj))]), hbw⟩
set_option maxRecDepth 20000 in
set_option maxHeartbeats 4000000 in
theorem allRight_any {code : List Ins} {v : Value} {w : World} (h : InsIn w v code) (hx : ∀ x ∈ code, FitIns x) (hW : WordsOK w) :
   Calls Tryd.prog 27 #[v] w fun e w' => e = .returned (.tuple #[.int .i64 ((badI code).getD 0 : Nat), .bool (badI code).isNone]) ∧ Below w.heap.size w w' := by
 have hs : ∃ ad n cap, v = .slice ad n cap := by obtain ⟨ad, cap, e, _⟩ := h; exact ⟨_, _, _, e⟩
 have X := fun (W : World) (hb : Below w.heap.size w W) (gl : Nat) (hg : W.cell? ⟨gl, 0, none⟩ = some v) => indexFunc_any (h.below hb) hx (hW.below hb) hg
 replace X := Lib.hid X;replace hW := Lib.hid hW;replace hx := Lib.hid hx;clear h;obtain ⟨ad, n, cap, rfl⟩ := hs;unfold badN at X;cases hb : badI code with
 | none =>
   simp only [hb] at X;go_enter Tryd.func27, Tryd.ntmps27
   go_wp2_with (go_at_call 41; refine (X.out _ (by go_grown) _ (World.cell?_alloc_new ..)).mono ?_; rintro e w1 ⟨rfl, hb⟩; have hk : Below w.heap.size w w1 := below_next (by go_grown) hb)
   refine bodyPost_ret (results_tmp2 rfl _ _ _) rfl ?_;exact ⟨rfl, by go_grown⟩
 | some i =>
   simp only [hb] at X;have hi : 0 ≤ (i : Int) := by omega
   have hi2 : ¬ ((i : Int) < 0) := by omega
   go_enter Tryd.func27, Tryd.ntmps27
   go_wp2_with (go_at_call 41; refine (X.out _ (by go_grown) _ (World.cell?_alloc_new ..)).mono ?_; rintro e w1 ⟨rfl, hb⟩; have hk : Below w.heap.size w w1 := below_next (by go_grown) hb)
   refine bodyPost_ret (results_tmp2 rfl _ _ _) rfl ?_;exact ⟨by congr 3 <;> first | rfl | (congr 1; omega), by go_grown⟩
end Go.Proofs.YtefijbpbenmbgaaDoor
