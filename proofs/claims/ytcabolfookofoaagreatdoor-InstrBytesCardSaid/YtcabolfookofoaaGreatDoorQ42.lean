/- A part of the proof: ICir2. No condition. -/
import Derived.Test.YtcabolfookofoaaGreatDoorQ27
import Derived.Test.YtcabolfookofoaaGreatDoorQ41
set_option linter.unusedVariables false
set_option linter.unusedSimpArgs false
namespace Go.Proofs.YtcabolfookofoaaGreatDoor
open Go.RowKit
def cirV (r : Option Nat) : Value := .tuple #[.int .i64 (r.getD 0 : Nat), .bool r.isSome]
def InAt (code : List Ins) (d : List Int) (B gt i : Nat) (w0 : World) (c : Nat) (wr : World) (pl : Value) : Prop :=
 ∃ tr m, DepAt wr gt tr ∧ InI code d tr i m c ∧ pl = .int .i64 (itI code m i : Nat) ∧ Below B w0 wr
set_option maxRecDepth 20000 in
set_option maxHeartbeats 4000000 in
theorem circle_any {code : List Ins} {v : Value} {w : World} {d : List Int} {g : Nat} (h : InsIn w v code) (hn0 : 0 < code.length) (hn : code.length ≤ 8192) (hR : AllRt code) (hD : DepAt w g d) (hf : FitsI code d) :
   Calls Tryz.prog 41 #[v, .slice (some ⟨g, 0, none⟩) d.length d.length] w fun e w' => e = .returned (cirV (circI code d)) ∧ Below w.heap.size w w' := by
 obtain ⟨r, hr⟩ := exHid (circI code d);rw [hr.out];have hgw := hD.lt;obtain ⟨ad, cap, hv, hlc, hcm, hbig⟩ := id h;clear hbig;subst hv;obtain ⟨n, hN⟩ := exHid d.length;have hcl : code.length = n := by rw [← hf.len, hN.out]
 have hI : Hid (InsIn w (.slice ad n cap) code) := Lib.hid (by rw [← hcl]; exact h);rw [hN.out, hcl];clear h;have hn1 : n ≤ 8192 := by omega
 have hnp : 0 < n := by omega
 have rep := fun (W : World) (gx : Nat) (hx : W.cell? ⟨gx, 0, none⟩ = some (.int .i64 (-1))) => repeat_any (-1) n hnp hn1 W hx
 have h0 : ∀ p, 0 ≤ takesI (inAt code p) := fun p => (hR.takes p).1;replace hR := Lib.hid hR;replace hcl := Lib.hid hcl;replace hf := Lib.hid hf;replace h0 := Lib.hid h0;replace hD := Lib.hid hD;clear hn hn0 hlc hcm;go_enter Tryz.func41, Tryz.ntmps41
 go_wp2_with (go_at_call 66; refine (rep _ _ (World.cell?_alloc_new ..)).mono ?_; rintro e w1 ⟨gt, rfl, hg1, hD1, hb1⟩; have hk1 : Below w.heap.size w w1 := below_next (by go_grown) hb1; replace hD1 := Lib.hid hD1; clear hb1)
 have hgt : w.heap.size < gt := by simp at hg1; omega
 clear hg1;go_loopw [7, 8, 9, 16] (fun t7 t8 t9 t16 wr => ∃ (i : Nat) (tr : List Int), i ≤ n ∧ t16 = .int .i64 i ∧ Hid (DepAt wr gt tr) ∧ Hid (OutI code d tr i) ∧ Below w.heap.size w wr) (fun _ _ _ t16 _ => n - (intOf t16).toNat)
 case atStart => exact ⟨0, List.replicate n (-1), by omega, rfl, hD1, Lib.hid (by rw [← hN.out]; exact OutI.zero), hk1⟩
 case round =>
   obtain ⟨i, tr, hi, rfl, hT, hO, hbw⟩ := hrel;rcases Nat.lt_or_ge i n with hlt | hge
   · have hlti : (i : Int) < (n : Int) := by omega
     have hx := (hD.out.below hbw).cell (i := i) (by rw [hN.out]; exact hlt);obtain ⟨di, hdi⟩ := exHid (d.getD i (-1));rw [hdi.out] at hx;have hwg := hT.out.lt;by_cases hm : di = -1
     · have e1 : (di == -1) = true := by rw [hm]; rfl
       replace hm := Lib.hid hm;go_wp2
       go_roundw
       case rel => exact ⟨i + 1, tr, by omega, by go_num, hT, Lib.hid (hO.out.skip (by rw [hdi.out]; exact hm.out)), hbw⟩
       case measure => simp [intOf]; omega
     · have e1 : (di == -1) = false := beq_eq_false_iff_ne.2 hm
       have hmet : Hid (d.getD i (-1) ≠ -1) := Lib.hid (by rw [hdi.out]; exact hm);replace hm := Lib.hid hm;have hix : (i : Int) ≤ 8192 := by omega
       have hTo := hT; have hOo := hO;clear hT hO;go_wp2
       clear hx;go_loopw [9] (fun t9 wi => ∃ c, InAt code d w.heap.size gt i w c wi t9) (fun t9 wi => Classical.epsilon (fun c => InAt code d w.heap.size gt i w c wi t9 ∧ ∀ m, InAt code d w.heap.size gt i w m wi t9 → c ≤ m))
       case atStart => exact ⟨_, tr, 0, hTo.out, InI.start hOo.out, rfl, hbw⟩
       case round =>
         clear hTo hOo hbw hwg;obtain ⟨c, hce, hc⟩ : ∃ c, Hid (Classical.epsilon (fun c => InAt code d w.heap.size gt i w c wr u9 ∧ ∀ m, InAt code d w.heap.size gt i w m wr u9 → c ≤ m) = c) ∧ InAt code d w.heap.size gt i w c wr u9 := ⟨_, Lib.hid rfl, (least_of hrel).1⟩;obtain ⟨tr', m, hT, hII, hpl, hbw⟩ := hc;have hqm := hII.met hf.out h0.out hmet.out;have hql := met_lt hqm;obtain ⟨q, hq⟩ : ∃ x, itI code m i = x := ⟨_, rfl⟩;rw [hq] at hqm hql hpl;subst hpl;have hwg := hT.lt;have hqn : (q : Int) < (n : Int) := by have := hN.out; omega
         have x0 := hT.cell (i := q) (by rw [hII.len]; exact hql);have f0 := hT.fr q;obtain ⟨tq, htq⟩ : ∃ x, tr'.getD q (-1) = x := ⟨_, rfl⟩;rw [htq] at x0;obtain ⟨g0, off, cap0, ecv, hg0, y0, y1, y2, y3⟩ := hI.out.cells hbw (i := q) (by rw [hcl.out]; omega) (op := (inAt code q).op) (a := (inAt code q).a) (x := (inAt code q).num) (tx := (inAt code q).text) rfl;injection ecv with ec1 ec2 ec3;subst ec1 ec3;clear ec2;obtain ⟨op, hop⟩ : ∃ x, (inAt code q).op = x := ⟨_, rfl⟩;rw [hop] at y0;have Fr := fun W => isFree_any (inAt code q).op W
         have Bh := fun (W : World) (hbW : Below w.heap.size w W) => behind_any (q := q) (hI.out.below hbW) (by rw [hcl.out]; omega) (by rw [hcl.out]; exact hn1) (fun ho => (hR.out.goal (by rw [hcl.out]; omega) (by rw [ho]; rfl)).1)
         obtain ⟨fr, hfr⟩ : ∃ x, freeI (inAt code q).op = x := ⟨_, rfl⟩;rw [hfr, hop] at Fr;replace Bh := Lib.hid Bh;replace hop := Lib.hid hop;clear y1 y2 y3;by_cases h1 : tq = -1
         · have e2 : (tq == -1) = true := by rw [h1]; rfl
           have hu : Hid (tr'.getD (itI code m i) (-1) = -1) := Lib.hid (by rw [hq, htq]; exact h1);replace h1 := Lib.hid h1;cases fr with
           | true =>
             obtain ⟨hc1, hII2⟩ := hII.step hf.out h0.out hmet.out hu.out (by rw [hq]; exact hfr);rw [hq] at hII2;have hT2 := hT.set q i;have hb2 : Below w.heap.size w (wr.setCell ⟨gt, q, none⟩ (.int .i64 i)) := by go_grown
             have hnew : InAt code d w.heap.size gt i w (c - 1) (wr.setCell ⟨gt, q, none⟩ (.int .i64 i)) (.int .i64 (succI code q : Nat)) := ⟨_, m + 1, hT2, hII2, by rw [itI_succ, hq], hb2⟩;replace hnew := Lib.hid hnew;replace hII := Lib.hid hII;replace hII2 := Lib.hid hII2;replace hT2 := Lib.hid hT2;replace hT := Lib.hid hT;replace hfr := Lib.hid hfr;replace htq := Lib.hid htq;replace hq := Lib.hid hq;replace hqm := Lib.hid hqm;replace hrel := Lib.hid hrel;clear hrel rep;go_wp2_with first
               | (go_at_call 71; refine (Fr _).mono ?_; rintro e w4 ⟨rfl, rfl⟩)
               | (go_at_call 72; refine (Bh.out _ hb2).mono ?_; rintro e w4 ⟨rfl, rfl⟩)
             go_roundw
             case rel => exact ⟨_, hnew.out⟩
             case measure =>
               have hl2 := (least_of (P := fun c => InAt code d w.heap.size gt i w c (wr.setCell ⟨gt, q, none⟩ (.int .i64 i)) (.int .i64 (succI code q : Nat))) ⟨_, hnew.out⟩).2 _ hnew.out;have hf2 := hce.out;show Classical.epsilon _ < Classical.epsilon _
               rw [hf2];exact Nat.lt_of_le_of_lt hl2 (by omega)
           | false =>
             have hst : Hid (OutI code d tr' (i + 1)) := Lib.hid (hII.out ⟨0, by show freeI (inAt code (itI code m i)).op = false; rw [hq]; exact hfr⟩);have e3 : (tq == (i : Int)) = false := beq_eq_false_iff_ne.2 (by have := h1.out; omega);replace hII := Lib.hid hII;replace hT := Lib.hid hT;replace hfr := Lib.hid hfr;replace htq := Lib.hid htq;replace hq := Lib.hid hq;replace hqm := Lib.hid hqm;replace hrel := Lib.hid hrel;clear hrel rep;go_wp2_with (go_at_call 71; refine (Fr _).mono ?_; rintro e w4 ⟨rfl, rfl⟩)
             go_roundw
             case rel => exact ⟨i + 1, tr', by omega, by go_num, hT, hst, hbw⟩
             case measure => simp [intOf]; omega
         · have e2 : (tq == -1) = false := beq_eq_false_iff_ne.2 h1
           have hu : Hid (tr'.getD (itI code m i) (-1) ≠ -1) := Lib.hid (by rw [hq, htq]; exact h1);replace h1 := Lib.hid h1;by_cases h3 : tq = (i : Int)
           · have e3 : (tq == (i : Int)) = true := by rw [h3]; simp
             have hcr := hII.round hf.out h0.out hmet.out (by rw [hq, htq, h3]);rw [hr.out] at hcr;replace hcr := Lib.hid hcr;replace h3 := Lib.hid h3;replace hII := Lib.hid hII;replace hT := Lib.hid hT;replace hfr := Lib.hid hfr;replace htq := Lib.hid htq;replace hq := Lib.hid hq;replace hqm := Lib.hid hqm;replace hrel := Lib.hid hrel;clear hrel rep;go_wp2
             refine bodyPost_ret (results_tmp2 rfl _ _ _) rfl ?_;refine ⟨?_, hbw⟩;rw [hcr.out];rfl
           · have e3 : (tq == (i : Int)) = false := beq_eq_false_iff_ne.2 h3
             have hst : Hid (OutI code d tr' (i + 1)) := Lib.hid (hII.out (by
               rcases hII.old (itI code m i) hu.out with ⟨_, _, hs⟩ | ⟨hs, _⟩
               · exact hs
               · rw [hq, htq] at hs; exact absurd hs h3))
             replace h3 := Lib.hid h3;replace hII := Lib.hid hII;replace hT := Lib.hid hT;replace hfr := Lib.hid hfr;replace htq := Lib.hid htq;replace hq := Lib.hid hq;replace hqm := Lib.hid hqm;replace hrel := Lib.hid hrel;clear hrel rep;go_wp2
             go_roundw
             case rel => exact ⟨i + 1, tr', by omega, by go_num, hT, hst, hbw⟩
             case measure => simp [intOf]; omega
   · obtain rfl : i = n := by omega
     have hlti : ¬ ((i : Int) < (i : Int)) := by omega
     go_wp2
     refine bodyPost_ret (results_tmp2 rfl _ _ _) rfl ?_;refine ⟨?_, hbw⟩;have := OutI.none hf.out h0.out (by rw [hN.out]; exact hO.out);rw [← hr.out, this];rfl
end Go.Proofs.YtcabolfookofoaaGreatDoor
