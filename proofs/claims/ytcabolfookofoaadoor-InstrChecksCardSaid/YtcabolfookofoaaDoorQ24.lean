/- A part of the proof: ICir, IDCir, IWd. No condition. -/
import Derived.Test.YtcabolfookofoaaDoorQ13
import Derived.Test.YtcabolfookofoaaDoorQ18
set_option linter.unusedVariables false
set_option linter.unusedSimpArgs false
namespace Go.Proofs.YtcabolfookofoaaDoor
open Go.RowKit
set_option maxRecDepth 20000 in
set_option maxHeartbeats 1000000 in
theorem behind_any {code : List Ins} {v : Value} {w : World} (h : InsIn w v code) {q : Nat} (hq : q < code.length) (hn : code.length ≤ 8192) (h0 : (inAt code q).op = 1 → 0 ≤ (inAt code q).a) :
   Calls Tryd.prog 36 #[v, .int .i64 q] w fun e w' => e = .returned (.int .i64 (succI code q : Nat)) ∧ w = w' := by
 obtain ⟨g, off, cap, rfl, hg, x0, x1, x2, x3⟩ := h.cells (Below.refl _ w) hq (op := (inAt code q).op) (a := (inAt code q).a) (x := (inAt code q).num) (tx := (inAt code q).text) rfl;obtain ⟨R, hR⟩ := exHid (succI code q);rw [hR.out];have hR' := hR.out;unfold succI at hR';clear hR;have hlt : (q : Int) < (code.length : Int) := by omega
 have hq2 : (q : Int) ≤ 8192 := by omega
 obtain ⟨n, hN⟩ := exHid code.length;rw [hN.out] at hlt ⊢;generalize (inAt code q).op = op at *;generalize (inAt code q).a = a at *;by_cases h1 : op = 1
 · rw [if_pos h1] at hR'
   have t1 : ((op : Int) == 1) = true := by rw [h1]; rfl
   have ha := h0 h1;replace h1 := Lib.hid h1;replace hR' := Lib.hid hR';clear h0;go_enter Tryd.func36, Tryd.ntmps36
   go_wp2
   go_ret
   exact ⟨ret_int (by rw [← hR'.out]; omega), rfl⟩
 · rw [if_neg h1] at hR'
   have t1 : ((op : Int) == 1) = false := beq_eq_false_iff_ne.2 (by omega);replace h1 := Lib.hid h1;replace hR' := Lib.hid hR';clear h0;go_enter Tryd.func36, Tryd.ntmps36
   go_wp2
   go_ret
   exact ⟨ret_int (by rw [← hR'.out]; omega), rfl⟩
def StopsI (code : List Ins) (q : Nat) : Prop := ∃ k, freeI (inAt code (itI code k q)).op = false
theorem stops_it {code : List Ins} {m j i : Nat} (hj : j ≤ m) (h : StopsI code (itI code m i)) : StopsI code (itI code j i) := by
 obtain ⟨k, hk⟩ := h;refine ⟨m - j + k, ?_⟩;rw [← itI_add, show j + (m - j + k) = m + k by omega, itI_add];exact hk
theorem itI_succ (code : List Ins) (m i : Nat) : itI code (m + 1) i = succI code (itI code m i) := by
 rw [itI_add]; rfl
def triedI (tr : List Int) : Nat → Bool := fun q => decide (tr.getD q (-1) ≠ -1)
theorem tried_set {tr : List Int} {p : Nat} {v : Int} (hp : p < tr.length) (hv : v ≠ -1) : triedI (tr.set p v) = goneI (triedI tr) p := by
 funext q
 unfold triedI goneI;rw [getD_set _ _ _ _ hp];by_cases e : q = p
 · rw [if_pos e, decide_eq_true hv, decide_eq_true e]; rfl
 · rw [if_neg e, decide_eq_false e]; rfl
structure OutI (code : List Ins) (d tr : List Int) (i : Nat) : Prop where
 len : tr.length = d.length
 old : ∀ q, tr.getD q (-1) ≠ -1 → 0 ≤ tr.getD q (-1) ∧ tr.getD q (-1) < i ∧ StopsI code q
 all : ∀ q, q < i → d.getD q (-1) ≠ -1 → StopsI code q
structure InI (code : List Ins) (d tr : List Int) (i m c : Nat) : Prop where
 len : tr.length = d.length
 old : ∀ q, tr.getD q (-1) ≠ -1 → (0 ≤ tr.getD q (-1) ∧ tr.getD q (-1) < i ∧ StopsI code q) ∨ (tr.getD q (-1) = i ∧ ∃ j, j < m ∧ q = itI code j i)
 all : ∀ q, q < i → d.getD q (-1) ≠ -1 → StopsI code q
 free : ∀ j, j < m → freeI (inAt code (itI code j i)).op = true
 cnt : cntI (triedI tr) d.length = c
theorem InI.start {code : List Ins} {d tr : List Int} {i : Nat} (h : OutI code d tr i) : InI code d tr i 0 (cntI (triedI tr) d.length) :=
 ⟨h.len, fun q hq => .inl (h.old q hq), h.all, fun j hj => by omega, rfl⟩
section
variable {code : List Ins} {d tr : List Int} {i m c : Nat}
theorem InI.met (h : InI code d tr i m c) (hf : FitsI code d) (h0 : ∀ p, 0 ≤ takesI (inAt code p)) (hi : d.getD i (-1) ≠ -1) : d.getD (itI code m i) (-1) ≠ -1 := it_met hf h0 m i hi h.free
theorem InI.step (h : InI code d tr i m c) (hf : FitsI code d) (h0 : ∀ p, 0 ≤ takesI (inAt code p)) (hi : d.getD i (-1) ≠ -1) (hu : tr.getD (itI code m i) (-1) = -1) (hfr : freeI (inAt code (itI code m i)).op = true) : 1 ≤ c ∧ InI code d (tr.set (itI code m i) i) i (m + 1) (c - 1) := by
 have hlt : itI code m i < tr.length := by rw [h.len]; exact met_lt (h.met hf h0 hi)
 have hc := cntI_gone (g := triedI tr) (p := itI code m i) (by unfold triedI; rw [hu]; rfl) (n := d.length) (by rw [← h.len]; exact hlt);rw [h.cnt] at hc;refine ⟨by omega, ⟨by rw [List.length_set]; exact h.len, fun q hq => ?_, h.all, fun j hj => ?_, ?_⟩⟩
 · rw [getD_set _ _ _ _ hlt] at hq ⊢
   by_cases e : q = itI code m i
   · rw [if_pos e]; exact .inr ⟨rfl, m, by omega, e⟩
   · rw [if_neg e] at hq ⊢
     rcases h.old q hq with a | ⟨a, j, b, e2⟩
     · exact .inl a
     · exact .inr ⟨a, j, by omega, e2⟩
 · by_cases e : j = m
   · rw [e]; exact hfr
   · exact h.free j (by omega)
 · rw [tried_set hlt (by omega)]
   omega
theorem InI.round (h : InI code d tr i m c) (hf : FitsI code d) (h0 : ∀ p, 0 ≤ takesI (inAt code p)) (hi : d.getD i (-1) ≠ -1) (hu : tr.getD (itI code m i) (-1) = i) : circI code d = some i := by
 unfold circI;rw [List.find?_range_eq_some];have hj : ∃ j, j < m ∧ itI code m i = itI code j i := by
   rcases h.old (itI code m i) (by rw [hu]; omega) with ⟨a, b, _⟩ | ⟨_, j, b, e⟩
   · rw [hu] at b; omega
   · exact ⟨j, b, e⟩
 obtain ⟨j, hj, e⟩ := hj;refine ⟨?_, List.mem_range.2 (met_lt hi), fun q hq => ?_⟩
 · rw [run_round hj e h.free, decide_eq_true hi]; rfl
 · by_cases hm : d.getD q (-1) = -1
   · rw [decide_eq_false (fun h => h hm)]; rfl
   · obtain ⟨k, hk⟩ := h.all q hq hm
     rw [run_stops hf h0 hm hk, Bool.and_false]; rfl
theorem InI.out (h : InI code d tr i m c) (hs : StopsI code (itI code m i)) : OutI code d tr (i + 1) := by
 have hsi : StopsI code i := stops_it (j := 0) (by omega) hs;refine ⟨h.len, fun q hq => ?_, fun q hq hm => ?_⟩
 · rcases h.old q hq with ⟨a, b, e⟩ | ⟨a, j, b, e⟩
   · exact ⟨a, by omega, e⟩
   · exact ⟨by omega, by omega, by rw [e]; exact stops_it (by omega) hs⟩
 · by_cases e : q = i
   · rw [e]; exact hsi
   · exact h.all q (by omega) hm
end
theorem OutI.skip {code : List Ins} {d tr : List Int} {i : Nat} (h : OutI code d tr i) (hi : d.getD i (-1) = -1) : OutI code d tr (i + 1) :=
 ⟨h.len, fun q hq => ⟨(h.old q hq).1, by have := (h.old q hq).2.1; omega, (h.old q hq).2.2⟩, fun q hq hm => h.all q (by
   by_cases e : q = i
   · rw [e] at hm; exact absurd hi hm
   · omega) hm⟩
theorem OutI.none {code : List Ins} {d tr : List Int} (hf : FitsI code d) (h0 : ∀ p, 0 ≤ takesI (inAt code p)) (h : OutI code d tr d.length) : circI code d = none := by
 unfold circI;rw [List.find?_eq_none];intro q hq;by_cases hm : d.getD q (-1) = -1
 · rw [decide_eq_false (fun h => h hm)]; simp
 · obtain ⟨k, hk⟩ := h.all q (List.mem_range.1 hq) hm
   rw [run_stops hf h0 hm hk, Bool.and_false]; simp
theorem OutI.zero {code : List Ins} {d : List Int} : OutI code d (List.replicate d.length (-1)) 0 :=
 ⟨List.length_replicate .., fun q hq => absurd (by rw [List.getD_eq_getElem?_getD, List.getElem?_replicate]; split <;> rfl) hq, fun q hq => by omega⟩
end Go.Proofs.YtcabolfookofoaaDoor
namespace Go.Proofs.YtcabolfookofoaaDoor
open Go.RowKit
set_option maxRecDepth 20000 in
set_option maxHeartbeats 1000000 in
theorem refCircle_any {code : List Ins} {v : Value} {w : World} {d : List Int} {q0 : Nat} (h : InsIn w v code) (hn : code.length ≤ 8192) (hR : AllRt code) (hf : FitsI code d) (hm : d.getD q0 (-1) ≠ -1) :
   Calls Tryd.prog 16 #[v, .int .i64 q0] w fun e w' => e = .returned (.bool (runI code (d.length + 1) q0)) ∧ w = w' := by
 obtain ⟨ad, cap, hv, hlc, hcm, hbig⟩ := id h;clear hbig;subst hv;obtain ⟨R, hr⟩ := exHid (runI code (d.length + 1) q0);rw [hr.out];have hcl : d.length = code.length := hf.len;have h0 : ∀ p, 0 ≤ takesI (inAt code p) := fun p => (hR.takes p).1;obtain ⟨n, hN⟩ := exHid code.length;have hI : Hid (InsIn w (.slice ad n cap) code) := Lib.hid (by rw [← hN.out]; exact h);rw [hN.out];rw [hN.out] at hn hcl;clear h hlc hcm;replace hcl := Lib.hid hcl;replace hf := Lib.hid hf;replace hR := Lib.hid hR;replace h0 := Lib.hid h0;replace hm := Lib.hid hm;go_enter Tryd.func16, Tryd.ntmps16
 go_wp2
 go_loopw [1, 5] (fun t1 t5 wr => ∃ m : Nat, m ≤ n + 1 ∧ t5 = .int .i64 m ∧ t1 = .int .i64 (itI code m q0 : Nat) ∧ Hid (∀ j, j < m → freeI (inAt code (itI code j q0)).op = true) ∧ w = wr) (fun _ t5 _ => n + 1 - (intOf t5).toNat)
 case atStart => exact ⟨0, by omega, rfl, rfl, Lib.hid (fun j hj => by omega), rfl⟩
 case round =>
   obtain ⟨m, hmn, rfl, rfl, hall, rfl⟩ := hrel;rcases Nat.lt_or_ge n m with hge | hlt
   · have hgt : ¬ (m : Int) ≤ (n : Int) := by omega
     go_wp2
     go_ret
     exact ⟨ret_bool (by rw [← hr.out]; exact ((runI_iff code _ q0).2 (fun j hj => hall.out j (by have := hcl.out; omega))).symm), rfl⟩
   · have hle : (m : Int) ≤ (n : Int) := by omega
     have hm64 : (m : Int) ≤ 8192 := by omega
     have hmet := it_met hf.out h0.out m q0 hm.out hall.out;have hql := met_lt hmet;have hsu := itI_succ code m q0;obtain ⟨q, hq⟩ : ∃ x, itI code m q0 = x := ⟨_, rfl⟩;rw [hq] at hmet hql hsu ⊢;have hqn : q < n := by have := hcl.out; omega
     have hq64 : (q : Int) < (n : Int) := by omega
     have hq65 : (q : Int) ≤ 8192 := by omega
     obtain ⟨g0, off, cap0, ecv, hg0, y0, y1, y2, y3⟩ := hI.out.cells (Below.refl _ w) (i := q) (by rw [hN.out]; exact hqn) (op := (inAt code q).op) (a := (inAt code q).a) (x := (inAt code q).num) (tx := (inAt code q).text) rfl;injection ecv with ec1 ec2 ec3;subst ec1 ec3;clear ec2 y2 y3;have hgo := fun ho => hR.out.goal (p := q) (by rw [hN.out]; exact hqn) ho
     unfold succI at hsu;have hfr : freeI (inAt code q).op = (decide ((inAt code q).op = 1) || decide ((inAt code q).op = 5)) := by
       unfold freeI;rw [Bool.eq_iff_iff];simp
     have hnext : Hid (freeI (inAt code q).op = true → ∀ j, j < m + 1 → freeI (inAt code (itI code j q0)).op = true) := Lib.hid (fun hh j hj => by
       by_cases e : j = m
       · rw [e, hq]; exact hh
       · exact hall.out j (by omega))
     have hout : Hid (freeI (inAt code q).op = false → false = R) := Lib.hid (fun hh => by
       rw [← hr.out];cases hx : runI code (d.length + 1) q0 with
       | false => rfl
       | true =>
         have := (runI_iff code _ q0).1 hx m (by have := hcl.out; omega);rw [hq, hh] at this; cases this)
     obtain ⟨op, hop⟩ : ∃ x, (inAt code q).op = x := ⟨_, rfl⟩;obtain ⟨a, ha⟩ : ∃ x, (inAt code q).a = x := ⟨_, rfl⟩;rw [hop] at y0 hsu hfr hgo hnext hout;rw [ha] at y1 hsu hgo;replace hop := Lib.hid hop;replace ha := Lib.hid ha;replace hq := Lib.hid hq;replace hmet := Lib.hid hmet;clear hql hqn;by_cases h1 : op = 1
     · rw [if_pos h1] at hsu
       have e1 : ((op : Int) == 1) = true := by rw [h1]; rfl
       have hh : freeI op = true := by rw [hfr, decide_eq_true h1]; rfl
       obtain ⟨ha0, _⟩ := hgo (by rw [h1]; rfl);have hat : ((a.toNat : Nat) : Int) = a := Int.toNat_of_nonneg ha0;have hn2 := Lib.hid (hnext.out hh);replace hsu := Lib.hid hsu;replace hat := Lib.hid hat;replace h1 := Lib.hid h1;replace hh := Lib.hid hh;clear hfr hgo;go_wp2
       go_roundw
       case rel => exact ⟨m + 1, by omega, by go_num, by rw [hsu.out, hat.out], hn2, by trivial⟩
       case measure => simp [intOf]; omega
     · rw [if_neg h1] at hsu
       have e1 : ((op : Int) == 1) = false := beq_eq_false_iff_ne.2 (by omega);by_cases h5 : op = 5
       · have e5 : ((op : Int) == 5) = true := by rw [h5]; rfl
         have hh : freeI op = true := by rw [hfr, decide_eq_true h5]; simp
         have hn2 := Lib.hid (hnext.out hh);replace hsu := Lib.hid hsu;replace h1 := Lib.hid h1;replace h5 := Lib.hid h5;replace hh := Lib.hid hh;clear hfr hgo;go_wp2
         go_roundw
         case rel => exact ⟨m + 1, by omega, by go_num, by rw [hsu.out]; go_num, hn2, by trivial⟩
         case measure => simp [intOf]; omega
       · have e5 : ((op : Int) == 5) = false := beq_eq_false_iff_ne.2 (by omega)
         have hh : freeI op = false := by rw [hfr, decide_eq_false h1, decide_eq_false h5]; rfl
         have hn2 := Lib.hid (hout.out hh);replace hsu := Lib.hid hsu;replace h1 := Lib.hid h1;replace h5 := Lib.hid h5;replace hh := Lib.hid hh;clear hfr hgo;go_wp2
         go_ret
         exact ⟨ret_bool hn2.out, rfl⟩
end Go.Proofs.YtcabolfookofoaaDoor
namespace Go.Proofs.YtcabolfookofoaaDoor
open Go.RowKit
def WordsOK (w : World) : Prop := ∀ i, i < 58 → w.cell? ⟨0, i, none⟩ = some (.string ⟨(wordI i).toArray⟩)
theorem WordsOK.below {w W : World} (h : WordsOK w) (hb : Below w.heap.size w W) : WordsOK W := by
 intro i hi;have h0 := h i hi;exact (hb.cell (p := ⟨0, i, none⟩) (World.block_lt_of_cell? w _ h0)).trans h0
theorem wordI_none {op : Nat} (h : 58 ≤ op) : wordI op = [] := by
 unfold wordI;rw [List.getD_eq_getElem?_getD, List.getElem?_eq_none (by exact h)];rfl
set_option maxRecDepth 20000 in
theorem Word_any (op : Nat) (hop : op < 256) (w : World) (hW : WordsOK w) :
   Calls Tryd.prog 44 #[.int .u8 op] w fun e w' => e = .returned (.string ⟨(wordI op).toArray⟩) ∧ w = w' := by
 rcases Nat.lt_or_ge op 58 with h | h
 · have hc := hW op h
   generalize wordI op = s at *;clear hW;have h1 : (op : Int) < 58 := by omega
   go_enter Tryd.func44, Tryd.ntmps44
   go_wp2
   go_ret
   exact ⟨rfl, rfl⟩
 · rw [wordI_none h]
   have h1 : ¬ (op : Int) < 58 := by omega
   have h2 : (op : Int) < 256 := by omega
   go_enter Tryd.func44, Tryd.ntmps44
   go_wp2
   go_ret
   exact ⟨rfl, rfl⟩
set_option maxRecDepth 20000 in
theorem allowsText_any (op : Nat) (s : List UInt8) (hs : s.length ≤ 9223372036854775807) (w : World) :
   Calls Tryd.prog 46 #[.int .i64 (tkI op), .string ⟨s.toArray⟩] w fun e w' => e = .returned (.bool (txOK op s)) ∧ w = w' := by
 have hN := name_any ⟨s.toArray⟩ w hs;have eN : (⟨s.toArray⟩ : ByteArray).data.toList = s := rfl;rw [eN] at hN;obtain ⟨n, hn⟩ := exHid (nameL s);rw [hn.out] at hN;obtain ⟨B, hB⟩ := exHid (txOK op s);rw [hB.out];have hB' := hB.out;unfold txOK nameI at hB';rw [hn.out] at hB';have ek : tkI op = if op = 24 then 5 else if op = 50 ∨ op = 51 ∨ op = 56 then 6 else 0 := rfl;replace hN := Lib.hid hN;by_cases h24 : op = 24
 · rw [if_pos h24] at hB' ek
   rw [ek];clear ek hB hn hN;by_cases hl : s.length ≤ 4095
   · rw [decide_eq_true hl] at hB'
     have hl' : (s.length : Int) ≤ 4095 := by omega
     replace hB' := Lib.hid hB';go_enter Tryd.func46, Tryd.ntmps46
     go_wp2
     go_ret
     exact ⟨ret_bool hB'.out, rfl⟩
   · rw [decide_eq_false hl] at hB'
     have hl' : ¬ (s.length : Int) ≤ 4095 := by omega
     replace hB' := Lib.hid hB';go_enter Tryd.func46, Tryd.ntmps46
     go_wp2
     go_ret
     exact ⟨ret_bool hB'.out, rfl⟩
 · rw [if_neg h24] at hB' ek
   by_cases hnm : op = 50 ∨ op = 51 ∨ op = 56
   · rw [if_pos (by simp only [Bool.or_eq_true, beq_iff_eq]; omega)] at hB'
     rw [if_pos hnm] at ek;rw [ek];clear ek hB hn;replace hB' := Lib.hid hB';go_enter Tryd.func46, Tryd.ntmps46
     go_wp2_with (go_at_call 54; refine hN.out.mono ?_; rintro e w' ⟨rfl, rfl⟩)
     go_ret
     exact ⟨ret_bool hB'.out, rfl⟩
   · rw [if_neg (by simp only [Bool.or_eq_true, beq_iff_eq]; omega)] at hB'
     rw [if_neg hnm] at ek;rw [ek];clear ek hB hn hN;by_cases hl : s = []
     · rw [decide_eq_true hl] at hB'
       subst hl;replace hB' := Lib.hid hB';go_enter Tryd.func46, Tryd.ntmps46
       go_wp2
       go_ret
       exact ⟨ret_bool hB'.out, rfl⟩
     · rw [decide_eq_false hl] at hB'
       have hl' : (s == []) = false := beq_eq_false_iff_ne.2 hl;replace hB' := Lib.hid hB';go_enter Tryd.func46, Tryd.ntmps46
       go_wp2
       go_ret
       exact ⟨ret_bool hB'.out, rfl⟩
end Go.Proofs.YtcabolfookofoaaDoor
