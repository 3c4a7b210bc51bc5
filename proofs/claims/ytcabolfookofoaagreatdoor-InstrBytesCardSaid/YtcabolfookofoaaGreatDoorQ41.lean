/- A part of the proof: ICir. No condition. -/
import Derived.Test.YtcabolfookofoaaGreatDoorQ05
import Derived.Test.YtcabolfookofoaaGreatDoorQ39
set_option linter.unusedVariables false
set_option linter.unusedSimpArgs false
namespace Go.Proofs.YtcabolfookofoaaGreatDoor
open Go.RowKit
set_option maxRecDepth 20000 in
set_option maxHeartbeats 1000000 in
theorem behind_any {code : List Ins} {v : Value} {w : World} (h : InsIn w v code) {q : Nat} (hq : q < code.length) (hn : code.length ≤ 8192) (h0 : (inAt code q).op = 1 → 0 ≤ (inAt code q).a) :
   Calls Tryz.prog 72 #[v, .int .i64 q] w fun e w' => e = .returned (.int .i64 (succI code q : Nat)) ∧ w = w' := by
 obtain ⟨g, off, cap, rfl, hg, x0, x1, x2, x3⟩ := h.cells (Below.refl _ w) hq (op := (inAt code q).op) (a := (inAt code q).a) (x := (inAt code q).num) (tx := (inAt code q).text) rfl;obtain ⟨R, hR⟩ := exHid (succI code q);rw [hR.out];have hR' := hR.out;unfold succI at hR';clear hR;have hlt : (q : Int) < (code.length : Int) := by omega
 have hq2 : (q : Int) ≤ 8192 := by omega
 obtain ⟨n, hN⟩ := exHid code.length;rw [hN.out] at hlt ⊢;generalize (inAt code q).op = op at *;generalize (inAt code q).a = a at *;by_cases h1 : op = 1
 · rw [if_pos h1] at hR'
   have t1 : ((op : Int) == 1) = true := by rw [h1]; rfl
   have ha := h0 h1;replace h1 := Lib.hid h1;replace hR' := Lib.hid hR';clear h0;go_enter Tryz.func72, Tryz.ntmps72
   go_wp2
   go_ret
   exact ⟨ret_int (by rw [← hR'.out]; omega), rfl⟩
 · rw [if_neg h1] at hR'
   have t1 : ((op : Int) == 1) = false := beq_eq_false_iff_ne.2 (by omega);replace h1 := Lib.hid h1;replace hR' := Lib.hid hR';clear h0;go_enter Tryz.func72, Tryz.ntmps72
   go_wp2
   go_ret
   exact ⟨ret_int (by rw [← hR'.out]; omega), rfl⟩
def StopsI (code : List Ins) (q : Nat) : Prop := ∃ k, freeI (inAt code (itI code k q)).op = false
theorem stops_it {code : List Ins} {m j i : Nat} (hj : j ≤ m) (h : StopsI code (itI code m i)) : StopsI code (itI code j i) := by
 obtain ⟨k, hk⟩ := h;refine ⟨m - j + k, ?_⟩;rw [← itI_add, show j + (m - j + k) = m + k by omega, itI_add];exact hk
theorem itI_succ (code : List Ins) (m i : Nat) : itI code (m + 1) i = succI code (itI code m i) := by
 rw [itI_add]; rfl
def triedI (tr : List Int) : Nat → Bool := fun q => decide (tr.getD q (-1) ≠ -1)
theorem tried_set {tr : List Int} {p : Nat} {v : Int} (hp : p < tr.length) (hv : v ≠ -1) : triedI (tr.set p v) = goneI (triedI tr) p := by
 funext q
 unfold triedI goneI;rw [getD_set _ _ _ _ hp];by_cases e : q = p
 · rw [if_pos e, decide_eq_true hv, decide_eq_true e]; rfl
 · rw [if_neg e, decide_eq_false e]; rfl
structure OutI (code : List Ins) (d tr : List Int) (i : Nat) : Prop where
 len : tr.length = d.length
 old : ∀ q, tr.getD q (-1) ≠ -1 → 0 ≤ tr.getD q (-1) ∧ tr.getD q (-1) < i ∧ StopsI code q
 all : ∀ q, q < i → d.getD q (-1) ≠ -1 → StopsI code q
structure InI (code : List Ins) (d tr : List Int) (i m c : Nat) : Prop where
 len : tr.length = d.length
 old : ∀ q, tr.getD q (-1) ≠ -1 → (0 ≤ tr.getD q (-1) ∧ tr.getD q (-1) < i ∧ StopsI code q) ∨ (tr.getD q (-1) = i ∧ ∃ j, j < m ∧ q = itI code j i)
 all : ∀ q, q < i → d.getD q (-1) ≠ -1 → StopsI code q
 free : ∀ j, j < m → freeI (inAt code (itI code j i)).op = true
 cnt : cntI (triedI tr) d.length = c
theorem InI.start {code : List Ins} {d tr : List Int} {i : Nat} (h : OutI code d tr i) : InI code d tr i 0 (cntI (triedI tr) d.length) :=
 ⟨h.len, fun q hq => .inl (h.old q hq), h.all, fun j hj => by omega, rfl⟩
section
variable {code : List Ins} {d tr : List Int} {i m c : Nat}
theorem InI.met (h : InI code d tr i m c) (hf : FitsI code d) (h0 : ∀ p, 0 ≤ takesI (inAt code p)) (hi : d.getD i (-1) ≠ -1) : d.getD (itI code m i) (-1) ≠ -1 := it_met hf h0 m i hi h.free
theorem InI.step (h : InI code d tr i m c) (hf : FitsI code d) (h0 : ∀ p, 0 ≤ takesI (inAt code p)) (hi : d.getD i (-1) ≠ -1) (hu : tr.getD (itI code m i) (-1) = -1) (hfr : freeI (inAt code (itI code m i)).op = true) : 1 ≤ c ∧ InI code d (tr.set (itI code m i) i) i (m + 1) (c - 1) := by
 have hlt : itI code m i < tr.length := by rw [h.len]; exact met_lt (h.met hf h0 hi)
 have hc := cntI_gone (g := triedI tr) (p := itI code m i) (by unfold triedI; rw [hu]; rfl) (n := d.length) (by rw [← h.len]; exact hlt);rw [h.cnt] at hc;refine ⟨by omega, ⟨by rw [List.length_set]; exact h.len, fun q hq => ?_, h.all, fun j hj => ?_, ?_⟩⟩
 · rw [getD_set _ _ _ _ hlt] at hq ⊢
   by_cases e : q = itI code m i
   · rw [if_pos e]; exact .inr ⟨rfl, m, by omega, e⟩
   · rw [if_neg e] at hq ⊢
     rcases h.old q hq with a | ⟨a, j, b, e2⟩
     · exact .inl a
     · exact .inr ⟨a, j, by omega, e2⟩
 · by_cases e : j = m
   · rw [e]; exact hfr
   · exact h.free j (by omega)
 · rw [tried_set hlt (by omega)]
   omega
theorem InI.round (h : InI code d tr i m c) (hf : FitsI code d) (h0 : ∀ p, 0 ≤ takesI (inAt code p)) (hi : d.getD i (-1) ≠ -1) (hu : tr.getD (itI code m i) (-1) = i) : circI code d = some i := by
 unfold circI;rw [List.find?_range_eq_some];have hj : ∃ j, j < m ∧ itI code m i = itI code j i := by
   rcases h.old (itI code m i) (by rw [hu]; omega) with ⟨a, b, _⟩ | ⟨_, j, b, e⟩
   · rw [hu] at b; omega
   · exact ⟨j, b, e⟩
 obtain ⟨j, hj, e⟩ := hj;refine ⟨?_, List.mem_range.2 (met_lt hi), fun q hq => ?_⟩
 · rw [run_round hj e h.free, decide_eq_true hi]; rfl
 · by_cases hm : d.getD q (-1) = -1
   · rw [decide_eq_false (fun h => h hm)]; rfl
   · obtain ⟨k, hk⟩ := h.all q hq hm
     rw [run_stops hf h0 hm hk, Bool.and_false]; rfl
theorem InI.out (h : InI code d tr i m c) (hs : StopsI code (itI code m i)) : OutI code d tr (i + 1) := by
 have hsi : StopsI code i := stops_it (j := 0) (by omega) hs;refine ⟨h.len, fun q hq => ?_, fun q hq hm => ?_⟩
 · rcases h.old q hq with ⟨a, b, e⟩ | ⟨a, j, b, e⟩
   · exact ⟨a, by omega, e⟩
   · exact ⟨by omega, by omega, by rw [e]; exact stops_it (by omega) hs⟩
 · by_cases e : q = i
   · rw [e]; exact hsi
   · exact h.all q (by omega) hm
end
theorem OutI.skip {code : List Ins} {d tr : List Int} {i : Nat} (h : OutI code d tr i) (hi : d.getD i (-1) = -1) : OutI code d tr (i + 1) :=
 ⟨h.len, fun q hq => ⟨(h.old q hq).1, by have := (h.old q hq).2.1; omega, (h.old q hq).2.2⟩, fun q hq hm => h.all q (by
   by_cases e : q = i
   · rw [e] at hm; exact absurd hi hm
   · omega) hm⟩
theorem OutI.none {code : List Ins} {d tr : List Int} (hf : FitsI code d) (h0 : ∀ p, 0 ≤ takesI (inAt code p)) (h : OutI code d tr d.length) : circI code d = none := by
 unfold circI;rw [List.find?_eq_none];intro q hq;by_cases hm : d.getD q (-1) = -1
 · rw [decide_eq_false (fun h => h hm)]; simp
 · obtain ⟨k, hk⟩ := h.all q (List.mem_range.1 hq) hm
   rw [run_stops hf h0 hm hk, Bool.and_false]; simp
theorem OutI.zero {code : List Ins} {d : List Int} : OutI code d (List.replicate d.length (-1)) 0 :=
 ⟨List.length_replicate .., fun q hq => absurd (by rw [List.getD_eq_getElem?_getD, List.getElem?_replicate]; split <;> rfl) hq, fun q hq => by omega⟩
end Go.Proofs.YtcabolfookofoaaGreatDoor
