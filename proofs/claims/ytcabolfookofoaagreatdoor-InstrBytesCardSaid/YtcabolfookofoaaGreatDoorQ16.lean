/- A part of the proof: IDRtD, IDRg. No condition. -/
import Derived.Test.YtcabolfookofoaaGreatDoorQ12
import Derived.Test.YtcabolfookofoaaGreatDoorQ13
import Derived.Test.YtcabolfookofoaaGreatDoorQ14
import Derived.Test.YtcabolfookofoaaGreatDoorQ15
set_option linter.unusedVariables false
set_option linter.unusedSimpArgs false
namespace Go.Proofs.YtcabolfookofoaaGreatDoor
open Go.RowKit
section
variable {op : Nat} {a num : Int} {tx : List UInt8} {n : Int} {w : World}
set_option maxRecDepth 20000 in
set_option maxHeartbeats 2000000 in
theorem right_out3 (hw : (wordI op == []) = false) (hnum : (op == 23) = true ∨ (num != 0) = false) (ha : 0 ≤ a) (hk : akI op = 3) (hc : decide (2048 < a) = true) :
   Calls Tryz.prog 52 (rgArgs op a num tx n) w (RgPost (false) w) := by
 have O := fun W => Of_any op W
 unfold rowV at O;rw [show ((akI op : Nat) : Int) = 3 by rw [hk]; rfl] at O;unfold rgArgs;have hneg : decide (a < 0) = false := decide_eq_false (by omega);generalize wordI op = wd at *;generalize nameI op = bnm at *;generalize takesR op = tr at *;generalize leaveR op = lv at *;obtain ⟨b24, hb24⟩ : ∃ x, (op == 24) = x := ⟨_, rfl⟩;obtain ⟨b23, hb23⟩ : ∃ x, (op == 23) = x := ⟨_, rfl⟩;rw [hb24, hb23] at O;rw [hb23] at hnum;clear hb24 hb23 hk;rcases b23 with _ | _
 · have hnum2 : (num != 0) = false := by rcases hnum with h | h; cases h; exact h
   clear hnum;go_enter Tryz.func52, Tryz.ntmps52
   go_wp2_with (go_at_call 8; refine (O _).mono ?_; rintro e w1 ⟨rfl, hb⟩; have hk : Below w.heap.size w w1 := below_next (by go_grown) hb; have hz := hk.size; have k1 := fun o2 => Go.Proofs.YtcabolfookofoaaGreatDoor.cell_kept hb o2 1; have k2 := fun o2 => Go.Proofs.YtcabolfookofoaaGreatDoor.cell_kept hb o2 2; have k3 := fun o2 => Go.Proofs.YtcabolfookofoaaGreatDoor.cell_kept hb o2 3; replace hb := Lib.hid hb; simp at k1 k2 k3)
   go_ret
   exact ⟨rfl, by go_grown⟩
 · clear hnum
   go_enter Tryz.func52, Tryz.ntmps52
   go_wp2_with (go_at_call 8; refine (O _).mono ?_; rintro e w1 ⟨rfl, hb⟩; have hk : Below w.heap.size w w1 := below_next (by go_grown) hb; have hz := hk.size; have k1 := fun o2 => Go.Proofs.YtcabolfookofoaaGreatDoor.cell_kept hb o2 1; have k2 := fun o2 => Go.Proofs.YtcabolfookofoaaGreatDoor.cell_kept hb o2 2; have k3 := fun o2 => Go.Proofs.YtcabolfookofoaaGreatDoor.cell_kept hb o2 3; replace hb := Lib.hid hb; simp at k1 k2 k3)
   go_ret
   exact ⟨rfl, by go_grown⟩
set_option maxRecDepth 20000 in
set_option maxHeartbeats 2000000 in
theorem right_in3 (hw : (wordI op == []) = false) (hnum : (op == 23) = true ∨ (num != 0) = false) (ha : 0 ≤ a) (hk : akI op = 3) (hc : decide (2048 < a) = false) (hl : tx.length ≤ 9223372036854775807) :
   Calls Tryz.prog 52 (rgArgs op a num tx n) w (RgPost (txOK op tx) w) := by
 have O := fun W => Of_any op W
 unfold rowV at O;rw [show ((akI op : Nat) : Int) = 3 by rw [hk]; rfl] at O;unfold rgArgs;have hneg : decide (a < 0) = false := decide_eq_false (by omega);obtain ⟨B, hB⟩ := exHid (txOK op tx);rw [hB.out];have hB' := hB.out;unfold txOK at hB';have hop24 : (op = 24) = ((op == 24) = true) := by rw [beq_iff_eq]
 simp only [hop24] at hB';clear hB hop24;have hNm := fun W => refName_any ⟨tx.toArray⟩ W hl
 have eN : (⟨tx.toArray⟩ : ByteArray).data.toList = tx := rfl;rw [eN] at hNm;generalize nameL tx = nl at *;replace hNm := Lib.hid hNm;generalize wordI op = wd at *;generalize nameI op = bnm at *;generalize takesR op = tr at *;generalize leaveR op = lv at *;obtain ⟨b24, hb24⟩ : ∃ x, (op == 24) = x := ⟨_, rfl⟩;obtain ⟨b23, hb23⟩ : ∃ x, (op == 23) = x := ⟨_, rfl⟩;rw [hb24, hb23] at O;rw [hb23] at hnum;rw [hb24] at hB';clear hb24 hb23 hk;rcases b23 with _ | _
 · have hnum2 : (num != 0) = false := by rcases hnum with h | h; cases h; exact h
   clear hnum;rcases b24 with _ | _
   · rw [if_neg Bool.false_ne_true] at hB'
     rcases bnm with _ | _
     · rw [if_neg Bool.false_ne_true] at hB'
       by_cases hs : tx = []
       · rw [decide_eq_true hs] at hB'
         subst hs;replace hB' := Lib.hid hB';go_enter Tryz.func52, Tryz.ntmps52
         go_wp2_with first
           | (go_at_call 8; refine (O _).mono ?_; rintro e w1 ⟨rfl, hb⟩; have hk : Below w.heap.size w w1 := below_next (by go_grown) hb; have hz := hk.size; have k1 := fun o2 => Go.Proofs.YtcabolfookofoaaGreatDoor.cell_kept hb o2 1; have k2 := fun o2 => Go.Proofs.YtcabolfookofoaaGreatDoor.cell_kept hb o2 2; have k3 := fun o2 => Go.Proofs.YtcabolfookofoaaGreatDoor.cell_kept hb o2 3; replace hb := Lib.hid hb; simp at k1 k2 k3)
           | (go_at_call 83; refine (hNm.out _).mono ?_; rintro e w2 ⟨rfl, rfl⟩)
         go_ret
         exact ⟨ret_bool hB'.out, by go_grown⟩
       · rw [decide_eq_false hs] at hB'
         have hs2 : (tx == []) = false := beq_eq_false_iff_ne.2 hs;replace hs := Lib.hid hs;replace hB' := Lib.hid hB';go_enter Tryz.func52, Tryz.ntmps52
         go_wp2_with first
           | (go_at_call 8; refine (O _).mono ?_; rintro e w1 ⟨rfl, hb⟩; have hk : Below w.heap.size w w1 := below_next (by go_grown) hb; have hz := hk.size; have k1 := fun o2 => Go.Proofs.YtcabolfookofoaaGreatDoor.cell_kept hb o2 1; have k2 := fun o2 => Go.Proofs.YtcabolfookofoaaGreatDoor.cell_kept hb o2 2; have k3 := fun o2 => Go.Proofs.YtcabolfookofoaaGreatDoor.cell_kept hb o2 3; replace hb := Lib.hid hb; simp at k1 k2 k3)
           | (go_at_call 83; refine (hNm.out _).mono ?_; rintro e w2 ⟨rfl, rfl⟩)
         go_ret
         exact ⟨ret_bool hB'.out, by go_grown⟩
     · rw [if_pos rfl] at hB'
       replace hB' := Lib.hid hB';go_enter Tryz.func52, Tryz.ntmps52
       go_wp2_with first
         | (go_at_call 8; refine (O _).mono ?_; rintro e w1 ⟨rfl, hb⟩; have hk : Below w.heap.size w w1 := below_next (by go_grown) hb; have hz := hk.size; have k1 := fun o2 => Go.Proofs.YtcabolfookofoaaGreatDoor.cell_kept hb o2 1; have k2 := fun o2 => Go.Proofs.YtcabolfookofoaaGreatDoor.cell_kept hb o2 2; have k3 := fun o2 => Go.Proofs.YtcabolfookofoaaGreatDoor.cell_kept hb o2 3; replace hb := Lib.hid hb; simp at k1 k2 k3)
         | (go_at_call 83; refine (hNm.out _).mono ?_; rintro e w2 ⟨rfl, rfl⟩)
       go_ret
       exact ⟨ret_bool hB'.out, by go_grown⟩
   · rw [if_pos rfl] at hB'
     by_cases hs : tx.length ≤ 4095
     · rw [decide_eq_true hs] at hB'
       have hs2 : (tx.length : Int) ≤ 4095 := by omega
       replace hs := Lib.hid hs;replace hB' := Lib.hid hB';go_enter Tryz.func52, Tryz.ntmps52
       go_wp2_with first
         | (go_at_call 8; refine (O _).mono ?_; rintro e w1 ⟨rfl, hb⟩; have hk : Below w.heap.size w w1 := below_next (by go_grown) hb; have hz := hk.size; have k1 := fun o2 => Go.Proofs.YtcabolfookofoaaGreatDoor.cell_kept hb o2 1; have k2 := fun o2 => Go.Proofs.YtcabolfookofoaaGreatDoor.cell_kept hb o2 2; have k3 := fun o2 => Go.Proofs.YtcabolfookofoaaGreatDoor.cell_kept hb o2 3; replace hb := Lib.hid hb; simp at k1 k2 k3)
         | (go_at_call 83; refine (hNm.out _).mono ?_; rintro e w2 ⟨rfl, rfl⟩)
       go_ret
       exact ⟨ret_bool hB'.out, by go_grown⟩
     · rw [decide_eq_false hs] at hB'
       have hs2 : ¬ (tx.length : Int) ≤ 4095 := by omega
       replace hs := Lib.hid hs;replace hB' := Lib.hid hB';go_enter Tryz.func52, Tryz.ntmps52
       go_wp2_with first
         | (go_at_call 8; refine (O _).mono ?_; rintro e w1 ⟨rfl, hb⟩; have hk : Below w.heap.size w w1 := below_next (by go_grown) hb; have hz := hk.size; have k1 := fun o2 => Go.Proofs.YtcabolfookofoaaGreatDoor.cell_kept hb o2 1; have k2 := fun o2 => Go.Proofs.YtcabolfookofoaaGreatDoor.cell_kept hb o2 2; have k3 := fun o2 => Go.Proofs.YtcabolfookofoaaGreatDoor.cell_kept hb o2 3; replace hb := Lib.hid hb; simp at k1 k2 k3)
         | (go_at_call 83; refine (hNm.out _).mono ?_; rintro e w2 ⟨rfl, rfl⟩)
       go_ret
       exact ⟨ret_bool (by rw [← hB'.out]; exact decide_eq_false (by have := hs.out; omega)), by go_grown⟩
 · clear hnum
   rcases b24 with _ | _
   · rw [if_neg Bool.false_ne_true] at hB'
     rcases bnm with _ | _
     · rw [if_neg Bool.false_ne_true] at hB'
       by_cases hs : tx = []
       · rw [decide_eq_true hs] at hB'
         subst hs;replace hB' := Lib.hid hB';go_enter Tryz.func52, Tryz.ntmps52
         go_wp2_with first
           | (go_at_call 8; refine (O _).mono ?_; rintro e w1 ⟨rfl, hb⟩; have hk : Below w.heap.size w w1 := below_next (by go_grown) hb; have hz := hk.size; have k1 := fun o2 => Go.Proofs.YtcabolfookofoaaGreatDoor.cell_kept hb o2 1; have k2 := fun o2 => Go.Proofs.YtcabolfookofoaaGreatDoor.cell_kept hb o2 2; have k3 := fun o2 => Go.Proofs.YtcabolfookofoaaGreatDoor.cell_kept hb o2 3; replace hb := Lib.hid hb; simp at k1 k2 k3)
           | (go_at_call 83; refine (hNm.out _).mono ?_; rintro e w2 ⟨rfl, rfl⟩)
         go_ret
         exact ⟨ret_bool hB'.out, by go_grown⟩
       · rw [decide_eq_false hs] at hB'
         have hs2 : (tx == []) = false := beq_eq_false_iff_ne.2 hs;replace hs := Lib.hid hs;replace hB' := Lib.hid hB';go_enter Tryz.func52, Tryz.ntmps52
         go_wp2_with first
           | (go_at_call 8; refine (O _).mono ?_; rintro e w1 ⟨rfl, hb⟩; have hk : Below w.heap.size w w1 := below_next (by go_grown) hb; have hz := hk.size; have k1 := fun o2 => Go.Proofs.YtcabolfookofoaaGreatDoor.cell_kept hb o2 1; have k2 := fun o2 => Go.Proofs.YtcabolfookofoaaGreatDoor.cell_kept hb o2 2; have k3 := fun o2 => Go.Proofs.YtcabolfookofoaaGreatDoor.cell_kept hb o2 3; replace hb := Lib.hid hb; simp at k1 k2 k3)
           | (go_at_call 83; refine (hNm.out _).mono ?_; rintro e w2 ⟨rfl, rfl⟩)
         go_ret
         exact ⟨ret_bool hB'.out, by go_grown⟩
     · rw [if_pos rfl] at hB'
       replace hB' := Lib.hid hB';go_enter Tryz.func52, Tryz.ntmps52
       go_wp2_with first
         | (go_at_call 8; refine (O _).mono ?_; rintro e w1 ⟨rfl, hb⟩; have hk : Below w.heap.size w w1 := below_next (by go_grown) hb; have hz := hk.size; have k1 := fun o2 => Go.Proofs.YtcabolfookofoaaGreatDoor.cell_kept hb o2 1; have k2 := fun o2 => Go.Proofs.YtcabolfookofoaaGreatDoor.cell_kept hb o2 2; have k3 := fun o2 => Go.Proofs.YtcabolfookofoaaGreatDoor.cell_kept hb o2 3; replace hb := Lib.hid hb; simp at k1 k2 k3)
         | (go_at_call 83; refine (hNm.out _).mono ?_; rintro e w2 ⟨rfl, rfl⟩)
       go_ret
       exact ⟨ret_bool hB'.out, by go_grown⟩
   · rw [if_pos rfl] at hB'
     by_cases hs : tx.length ≤ 4095
     · rw [decide_eq_true hs] at hB'
       have hs2 : (tx.length : Int) ≤ 4095 := by omega
       replace hs := Lib.hid hs;replace hB' := Lib.hid hB';go_enter Tryz.func52, Tryz.ntmps52
       go_wp2_with first
         | (go_at_call 8; refine (O _).mono ?_; rintro e w1 ⟨rfl, hb⟩; have hk : Below w.heap.size w w1 := below_next (by go_grown) hb; have hz := hk.size; have k1 := fun o2 => Go.Proofs.YtcabolfookofoaaGreatDoor.cell_kept hb o2 1; have k2 := fun o2 => Go.Proofs.YtcabolfookofoaaGreatDoor.cell_kept hb o2 2; have k3 := fun o2 => Go.Proofs.YtcabolfookofoaaGreatDoor.cell_kept hb o2 3; replace hb := Lib.hid hb; simp at k1 k2 k3)
         | (go_at_call 83; refine (hNm.out _).mono ?_; rintro e w2 ⟨rfl, rfl⟩)
       go_ret
       exact ⟨ret_bool hB'.out, by go_grown⟩
     · rw [decide_eq_false hs] at hB'
       have hs2 : ¬ (tx.length : Int) ≤ 4095 := by omega
       replace hs := Lib.hid hs;replace hB' := Lib.hid hB';go_enter Tryz.func52, Tryz.ntmps52
       go_wp2_with first
         | (go_at_call 8; refine (O _).mono ?_; rintro e w1 ⟨rfl, hb⟩; have hk : Below w.heap.size w w1 := below_next (by go_grown) hb; have hz := hk.size; have k1 := fun o2 => Go.Proofs.YtcabolfookofoaaGreatDoor.cell_kept hb o2 1; have k2 := fun o2 => Go.Proofs.YtcabolfookofoaaGreatDoor.cell_kept hb o2 2; have k3 := fun o2 => Go.Proofs.YtcabolfookofoaaGreatDoor.cell_kept hb o2 3; replace hb := Lib.hid hb; simp at k1 k2 k3)
         | (go_at_call 83; refine (hNm.out _).mono ?_; rintro e w2 ⟨rfl, rfl⟩)
       go_ret
       exact ⟨ret_bool (by rw [← hB'.out]; exact decide_eq_false (by have := hs.out; omega)), by go_grown⟩
end
end Go.Proofs.YtcabolfookofoaaGreatDoor
namespace Go.Proofs.YtcabolfookofoaaGreatDoor
open Go.RowKit
theorem refRight_any (x : Ins) (hx : FitIns x) (n : Int) (w : World) :
   Calls Tryz.prog 52 #[insV x, .int .i64 n] w fun e w' => e = .returned (.bool (rightI x n)) ∧ Below w.heap.size w w' := by
 obtain ⟨hl, -, -, -⟩ := hx;obtain ⟨op, a, num, tx⟩ := x;dsimp only at hl;have key : ∀ r, Calls Tryz.prog 52 (rgArgs op a num tx n) w (RgPost r w) → rightI ⟨op, a, num, tx⟩ n = r → Calls Tryz.prog 52 #[insV ⟨op, a, num, tx⟩, .int .i64 n] w fun e w' => e = .returned (.bool (rightI ⟨op, a, num, tx⟩ n)) ∧ Below w.heap.size w w' := by
   intro r h e;rw [e];exact h
 have hk := akI_lt op;have hR : rightI ⟨op, a, num, tx⟩ n = (decide (wordI op ≠ []) && aOK (akI op) n a && (decide (num = 0) || op == 23) && txOK op tx) := rfl;by_cases hw : wordI op = []
 · exact key false (right_early (.inl (by rw [hw]; rfl))) (by rw [hR, decide_eq_false (fun h => h hw)]; rfl)
 have hw2 : (wordI op == []) = false := beq_eq_false_iff_ne.2 hw;rw [decide_eq_true hw, Bool.true_and] at hR;by_cases hm : (op == 23) = false ∧ (num != 0) = true
 · refine key false (right_early (.inr (.inl ⟨hw2, hm.1, hm.2⟩))) ?_
   have : decide (num = 0) = false := decide_eq_false (by have := hm.2; simpa using this);rw [hR, hm.1, this];simp
 have hm2 : (op == 23) = true ∨ (num != 0) = false := by
   cases h1 : (op == 23) with
   | true => exact .inl rfl
   | false =>
     cases h2 : (num != 0) with
     | true => exact absurd ⟨h1, h2⟩ hm
     | false => exact .inr rfl
 have hm3 : (decide (num = 0) || op == 23) = true := by
   rcases hm2 with h | h
   · rw [h, Bool.or_true]
   · have : num = 0 := by simpa using h
     rw [decide_eq_true this]; rfl
 rw [hm3, Bool.and_true] at hR;rcases Int.lt_or_le a 0 with ha | ha
 · exact key false (right_early (.inr (.inr ⟨hw2, hm2, ha⟩))) (by rw [hR, aOK_neg hk n ha]; rfl)
 rw [aOK_out hk n ha] at hR;cases hc : aOut (akI op) n a with
 | true =>
   rw [hc] at hR;have hR2 : rightI ⟨op, a, num, tx⟩ n = false := by rw [hR]; rfl
   unfold aOut at hc;have : akI op = 0 ∨ akI op = 1 ∨ akI op = 2 ∨ akI op = 3 := by omega
   rcases this with e | e | e | e
   · rw [e] at hc
     exact key false (right_out0 hw2 hm2 ha e (by simpa using hc)) hR2
   · rw [e] at hc
     exact key false (right_out1 hw2 hm2 ha e (by simpa using hc)) hR2
   · rw [e] at hc
     exact key false (right_out2 hw2 hm2 ha e (by simpa using hc)) hR2
   · rw [e] at hc
     exact key false (right_out3 hw2 hm2 ha e (by simpa using hc)) hR2
 | false =>
   rw [hc] at hR;have hR2 : rightI ⟨op, a, num, tx⟩ n = txOK op tx := by rw [hR]; rfl
   unfold aOut at hc;have : akI op = 0 ∨ akI op = 1 ∨ akI op = 2 ∨ akI op = 3 := by omega
   rcases this with e | e | e | e
   · rw [e] at hc
     exact key _ (right_in0 hw2 hm2 ha e (by simpa using hc) hl) hR2
   · rw [e] at hc
     exact key _ (right_in1 hw2 hm2 ha e (by simpa using hc) hl) hR2
   · rw [e] at hc
     exact key _ (right_in2 hw2 hm2 ha e (by simpa using hc) hl) hR2
   · rw [e] at hc
     exact key _ (right_in3 hw2 hm2 ha e (by simpa using hc) hl) hR2
end Go.Proofs.YtcabolfookofoaaGreatDoor
