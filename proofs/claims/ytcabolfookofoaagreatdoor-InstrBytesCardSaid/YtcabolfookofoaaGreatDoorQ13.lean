/- A part of the proof: IDRtA. No condition. -/
import Derived.Test.YtcabolfookofoaaGreatDoorQ12
set_option linter.unusedVariables false
set_option linter.unusedSimpArgs false
namespace Go.Proofs.YtcabolfookofoaaGreatDoor
open Go.RowKit
section
variable {op : Nat} {a num : Int} {tx : List UInt8} {n : Int} {w : World}
set_option maxRecDepth 20000 in
set_option maxHeartbeats 2000000 in
theorem right_out0 (hw : (wordI op == []) = false) (hnum : (op == 23) = true ∨ (num != 0) = false) (ha : 0 ≤ a) (hk : akI op = 0) (hc : (a != 0) = true) :
   Calls Tryz.prog 52 (rgArgs op a num tx n) w (RgPost (false) w) := by
 have O := fun W => Of_any op W
 unfold rowV at O;rw [show ((akI op : Nat) : Int) = 0 by rw [hk]; rfl] at O;unfold rgArgs;have hneg : decide (a < 0) = false := decide_eq_false (by omega);generalize wordI op = wd at *;generalize nameI op = bnm at *;generalize takesR op = tr at *;generalize leaveR op = lv at *;obtain ⟨b24, hb24⟩ : ∃ x, (op == 24) = x := ⟨_, rfl⟩;obtain ⟨b23, hb23⟩ : ∃ x, (op == 23) = x := ⟨_, rfl⟩;rw [hb24, hb23] at O;rw [hb23] at hnum;clear hb24 hb23 hk;rcases b23 with _ | _
 · have hnum2 : (num != 0) = false := by rcases hnum with h | h; cases h; exact h
   clear hnum;go_enter Tryz.func52, Tryz.ntmps52
   go_wp2_with (go_at_call 8; refine (O _).mono ?_; rintro e w1 ⟨rfl, hb⟩; have hk : Below w.heap.size w w1 := below_next (by go_grown) hb; have hz := hk.size; have k1 := fun o2 => Go.Proofs.YtcabolfookofoaaGreatDoor.cell_kept hb o2 1; have k2 := fun o2 => Go.Proofs.YtcabolfookofoaaGreatDoor.cell_kept hb o2 2; have k3 := fun o2 => Go.Proofs.YtcabolfookofoaaGreatDoor.cell_kept hb o2 3; replace hb := Lib.hid hb; simp at k1 k2 k3)
   go_ret
   exact ⟨rfl, by go_grown⟩
 · clear hnum
   go_enter Tryz.func52, Tryz.ntmps52
   go_wp2_with (go_at_call 8; refine (O _).mono ?_; rintro e w1 ⟨rfl, hb⟩; have hk : Below w.heap.size w w1 := below_next (by go_grown) hb; have hz := hk.size; have k1 := fun o2 => Go.Proofs.YtcabolfookofoaaGreatDoor.cell_kept hb o2 1; have k2 := fun o2 => Go.Proofs.YtcabolfookofoaaGreatDoor.cell_kept hb o2 2; have k3 := fun o2 => Go.Proofs.YtcabolfookofoaaGreatDoor.cell_kept hb o2 3; replace hb := Lib.hid hb; simp at k1 k2 k3)
   go_ret
   exact ⟨rfl, by go_grown⟩
set_option maxRecDepth 20000 in
set_option maxHeartbeats 2000000 in
theorem right_in0 (hw : (wordI op == []) = false) (hnum : (op == 23) = true ∨ (num != 0) = false) (ha : 0 ≤ a) (hk : akI op = 0) (hc : (a != 0) = false) (hl : tx.length ≤ 9223372036854775807) :
   Calls Tryz.prog 52 (rgArgs op a num tx n) w (RgPost (txOK op tx) w) := by
 have O := fun W => Of_any op W
 unfold rowV at O;rw [show ((akI op : Nat) : Int) = 0 by rw [hk]; rfl] at O;unfold rgArgs;have hneg : decide (a < 0) = false := decide_eq_false (by omega);obtain ⟨B, hB⟩ := exHid (txOK op tx);rw [hB.out];have hB' := hB.out;unfold txOK at hB';have hop24 : (op = 24) = ((op == 24) = true) := by rw [beq_iff_eq]
 simp only [hop24] at hB';clear hB hop24;have hNm := fun W => refName_any ⟨tx.toArray⟩ W hl
 have eN : (⟨tx.toArray⟩ : ByteArray).data.toList = tx := rfl;rw [eN] at hNm;generalize nameL tx = nl at *;replace hNm := Lib.hid hNm;generalize wordI op = wd at *;generalize nameI op = bnm at *;generalize takesR op = tr at *;generalize leaveR op = lv at *;obtain ⟨b24, hb24⟩ : ∃ x, (op == 24) = x := ⟨_, rfl⟩;obtain ⟨b23, hb23⟩ : ∃ x, (op == 23) = x := ⟨_, rfl⟩;rw [hb24, hb23] at O;rw [hb23] at hnum;rw [hb24] at hB';clear hb24 hb23 hk;rcases b23 with _ | _
 · have hnum2 : (num != 0) = false := by rcases hnum with h | h; cases h; exact h
   clear hnum;rcases b24 with _ | _
   · rw [if_neg Bool.false_ne_true] at hB'
     rcases bnm with _ | _
     · rw [if_neg Bool.false_ne_true] at hB'
       by_cases hs : tx = []
       · rw [decide_eq_true hs] at hB'
         subst hs;replace hB' := Lib.hid hB';go_enter Tryz.func52, Tryz.ntmps52
         go_wp2_with first
           | (go_at_call 8; refine (O _).mono ?_; rintro e w1 ⟨rfl, hb⟩; have hk : Below w.heap.size w w1 := below_next (by go_grown) hb; have hz := hk.size; have k1 := fun o2 => Go.Proofs.YtcabolfookofoaaGreatDoor.cell_kept hb o2 1; have k2 := fun o2 => Go.Proofs.YtcabolfookofoaaGreatDoor.cell_kept hb o2 2; have k3 := fun o2 => Go.Proofs.YtcabolfookofoaaGreatDoor.cell_kept hb o2 3; replace hb := Lib.hid hb; simp at k1 k2 k3)
           | (go_at_call 83; refine (hNm.out _).mono ?_; rintro e w2 ⟨rfl, rfl⟩)
         go_ret
         exact ⟨ret_bool hB'.out, by go_grown⟩
       · rw [decide_eq_false hs] at hB'
         have hs2 : (tx == []) = false := beq_eq_false_iff_ne.2 hs;replace hs := Lib.hid hs;replace hB' := Lib.hid hB';go_enter Tryz.func52, Tryz.ntmps52
         go_wp2_with first
           | (go_at_call 8; refine (O _).mono ?_; rintro e w1 ⟨rfl, hb⟩; have hk : Below w.heap.size w w1 := below_next (by go_grown) hb; have hz := hk.size; have k1 := fun o2 => Go.Proofs.YtcabolfookofoaaGreatDoor.cell_kept hb o2 1; have k2 := fun o2 => Go.Proofs.YtcabolfookofoaaGreatDoor.cell_kept hb o2 2; have k3 := fun o2 => Go.Proofs.YtcabolfookofoaaGreatDoor.cell_kept hb o2 3; replace hb := Lib.hid hb; simp at k1 k2 k3)
           | (go_at_call 83; refine (hNm.out _).mono ?_; rintro e w2 ⟨rfl, rfl⟩)
         go_ret
         exact ⟨ret_bool hB'.out, by go_grown⟩
     · rw [if_pos rfl] at hB'
       replace hB' := Lib.hid hB';go_enter Tryz.func52, Tryz.ntmps52
       go_wp2_with first
         | (go_at_call 8; refine (O _).mono ?_; rintro e w1 ⟨rfl, hb⟩; have hk : Below w.heap.size w w1 := below_next (by go_grown) hb; have hz := hk.size; have k1 := fun o2 => Go.Proofs.YtcabolfookofoaaGreatDoor.cell_kept hb o2 1; have k2 := fun o2 => Go.Proofs.YtcabolfookofoaaGreatDoor.cell_kept hb o2 2; have k3 := fun o2 => Go.Proofs.YtcabolfookofoaaGreatDoor.cell_kept hb o2 3; replace hb := Lib.hid hb; simp at k1 k2 k3)
         | (go_at_call 83; refine (hNm.out _).mono ?_; rintro e w2 ⟨rfl, rfl⟩)
       go_ret
       exact ⟨ret_bool hB'.out, by go_grown⟩
   · rw [if_pos rfl] at hB'
     by_cases hs : tx.length ≤ 4095
     · rw [decide_eq_true hs] at hB'
       have hs2 : (tx.length : Int) ≤ 4095 := by omega
       replace hs := Lib.hid hs;replace hB' := Lib.hid hB';go_enter Tryz.func52, Tryz.ntmps52
       go_wp2_with first
         | (go_at_call 8; refine (O _).mono ?_; rintro e w1 ⟨rfl, hb⟩; have hk : Below w.heap.size w w1 := below_next (by go_grown) hb; have hz := hk.size; have k1 := fun o2 => Go.Proofs.YtcabolfookofoaaGreatDoor.cell_kept hb o2 1; have k2 := fun o2 => Go.Proofs.YtcabolfookofoaaGreatDoor.cell_kept hb o2 2; have k3 := fun o2 => Go.Proofs.YtcabolfookofoaaGreatDoor.cell_kept hb o2 3; replace hb := Lib.hid hb; simp at k1 k2 k3)
         | (go_at_call 83; refine (hNm.out _).mono ?_; rintro e w2 ⟨rfl, rfl⟩)
       go_ret
       exact ⟨ret_bool hB'.out, by go_grown⟩
     · rw [decide_eq_false hs] at hB'
       have hs2 : ¬ (tx.length : Int) ≤ 4095 := by omega
       replace hs := Lib.hid hs;replace hB' := Lib.hid hB';go_enter Tryz.func52, Tryz.ntmps52
       go_wp2_with first
         | (go_at_call 8; refine (O _).mono ?_; rintro e w1 ⟨rfl, hb⟩; have hk : Below w.heap.size w w1 := below_next (by go_grown) hb; have hz := hk.size; have k1 := fun o2 => Go.Proofs.YtcabolfookofoaaGreatDoor.cell_kept hb o2 1; have k2 := fun o2 => Go.Proofs.YtcabolfookofoaaGreatDoor.cell_kept hb o2 2; have k3 := fun o2 => Go.Proofs.YtcabolfookofoaaGreatDoor.cell_kept hb o2 3; replace hb := Lib.hid hb; simp at k1 k2 k3)
         | (go_at_call 83; refine (hNm.out _).mono ?_; rintro e w2 ⟨rfl, rfl⟩)
       go_ret
       exact ⟨ret_bool (by rw [← hB'.out]; exact decide_eq_false (by have := hs.out; omega)), by go_grown⟩
 · clear hnum
   rcases b24 with _ | _
   · rw [if_neg Bool.false_ne_true] at hB'
     rcases bnm with _ | _
     · rw [if_neg Bool.false_ne_true] at hB'
       by_cases hs : tx = []
       · rw [decide_eq_true hs] at hB'
         subst hs;replace hB' := Lib.hid hB';go_enter Tryz.func52, Tryz.ntmps52
         go_wp2_with first
           | (go_at_call 8; refine (O _).mono ?_; rintro e w1 ⟨rfl, hb⟩; have hk : Below w.heap.size w w1 := below_next (by go_grown) hb; have hz := hk.size; have k1 := fun o2 => Go.Proofs.YtcabolfookofoaaGreatDoor.cell_kept hb o2 1; have k2 := fun o2 => Go.Proofs.YtcabolfookofoaaGreatDoor.cell_kept hb o2 2; have k3 := fun o2 => Go.Proofs.YtcabolfookofoaaGreatDoor.cell_kept hb o2 3; replace hb := Lib.hid hb; simp at k1 k2 k3)
           | (go_at_call 83; refine (hNm.out _).mono ?_; rintro e w2 ⟨rfl, rfl⟩)
         go_ret
         exact ⟨ret_bool hB'.out, by go_grown⟩
       · rw [decide_eq_false hs] at hB'
         have hs2 : (tx == []) = false := beq_eq_false_iff_ne.2 hs;replace hs := Lib.hid hs;replace hB' := Lib.hid hB';go_enter Tryz.func52, Tryz.ntmps52
         go_wp2_with first
           | (go_at_call 8; refine (O _).mono ?_; rintro e w1 ⟨rfl, hb⟩; have hk : Below w.heap.size w w1 := below_next (by go_grown) hb; have hz := hk.size; have k1 := fun o2 => Go.Proofs.YtcabolfookofoaaGreatDoor.cell_kept hb o2 1; have k2 := fun o2 => Go.Proofs.YtcabolfookofoaaGreatDoor.cell_kept hb o2 2; have k3 := fun o2 => Go.Proofs.YtcabolfookofoaaGreatDoor.cell_kept hb o2 3; replace hb := Lib.hid hb; simp at k1 k2 k3)
           | (go_at_call 83; refine (hNm.out _).mono ?_; rintro e w2 ⟨rfl, rfl⟩)
         go_ret
         exact ⟨ret_bool hB'.out, by go_grown⟩
     · rw [if_pos rfl] at hB'
       replace hB' := Lib.hid hB';go_enter Tryz.func52, Tryz.ntmps52
       go_wp2_with first
         | (go_at_call 8; refine (O _).mono ?_; rintro e w1 ⟨rfl, hb⟩; have hk : Below w.heap.size w w1 := below_next (by go_grown) hb; have hz := hk.size; have k1 := fun o2 => Go.Proofs.YtcabolfookofoaaGreatDoor.cell_kept hb o2 1; have k2 := fun o2 => Go.Proofs.YtcabolfookofoaaGreatDoor.cell_kept hb o2 2; have k3 := fun o2 => Go.Proofs.YtcabolfookofoaaGreatDoor.cell_kept hb o2 3; replace hb := Lib.hid hb; simp at k1 k2 k3)
         | (go_at_call 83; refine (hNm.out _).mono ?_; rintro e w2 ⟨rfl, rfl⟩)
       go_ret
       exact ⟨ret_bool hB'.out, by go_grown⟩
   · rw [if_pos rfl] at hB'
     by_cases hs : tx.length ≤ 4095
     · rw [decide_eq_true hs] at hB'
       have hs2 : (tx.length : Int) ≤ 4095 := by omega
       replace hs := Lib.hid hs;replace hB' := Lib.hid hB';go_enter Tryz.func52, Tryz.ntmps52
       go_wp2_with first
         | (go_at_call 8; refine (O _).mono ?_; rintro e w1 ⟨rfl, hb⟩; have hk : Below w.heap.size w w1 := below_next (by go_grown) hb; have hz := hk.size; have k1 := fun o2 => Go.Proofs.YtcabolfookofoaaGreatDoor.cell_kept hb o2 1; have k2 := fun o2 => Go.Proofs.YtcabolfookofoaaGreatDoor.cell_kept hb o2 2; have k3 := fun o2 => Go.Proofs.YtcabolfookofoaaGreatDoor.cell_kept hb o2 3; replace hb := Lib.hid hb; simp at k1 k2 k3)
         | (go_at_call 83; refine (hNm.out _).mono ?_; rintro e w2 ⟨rfl, rfl⟩)
       go_ret
       exact ⟨ret_bool hB'.out, by go_grown⟩
     · rw [decide_eq_false hs] at hB'
       have hs2 : ¬ (tx.length : Int) ≤ 4095 := by omega
       replace hs := Lib.hid hs;replace hB' := Lib.hid hB';go_enter Tryz.func52, Tryz.ntmps52
       go_wp2_with first
         | (go_at_call 8; refine (O _).mono ?_; rintro e w1 ⟨rfl, hb⟩; have hk : Below w.heap.size w w1 := below_next (by go_grown) hb; have hz := hk.size; have k1 := fun o2 => Go.Proofs.YtcabolfookofoaaGreatDoor.cell_kept hb o2 1; have k2 := fun o2 => Go.Proofs.YtcabolfookofoaaGreatDoor.cell_kept hb o2 2; have k3 := fun o2 => Go.Proofs.YtcabolfookofoaaGreatDoor.cell_kept hb o2 3; replace hb := Lib.hid hb; simp at k1 k2 k3)
         | (go_at_call 83; refine (hNm.out _).mono ?_; rintro e w2 ⟨rfl, rfl⟩)
       go_ret
       exact ⟨ret_bool (by rw [← hB'.out]; exact decide_eq_false (by have := hs.out; omega)), by go_grown⟩
end
end Go.Proofs.YtcabolfookofoaaGreatDoor
