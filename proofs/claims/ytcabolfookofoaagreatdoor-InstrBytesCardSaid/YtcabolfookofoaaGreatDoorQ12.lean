/- A part of the proof: NmR, IDRt. No condition. -/
import Derived.Test.YtcabolfookofoaaGreatDoorQ04
import Derived.Test.YtcabolfookofoaaGreatDoorQ07
import Derived.Test.YtcabolfookofoaaGreatDoorQ11
set_option linter.unusedVariables false
set_option linter.unusedSimpArgs false
namespace Go.Proofs.YtcabolfookofoaaGreatDoor
open Go.RowKit
def SeenN (s : ByteArray) (k : Nat) : Prop := AllR (s.data.toList.take k) ∧ ∀ h : 0 < s.size, 0 < k → letC s[0] = true
theorem SeenN.more {s : ByteArray} {k : Nat} (h : SeenN s k) (hk : k < s.size) (hc : restC s[k] = true) (h0 : letC s[k] = true ∨ 0 < k) : SeenN s (k + 1) := by
 refine ⟨h.1.more hk hc, fun hs _ => ?_⟩;by_cases hk0 : 0 < k
 · exact h.2 hs hk0
 · obtain rfl : k = 0 := by omega
   rcases h0 with h0 | h0
   · exact h0
   · omega
set_option maxHeartbeats 2000000 in
theorem refName_any (s : ByteArray) (w : World) (hs : s.size ≤ 9223372036854775807) :
   Calls Tryz.prog 83 #[.string s] w fun e w' => e = .returned (.bool (nameL s.data.toList)) ∧ w = w' := by
 by_cases h0 : 0 < s.size
 · by_cases h24 : s.size ≤ 24
   · have hz : decide ((s.size : Int) < 1) = false := decide_eq_false (by omega)
     have h24' : decide (24 < (s.size : Int)) = false := decide_eq_false (by omega);go_enter Tryz.func83, Tryz.ntmps83
     go_wp2
     clear hz h24';go_loop [3] (fun i => ∃ k : Nat, k ≤ s.size ∧ i = .int .i64 k ∧ SeenN s k) (fun i => s.size - (intOf i).toNat)
     case atStart => exact ⟨0, Nat.zero_le _, rfl, rfl, fun _ h => absurd h (by omega)⟩
     case round =>
       obtain ⟨k, hk, rfl, hall⟩ := hrel;replace hall := Lib.hid hall;by_cases hlt : k < s.size
       · by_cases hok : restC s[k] = true ∧ (letC s[k] = true ∨ 0 < k)
         · have hnx := Lib.hid (hall.out.more hlt hok.1 hok.2)
           by_cases hl : 97 ≤ s[k].toNat ∧ s[k].toNat ≤ 122
           · obtain ⟨h97, h122⟩ := hl
             have h48 : 48 ≤ s[k].toNat := by omega
             have e57 : decide ((s[k].toNat : Int) ≤ 57) = false := decide_eq_false (by omega);have e95 : ((s[k].toNat : Int) == 95) = false := beq_eq_false_iff_ne.2 (by omega);clear hok;go_wp2
             go_round
             case rel => exact ⟨k + 1, by omega, by go_num, hnx.out⟩
             case measure => simp [intOf]; omega
           · have hl' : letC s[k] = false := by simp only [letC, decide_eq_false_iff_not]; exact hl
             have hk0 : 0 < k := by rcases hok.2 with h | h; · rw [hl'] at h; cases h
                                    · exact h
             have ek : ((k : Int) == 0) = false := beq_eq_false_iff_ne.2 (by omega);have hr := hok.1;unfold restC at hr;rw [hl'] at hr;simp only [Bool.false_or, Bool.or_eq_true, decide_eq_true_eq] at hr;have h97 : s[k].toNat < 97 := by omega
             have h48 : 48 ≤ s[k].toNat := by omega
             rcases hr with hr | hr
             · have h57 := hr.2
               clear hr hl' hl hok;go_wp2
               go_round
               case rel => exact ⟨k + 1, by omega, by go_num, hnx.out⟩
               case measure => simp [intOf]; omega
             · have e57 : decide ((s[k].toNat : Int) ≤ 57) = false := decide_eq_false (by omega)
               have e95 : ((s[k].toNat : Int) == 95) = true := by rw [hr]; rfl
               clear hr hl' hl hok;go_wp2
               go_round
               case rel => exact ⟨k + 1, by omega, by go_num, hnx.out⟩
               case measure => simp [intOf]; omega
         · have HN : Hid (nameL s.data.toList = false) := by
             show nameL s.data.toList = false
             cases hr : restC s[k] with
             | false => exact nameL_wrong hlt hr
             | true =>
               have hk0 : ¬ 0 < k := fun h => hok ⟨hr, .inr h⟩
               obtain rfl : k = 0 := by omega
               refine nameL_first hlt ?_;cases hc : letC s[0] with
               | false => rfl
               | true => exact absurd ⟨hr, .inl hc⟩ hok
           have hnl : letC s[k] = false := by
             cases hc : letC s[k] with
             | false => rfl
             | true => exact absurd ⟨letC_rest hc, .inl hc⟩ hok
           have hl : ¬ (97 ≤ s[k].toNat ∧ s[k].toNat ≤ 122) := by simpa only [letC, decide_eq_false_iff_not] using hnl
           by_cases hk0 : 0 < k
           · have ek : ((k : Int) == 0) = false := beq_eq_false_iff_ne.2 (by omega)
             have hnr : restC s[k] = false := by
               cases hc : restC s[k] with
               | false => rfl
               | true => exact absurd ⟨hc, .inr hk0⟩ hok
             have h95 : ¬ s[k].toNat = 95 := by intro h; unfold restC at hnr; simp [h] at hnr
             have hdg : ¬ (48 ≤ s[k].toNat ∧ s[k].toNat ≤ 57) := by intro h; unfold restC at hnr; simp [h] at hnr
             have e95 : ((s[k].toNat : Int) == 95) = false := beq_eq_false_iff_ne.2 (by omega);replace hnl := Lib.hid hnl;replace hnr := Lib.hid hnr;replace hok := Lib.hid hok;by_cases h48 : 48 ≤ s[k].toNat
             · have e57 : decide ((s[k].toNat : Int) ≤ 57) = false := decide_eq_false (by omega)
               by_cases h97 : 97 ≤ s[k].toNat
               · have e122 : decide ((s[k].toNat : Int) ≤ 122) = false := decide_eq_false (by omega)
                 clear hl hdg h95;go_wp2
                 go_ret
                 exact ⟨ret_bool (by rw [HN.out]), rfl⟩
               · have e97 : decide (97 ≤ (s[k].toNat : Int)) = false := decide_eq_false (by omega)
                 clear hl hdg h95;go_wp2
                 go_ret
                 exact ⟨ret_bool (by rw [HN.out]), rfl⟩
             · have e48 : decide (48 ≤ (s[k].toNat : Int)) = false := decide_eq_false (by omega)
               have e97 : decide (97 ≤ (s[k].toNat : Int)) = false := decide_eq_false (by omega);clear hl hdg h95;go_wp2
               go_ret
               exact ⟨ret_bool (by rw [HN.out]), rfl⟩
           · obtain rfl : k = 0 := by omega
             replace hnl := Lib.hid hnl;replace hok := Lib.hid hok;by_cases h97 : 97 ≤ s[0].toNat
             · have e122 : decide ((s[0].toNat : Int) ≤ 122) = false := decide_eq_false (by omega)
               clear hl hk0;go_wp2
               all_goals
                 go_ret
                 exact ⟨ret_bool (by rw [HN.out]), rfl⟩
             · have e97 : decide (97 ≤ (s[0].toNat : Int)) = false := decide_eq_false (by omega)
               clear hl hk0;go_wp2
               all_goals
                 go_ret
                 exact ⟨ret_bool (by rw [HN.out]), rfl⟩
       · have HN := Lib.hid (nameL_of h0 h24 (hall.out.2 h0 (by omega)) (hall.out.1.all (by omega)))
         go_wp2
         go_ret
         exact ⟨ret_bool (by rw [HN.out]), rfl⟩
   · have HN := Lib.hid (nameL_long (Nat.lt_of_not_le h24))
     have hz : decide ((s.size : Int) < 1) = false := decide_eq_false (by omega);have h24' : decide (24 < (s.size : Int)) = true := decide_eq_true (by omega);go_enter Tryz.func83, Tryz.ntmps83
     go_wp2
     go_ret
     exact ⟨ret_bool (by rw [HN.out]), rfl⟩
 · have HN := Lib.hid (nameL_none h0)
   have hz : decide ((s.size : Int) < 1) = true := decide_eq_true (by omega);go_enter Tryz.func83, Tryz.ntmps83
   go_wp2
   go_ret
   exact ⟨ret_bool (by rw [HN.out]), rfl⟩
end Go.Proofs.YtcabolfookofoaaGreatDoor
namespace Go.Proofs.YtcabolfookofoaaGreatDoor
open Go.RowKit
def aOut (k : Nat) (n a : Int) : Bool := (k == 0 && decide (a ≠ 0)) || (k == 1 && decide (n ≤ a)) || (k == 2 && decide (100 ≤ a)) || (k == 3 && decide (2048 < a))
theorem aOK_out {k : Nat} (hk : k < 4) (n : Int) {a : Int} (h0 : 0 ≤ a) : aOK k n a = !aOut k n a := by
 unfold aOK aOut
 match k, hk with
 | 0, _ => simp
 | 1, _ => rw [Bool.eq_iff_iff]; simp [h0]
 | 2, _ => rw [Bool.eq_iff_iff]; simp [h0]
 | 3, _ => rw [Bool.eq_iff_iff]; simp [h0]
theorem aOK_neg {k : Nat} (hk : k < 4) (n : Int) {a : Int} (h0 : a < 0) : aOK k n a = false := by
 unfold aOK
 match k, hk with
 | 0, _ => simp; omega
 | 1, _ => simp; omega
 | 2, _ => simp; omega
 | 3, _ => simp; omega
section
variable {op : Nat} {a num : Int} {tx : List UInt8} {n : Int} {w : World}
def rgArgs (op : Nat) (a num : Int) (tx : List UInt8) (n : Int) : Array Value := #[.agg #[.int .u8 op, .int .i64 a, .int .i64 num, .string ⟨tx.toArray⟩], .int .i64 n]
def RgPost (r : Bool) (w : World) (e : Ending) (w' : World) : Prop := e = .returned (.bool r) ∧ Below w.heap.size w w'
set_option maxRecDepth 20000 in
set_option maxHeartbeats 4000000 in
theorem right_early (h : (wordI op == []) = true ∨ ((wordI op == []) = false ∧ (op == 23) = false ∧ (num != 0) = true) ∨ ((wordI op == []) = false ∧ ((op == 23) = true ∨ (num != 0) = false) ∧ a < 0)) :
   Calls Tryz.prog 52 (rgArgs op a num tx n) w (RgPost false w) := by
 have O := fun W => Of_any op W
 unfold rowV at O;unfold rgArgs;generalize wordI op = wd at *;generalize akI op = k at *;generalize (op == 24) = b24 at *;generalize nameI op = bnm at *;generalize takesR op = tr at *;generalize leaveR op = lv at *;obtain ⟨b23, hb23⟩ : ∃ x, (op == 23) = x := ⟨_, rfl⟩;rw [hb23] at h O;clear hb23;rcases h with h | ⟨h, h2, h3⟩ | ⟨h, h2, h3⟩
 · go_enter Tryz.func52, Tryz.ntmps52
   go_wp2_with (go_at_call 8; refine (O _).mono ?_; rintro e w1 ⟨rfl, hb⟩; have hk : Below w.heap.size w w1 := below_next (by go_grown) hb; have hz := hk.size; have k1 := fun o2 => Go.Proofs.YtcabolfookofoaaGreatDoor.cell_kept hb o2 1; have k2 := fun o2 => Go.Proofs.YtcabolfookofoaaGreatDoor.cell_kept hb o2 2; replace hb := Lib.hid hb; simp at k1 k2)
   go_ret
   exact ⟨rfl, by go_grown⟩
 · subst h2
   go_enter Tryz.func52, Tryz.ntmps52
   go_wp2_with (go_at_call 8; refine (O _).mono ?_; rintro e w1 ⟨rfl, hb⟩; have hk : Below w.heap.size w w1 := below_next (by go_grown) hb; have hz := hk.size; have k1 := fun o2 => Go.Proofs.YtcabolfookofoaaGreatDoor.cell_kept hb o2 1; have k2 := fun o2 => Go.Proofs.YtcabolfookofoaaGreatDoor.cell_kept hb o2 2; replace hb := Lib.hid hb; simp at k1 k2)
   go_ret
   exact ⟨rfl, by go_grown⟩
 · have h4 : decide (a < 0) = true := decide_eq_true h3
   rcases b23 with _ | _
   · have h5 : (num != 0) = false := by rcases h2 with h2 | h2; cases h2; exact h2
     go_enter Tryz.func52, Tryz.ntmps52
     go_wp2_with (go_at_call 8; refine (O _).mono ?_; rintro e w1 ⟨rfl, hb⟩; have hk : Below w.heap.size w w1 := below_next (by go_grown) hb; have hz := hk.size; have k1 := fun o2 => Go.Proofs.YtcabolfookofoaaGreatDoor.cell_kept hb o2 1; have k2 := fun o2 => Go.Proofs.YtcabolfookofoaaGreatDoor.cell_kept hb o2 2; replace hb := Lib.hid hb; simp at k1 k2)
     go_ret
     exact ⟨rfl, by go_grown⟩
   · clear h2
     go_enter Tryz.func52, Tryz.ntmps52
     go_wp2_with (go_at_call 8; refine (O _).mono ?_; rintro e w1 ⟨rfl, hb⟩; have hk : Below w.heap.size w w1 := below_next (by go_grown) hb; have hz := hk.size; have k1 := fun o2 => Go.Proofs.YtcabolfookofoaaGreatDoor.cell_kept hb o2 1; have k2 := fun o2 => Go.Proofs.YtcabolfookofoaaGreatDoor.cell_kept hb o2 2; replace hb := Lib.hid hb; simp at k1 k2)
     go_ret
     exact ⟨rfl, by go_grown⟩
end
end Go.Proofs.YtcabolfookofoaaGreatDoor
