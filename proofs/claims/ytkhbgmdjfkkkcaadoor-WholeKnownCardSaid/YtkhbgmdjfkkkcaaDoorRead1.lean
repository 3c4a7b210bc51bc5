/- Contracts of whole.Read and of what it calls: what a text says as a number, for every text. -/
import Derived.Test.YtkhbgmdjfkkkcaaDoorWhole
import Derived.Test.YtkhbgmdjfkkkcaaDoorRdNum
import Derived.LoopTactic
import Derived.Lib.IndexBytes
namespace Go.Proofs.YtkhbgmdjfkkkcaaDoor
open Go.RowKit

/-- What is left behind a minus, as the text hands it on. -/
def CutPost (l : List UInt8) (w : World) (e : Ending) (w' : World) : Prop := ∃ d : ByteArray, e = .returned (.tuple #[.string d, .bool (cutL l).2]) ∧ d.data.toList = (cutL l).1 ∧ w = w'

theorem bytes_len (s : ByteArray) : s.data.toList.length = s.size := Array.length_toList
theorem list_head (s : ByteArray) (h : 0 < s.size) : s.data.toList = s[0] :: s.data.toList.drop 1 := by
  have h' : 0 < s.data.toList.length := by rw [bytes_len]; exact h
  have := List.drop_eq_getElem_cons h'
  rw [List.drop_zero] at this
  exact this
theorem list_none (s : ByteArray) (h : ¬ 0 < s.size) : s.data.toList = [] := by
  apply List.eq_nil_of_length_eq_zero
  rw [bytes_len]
  omega

theorem cutL_minus {c : UInt8} (r : List UInt8) (h : c.toNat = 45) : cutL (c :: r) = (r, true) := by unfold cutL; simp only; rw [if_pos h]
theorem cutL_plain {c : UInt8} (r : List UInt8) (h : ¬ c.toNat = 45) : cutL (c :: r) = (c :: r, false) := by unfold cutL; simp only; rw [if_neg h]

set_option maxHeartbeats 400000 in
theorem cut_any (s : ByteArray) (w : World) (hs : s.size ≤ 9223372036854775807) :
    Calls Tryd.prog 40 #[.string s] w (CutPost s.data.toList w) := by
  by_cases h0 : 0 < s.size
  · have hl := list_head s h0
    have HL := Lib.hid hl
    clear hl
    go_enter Tryd.func40, Tryd.ntmps40
    go_wp2
    all_goals
      go_ret2
      rename_i h
      simp only [beq_iff_eq, beq_eq_false_iff_ne, ne_eq] at h
    · have hc := cutL_minus (c := s[0]) (s.data.toList.drop 1) (by omega)
      rw [← HL.out] at hc
      refine ⟨s.extract 1 s.size, ?_, by rw [Lib.extract_to_end, hc], rfl⟩
      rw [hc]
      rfl
    · have hc := cutL_plain (c := s[0]) (s.data.toList.drop 1) (by omega)
      rw [← HL.out] at hc
      refine ⟨s, ?_, by rw [hc], rfl⟩
      rw [hc]
      rfl
  · have hl := list_none s h0
    have HL := Lib.hid hl
    clear hl
    go_enter Tryd.func40, Tryd.ntmps40
    go_wp2
    go_ret2
    rw [HL.out]
    exact ⟨s, rfl, HL.out, rfl⟩

/-- All of them are digits. -/
def AllD (l : List UInt8) : Prop := l.all dig = true

theorem isNum_zero (d : ByteArray) (m : Bool) (h0 : 0 < d.size) (h : d[0].toNat = 48) : isNumB d.data.toList m = (decide (d.size = 1) && !m) := by
  rw [list_head d h0]
  unfold isNumB
  simp only
  rw [if_pos h]
  congr 1
  rw [Bool.eq_iff_iff, List.isEmpty_iff, decide_eq_true_eq, ← List.length_eq_zero_iff, List.length_drop, bytes_len]
  omega
theorem isNum_more (d : ByteArray) (m : Bool) (h0 : 0 < d.size) (h : ¬ d[0].toNat = 48) : isNumB d.data.toList m = d.data.toList.all dig := by
  rw [list_head d h0]
  unfold isNumB
  simp only
  rw [if_neg h]
theorem isNum_none (d : ByteArray) (m : Bool) (h0 : ¬ 0 < d.size) : isNumB d.data.toList m = false := by
  rw [list_none d h0]; rfl

set_option maxHeartbeats 1000000 in
theorem isNumber_any (d : ByteArray) (m : Bool) (w : World) (hs : d.size ≤ 9223372036854775807) :
    Calls Tryd.prog 41 #[.string d, .bool m] w fun e w' => e = .returned (.bool (isNumB d.data.toList m)) ∧ w = w' := by
  by_cases h0 : 0 < d.size
  · by_cases h48 : d[0].toNat = 48
    · have HN := Lib.hid (isNum_zero d m h0 h48)
      have hb : ((d[0].toNat : Int) == 48) = true := by simp; omega
      go_enter Tryd.func41, Tryd.ntmps41
      go_wp2
      all_goals
        go_ret
        refine ⟨ret_bool ?_, rfl⟩
        rw [HN.out]
        rename_i h
        have h1 : (d.size = 1) = True ∨ (d.size = 1) = False := by by_cases h2 : d.size = 1 <;> simp [h2]
        rcases h1 with h1 | h1 <;> simp [h1] <;> simp at h1 <;> omega
    · have HN := Lib.hid (isNum_more d m h0 h48)
      have hb : ((d[0].toNat : Int) == 48) = false := by simp; omega
      go_enter Tryd.func41, Tryd.ntmps41
      go_wp2
      clear hb
      go_loop [5] (fun i => ∃ k : Nat, k ≤ d.size ∧ i = .int .i64 k ∧ AllD (d.data.toList.take k)) (fun i => d.size - (intOf i).toNat)
      case atStart => exact ⟨0, Nat.zero_le _, rfl, rfl⟩
      case round =>
        obtain ⟨k, hk, rfl, hall⟩ := hrel
        replace hall := Lib.hid hall
        have hl := bytes_len d
        replace hl := Lib.hid hl
        by_cases hlt : k < d.size
        · have hsn : Hid (dig d[k] = true → AllD (d.data.toList.take (k + 1))) := fun hd => all_take_more _ k (by rw [hl.out]; exact hlt) hall.out hd
          have hsf : Hid (dig d[k] = false → d.data.toList.all dig = false) := fun hd => all_false_at _ k (by rw [hl.out]; exact hlt) hd
          by_cases hd : 48 ≤ d[k].toNat ∧ d[k].toNat ≤ 57
          · obtain ⟨hd1, hd2⟩ := hd
            go_wp2
            go_round
            case rel => exact ⟨k + 1, by omega, by go_num, hsn.out (by simp [dig, hd1, hd2])⟩
            case measure => simp [intOf]; omega
          · have hdf : Hid (dig d[k] = false) := by show dig d[k] = false; simp only [dig, decide_eq_false_iff_not]; exact hd
            by_cases hlo : d[k].toNat < 48
            · clear hd
              go_wp2
              go_ret
              exact ⟨ret_bool (by rw [HN.out, hsf.out hdf.out]), rfl⟩
            · have hhi : 57 < d[k].toNat := by omega
              clear hd
              go_wp2
              go_ret
              exact ⟨ret_bool (by rw [HN.out, hsf.out hdf.out]), rfl⟩
        · have hfin : Hid (d.data.toList.all dig = true) := by
            have := hall.out
            unfold AllD at this
            rw [List.take_of_length_le (by rw [hl.out]; omega)] at this
            exact this
          go_wp2
          go_ret
          exact ⟨ret_bool (by rw [HN.out, hfin.out]), rfl⟩
  · have HN := Lib.hid (isNum_none d m h0)
    have hz : ((d.size : Int) == 0) = true := by
      rw [show d.size = 0 by omega]; rfl
    go_enter Tryd.func41, Tryd.ntmps41
    go_wp2
    go_ret
    exact ⟨ret_bool (by rw [HN.out]), rfl⟩
end Go.Proofs.YtkhbgmdjfkkkcaaDoor
