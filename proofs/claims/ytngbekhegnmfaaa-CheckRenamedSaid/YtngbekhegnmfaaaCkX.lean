/- The law's renamed (layer 11), walked: each letter is another one, by a shift. No condition. -/
import Derived.Test.YtngbekhegnmfaaaCkN
import Derived.Test.YtngbekhegnmfaaaBu
namespace Go.Proofs.Ytngbekhegnmfaaa
open Go.RowKit Go.Shelf

theorem size_listC (s : ByteArray) : s.data.toList.length = s.size := Array.length_toList
set_option maxRecDepth 20000 in
set_option maxHeartbeats 2000000 in
theorem renamed_any (s : ByteArray) (b : Nat) (hb : b < 256) (w : World) (hs : s.size ≤ 140737488351232) :
    Calls Try.prog 19 #[.string s, .int .u8 (b : Int)] w fun e w' => e = .returned (.string ⟨(renS b s.data.toList).toArray⟩) ∧ Below w.heap.size w w' := by
  go_enter Try.func19, Try.ntmps19
  go_wp2_with fail
  go_loopw [5, 6, 7] (fun t5 t6 t7 wr => ∃ i : Nat, i ≤ s.size ∧ t6 = .int .i64 i ∧ Hid (BufU wr w.heap.size t5 (renS b (s.data.toList.take i))) ∧ Hid (Below w.heap.size w wr)) (fun _ t6 _ _ => s.size - (intOf t6).toNat)
  case atStart => exact ⟨0, Nat.zero_le _, rfl, Lib.hid (BufU.nil _ _), Lib.hid (Below.refl _ _)⟩
  case round =>
    obtain ⟨i, hi, rfl, hB, hw⟩ := hrel
    rcases Nat.lt_or_ge i s.size with hlt | hge
    · have hlti : (i : Int) < (s.size : Int) := by omega
      have hll : (renS b (s.data.toList.take i)).length = i := by unfold renS; rw [List.length_map, List.length_take, size_listC]; omega
      have htk : renS b (s.data.toList.take (i + 1)) = renS b (s.data.toList.take i) ++ [renC b s[i]] := by
        unfold renS
        rw [List.take_add_one, List.getElem?_eq_getElem (by rw [size_listC]; exact hlt), List.map_append]
        rfl
      have hc255 : s[i].toNat < 256 := s[i].toNat_lt
      have hrn := renC_nat b s[i]
      obtain ⟨R, hR⟩ := exHid (renS b (s.data.toList.take i))
      rw [hR.out] at hB hll htk
      have hR5 : R.length ≤ 140737488351232 := by omega
      obtain ⟨a, cap, rfl, _, _⟩ := id hB.out.shape
      clear hR
      replace hll := Lib.hid hll
      replace htk := Lib.hid htk
      have hbz := hw.out.size
      generalize renC b s[i] = C at *
      have hal := (Below.refl wr.heap.size wr).alloc (Nat.le_refl _) (.cells #[.int .u8 (C.toNat : Int)] 5)
      have hB2 := Lib.hid (BufU.below hB.out hal)
      have hwA2 := Lib.hid (hw.out.trans (hal.mono hbz))
      have hz2 : w.heap.size ≤ (wr.alloc (.cells #[.int .u8 (C.toNat : Int)] 5)).heap.size := by simp; omega
      clear hal
      by_cases c1 : 97 ≤ s[i].toNat
      · by_cases c2 : s[i].toNat ≤ 122
        · rw [if_pos ⟨c1, c2⟩] at hrn
          have i1 : (97 : Int) ≤ (s[i].toNat : Int) := by omega
          have i2 : (s[i].toNat : Int) ≤ 122 := by omega
          have hval : (97 + ((s[i].toNat : Int) - 97 + (b : Int)) % 26) = (C.toNat : Int) := by omega
          clear hrn
          have hwe : (wr.alloc (.cells #[.int .u8 (97 + ((s[i].toNat : Int) - 97 + (b : Int)) % 26)] 5)) = (wr.alloc (.cells #[.int .u8 (C.toNat : Int)] 5)) := by rw [hval]
          rw [← hwe] at hB2 hwA2 hz2
          replace hwe := Lib.hid hwe
          replace hval := Lib.hid hval
          clear hB hw
          go_wp2_with (at_builtin; refine wpList_append_u8 (c := C) rfl _ _ 58 Try.underlying58 rfl rfl hB2.out hwe.out rfl (by omega) hz2 ?_
                       intro a5 cap5 w5 hB5 hw5
                       have hw6 := Lib.hid (hwA2.out.trans hw5)
                       replace hB5 := Lib.hid hB5
                       clear hw5)
          go_roundw
          case rel => exact ⟨i + 1, by omega, by go_num, Lib.hid (by rw [htk.out]; exact hB5.out), hw6⟩
          case measure => simp [intOf]; omega
        · rw [if_neg (fun h => c2 h.2)] at hrn
          have i1 : (97 : Int) ≤ (s[i].toNat : Int) := by omega
          have i2 : ¬ (s[i].toNat : Int) ≤ 122 := by omega
          have hval : (s[i].toNat : Int) = (C.toNat : Int) := by omega
          clear hrn
          have hwe : (wr.alloc (.cells #[.int .u8 (s[i].toNat : Int)] 5)) = (wr.alloc (.cells #[.int .u8 (C.toNat : Int)] 5)) := by rw [hval]
          rw [← hwe] at hB2 hwA2 hz2
          replace hwe := Lib.hid hwe
          replace hval := Lib.hid hval
          clear hB hw
          go_wp2_with (at_builtin; refine wpList_append_u8 (c := C) rfl _ _ 58 Try.underlying58 rfl rfl hB2.out hwe.out rfl (by omega) hz2 ?_
                       intro a5 cap5 w5 hB5 hw5
                       have hw6 := Lib.hid (hwA2.out.trans hw5)
                       replace hB5 := Lib.hid hB5
                       clear hw5)
          go_roundw
          case rel => exact ⟨i + 1, by omega, by go_num, Lib.hid (by rw [htk.out]; exact hB5.out), hw6⟩
          case measure => simp [intOf]; omega
      · rw [if_neg (fun h => c1 h.1)] at hrn
        have i1 : ¬ (97 : Int) ≤ (s[i].toNat : Int) := by omega
        have hval : (s[i].toNat : Int) = (C.toNat : Int) := by omega
        clear hrn
        have hwe : (wr.alloc (.cells #[.int .u8 (s[i].toNat : Int)] 5)) = (wr.alloc (.cells #[.int .u8 (C.toNat : Int)] 5)) := by rw [hval]
        rw [← hwe] at hB2 hwA2 hz2
        replace hwe := Lib.hid hwe
        replace hval := Lib.hid hval
        clear hB hw
        go_wp2_with (at_builtin; refine wpList_append_u8 (c := C) rfl _ _ 58 Try.underlying58 rfl rfl hB2.out hwe.out rfl (by omega) hz2 ?_
                     intro a5 cap5 w5 hB5 hw5
                     have hw6 := Lib.hid (hwA2.out.trans hw5)
                     replace hB5 := Lib.hid hB5
                     clear hw5)
        go_roundw
        case rel => exact ⟨i + 1, by omega, by go_num, Lib.hid (by rw [htk.out]; exact hB5.out), hw6⟩
        case measure => simp [intOf]; omega
    · obtain rfl : i = s.size := by omega
      have hlti : ¬ ((s.size : Int) < (s.size : Int)) := by omega
      have hcv := hB.out.string
      have hall : s.data.toList.take s.size = s.data.toList := List.take_of_length_le (by rw [size_listC]; exact Nat.le_refl _)
      rw [hall] at hcv
      go_wp2_with fail
      go_ret
      exact ⟨rfl, hw.out⟩
end Go.Proofs.Ytngbekhegnmfaaa
