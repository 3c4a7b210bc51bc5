/- The document's sum, four bytes of a number and a number of four bytes (layer 6), walked. -/
import Derived.Test.YtdeloaknoadpiaaFMem
import Derived.Test.YtdeloaknoadpiaaFrm
namespace Go.Proofs.Ytdeloaknoadpiaa
open Go.RowKit Crc

theorem run_take {l : List Nat} {i : Nat} (h : i < l.length) (c : Nat) : run c (l.take (i + 1)) = stps 8 (run c (l.take i) ^^^ l.getD i 0) := by
  rw [List.take_succ_eq_append_getElem h, run_append, List.getD_eq_getElem?_getD, List.getElem?_eq_getElem h]
  rfl
theorem xor_byte32 {s b : Nat} (h : s < 4294967296) (hb : b < 256) : bits .xor .u32 (s : Int) (b : Int) = ((s ^^^ b : Nat) : Int) := u32_xor_nat s b h (by omega)
theorem xor_lt32 {s b : Nat} (h : s < 4294967296) (hb : b < 256) : s ^^^ b < 4294967296 := Nat.xor_lt_two_pow (n := 32) h (by omega)

theorem stps_last (k c : Nat) : stps (k + 1) c = stp (stps k c) := stps_add k 1 c

set_option maxRecDepth 20000 in
set_option maxHeartbeats 2000000 in
theorem refSum_any {w : World} {v : Value} {l : List Nat} (h : Bs w v l) :
    Calls Try.prog 18 #[v] w fun e w' => e = .returned (.int .u32 (sum l : Nat)) ∧ w = w' := by
  have hby := h.byte
  obtain ⟨a, cap, rfl, hB, h1, h2, h3⟩ := h
  go_enter Try.func18, Try.ntmps18
  go_wp2
  go_loopw [3, 4] (fun t3 t4 wr => ∃ i : Nat, i ≤ l.length ∧ t4 = .int .i64 i ∧ t3 = .int .u32 (run 4294967295 (l.take i) : Nat) ∧ wr = w) (fun _ t4 _ => l.length - (intOf t4).toNat)
  case atStart => exact ⟨0, by omega, rfl, rfl, rfl⟩
  case round =>
    obtain ⟨i, hi, rfl, rfl, rfl⟩ := hrel
    rcases Nat.lt_or_ge i l.length with hlt | hge
    · obtain ⟨b, off, rfl, _, hc⟩ := hB (by omega)
      obtain ⟨hc1, hc2⟩ := hc i hlt
      dsimp only at hc1 hc2
      have hrun := run_take hlt 4294967295
      have hs : run 4294967295 (l.take i) < 4294967296 := run_lt _ (by omega) (fun b hb => hby b (List.mem_of_mem_take hb))
      generalize run 4294967295 (l.take i) = s at hrun hs ⊢
      generalize l.getD i 0 = c at hrun hc1 hc2
      have e1 := xor_byte32 hs hc2
      have q1 := xor_lt32 hs hc2
      have ecu : IntKind.u32.wrap (c : Int) = (c : Int) := by rw [IntKind.wrap_u32]; omega
      generalize s ^^^ c = s1 at hrun e1 q1
      have hlti : (i : Int) < l.length := by omega
      replace hrun := Lib.hid hrun
      clear hc hB hby hs hc2
      go_wp2
      go_loopw [3, 5] (fun t3 t5 wq => ∃ k : Nat, k ≤ 8 ∧ t5 = .int .i64 k ∧ t3 = .int .u32 (stps k s1 : Nat) ∧ wq = wr) (fun _ t5 _ => 8 - (intOf t5).toNat)
      case atStart => exact ⟨0, by omega, rfl, rfl, rfl⟩
      case round =>
        obtain ⟨k, hk, rfl, rfl, rfl⟩ := hrel
        rcases Nat.lt_or_ge k 8 with hlt8 | hge8
        · have hk8 : (k : Int) < 8 := by omega
          have hl := stps_last k s1
          have q2 : stps k s1 < 4294967296 := stps_lt k q1
          generalize stps k s1 = s2 at hl q2 ⊢
          rcases Nat.mod_two_eq_zero_or_one s2 with hm | hm
          · have ht2 : (s2 : Int).tmod 2 = (s2 : Int) % 2 := Int.tmod_eq_emod_of_nonneg (by omega)
            have hm3 : ((s2 : Int) % 2 == 1) = false := by simp; omega
            have hm2 : ¬ (s2 : Int) % 2 = 1 := by omega
            have e2 : Hid (stps (k + 1) s1 = s2 / 2) := by show stps (k + 1) s1 = _; rw [hl]; unfold stp; rw [if_neg (by omega)]
            clear hl hm
            go_wp2
            go_roundw
            case rel => exact ⟨k + 1, by omega, by go_num, by rw [e2.out]; go_num, trivial⟩
            case measure => simp [intOf]; omega
          · have ht2 : (s2 : Int).tmod 2 = (s2 : Int) % 2 := Int.tmod_eq_emod_of_nonneg (by omega)
            have hm3 : ((s2 : Int) % 2 == 1) = true := by simp; omega
            have hm2 : (s2 : Int) % 2 = 1 := by omega
            have e2 : Hid (stps (k + 1) s1 = s2 / 2 ^^^ 3988292384) := by show stps (k + 1) s1 = _; rw [hl]; unfold stp; rw [if_pos hm]
            have e3 := u32_xor_nat (s2 / 2) 3988292384 (by omega) (by omega)
            have e4 : ((s2 / 2 : Nat) : Int) = (s2 : Int) / 2 := by omega
            rw [e4] at e3
            clear hl hm
            go_wp2
            go_roundw
            case rel => exact ⟨k + 1, by omega, by go_num, by rw [e2.out]; first | done | rfl | (congr 1), trivial⟩
            case measure => simp [intOf]; omega
        · obtain rfl : k = 8 := by omega
          go_wp2
          go_roundw
          case rel => exact ⟨i + 1, by omega, by go_num, by rw [hrun.out], trivial⟩
          case measure => simp [intOf]; omega
    · obtain rfl : i = l.length := by omega
      have hlti : ¬ ((l.length : Int) < l.length) := by omega
      have hs : run 4294967295 l < 4294967296 := run_lt _ (by omega) hby
      have E : Hid (sum l = run 4294967295 l ^^^ 4294967295) := rfl
      rw [List.take_of_length_le (Nat.le_refl _)]
      have e1 : bits .xor .u32 (run 4294967295 l : Nat) 4294967295 = ((run 4294967295 l ^^^ 4294967295 : Nat) : Int) := u32_xor_nat (run 4294967295 l) 4294967295 hs (by omega)
      generalize run 4294967295 l = s at E e1
      clear hby hs
      go_wp2
      go_ret
      exact ⟨ret_int (by rw [E.out]; first | done | exact e1), rfl⟩
end Go.Proofs.Ytdeloaknoadpiaa
