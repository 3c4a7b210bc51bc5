/- The sum (layer 6), walked: Sum. -/
import Derived.Test.YtdeloaknoadpiaaFTab
import Derived.Test.YtdeloaknoadpiaaFRef
namespace Go.Proofs.Ytdeloaknoadpiaa
open Go.RowKit Crc

theorem high_bits {s : Nat} (h : s < 4294967296) : bits .xor .u32 ((s : Int) / 16) (stps 4 (s % 16) : Nat) = (stps 4 s : Nat) := by
  have h1 : stps 4 (s % 16) < 4294967296 := stps_lt 4 (by omega)
  have := u32_xor_nat (s / 16) (stps 4 (s % 16)) (by omega) h1
  rw [stps_split 4 s, Nat.xor_comm]
  exact this
theorem stps8_two (s : Nat) : stps 8 s = stps 4 (stps 4 s) := stps_add 4 4 s
theorem low_bits {s : Nat} (h : s < 4294967296) : bits .and .u32 (s : Int) 15 = ((s % 16 : Nat) : Int) := by
  have := u32_and_nat s 15 h (by omega)
  rw [nat_mask4] at this
  exact this


set_option maxRecDepth 20000 in
set_option maxHeartbeats 2000000 in
theorem Sum_any {w : World} {v : Value} {l : List Nat} (h : Bs w v l) :
    Calls Try.prog 15 #[v] w fun e w' => e = .returned (.int .u32 (sum l : Nat)) ∧ Below w.heap.size w w' := by
  have hS := steps_any w
  have hT : ∀ j, j < 16 → (tabL (stps 4))[j]? = some (.int .u32 (stps 4 j : Nat)) := fun j hj => by rw [← tabA_all]; exact tabA_get hj hj
  have hTs : (tabL (stps 4)).size = 16 := rfl
  have hby := h.byte
  have hBs := h
  obtain ⟨a, cap, rfl, hB, h1, h2, h3⟩ := h
  clear hB
  obtain ⟨t, ht⟩ := exHid (stps 4)
  rw [ht.out] at hS hT
  replace hT := Lib.hid hT
  replace hBs := Lib.hid hBs
  unfold tabL at hS
  go_enter Try.func15, Try.ntmps15
  go_wp2_with ((with_reducible refine hS.mono ?_); rintro e w1 ⟨rfl, hb⟩)
  obtain ⟨W0, hW0⟩ := exHid (w1.alloc (.cells (tabL t) 54))
  go_loopw [4, 6, 10] (fun t4 _ t10 wr => ∃ i : Nat, i ≤ l.length ∧ t10 = .int .i64 i ∧ t4 = .int .u32 (run 4294967295 (l.take i) : Nat) ∧ wr = W0) (fun _ _ t10 _ => l.length - (intOf t10).toNat)
  case atStart => exact ⟨0, by omega, rfl, rfl, hW0.out⟩
  case round =>
    obtain ⟨i, hi, rfl, rfl, rfl⟩ := hrel
    rcases Nat.lt_or_ge i l.length with hlt | hge
    · have hB0 : Bs wr (.slice a l.length cap) l := hBs.out.below (by rw [← hW0.out]; exact hb.alloc hb.size _)
      obtain ⟨a', cap', he, hB, _, _, _⟩ := hB0
      cases he
      obtain ⟨b, off, rfl, _, hc⟩ := hB (by omega)
      obtain ⟨hc1, hc2⟩ := hc i hlt
      dsimp only at hc1 hc2
      have hrun := run_take hlt 4294967295
      have hs : run 4294967295 (l.take i) < 4294967296 := run_lt _ (by omega) (fun b hb => hby b (List.mem_of_mem_take hb))
      have hTc : ∀ k, k < 16 → wr.cell? ⟨w1.heap.size, k, none⟩ = some (.int .u32 (t k : Nat)) := fun k hk => by
        rw [← hW0.out, World.cell?_alloc_new]; exact hT.out k hk
      generalize run 4294967295 (l.take i) = s at hrun hs ⊢
      generalize l.getD i 0 = c at hrun hc1 hc2
      have e1 := xor_byte32 hs hc2
      have q1 := xor_lt32 hs hc2
      have ecu : IntKind.u32.wrap (c : Int) = (c : Int) := by rw [IntKind.wrap_u32]; omega
      rw [stps8_two] at hrun
      generalize s ^^^ c = s1 at hrun e1 q1
      have e2 := low_bits q1
      have e3 := high_bits q1
      have q2 : stps 4 s1 < 4294967296 := stps_lt 4 q1
      rw [ht.out] at e3 q2 hrun
      have c1 := hTc (s1 % 16) (by omega)
      have l1 : s1 % 16 < 16 := by omega
      generalize s1 % 16 = k1 at e2 e3 c1 l1
      generalize t s1 = s2 at hrun e3 q2
      have e4 := low_bits q2
      have e5 := high_bits q2
      rw [ht.out] at e5
      have c2 := hTc (s2 % 16) (by omega)
      have l2 : s2 % 16 < 16 := by omega
      generalize s2 % 16 = k2 at e4 e5 c2 l2
      generalize t s2 = s3 at hrun e5
      have i1 : (k1 : Int) < 16 := by omega
      have i2 : (k2 : Int) < 16 := by omega
      have hlti : (i : Int) < l.length := by omega
      replace hrun := Lib.hid hrun
      clear hc hB hTc hby hs q1 q2 hc2 ht hT hS hTs
      go_wp2
      go_roundw
      case rel => exact ⟨i + 1, by omega, by go_num, by rw [hrun.out], trivial⟩
      case measure => simp [intOf]; omega
    · obtain rfl : i = l.length := by omega
      have hlti : ¬ ((l.length : Int) < l.length) := by omega
      have hs : run 4294967295 l < 4294967296 := run_lt _ (by omega) hby
      have E : Hid (sum l = run 4294967295 l ^^^ 4294967295) := rfl
      rw [List.take_of_length_le (Nat.le_refl _)]
      have e1 : bits .xor .u32 IntKind.u32.max (run 4294967295 l : Nat) = ((run 4294967295 l ^^^ 4294967295 : Nat) : Int) := by
        rw [Nat.xor_comm]; exact u32_xor_nat 4294967295 (run 4294967295 l) (by omega) hs
      have hsg : IntKind.u32.signed = false := rfl
      generalize run 4294967295 l = s at E e1
      clear hby hs ht hT hS hTs
      go_wp2
      go_ret
      refine ⟨ret_int ?_, ?_⟩
      · rw [E.out]; first | done | exact e1
      · rw [← hW0.out]; exact hb.alloc hb.size _
end Go.Proofs.Ytdeloaknoadpiaa
