import Derived.Test.YtmgbebpkkidooaaDoorTPut
/- token's putText writes what TSpellP.textL says. -/
namespace Go.Proofs.YtmgbebpkkidooaaDoor
open Go.RowKit Tok
theorem escL_len (c : UInt8) : (escL c).length ≤ 4 := by
  unfold escL
  repeat' split
  all_goals simp
theorem esc_take {s : ByteArray} {i : Nat} (h : i < s.size) : (s.data.toList.take (i + 1)).flatMap escL = (s.data.toList.take i).flatMap escL ++ escL s[i] := by
  rw [List.take_succ_eq_append_getElem (by simpa using h), List.flatMap_append]
  simp
  rfl
theorem esc_len : ∀ tx : List UInt8, (tx.flatMap escL).length ≤ 4 * tx.length
  | [] => by simp
  | c :: tx => by
    have h1 := escL_len c
    have h2 := esc_len tx
    rw [List.flatMap_cons, List.length_append, List.length_cons]
    omega
section
variable {w W : World} {base : Nat} {v : Value} {l : List UInt8}
set_option maxRecDepth 20000 in
set_option maxHeartbeats 2000000 in
theorem putText_any (h : BufU w base v l) (hb : base ≤ w.heap.size) (s : ByteArray) (hl : l.length + 4 * s.size ≤ 90000000) :
    Calls Tryd.prog 42 #[v, .string s] w (PutU w base (l ++ textL s.data.toList)) := by
  have hsh := h.shape
  have hB := Lib.hid (BufU.below h ((Below.refl w.heap.size w).alloc (Nat.le_refl _) (.cells (Lib.byteCells [34]).toArray 5)))
  go_enter Tryd.func42, Tryd.ntmps42
  go_wp2_with (at_builtin; (refine wpList_append_us rfl _ _ rfl rfl hB.out [34] rfl rfl (by simp; omega) (by simp; omega) ?_; intro a' cap' w3 hB3 hO3))
  replace hB3 := Lib.hid hB3
  have hO4 := Lib.hid (((Below.refl base w).alloc hb (.cells (Lib.byteCells [34]).toArray 5)).trans hO3)
  clear hO3
  go_loopw [0, 5, 11] (fun t0 _ t11 wr => ∃ i : Nat, i ≤ s.size ∧ t11 = .int .i64 i ∧ Hid (BufU wr base t0 (l ++ 34 :: (s.data.toList.take i).flatMap escL)) ∧ Hid (Below base w wr)) (fun _ _ t11 _ => s.size - (intOf t11).toNat)
  case atStart => exact ⟨0, by omega, rfl, by simpa using hB3, hO4⟩
  case round =>
    obtain ⟨i, hi, rfl, hBi, hOi⟩ := hrel
    have hbr : base ≤ wr.heap.size := Nat.le_trans hb hOi.out.size
    have hlen := esc_len (s.data.toList.take i)
    rw [List.length_take, size_list, Nat.min_eq_left hi] at hlen
    have hX : (l ++ 34 :: (s.data.toList.take i).flatMap escL).length ≤ l.length + 1 + 4 * i := by
      rw [List.length_append, List.length_cons]
      omega
    rcases Nat.lt_or_ge i s.size with hlt | hge
    · have hlti : ((i : Int) < (s.size : Int)) := by omega
      have hn : (l ++ 34 :: (s.data.toList.take (i + 1)).flatMap escL) = (l ++ 34 :: (s.data.toList.take i).flatMap escL) ++ escL s[i] := by
        rw [esc_take hlt]
        simp
      generalize l ++ 34 :: (s.data.toList.take i).flatMap escL = X at hBi hX hn
      replace hn := Lib.hid hn
      have k1 := Lib.hid (putByte_any hBi.out hbr (by omega) s[i])
      obtain ⟨a0, c0, rfl, _, _⟩ := hBi.out.shape
      go_wp2_with fail
      refine k1.out.mono ?_
      rintro e w2 ⟨v2, rfl, hB2, hO2⟩
      replace hB2 := Lib.hid hB2
      replace hO2 := Lib.hid hO2
      clear k1 hlen
      go_wp2
      go_roundw
      case rel => exact ⟨i + 1, by omega, by simp, by rw [hn.out]; exact hB2, hOi.out.trans hO2.out⟩
      case measure => simp [intOf]; omega
    · obtain rfl : i = s.size := by omega
      have hfull : s.data.toList.take s.size = s.data.toList := by rw [List.take_of_length_le]; simp
      have hn : l ++ textL s.data.toList = (l ++ 34 :: (s.data.toList.take s.size).flatMap escL) ++ [34] := by
        rw [hfull]
        simp [textL]
      replace hn := Lib.hid hn
      clear hlen hfull
      generalize l ++ 34 :: (s.data.toList.take s.size).flatMap escL = X at hBi hX hn
      have hB5 := Lib.hid (BufU.below hBi.out ((Below.refl wr.heap.size wr).alloc (Nat.le_refl _) (.cells (Lib.byteCells [34]).toArray 5)))
      obtain ⟨a0, c0, rfl, _, _⟩ := hBi.out.shape
      go_wp2_with (at_builtin; (refine wpList_append_us rfl _ _ rfl rfl hB5.out [34] rfl rfl (by simp; omega) (by simp; omega) ?_; intro a6 cap6 w6 hB6 hO6))
      go_ret
      refine ⟨_, rfl, ?_, hOi.out.trans (((Below.refl base wr).alloc hbr _).trans hO6)⟩
      rw [hn.out]
      exact hB6
end
end Go.Proofs.YtmgbebpkkidooaaDoor
