/- The document's Quoted (layer 7), walked. No condition. -/
import Derived.Test.YtmgbebpkkidooaaDoorTDoc4
namespace Go.Proofs.YtmgbebpkkidooaaDoor
open Go.RowKit Tok

/-- How the document's Quoted parts the bytes. -/
def EscW (c : UInt8) (m : List UInt8) : Prop :=
  (((c.toNat : Int) == 10) = true ∧ m = [92, 110]) ∨
  (((c.toNat : Int) == 10) = false ∧ (c.toNat : Int) < 32 ∧ m = [92, 120, hexD (c.toNat / 16), hexD (c.toNat % 16)]) ∨
  (((c.toNat : Int) == 10) = false ∧ ¬ (c.toNat : Int) < 32 ∧ (126 : Int) < (c.toNat : Int) ∧ m = [92, 120, hexD (c.toNat / 16), hexD (c.toNat % 16)]) ∨
  (((c.toNat : Int) == 10) = false ∧ ¬ (c.toNat : Int) < 32 ∧ ¬ (126 : Int) < (c.toNat : Int) ∧ ((c.toNat : Int) == 34) = true ∧ m = [92, c]) ∨
  (((c.toNat : Int) == 10) = false ∧ ¬ (c.toNat : Int) < 32 ∧ ¬ (126 : Int) < (c.toNat : Int) ∧ ((c.toNat : Int) == 34) = false ∧ ((c.toNat : Int) == 92) = true ∧ m = [92, c]) ∨
  (((c.toNat : Int) == 10) = false ∧ ¬ (c.toNat : Int) < 32 ∧ ¬ (126 : Int) < (c.toNat : Int) ∧ ((c.toNat : Int) == 34) = false ∧ ((c.toNat : Int) == 92) = false ∧ m = [c])
theorem escW_of (c : UInt8) : EscW c (escL c) := by
  unfold EscW escL plainC
  by_cases h10 : c.toNat = 10
  · left
    rw [if_neg (by omega), if_pos h10, h10]; exact ⟨rfl, rfl⟩
  · right
    have q : ((c.toNat : Int) == 10) = false := beq_eq_false_iff_ne.2 (by omega)
    by_cases h32 : c.toNat < 32
    · left
      rw [if_neg (by omega), if_neg h10, if_neg (by simp; omega)]; exact ⟨q, by omega, rfl⟩
    · right
      by_cases h126 : 126 < c.toNat
      · left
        rw [if_neg (by omega), if_neg h10, if_neg (by simp; omega)]; exact ⟨q, by omega, by omega, rfl⟩
      · right
        by_cases h34 : c.toNat = 34
        · left
          rw [if_pos (.inl h34)]; exact ⟨q, by omega, by omega, by rw [h34]; rfl, rfl⟩
        · right
          have q3 : ((c.toNat : Int) == 34) = false := beq_eq_false_iff_ne.2 (by omega)
          by_cases h92 : c.toNat = 92
          · left
            rw [if_pos (.inr h92)]; exact ⟨q, by omega, by omega, q3, by rw [h92]; rfl, rfl⟩
          · right
            rw [if_neg (by omega), if_neg h10, if_pos (by simp; omega)]
            exact ⟨q, by omega, by omega, q3, beq_eq_false_iff_ne.2 (by omega), rfl⟩

set_option maxRecDepth 20000 in
set_option maxHeartbeats 4000000 in
theorem refQuoted_any (s : ByteArray) (w : World) (hs : s.size ≤ 100000) :
    Calls Tryd.prog 27 #[.string s] w fun e w' => e = .returned (.string ⟨(textL s.data.toList).toArray⟩) ∧ Below w.heap.size w w' := by
  have h0 := Lib.hid (World.ownsRow_lit (base := w.heap.size) (e := 5) (size := 1) w #[.int .u8 34] 1 (Nat.le_refl _) (by decide) rfl)
  have hb0 := Lib.hid ((Below.refl w.heap.size w).alloc (Nat.le_refl _) (.cells #[.int .u8 34] 5))
  go_enter Tryd.func27, Tryd.ntmps27
  go_wp2
  go_loopw [4, 5, 6] (fun t4 t5 _ wr => ∃ i : Nat, i ≤ s.size ∧ t5 = .int .i64 i ∧ Hid (BufU wr w.heap.size t4 (34 :: (s.data.toList.take i).flatMap escL)) ∧ Hid (Below w.heap.size w wr)) (fun _ t5 _ _ => s.size - (intOf t5).toNat)
  case atStart => exact ⟨0, by omega, rfl, h0.out, hb0⟩
  case round =>
    obtain ⟨i, hi, rfl, hB, hb⟩ := hrel
    have hsz := hb.out.size
    have hlen := esc_len (s.data.toList.take i)
    rw [List.length_take, size_list, Nat.min_eq_left hi] at hlen
    have hX : (34 :: (s.data.toList.take i).flatMap escL).length ≤ 1 + 4 * i := by
      rw [List.length_cons]; omega
    obtain ⟨a4, cap4, rfl, _, _⟩ := hB.out.shape
    rcases Nat.lt_or_ge i s.size with hlt | hge
    · have hlti : (i : Int) < (s.size : Int) := by omega
      have hn : (34 :: (s.data.toList.take (i + 1)).flatMap escL) = (34 :: (s.data.toList.take i).flatMap escL) ++ escL s[i] := by
        rw [esc_take hlt]; simp
      have hE := escW_of s[i]
      generalize (34 :: (s.data.toList.take i).flatMap escL) = X at hB hX hn
      generalize escL s[i] = m at hn hE
      replace hn := Lib.hid hn
      have hB2 := Lib.hid (fun k : List UInt8 => BufU.below hB.out ((Below.refl wr.heap.size wr).alloc (Nat.le_refl _) (.cells (Lib.byteCells k).toArray 5)))
      have hO2 := Lib.hid (fun k : List UInt8 => hb.out.alloc hsz (.cells (Lib.byteCells k).toArray 5))
      clear hlen
      rcases hE with ⟨q1, rfl⟩ | ⟨q1, q2, rfl⟩ | ⟨q1, q2, q3, rfl⟩ | ⟨q1, q2, q3, q4, rfl⟩ | ⟨q1, q2, q3, q4, q5, rfl⟩ | ⟨q1, q2, q3, q4, q5, rfl⟩
      case inl =>
        go_wp2_with (at_builtin; (refine wpList_append_us rfl _ _ rfl rfl (hB2.out [92, 110]) [92, 110] rfl rfl (by simp; omega) (hO2.out [92, 110]).size ?_; intro a' cap' w3 hB3 hO3))
        go_roundw
        case rel => exact ⟨i + 1, by omega, by go_num, by rw [hn.out]; exact hB3, (hO2.out [92, 110]).trans hO3⟩
        case measure => simp [intOf]; omega
      case inr.inr.inr.inl =>
        go_wp2_with (at_builtin; (refine wpList_append_us rfl _ _ rfl rfl (hB2.out [92, s[i]]) [92, s[i]] rfl rfl (by simp; omega) (hO2.out [92, s[i]]).size ?_; intro a' cap' w3 hB3 hO3))
        go_roundw
        case rel => exact ⟨i + 1, by omega, by go_num, by rw [hn.out]; exact hB3, (hO2.out [92, s[i]]).trans hO3⟩
        case measure => simp [intOf]; omega
      case inr.inr.inr.inr.inl =>
        go_wp2_with (at_builtin; (refine wpList_append_us rfl _ _ rfl rfl (hB2.out [92, s[i]]) [92, s[i]] rfl rfl (by simp; omega) (hO2.out [92, s[i]]).size ?_; intro a' cap' w3 hB3 hO3))
        go_roundw
        case rel => exact ⟨i + 1, by omega, by go_num, by rw [hn.out]; exact hB3, (hO2.out [92, s[i]]).trans hO3⟩
        case measure => simp [intOf]; omega
      case inr.inr.inr.inr.inr =>
        go_wp2_with (at_builtin; (refine wpList_append_us rfl _ _ rfl rfl (hB2.out [s[i]]) [s[i]] rfl rfl (by simp; omega) (hO2.out [s[i]]).size ?_; intro a' cap' w3 hB3 hO3))
        go_roundw
        case rel => exact ⟨i + 1, by omega, by go_num, by rw [hn.out]; exact hB3, (hO2.out [s[i]]).trans hO3⟩
        case measure => simp [intOf]; omega
      all_goals
        obtain ⟨i0, hi0, hz0, hz1, hz2⟩ := u8_parts
        have hcl := UInt8.toNat_lt s[i]
        have b1 : (0 : Int) ≤ (s[i].toNat : Int) / 16 := by omega
        have b2 : (s[i].toNat : Int) / 16 < 16 := by omega
        have b3 : (0 : Int) ≤ (s[i].toNat : Int) % 16 := by omega
        have b4 : (s[i].toNat : Int) % 16 < 16 := by omega
        have hown := Lib.hid (fun W (hW : Below wr.heap.size wr W) => BufU.below hB.out hW)
        have hX2 : X.length ≤ 1000000 := by omega
        have hw16 : IntKind.u8.wrap ((s[i].toNat : Int) / 16) = (s[i].toNat : Int) / 16 := by rw [IntKind.wrap_u8']; omega
        have hm16 : ((s[i].toNat : Int)).tmod 16 = (s[i].toNat : Int) % 16 := Int.tmod_eq_emod_of_nonneg (by omega)
        go_wp2_with fail
        go_region_law ((refine step_append_lies (wr.drew.alloc (.cells #[.int .u8 92, .int .u8 120, hxV ((s[i].toNat : Int) / 16) b1 b2, hxV ((s[i].toNat : Int) % 16) b3 b4] 5)) rfl (.tmp 28) (.tmp 37) 50 rfl w.heap.size 5 i0 (.int .u8 0) 1 1 Tryd.underlying50 hi0 hz0 hz1 hz2 rfl (by decide) (.slice a4 X.length cap4) X.length (Lib.byteCells X) rfl (hown.out _ ((Below.refl _ wr).drew.alloc (Nat.le_refl _) _)) ⟨wr.heap.size, 0, none⟩ 4 4 [.int .u8 92, .int .u8 120, hxV ((s[i].toNat : Int) / 16) b1 b2, hxV ((s[i].toNat : Int) % 16) b3 b4] rfl rfl (fun j u hj => cells_new wr.drew _ _ j u hj) (hx_one _ _ _ _ _ _) (by omega) (by unfold maxLen; omega) (by omega) (by simp; omega) _ rfl ?_; intro g cap w3 h2 h3 _ _))
        all_goals
          go_wp2_with fail
          rw [hx_eq (s[i].toNat / 16) _ b1 b2 (by omega), hx_eq (s[i].toNat % 16) _ b3 b4 (by omega)] at h2
          refine ⟨⟨i + 1, by omega, by go_num, Lib.hid ?_, Lib.hid ((hb.out.drew.alloc (by simp; omega) _).grown h3 (by simp; omega) (fun k hk => (World.ownsRow.lt hB.out k hk).1))⟩, by simp [intOf]; omega⟩
          rw [hn.out]
          unfold BufU
          rw [List.length_append, show Lib.byteCells (X ++ [92, 120, hexD (s[i].toNat / 16), hexD (s[i].toNat % 16)]) = Lib.byteCells X ++ Lib.byteCells [92, 120, hexD (s[i].toNat / 16), hexD (s[i].toNat % 16)] by simp [Lib.byteCells]]
          exact h2
    · obtain rfl : i = s.size := by omega
      have hlti : ¬ ((s.size : Int) < (s.size : Int)) := by omega
      have hfull : s.data.toList.take s.size = s.data.toList := by rw [List.take_of_length_le]; simp
      have hn : textL s.data.toList = (34 :: (s.data.toList.take s.size).flatMap escL) ++ [34] := by
        rw [hfull]
        simp [textL]
      replace hn := Lib.hid hn
      clear hlen hfull
      generalize (34 :: (s.data.toList.take s.size).flatMap escL) = X at hB hX hn
      have hB5 := Lib.hid (BufU.below hB.out ((Below.refl wr.heap.size wr).alloc (Nat.le_refl _) (.cells (Lib.byteCells [34]).toArray 5)))
      have hO5 := Lib.hid (hb.out.alloc hsz (.cells (Lib.byteCells [34]).toArray 5))
      go_wp2_with (at_builtin; (refine wpList_append_us rfl _ _ rfl rfl hB5.out [34] rfl rfl (by simp; omega) hO5.out.size ?_; intro a6 cap6 w6 hB6 hO6; have hstr := BufU.string hB6; simp only [List.length_cons, List.length_nil, Nat.zero_add] at hstr))
      go_ret
      exact ⟨by rw [hn.out]; rfl, hO5.out.trans hO6⟩
end Go.Proofs.YtmgbebpkkidooaaDoor
