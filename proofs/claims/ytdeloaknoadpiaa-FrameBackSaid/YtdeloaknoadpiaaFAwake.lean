/- awake (layer 6), walked. -/
import Derived.Test.YtdeloaknoadpiaaFFrame
import Derived.Test.YtdeloaknoadpiaaFRead
namespace Go.Proofs.Ytdeloaknoadpiaa
open Go.RowKit Crc

section
variable {w : World} {base : Nat} {v : Value} {l : List Nat}
theorem read97 : readL (frameL [97]) = ⟨[97], 13, 0⟩ := read_frame (b := [97]) (by decide) (by decide)
theorem frame97_length : (frameL [97]).length = 13 := frameL_length [97]
theorem bytes97 : bytesB [97] = ⟨#[97]⟩ := rfl

set_option maxHeartbeats 400000 in
theorem awake_any (w : World) : Calls Try.prog 14 #[] w fun e w' => e = .returned (.bool true) ∧ Below w.heap.size w w' := by
  have hB : Bs (w.alloc (.cells #[.int .u8 97] 5)) (.slice (some ⟨w.heap.size, 0, none⟩) 1 1) [97] := bs_new w (m := [97]) (by decide) (by decide) rfl rfl
  have ha : Below w.heap.size w (w.alloc (.cells #[.int .u8 97] 5)) := (Below.refl _ w).alloc (Nat.le_refl _) _
  have hF := Frame_any hB (by decide)
  have hby := frameL_byte (l := [97]) (by decide)
  have hlen := frame97_length
  have hR := fun W (b : Nat) (u : Value) (h : Buf8 W b u (frameL [97])) => Read_any (h.bs hby) (by rw [hlen]; decide)
  rw [read97] at hR
  have hsh := fun W (b : Nat) (u : Value) (h : Buf8 W b u (frameL [97])) => ownsRow_shape h
  have hst := fun W (b : Nat) (u : Value) (h : Buf8 W b u [97]) => (h.bs (by decide)).string
  rw [hlen] at hsh
  rw [bytes97] at hst
  generalize frameL [97] = F at *
  replace hR := Lib.hid hR
  replace hsh := Lib.hid hsh
  replace hst := Lib.hid hst
  go_enter Try.func14, Try.ntmps14
  go_wp2_with (first
    | ((with_reducible refine hF.mono ?_); rintro e w1 ⟨v1, rfl, hB1, hb1⟩; have hR1 := hR.out _ _ _ hB1; obtain ⟨a1, cap1, rfl, _, _⟩ := hsh.out _ _ _ hB1; replace hB1 := Lib.hid hB1)
    | ((with_reducible refine hR1.mono ?_); rintro e w2 ⟨v2, rfl, hB2, hb2⟩; have hs := hst.out _ _ _ hB2; replace hB2 := Lib.hid hB2))
  go_ret
  exact ⟨rfl, ha.trans ((below_next hb1 hb2).mono ha.size)⟩

theorem str_self (S : ByteArray) : (S.toList == S.toList) = true := beq_iff_eq.2 rfl
end
end Go.Proofs.Ytdeloaknoadpiaa
