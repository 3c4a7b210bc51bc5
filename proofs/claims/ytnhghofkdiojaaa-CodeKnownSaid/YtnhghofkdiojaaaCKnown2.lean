/- The law CodeKnown, walked. -/
import Derived.Test.YtnhghofkdiojaaaCKnown
namespace Go.Proofs.Ytnhghofkdiojaaa
open Go.RowKit

set_option maxRecDepth 100000 in
set_option maxHeartbeats 4000000 in
theorem codeKnown_walk (w : World) :
    Calls Try.prog 3 #[] w fun e w' => e = .returned (.bool true) ∧ Below w.heap.size w w' := by
  obtain ⟨i0, hi, hz0, hz1, hz2⟩ := info8_parts
  have hsc := sc_any
  have hM := kMost
  have h1 := kU1
  have h2 := kU2
  have h3 := fun (W : World) (b : Nat) (v : Value) => kU3 (base := b) (v := v) W
  have h4 := kV1
  have h5 := kV2
  have h6 := kV3
  have h7 := kPut
  have hA := awake_any5
  have h8 := kInt
  have h9 := kText
  have e5 : bytesB [5, 2, 2, 2, 0] = ⟨#[5, 2, 2, 2, 0]⟩ := rfl
  have e2 : bytesB [171, 2] = ⟨#[171, 2]⟩ := rfl
  have e3 : bytesB [2, 97, 98] = ⟨#[2, 97, 98]⟩ := rfl
  unfold Wrote at h8 h9
  replace e5 := Lib.hid e5
  replace e2 := Lib.hid e2
  replace e3 := Lib.hid e3
  replace hA := Lib.hid hA
  replace h8 := Lib.hid h8
  replace h9 := Lib.hid h9
  unfold Wrote at hM
  unfold Nil3 at h4 h5 h6
  replace hM := Lib.hid hM
  replace h1 := Lib.hid h1
  replace h2 := Lib.hid h2
  replace h3 := Lib.hid h3
  replace h4 := Lib.hid h4
  replace h5 := Lib.hid h5
  replace h6 := Lib.hid h6
  replace h7 := Lib.hid h7
  go_enter Try.func3, Try.ntmps3
  go_wp2_with (first
    | (go_at_call 8; (refine (hM.out _).mono ?_; rintro e w1 ⟨v1, rfl, r1, hb1⟩; obtain ⟨g, cap, rfl, hg0, hg1, hg2, hg3, -⟩ := ownsRow_head r1 (by decide); have hg2 : 10 ≤ cap := hg2; have hc9 : (9 : Int) ≤ (cap : Int) := by omega))
    | ((with_reducible refine (h1.out _).mono ?_); rintro e w2 ⟨rfl, hb2⟩)
    | ((with_reducible refine (h2.out _).mono ?_); rintro e w3 ⟨rfl, hb3⟩; have o9 := Lib.hid (own_alloc (buf_head ((r1.below hb2).below hb3) rfl (k := 9) (by decide)) (.cells #[.int .u8 2] 5)); have hk3 := below_next (below_next hb1 hb2) hb3)
    | (at_builtin; (refine wpList_append_own_at _ rfl _ _ 22 rfl w.heap.size 5 i0 (.int .u8 0) 1 1 Try.underlying22 hi hz0 hz1 hz2 rfl (by decide) _ 9 (cellsN [255, 255, 255, 255, 255, 255, 255, 255, 255]) rfl o9.out ⟨w3.heap.size, 0, none⟩ 1 1 [.int .u8 2] rfl rfl (cell_one_new _ _ _) one_byte (by unfold maxLen; omega) (by omega) (by have := hk3.size; simp; omega) ?_; intro v4 w4 hown4 hg4 _ _; have r4 : Buf8 w4 w.heap.size v4 [255, 255, 255, 255, 255, 255, 255, 255, 255, 2] := hown4; have hk4 : Below w.heap.size w w4 := (hk3.alloc hk3.size _).grown hg4 (by have := hk3.size; simp; omega) (fun k hk => by have hk : some g = some k := hk; injection hk with hk; omega); have c3 := h3.out _ _ _ r4; clear hown4 hg4))
    | ((with_reducible refine c3.mono ?_); rintro e w5 ⟨rfl, g5⟩; have hk5 := below_next hk4 g5; clear g5)
    | ((with_reducible refine (h4.out _).mono ?_); rintro e w6 ⟨v6, rfl, g6⟩; have hk6 := below_next hk5 g6; clear g6)
    | ((with_reducible refine (h5.out _).mono ?_); rintro e w7 ⟨v7, rfl, g7⟩; have hk7 := below_next hk6 g7; clear g7)
    | ((with_reducible refine (h6.out _).mono ?_); rintro e w8 ⟨v8, rfl, g8⟩; have hk8 := below_next hk7 g8; clear g8)
    | ((with_reducible refine (h7.out _).mono ?_); rintro e w9 ⟨v9, b9, rfl, r9, g9⟩; have hk9 := below_next hk8 g9; clear g9; replace r9 := Lib.hid r9)
    | ((with_reducible refine (hA.out _).mono ?_); rintro e w10 ⟨rfl, g10⟩; have hk10 := below_next hk9 g10; have s10 := (r9.out.below g10).string (by decide); rw [e5.out] at s10; clear g10)
    | (go_at_call 14; (refine (h8.out _).mono ?_; rintro e w11 ⟨v11, rfl, r11, g11⟩; have hk11 := below_next hk10 g11; have s11 := r11.string (by decide); rw [e2.out] at s11; clear g11; replace r11 := Lib.hid r11))
    | (go_at_call 15; (refine (h9.out _).mono ?_; rintro e w12 ⟨v12, rfl, r12, g12⟩; have hk12 := below_next hk11 g12; have s12 := r12.string (by decide); rw [e3.out] at s12; clear g12; replace r12 := Lib.hid r12)))
  go_ret
  exact ⟨rfl, hk12⟩
end Go.Proofs.Ytnhghofkdiojaaa
