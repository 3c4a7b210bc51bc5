/- Read (layer 6), walked. -/
import Derived.Test.YtdeloaknoadpiaaFLook2
namespace Go.Proofs.Ytdeloaknoadpiaa
open Go.RowKit Crc

section
variable {w : World} {base : Nat} {v : Value} {l : List Nat}
theorem readL_short (l : List Nat) : (readL l).body.length ≤ l.length := by
  unfold readL
  repeat' split
  all_goals first | (simp; done) | (simp only [List.length_take, List.length_drop]; omega)

set_option maxHeartbeats 400000 in
theorem Read_any (h : Bs w v l) (hl : l.length ≤ 1099511627776) :
    Calls Try.prog 10 #[v] w fun e w' => ∃ v', e = .returned (.tuple #[v', .int .i64 (readL l).n, .int .i64 (readL l).code]) ∧ Buf8 w' w.heap.size v' (readL l).body ∧ Below w.heap.size w w' := by
  have hL := look_any h
  have hsh := readL_short l
  clear h
  generalize readL l = R at hL hsh ⊢
  go_enter Try.func10, Try.ntmps10
  go_wp2_with (first
    | ((with_reducible refine hL.mono ?_); rintro e w1 ⟨v1, rfl, hB1, _, hb1⟩; have hC := Clone_any hB1 (by omega))
    | ((with_reducible refine hC.mono ?_); rintro e w2 ⟨v2, rfl, hB2, hb2⟩))
  go_ret3
  exact ⟨v2, rfl, hB2.lift (fun q hq => Nat.le_trans hb1.size (hB2.base_ q hq).1), below_next hb1 hb2⟩
end
end Go.Proofs.Ytdeloaknoadpiaa
