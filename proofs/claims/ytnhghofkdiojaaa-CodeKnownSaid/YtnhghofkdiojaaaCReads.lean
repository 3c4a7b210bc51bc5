/- The law CodeReads: what is read of bytes, and what is wrong, and where, are the document's. -/
import Derived.Test.YtnhghofkdiojaaaCTop
import Derived.Test.YtnhghofkdiojaaaBOpen
namespace Go.Proofs.Ytnhghofkdiojaaa
open Go.RowKit

section
variable {w : World} {L cap : Nat} {a : Option Addr} {f : Nat → Nat}
theorem By.below {w' : World} (h : By w a L f) (hb : Below w.heap.size w w') : By w' a L f := h.kept (F := fun _ => False) (Only.of_below hb) (fun _ _ _ h => h)

set_option maxHeartbeats 400000 in
theorem long_any (L : Nat) (a : Option Addr) (cap : Nat) (w : World) : Calls Try.prog 16 #[.slice a L cap] w fun e w' => e = .returned (.bool (decide (20000 < (L : Int)))) ∧ w = w' := by
  go_enter Try.func16, Try.ntmps16
  go_wp2
  go_ret
  exact ⟨rfl, rfl⟩

set_option maxHeartbeats 2000000 in
theorem reads_long (h20 : 20000 < L) :
    Calls Try.prog 4 #[.slice a L cap] w fun e w' => e = .returned (.bool true) ∧ Below w.heap.size w w' := by
  have hA := awake_any5 w
  have hLo := long_any L a cap
  rw [decide_eq_true (by omega)] at hLo
  go_enter Try.func4, Try.ntmps4
  go_wp2_with (first
    | ((with_reducible refine hA.mono ?_); rintro e w' ⟨rfl, hb⟩)
    | ((with_reducible refine (hLo _).mono ?_); rintro e w' ⟨rfl, rfl⟩))
  go_ret
  exact ⟨rfl, hb⟩

theorem numV_is (f : Nat → Nat) (L p : Nat) : ∃ x y, numV f L p = .complex .f64 x y := by
  unfold numV
  split
  · exact ⟨_, _, rfl⟩
  · exact ⟨_, _, rfl⟩
theorem textV_is (f : Nat → Nat) (L : Nat) (r : Rn) : ∃ s, textV f L r = .string s := by
  unfold textV
  split
  · exact ⟨_, rfl⟩
  · exact ⟨_, rfl⟩

set_option maxRecDepth 100000 in
set_option maxHeartbeats 4000000 in
theorem reads_main (h : By w a L f) (hl : L ≤ cap) (hm : cap ≤ 9223372036854775807) (hn : a = none → cap = 0) (h20 : L ≤ 20000) :
    Calls Try.prog 4 #[.slice a L cap] w fun e w' => e = .returned (.bool true) ∧ Below w.heap.size w w' := by
  have hA := awake_any5 w
  have hLo := long_any L a cap
  rw [decide_eq_false (by omega)] at hLo
  have k1 := fun w' (hb : Below w.heap.size w w') => ReadUint_any (h.below hb) hl hm hn
  have k2 := fun w' (hb : Below w.heap.size w w') => ReadInt_any5 (h.below hb) hl hm hn
  have k3 := fun w' (hb : Below w.heap.size w w') => ReadText_any5 (h.below hb) hl hm hn
  have k4 := fun w' (hb : Below w.heap.size w w') => ReadNum_any5 (h.below hb) hl hm hn
  have r1 := fun w' (hb : Below w.heap.size w w') => refUint_any (h.below hb) hl hm h20 (Nat.zero_le _)
  have r2 := fun w' (hb : Below w.heap.size w w') => refInt_any5 (h.below hb) hl hm h20 (Nat.zero_le _)
  have r3 := fun w' (hb : Below w.heap.size w w') => refText_any5 (h.below hb) hl hm hn h20 (Nat.zero_le _)
  have r4 := fun w' (hb : Below w.heap.size w w') => refNum_any5 (h.below hb) hl hm h20 (Nat.zero_le _)
  clear h
  obtain ⟨x, y, hxy⟩ := numV_is f L 0
  obtain ⟨s, hs⟩ := textV_is f L (numR f L 0)
  rw [hxy] at k4 r4
  rw [hs] at k3 r3
  generalize numTo L 0 (fineB (be f 0 8) (be f (0 + 8) 8)) = n1 at k4 r4
  generalize numCode L 0 (fineB (be f 0 8) (be f (0 + 8) 8)) = n2 at k4 r4
  generalize textTo L (numR f L 0) = t1 at k3 r3
  generalize textCode L (numR f L 0) = t2 at k3 r3
  generalize unfN (numR f L 0).v = u at k2 r2
  generalize (numR f L 0).to = m1 at k1 r1 k2 r2
  generalize (numR f L 0).code = m2 at k1 r1 k2 r2
  generalize (numR f L 0).v = m0 at k1 r1
  have hSa := refSame_self x y
  replace k1 := Lib.hid k1
  replace k2 := Lib.hid k2
  replace k3 := Lib.hid k3
  replace k4 := Lib.hid k4
  replace r1 := Lib.hid r1
  replace r2 := Lib.hid r2
  replace r3 := Lib.hid r3
  replace r4 := Lib.hid r4
  go_enter Try.func4, Try.ntmps4
  go_wp2_with (first
    | ((with_reducible refine hA.mono ?_); rintro e w' ⟨rfl, hb0⟩)
    | ((with_reducible refine (hLo _).mono ?_); rintro e w' ⟨rfl, rfl⟩)
    | (go_at_call 9; refine (k1.out _ hb0).mono ?_; rintro e w' ⟨rfl, g1⟩; have hb1 := below_next hb0 g1; have R1 := r1.out _ hb1; clear g1)
    | (go_at_call 17; refine R1.mono ?_; rintro e w' ⟨rfl, rfl⟩)
    | (go_at_call 18; refine (k2.out _ hb1).mono ?_; rintro e w' ⟨rfl, g1⟩; have hb2 := below_next hb1 g1; have R2 := r2.out _ hb2; clear g1)
    | (go_at_call 19; refine R2.mono ?_; rintro e w' ⟨rfl, rfl⟩)
    | (go_at_call 20; refine (k3.out _ hb2).mono ?_; rintro e w' ⟨rfl, g1⟩; have hb3 := below_next hb2 g1; have R3 := r3.out _ hb3; clear g1)
    | (go_at_call 21; refine R3.mono ?_; rintro e w' ⟨rfl, rfl⟩)
    | (go_at_call 22; refine (k4.out _ hb3).mono ?_; rintro e w' ⟨rfl, g1⟩; have hb4 := below_next hb3 g1; have R4 := r4.out _ hb4; clear g1)
    | (go_at_call 23; refine R4.mono ?_; rintro e w' ⟨rfl, rfl⟩)
    | ((with_reducible refine (hSa _).mono ?_); rintro e w' ⟨rfl, rfl⟩))
  go_ret
  exact ⟨rfl, hb4⟩
end

theorem codeReads_walk (v0 : Value) (w : World) (h0 : BytesIn w v0) :
    Calls Try.prog 4 #[v0] w fun e w' => e = .returned (.bool true) ∧ Below w.heap.size w w' := by
  obtain ⟨a, L, cap, f, rfl, hB, hl, hm, hn⟩ := h0
  rcases Nat.lt_or_ge 20000 L with h | h
  · exact reads_long h
  · exact reads_main hB hl hm hn h
end Go.Proofs.Ytnhghofkdiojaaa
