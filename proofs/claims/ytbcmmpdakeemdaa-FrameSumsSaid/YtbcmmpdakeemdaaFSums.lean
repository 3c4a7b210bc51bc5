/- The law FrameSums: the sum of bytes, and a body's frame, are the document's. -/
import Derived.Test.YtbcmmpdakeemdaaFAwake
import Derived.Test.YtbcmmpdakeemdaaFRef2
import Derived.Test.YtbcmmpdakeemdaaFOpen
import Derived.Deep.RegionHeld3
namespace Go.Proofs.Ytbcmmpdakeemdaa
open Go.RowKit Crc

section
variable {w : World} {base : Nat} {v : Value} {l : List Nat}
set_option maxHeartbeats 400000 in
theorem long_any (L : Nat) (a : Option Addr) (cap : Nat) (w : World) : Calls Try.prog 16 #[.slice a L cap] w fun e w' => e = .returned (.bool (decide (3000 < (L : Int)) && decide ((L : Int) ≤ 65536))) ∧ w = w' := by
  by_cases h : 3000 < (L : Int)
  · go_enter Try.func16, Try.ntmps16
    go_wp2
    go_ret
    exact ⟨by simp [h], rfl⟩
  · go_enter Try.func16, Try.ntmps16
    go_wp2
    go_ret
    exact ⟨by rw [decide_eq_false (p := 3000 < (L : Int)) (by omega)]; rfl, rfl⟩

set_option maxHeartbeats 400000 in
theorem sums_mid (h1 : 3000 < l.length) (h2 : l.length ≤ 65536) (a : Option Addr) (cap : Nat) :
    Calls Try.prog 4 #[.slice a l.length cap] w fun e w' => e = .returned (.bool true) ∧ Below w.heap.size w w' := by
  have hA := awake_any w
  have hLo := long_any l.length a cap
  rw [decide_eq_true (by omega), decide_eq_true (by omega)] at hLo
  go_enter Try.func4, Try.ntmps4
  go_wp2_with (first
    | ((with_reducible refine hA.mono ?_); rintro e w' ⟨rfl, hb⟩)
    | ((with_reducible refine (hLo _).mono ?_); rintro e w' ⟨rfl, rfl⟩))
  go_ret
  exact ⟨rfl, hb⟩

set_option maxHeartbeats 400000 in
theorem sums_long (h1 : 65536 < l.length) (a : Option Addr) (cap : Nat) :
    Calls Try.prog 4 #[.slice a l.length cap] w fun e w' => e = .returned (.bool true) ∧ Below w.heap.size w w' := by
  have hA := awake_any w
  have hLo := long_any l.length a cap
  rw [decide_eq_false (p := (l.length : Int) ≤ 65536) (by omega), Bool.and_false] at hLo
  have hF := fun W => Frame_long (w := W) h1 a cap
  have hn : (65536 : Int) < (l.length : Int) := by omega
  go_enter Try.func4, Try.ntmps4
  go_wp2_with (first
    | ((with_reducible refine hA.mono ?_); rintro e w' ⟨rfl, hb⟩)
    | ((with_reducible refine (hLo _).mono ?_); rintro e w' ⟨rfl, rfl⟩)
    | ((with_reducible refine (hF _).mono ?_); rintro e w' ⟨rfl, rfl⟩))
  go_ret
  exact ⟨rfl, hb⟩

set_option maxRecDepth 20000 in
set_option maxHeartbeats 2000000 in
theorem sums_short (h : Bs w v l) (h1 : l.length ≤ 3000) :
    Calls Try.prog 4 #[v] w fun e w' => e = .returned (.bool true) ∧ Below w.heap.size w w' := by
  have hA := awake_any w
  have hBs := fun W (hb : Below w.heap.size w W) => h.below hb
  have hby := h.byte
  obtain ⟨a, cap, rfl, _, _, _, _⟩ := h
  have hLo := long_any l.length a cap
  rw [decide_eq_false (p := 3000 < (l.length : Int)) (by omega), Bool.false_and] at hLo
  have hn : ¬ (65536 : Int) < (l.length : Int) := by omega
  have k1 := fun W (hb : Below w.heap.size w W) => Frame_any (hBs W hb) (by omega)
  have k2 := fun W (hb : Below w.heap.size w W) => refFrame_any (hBs W hb) (by omega)
  have k3 := fun W (hb : Below w.heap.size w W) => Sum_any (hBs W hb)
  have k4 := fun W (hb : Below w.heap.size w W) => refSum_any (hBs W hb)
  have hst := fun W (b : Nat) (u : Value) (h : Buf8 W b u (frameL l)) => (h.bs (frameL_byte hby)).string
  generalize bytesB (frameL l) = S at hst
  generalize frameL l = F at *
  generalize sum l = C at *
  have hSS := str_self S
  replace k1 := Lib.hid k1
  replace k2 := Lib.hid k2
  replace k3 := Lib.hid k3
  replace k4 := Lib.hid k4
  replace hst := Lib.hid hst
  clear hBs
  go_enter Try.func4, Try.ntmps4
  go_wp2_with (first
    | ((with_reducible refine hA.mono ?_); rintro e w' ⟨rfl, hb⟩)
    | ((with_reducible refine (hLo _).mono ?_); rintro e w' ⟨rfl, rfl⟩)
    | (go_at_call 9; refine (k1.out _ hb).mono ?_; rintro e w1 ⟨v1, rfl, hB1, hg1⟩; have hb1 := below_next hb hg1; have f1 := hst.out _ _ _ hB1; have hd1 : Below w.heap.size w w1.drew := below_drewN hb1 1; have hB1d : Buf8 w1.drew _ v1 F := hB1; have f1d := hst.out _ _ _ hB1d; replace hB1d := Lib.hid hB1d; replace hB1 := Lib.hid hB1))
  go_region_with (first
    | (go_at_call 17; refine (k2.out _ hd1).mono ?_; rintro e w2 ⟨v2, rfl, hB2, hg2⟩; have hb2 := below_next hd1 hg2; have f2 := hst.out _ _ _ hB2; have f3 := hst.out _ _ _ (hB1d.out.below hg2); replace hB2 := Lib.hid hB2)
    | (go_at_call 15; refine (k3.out _ hb2).mono ?_; rintro e w3 ⟨rfl, hg3⟩; have hb3 := below_next hb2 hg3)
    | (go_at_call 18; first | refine (k4.out _ hb3).mono ?_ | refine (k4.out _ hb2).mono ?_
       rintro e w4 ⟨rfl, rfl⟩))
  all_goals
    go_wp2
    go_ret
    exact ⟨rfl, hb3⟩
end

theorem frameSums_walk (v0 : Value) (w : World) (h0 : BytesIn w v0) :
    Calls Try.prog 4 #[v0] w fun e w' => e = .returned (.bool true) ∧ Below w.heap.size w w' := by
  obtain ⟨l, hB⟩ := h0.bs
  rcases Nat.lt_or_ge 3000 l.length with h | h
  · obtain ⟨a, cap, rfl, _⟩ := hB
    rcases Nat.lt_or_ge 65536 l.length with h2 | h2
    · exact sums_long h2 a cap
    · exact sums_mid h h2 a cap
  · exact sums_short hB h
end Go.Proofs.Ytbcmmpdakeemdaa
