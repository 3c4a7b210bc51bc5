/- The walk of HeapNobody: it answers true for every key and number. -/
import Derived.Test.YtabcifaknckomaaHAwake
import Derived.Test.YtabcifaknckomaaHDead
namespace Go.Proofs.Ytabcifaknckomaa
open Go.RowKit HI

set_option maxRecDepth 100000 in
set_option maxHeartbeats 2000000 in
theorem heapNobody_walk (a0 a1 : Int) (w : World) (h0 : I64 a0) (h1 : I64 a1) :
    Calls Try.prog 4 #[.int .i64 a0, .int .i64 a1] w fun e w' => e = .returned (.bool true) ∧ Below w.heap.size w w' := by
  go_enter Try.func4, Try.ntmps4
  go_wp2_with fail
  refine (awake_any _).mono ?_
  rintro e w1 ⟨rfl, hb1⟩
  have hD0 : ∀ W, Dead W (.pointer none) := fun W => .inl rfl
  have hB1 : Below w.heap.size w w1 := below_next ((Below.refl _ _).alloc (Nat.le_refl _) _) hb1
  have hc1 : w1.cell? ⟨w.heap.size, 1, none⟩ = some (.map none) := Below.keeps hb1 (cell_top rfl rfl)
  have hD1 : Dead w1 (.pointer (some ⟨w.heap.size, 0, none⟩)) := .inr ⟨_, rfl, hc1⟩
  replace hD0 := Lib.hid hD0
  go_wp2_with (first
    | ((with_reducible refine (push_dead (hD0.out _) _ _).mono ?_); rintro e w' ⟨rfl, rfl⟩)
    | ((with_reducible refine (push_dead hD1 _ _).mono ?_); rintro e w' ⟨rfl, rfl⟩)
    | ((with_reducible refine (copy_dead (hD0.out _)).mono ?_); rintro e w' ⟨rfl, rfl⟩)
    | ((with_reducible refine (copy_dead hD1).mono ?_); rintro e w' ⟨rfl, rfl⟩))
  have hB2 : Below w.heap.size w (w1.alloc (.cells #[.pointer none, .pointer (some ⟨w.heap.size, 0, none⟩)] 49)) := hB1.alloc hB1.size _
  have hD2 : Dead (w1.alloc (.cells #[.pointer none, .pointer (some ⟨w.heap.size, 0, none⟩)] 49)) (.pointer (some ⟨w.heap.size, 0, none⟩)) := hD1.below ((Below.refl _ _).alloc (Nat.le_refl _) _)
  have e0 : (w1.alloc (.cells #[.pointer none, .pointer (some ⟨w.heap.size, 0, none⟩)] 49)).cell? ⟨w1.heap.size, 0, none⟩ = some (.pointer none) := cell_top rfl rfl
  have e1 : (w1.alloc (.cells #[.pointer none, .pointer (some ⟨w.heap.size, 0, none⟩)] 49)).cell? ⟨w1.heap.size, 1, none⟩ = some (.pointer (some ⟨w.heap.size, 0, none⟩)) := cell_top rfl rfl
  clear hb1 hc1 hD1
  generalize w1.alloc (.cells #[.pointer none, .pointer (some ⟨w.heap.size, 0, none⟩)] 49) = w2 at hB2 hD2 e0 e1 ⊢
  go_loopw [8] (fun i wr => ∃ k : Nat, k ≤ 2 ∧ i = .int .i64 k ∧ Below w2.heap.size w2 wr) (fun i _ => 2 - (intOf i).toNat)
  case atStart => exact ⟨0, by omega, rfl, Below.refl _ _⟩
  case round =>
    obtain ⟨k, hk, rfl, hbr⟩ := hrel
    have g0 := Below.keeps hbr e0
    have g1 := Below.keeps hbr e1
    have hDz := hD2.below hbr
    have hBr := below_next hB2 hbr
    by_cases h2 : k < 2
    · obtain ⟨x, hx, hX⟩ : ∃ x, wr.cell? ⟨w1.heap.size, k, none⟩ = some (.pointer x) ∧ Dead wr (.pointer x) := by
        rcases (show k = 0 ∨ k = 1 by omega) with rfl | rfl
        · exact ⟨none, g0, .inl rfl⟩
        · exact ⟨_, g1, hDz⟩
      have hki : (k : Int) < 2 := by omega
      clear g0 g1 e0 e1 hDz hD2
      go_wp2_with (first
        | (go_at_call 19; refine (peek_dead hX).mono ?_; rintro e w' ⟨rfl, rfl⟩)
        | (go_at_call 11; refine (pop_dead hX).mono ?_; rintro e w' ⟨rfl, rfl⟩)
        | (go_at_call 13; refine (remove_dead hX _).mono ?_; rintro e w' ⟨rfl, rfl⟩)
        | (go_at_call 15; refine (change_dead hX _ _).mono ?_; rintro e w' ⟨rfl, rfl⟩)
        | (go_at_call 21; refine (len_dead hX).mono ?_; rintro e w' ⟨rfl, rfl⟩)
        | (go_at_call 22; refine (keys_dead hX).mono ?_; rintro e w3 ⟨⟨a3, c3, rfl⟩, hb3⟩; have hX3 := hX.below hb3)
        | (go_at_call 23; refine (all_dead hX3).mono ?_; rintro e w4 ⟨⟨a4, c4, rfl⟩, hb4⟩))
      go_roundw
      case rel => exact ⟨k + 1, by omega, by go_num, below_next (below_next hbr hb3) hb4⟩
      case measure => simp [intOf]; omega
    · have hki : ¬ (k : Int) < 2 := by omega
      clear g0 g1 e0 e1 hDz hD2
      go_wp2
      go_ret
      exact ⟨rfl, hBr⟩
end Go.Proofs.Ytabcifaknckomaa
