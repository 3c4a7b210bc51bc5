/- value.Same of two values of one node (layer 12), walked. No condition. -/
import Derived.Test.YtlljmagmphfnmaaOOne
import Derived.BigQuiet
import Derived.Laws.StructEq
namespace Go.Proofs.Ytlljmagmphfnmaa
open Go.RowKit

theorem drewN_b1 {b : Nat} {w w' : World} (hb : Below b w w') (n : Nat) : Below b w (w'.drewN n) := ⟨hb.os, hb.tape, hb.output, hb.size, hb.block⟩
set_option maxRecDepth 100000 in
set_option maxHeartbeats 2000000 in
theorem Equal1_any {w : World} {b1 b2 : Nat} {v1 v2 : Value} {x y : Nd} (h1 : RowN w b1 v1 [x]) (h2 : RowN w b2 v2 [y]) (hx : x.x = 0 ∧ x.y = 0) (hy : y.x = 0 ∧ y.y = 0) :
    Calls Try.prog 26 #[v1, v2] w fun e w' => e = .returned (.bool (sameB x y)) ∧ Below w.heap.size w w' := by
  obtain ⟨g1, cap1, rfl, -, hg1, -⟩ := ownsRow_head h1 (Nat.le_refl 1)
  obtain ⟨g2, cap2, rfl, -, hg2, -⟩ := ownsRow_head h2 (Nat.le_refl 1)
  obtain ⟨x0, x1, x2, x3, x4⟩ := rowN_cells (d := [x]) h1 (i := 0) (Nat.zero_lt_one)
  obtain ⟨y0, y1, y2, y3, y4⟩ := rowN_cells (d := [y]) h2 (i := 0) (Nat.zero_lt_one)
  have heq := fun W => eq_num ord_00 ord_00 W
  obtain ⟨k, kids, n, s, p, q⟩ := x
  obtain ⟨k', kids', n', s', p', q'⟩ := y
  obtain ⟨rfl, rfl⟩ := hx
  obtain ⟨rfl, rfl⟩ := hy
  simp only [List.getElem_cons_zero, Nat.zero_mul, Nat.zero_add] at x0 x1 x2 x3 x4 y0 y1 y2 y3 y4
  clear h1 h2
  obtain ⟨R, hR⟩ := exHid (sameB ⟨k, kids, n, s, 0, 0⟩ ⟨k', kids', n', s', 0, 0⟩)
  rw [hR.out]
  have e0 : (((k : Nat) : Int) == ((k' : Nat) : Int)) = (k == k') := by
    cases h : (k == k') with
    | true => rw [beq_iff_eq] at h; rw [h]; simp
    | false => rw [beq_eq_false_iff_ne] at h; exact beq_eq_false_iff_ne.2 (by omega)
  have e1 : (((kids : Nat) : Int) == ((kids' : Nat) : Int)) = (kids == kids') := by
    cases h : (kids == kids') with
    | true => rw [beq_iff_eq] at h; rw [h]; simp
    | false => rw [beq_eq_false_iff_ne] at h; exact beq_eq_false_iff_ne.2 (by omega)
  unfold sameB at hR
  dsimp only at hR
  have main : ∀ b0 b1 b2 b3, (((k : Nat) : Int) == ((k' : Nat) : Int)) = b0 → (((kids : Nat) : Int) == ((kids' : Nat) : Int)) = b1 → (n == n') = b2 → (s.toList == s'.toList) = b3 → (b0 && (b1 && (b2 && b3))) = R →
      Calls Try.prog 26 #[.slice (some ⟨g1, 0, none⟩) 1 cap1, .slice (some ⟨g2, 0, none⟩) 1 cap2] w fun e w' => e = .returned (.bool R) ∧ Below w.heap.size w w' := by
    clear e0 e1 hR
    intro b0 b1 b2 b3 c0 c1 c2 c3 hR
    replace hR := Lib.hid hR
    have hb1 := Lib.hid (fun (n : Nat) => drewN_b1 (Below.refl w.heap.size w) n)
    have cs : b0 = false ∨ (b0 = true ∧ b1 = false) ∨ (b0 = true ∧ b1 = true ∧ b2 = false) ∨ (b0 = true ∧ b1 = true ∧ b2 = true ∧ b3 = false) ∨ (b0 = true ∧ b1 = true ∧ b2 = true ∧ b3 = true) := by
      cases b0 <;> cases b1 <;> cases b2 <;> cases b3 <;> simp
    rcases cs with rfl | ⟨rfl, rfl⟩ | ⟨rfl, rfl, rfl⟩ | ⟨rfl, rfl, rfl, rfl⟩ | ⟨rfl, rfl, rfl, rfl⟩
    all_goals
      go_enter Try.func26, Try.ntmps26
      go_wp2_with fail
      go_loopw [5, 13] (fun _ t13 wr => (t13 = .int .i64 0 ∧ wr = w) ∨ (t13 = .int .i64 1 ∧ Hid (R = true) ∧ Hid (Below w.heap.size w wr))) (fun _ t13 _ => 1 - (intOf t13).toNat)
      case atStart => exact .inl ⟨rfl, rfl⟩
      case round =>
        rcases hrel with ⟨rfl, rfl⟩ | ⟨rfl, hr, hb⟩
        · go_wp2_with fail
          go_quiet (fail)
          go_wp2_with fail
          first
            | (go_ret
               exact ⟨by rw [← hR.out]; rfl, hb1.out _⟩)
            | (go_roundw
               case rel => exact .inr ⟨by go_num, Lib.hid (by rw [← hR.out]; rfl), Lib.hid (hb1.out _)⟩
               case measure => simp [intOf])
        · go_wp2_with fail
          go_ret
          exact ⟨by rw [hr.out]; rfl, hb.out⟩
  exact main _ _ _ _ rfl rfl rfl rfl (by rw [e0, e1]; exact hR.out)
set_option maxHeartbeats 400000 in
theorem bothRight_yes {w : World} {b1 b2 : Nat} {v1 v2 : Value} {d1 d2 : List Nd} (h1 : RowN w b1 v1 d1) (h2 : RowN w b2 v2 d2) (r1 : RightV d1) (r2 : RightV d2) :
    Calls Try.prog 25 #[v1, v2] w fun e w' => e = .returned (.bool true) ∧ Below w.heap.size w w' := by
  have k1 := Lib.hid (check_ok r1 h1)
  have k2 := Lib.hid (fun (W : World) (hb : Below w.heap.size w W) => check_ok r2 (h2.below hb))
  clear h1 h2 r1 r2
  go_enter Try.func25, Try.ntmps25
  go_wp2_with fail
  refine k1.out.mono ?_
  rintro e w1 ⟨rfl, hb1⟩
  go_wp2_with fail
  refine (k2.out _ hb1).mono ?_
  rintro e w2 ⟨rfl, hb2⟩
  go_wp2_with fail
  go_ret
  exact ⟨rfl, below_next hb1 hb2⟩
set_option maxHeartbeats 400000 in
/-- Two right values of one node. -/
theorem Same1_any {w : World} {b1 b2 : Nat} {v1 v2 : Value} {x y : Nd} (h1 : RowN w b1 v1 [x]) (h2 : RowN w b2 v2 [y]) (r1 : RightV [x]) (r2 : RightV [y]) (hx : x.x = 0 ∧ x.y = 0) (hy : y.x = 0 ∧ y.y = 0) :
    Calls Try.prog 7 #[v1, v2] w fun e w' => e = .returned (.bool (sameB x y)) ∧ Below w.heap.size w w' := by
  have k1 := Lib.hid (bothRight_yes h1 h2 r1 r2)
  have k2 := Lib.hid (fun (W : World) (hb : Below w.heap.size w W) => Equal1_any (h1.below hb) (h2.below hb) hx hy)
  generalize sameB x y = R at *
  clear h1 h2 r1 r2
  go_enter Try.func7, Try.ntmps7
  go_wp2_with fail
  refine k1.out.mono ?_
  rintro e w1 ⟨rfl, hb1⟩
  go_wp2_with fail
  refine (k2.out _ hb1).mono ?_
  rintro e w2 ⟨rfl, hb2⟩
  go_wp2_with fail
  go_ret
  exact ⟨rfl, below_next hb1 hb2⟩
set_option maxHeartbeats 400000 in
/-- Two errors that are none. -/
theorem Or_none (w : World) {g : Nat} (h0 : w.cell? ⟨g, 0, none⟩ = some (.int .i64 0)) (h1 : w.cell? ⟨g, 1, none⟩ = some (.int .i64 0)) (cap : Nat) :
    Calls Try.prog 9 #[.slice (some ⟨g, 0, none⟩) 2 cap] w fun e w' => e = .returned (.int .i64 0) ∧ w' = w := by
  go_enter Try.func9, Try.ntmps9
  go_wp2_with fail
  go_loopw [5, 8] (fun _ t8 wr => (t8 = .int .i64 0 ∨ t8 = .int .i64 1 ∨ t8 = .int .i64 2) ∧ wr = w) (fun _ t8 _ => 2 - (intOf t8).toNat)
  case atStart => exact ⟨.inl rfl, rfl⟩
  case round =>
    obtain ⟨h, rfl⟩ := hrel
    rcases h with rfl | rfl | rfl
    · go_wp2_with fail
      go_roundw
      case rel => exact ⟨.inr (.inl (by go_num)), trivial⟩
      case measure => simp [intOf]
    · go_wp2_with fail
      go_roundw
      case rel => exact ⟨.inr (.inr (by go_num)), trivial⟩
      case measure => simp [intOf]
    · go_wp2_with fail
      go_ret
      exact ⟨rfl, rfl⟩
end Go.Proofs.Ytlljmagmphfnmaa
