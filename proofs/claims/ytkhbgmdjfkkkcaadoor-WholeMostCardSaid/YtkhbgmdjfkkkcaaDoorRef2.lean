/- Contracts of the document's own answers for whole numbers: products, bit by bit: the product held within 64 bits, for every input. -/
import Derived.Test.YtkhbgmdjfkkkcaaDoorRef1
import Derived.Test.YtkhbgmdjfkkkcaaDoorWhole2
import Derived.LoopTactic
import Derived.Laws.BitsAllLaws
namespace Go.Proofs.YtkhbgmdjfkkkcaaDoor
open Go.RowKit

theorem of_is {a : Int} {s : Bool} {x : Nat} (Hs : Hid (decide (a < 0) = s)) (Hx : Hid (a.natAbs = x)) (ha : I64 a) (w : World) :
    Calls Tryd.prog 48 #[.int .i64 a] w fun e w' => e = .returned (.agg #[.bool s, .int .u64 0, .int .u64 (x : Int)]) ∧ Below w.heap.size w w' :=
  (of_any a w ha).mono fun e w' ⟨he, hw⟩ => ⟨by rw [he, Hs.out, Hx.out], hw⟩

/-- One bit more of the second factor. -/
theorem bit_more (y k : Nat) (hk : 1 ≤ k) : y / 2 ^ (k - 1) = 2 * (y / 2 ^ k) + y / 2 ^ (k - 1) % 2 := by
  have h : y / 2 ^ k = y / 2 ^ (k - 1) / 2 := by
    rw [Nat.div_div_eq_div_mul, ← Nat.pow_succ]
    congr 2
    omega
  rw [h]; omega

theorem high_small {x y k h l : Nat} (hx : x ≤ 9223372036854775808) (hy : y ≤ 9223372036854775808) (hk : 1 ≤ k) (hv : h * 18446744073709551616 + l = x * (y / 2 ^ k)) : h < 4611686018427387904 := by
  have h1 : y / 2 ^ k ≤ y / 2 ^ 1 := Nat.div_le_div_left (Nat.pow_le_pow_right (by decide) hk) (by decide)
  have h2 : y / 2 ^ k ≤ 4611686018427387904 := by omega
  have h3 : x * (y / 2 ^ k) ≤ 9223372036854775808 * 4611686018427387904 := Nat.mul_le_mul hx h2
  omega

theorem mul_step {x y k h l : Nat} (hk : 1 ≤ k) (hv : h * 18446744073709551616 + l = x * (y / 2 ^ k)) : x * (y / 2 ^ (k - 1)) = 2 * (h * 18446744073709551616 + l) + x * (y / 2 ^ (k - 1) % 2) := by
  have e := bit_more y k hk
  have e2 : x * (y / 2 ^ (k - 1)) = x * (2 * (y / 2 ^ k) + y / 2 ^ (k - 1) % 2) := congrArg (x * ·) e
  rw [e2, Nat.mul_add, ← Nat.mul_assoc, Nat.mul_comm x 2, Nat.mul_assoc, hv]

theorem or_low (h l : Nat) (hh : h < 4611686018427387904) (hl : l < 18446744073709551616) : bits BinOp.or IntKind.u64 ((h : Int) * 2) ((l : Int) / 9223372036854775808) = (h : Int) * 2 + (l : Int) / 9223372036854775808 := by
  have e := u64_or_nat (h * 2) (l / 9223372036854775808) (by omega) (by omega)
  rw [nat_join 1 (h * 2) (l / 9223372036854775808) (by omega) (by omega)] at e
  simpa using e

theorem and_one (y j : Nat) (hy : y ≤ 9223372036854775808) : bits BinOp.and IntKind.u64 ((y : Int) / 2 ^ j) 1 = ((y / 2 ^ j % 2 : Nat) : Int) := by
  have h1 : y / 2 ^ j ≤ y := Nat.div_le_self _ _
  have e := u64_and_nat (y / 2 ^ j) 1 (by omega) (by decide)
  rw [Nat.and_one_is_mod] at e
  have e2 : ((y / 2 ^ j : Nat) : Int) = (y : Int) / 2 ^ j := by simp
  rw [e2] at e
  exact e

theorem double_wrap (l : Nat) : IntKind.u64.wrap ((l : Int) * 2) = ((2 * l % 18446744073709551616 : Nat) : Int) := by rw [IntKind.wrap_u64]; omega
theorem add_small (l x : Nat) (h : l + x < 18446744073709551616) : IntKind.u64.wrap ((l : Int) + (x : Int)) = ((l + x : Nat) : Int) := by rw [IntKind.wrap_u64]; omega
theorem add_carry (l x : Nat) (h1 : l < 18446744073709551616) (h2 : x ≤ 9223372036854775808) (h : ¬ l + x < 18446744073709551616) : ∃ n : Nat, IntKind.u64.wrap ((l : Int) + (x : Int)) = (n : Int) ∧ l + x = n + 18446744073709551616 ∧ (n : Int) < (l : Int) :=
  ⟨l + x - 18446744073709551616, by rw [IntKind.wrap_u64]; omega, by omega, by omega⟩

theorem step_0 {x h l l2 q : Nat} (e : 2 * l % 18446744073709551616 = l2) (hq : q = 2 * (h * 18446744073709551616 + l) + x * 0) : (h * 2 + l / 9223372036854775808) * 18446744073709551616 + l2 = q := by omega
theorem step_1 {x h l l2 n q : Nat} (e : 2 * l % 18446744073709551616 = l2) (hq : q = 2 * (h * 18446744073709551616 + l) + x * 1) (hn : l2 + x = n) : (h * 2 + l / 9223372036854775808) * 18446744073709551616 + n = q := by omega
theorem step_2 {x h l l2 n q : Nat} (e : 2 * l % 18446744073709551616 = l2) (hq : q = 2 * (h * 18446744073709551616 + l) + x * 1) (hn : l2 + x = n + 18446744073709551616) : (h * 2 + l / 9223372036854775808 + 1) * 18446744073709551616 + n = q := by omega

set_option maxHeartbeats 2000000 in
theorem refMul_any (a b : Int) (w : World) (ha : I64 a) (hb : I64 b) :
    Calls Tryd.prog 25 #[.int .i64 a, .int .i64 b] w fun e w' => e = .returned (.int .i64 (held (a * b))) ∧ Below w.heap.size w w' := by
  obtain ⟨s1, hs1⟩ := exHid (decide (a < 0))
  obtain ⟨s2, hs2⟩ := exHid (decide (b < 0))
  obtain ⟨x, hx⟩ := exHid a.natAbs
  obtain ⟨y, hy⟩ := exHid b.natAbs
  have hx1 : x ≤ 9223372036854775808 := by rw [← hx.out]; obtain ⟨l, r⟩ := ha; omega
  have hy1 : y ≤ 9223372036854775808 := by rw [← hy.out]; obtain ⟨l, r⟩ := hb; omega
  have hk := Below.refl w.heap.size w
  go_enter Tryd.func25, Tryd.ntmps25
  go_wp2_with (first
    | ((with_reducible refine (of_is hs1 hx ha _).mono ?_); rintro e w1 ⟨rfl, hb1⟩; have hk1 : Below w.heap.size w _ := below_next (by go_grown) hb1; have hz1 := hk1.size)
    | ((with_reducible refine (of_is hs2 hy hb _).mono ?_); rintro e w2 ⟨rfl, hb2⟩; have hk2 : Below w.heap.size w _ := below_next (by go_grown) hb2; have hz2 := hb2.size; simp only [World.size_alloc] at hz2; have hc0 := fun o2 => cell_kept hb2 o2 0; have hc2 := fun o2 => cell_kept hb2 o2 2; simp only [show ∀ (a b c : Value), #[a, b, c][0]? = some a from fun _ _ _ => rfl] at hc0; simp only [show ∀ (a b c : Value), #[a, b, c][2]? = some c from fun _ _ _ => rfl] at hc2))
  go_loop [7, 8, 9] (fun hi lo i => ∃ (k h l : Nat), k ≤ 64 ∧ i = .int .i64 ((k : Int) - 1) ∧ hi = .int .u64 h ∧ lo = .int .u64 l ∧ l < 18446744073709551616 ∧ h * 18446744073709551616 + l = x * (y / 2 ^ k)) (fun _ _ i => (intOf i + 1).toNat)
  case atStart =>
    refine ⟨64, 0, 0, by omega, rfl, rfl, rfl, by omega, ?_⟩
    have : y / 2 ^ 64 = 0 := Nat.div_eq_of_lt (by omega)
    rw [this]; rfl
  case round =>
    obtain ⟨k, h, l, hk64, rfl, rfl, rfl, hl, hv⟩ := hrel
    by_cases hk0 : k = 0
    · subst hk0
      rw [Nat.pow_zero, Nat.div_one] at hv
      have hxy : x * y ≤ 9223372036854775808 * 9223372036854775808 := Nat.mul_le_mul hx1 hy1
      have uh : U64 (h : Int) := by unfold U64; omega
      have ul : U64 (l : Int) := by unfold U64; omega
      have hfin : Hid (wv (!(s1 == s2)) (h : Int) (l : Int) = a * b) := by
        show wv (!(s1 == s2)) (h : Int) (l : Int) = a * b
        have hp : a.natAbs * b.natAbs = h * 18446744073709551616 + l := by rw [hx.out, hy.out, hv]
        rw [mul_minus hp, ← hs1.out, ← hs2.out]
        unfold wv signedOf minusOf
        split <;> simp
      replace hv := Lib.hid hv
      clear hxy
      go_wp2_with (go_at_call 46; refine (held_any _ _ _ _ (by assumption) (by assumption)).mono ?_; rintro e w' ⟨rfl, hb⟩; have hk : Below w.heap.size w _ := below_next (by go_grown) hb)
      go_ret
      exact ⟨ret_int (by rw [hfin.out]), by assumption⟩
    · have hh := high_small hx1 hy1 (by omega) hv
      have hst := mul_step (y := y) (by omega : 1 ≤ k) hv
      have hor := or_low h l hh hl
      have hand := and_one y (k - 1) hy1
      have hbit : y / 2 ^ (k - 1) % 2 = 0 ∨ y / 2 ^ (k - 1) % 2 = 1 := by omega
      have hl2 : IntKind.u64.wrap ((l : Int) * 2) = ((2 * l % 18446744073709551616 : Nat) : Int) := double_wrap l
      obtain ⟨l2, hl2e⟩ : ∃ l2 : Nat, 2 * l % 18446744073709551616 = l2 := ⟨_, rfl⟩
      rw [hl2e] at hl2
      have hl2b : l2 < 18446744073709551616 := by omega
      rcases hbit with h0 | h1
      · rw [h0] at hand hst
        replace hst := Lib.hid hst
        replace hv := Lib.hid hv
        replace h0 := Lib.hid h0
        replace hl2e := Lib.hid hl2e
        go_wp2
        go_round
        case rel =>
          exact ⟨k - 1, h * 2 + l / 9223372036854775808, l2, by omega, by go_num, by go_num, rfl, hl2b, step_0 hl2e.out hst.out⟩
        case measure => simp [intOf]; omega
      · rw [h1] at hand hst
        replace hst := Lib.hid hst
        replace hv := Lib.hid hv
        replace h1 := Lib.hid h1
        replace hl2e := Lib.hid hl2e
        by_cases hcarry : l2 + x < 18446744073709551616
        · have hnx : IntKind.u64.wrap ((l2 : Int) + (x : Int)) = ((l2 + x : Nat) : Int) := add_small l2 x hcarry
          obtain ⟨n, hn⟩ : ∃ n, l2 + x = n := ⟨_, rfl⟩
          rw [hn] at hnx
          have hlt : ¬ (n : Int) < (l2 : Int) := by omega
          have hnb : n < 18446744073709551616 := by omega
          replace hn := Lib.hid hn
          go_wp2
          go_round
          case rel =>
            exact ⟨k - 1, h * 2 + l / 9223372036854775808, n, by omega, by go_num, by go_num, rfl, hnb, step_1 hl2e.out hst.out hn.out⟩
          case measure => simp [intOf]; omega
        · obtain ⟨n, hnx, hn, hlt⟩ := add_carry l2 x hl2b hx1 hcarry
          have hnb : n < 18446744073709551616 := by omega
          replace hn := Lib.hid hn
          go_wp2
          go_round
          case rel =>
            exact ⟨k - 1, h * 2 + l / 9223372036854775808 + 1, n, by omega, by go_num, by go_num, rfl, hnb, step_2 hl2e.out hst.out hn.out⟩
          case measure => simp [intOf]; omega
end Go.Proofs.YtkhbgmdjfkkkcaaDoor
