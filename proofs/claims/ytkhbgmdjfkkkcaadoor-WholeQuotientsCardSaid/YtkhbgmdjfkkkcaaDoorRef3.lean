/- Contracts of the document's own answers for whole numbers: quotients, rests and shifts, for every input. -/
import Derived.Test.YtkhbgmdjfkkkcaaDoorRef2
import Derived.Deep.RegionHeld3
namespace Go.Proofs.YtkhbgmdjfkkkcaaDoor
open Go.RowKit

theorem quo_u64 {x y q : Nat} (h : x / y = q) (hx : x ≤ 9223372036854775808) : IntKind.u64.wrap ((x : Int) / (y : Int)) = (q : Int) := by
  have h1 := Nat.div_le_self x y
  rw [h] at h1
  rw [← Int.natCast_ediv, h, IntWalk.u64_in]
  omega

set_option maxHeartbeats 1000000 in
theorem refDiv_any (a b : Int) (w : World) (ha : I64 a) (hb : I64 b) (h0 : b ≠ 0) :
    Calls Tryd.prog 28 #[.int .i64 a, .int .i64 b] w fun e w' => e = .returned (.tuple #[.int .i64 (held (a.tdiv b)), .int .i64 0]) ∧ Below w.heap.size w w' := by
  obtain ⟨s1, hs1⟩ := exHid (decide (a < 0))
  obtain ⟨s2, hs2⟩ := exHid (decide (b < 0))
  obtain ⟨x, hx⟩ := exHid a.natAbs
  obtain ⟨y, hy⟩ := exHid b.natAbs
  have hx1 : x ≤ 9223372036854775808 := by rw [← hx.out]; obtain ⟨l, r⟩ := ha; omega
  have hy1 : y ≤ 9223372036854775808 := by rw [← hy.out]; obtain ⟨l, r⟩ := hb; omega
  have hy0 : 1 ≤ y := by rw [← hy.out]; omega
  have hk := Below.refl w.heap.size w
  go_enter Tryd.func28, Tryd.ntmps28
  go_wp2_with (first
    | ((with_reducible refine (of_is hs1 hx ha _).mono ?_); rintro e w1 ⟨rfl, hb1⟩; have hk1 : Below w.heap.size w _ := below_next (by go_grown) hb1; have hz1 := hk1.size)
    | ((with_reducible refine (of_is hs2 hy hb _).mono ?_); rintro e w2 ⟨rfl, hb2⟩; have hk2 : Below w.heap.size w _ := below_next (by go_grown) hb2; have hz3 := hk2.size; have hz2 := hb2.size; simp only [World.size_alloc] at hz2; have hc0 := fun o2 => cell_kept hb2 o2 0; have hc2 := fun o2 => cell_kept hb2 o2 2; simp only [show ∀ (a b c : Value), #[a, b, c][0]? = some a from fun _ _ _ => rfl] at hc0; simp only [show ∀ (a b c : Value), #[a, b, c][2]? = some c from fun _ _ _ => rfl] at hc2))
  obtain ⟨q, hqd⟩ := exHid (x / y)
  have hq : IntKind.u64.wrap ((x : Int) / (y : Int)) = (q : Int) := quo_u64 hqd.out hx1
  have hy2 : ¬ (y : Int) = 0 := by omega
  have hy3 : ((y : Int) == 0) = false := by simpa using hy2
  have hy4 : ¬ y = 0 := by omega
  have hy5 : (y == 0) = false := by simpa using hy4
  have hxy := Nat.div_le_self x y
  rw [hqd.out] at hxy
  have uq : U64 (q : Int) := by unfold U64; omega
  have u0 : U64 0 := by unfold U64; omega
  have hfin : Hid (wv (!(s1 == s2)) 0 (q : Int) = a.tdiv b) := by
    show wv (!(s1 == s2)) 0 (q : Int) = a.tdiv b
    have h1 := Int.natAbs_tdiv a b
    rw [show a.natAbs.div b.natAbs = a.natAbs / b.natAbs from rfl, hx.out, hy.out, hqd.out] at h1
    rw [← hs1.out, ← hs2.out]
    unfold wv
    by_cases h2 : a < 0 <;> by_cases h3 : b < 0 <;> simp [h2, h3]
    · have := Int.tdiv_nonneg_of_nonpos_of_nonpos (Int.le_of_lt h2) (Int.le_of_lt h3)
      omega
    · have := Int.tdiv_nonneg (a := -a) (b := b) (by omega) (by omega)
      rw [Int.neg_tdiv] at this
      omega
    · have := Int.tdiv_nonneg (a := a) (b := -b) (by omega) (by omega)
      rw [Int.tdiv_neg] at this
      omega
    · have := Int.tdiv_nonneg (a := a) (b := b) (by omega) (by omega)
      omega
  have f1 : (w2.alloc (Obj.cells #[Value.bool s2, Value.int IntKind.u64 0, Value.int IntKind.u64 (y : Int)] 69)).cell? ⟨w1.heap.size, 0, none⟩ = some (.bool s1) := hc0 _
  have f2 : (w2.alloc (Obj.cells #[Value.bool s2, Value.int IntKind.u64 0, Value.int IntKind.u64 (y : Int)] 69)).cell? ⟨w1.heap.size, 2, none⟩ = some (.int .u64 (x : Int)) := hc2 _
  have f3 : (w2.alloc (Obj.cells #[Value.bool s2, Value.int IntKind.u64 0, Value.int IntKind.u64 (y : Int)] 69)).cell? ⟨w2.heap.size, 0, none⟩ = some (.bool s2) := World.cell?_alloc_new _ _ _ _
  have f4 : (w2.alloc (Obj.cells #[Value.bool s2, Value.int IntKind.u64 0, Value.int IntKind.u64 (y : Int)] 69)).cell? ⟨w2.heap.size, 2, none⟩ = some (.int .u64 (y : Int)) := World.cell?_alloc_new _ _ _ _
  clear hc0 hc2
  go_region_held3 (fun w' => w'.cell? ⟨w1.heap.size, 0, none⟩ = some (.bool s1) ∧ w'.cell? ⟨w1.heap.size, 2, none⟩ = some (.int .u64 (x : Int)) ∧ w'.cell? ⟨w2.heap.size, 0, none⟩ = some (.bool s2) ∧ w'.cell? ⟨w2.heap.size, 2, none⟩ = some (.int .u64 (y : Int)))
    (first
      | exact ⟨f1, f2, f3, f4⟩
      | (go_split_ands; refine ⟨?_, ?_, ?_, ?_⟩ <;> (rw [hb.cell (by first | (simp; done) | (simp; omega))]; first | assumption | exact f1 | exact f2 | exact f3 | exact f4)))
    ((go_at_call 46; refine (held_any _ _ _ _ (by assumption) (by assumption)).mono ?_; rintro e w' ⟨rfl, hb⟩; have hk : Below w.heap.size w _ := below_next (by go_grown) hb))
  all_goals
    go_wp2
    go_ret2
    exact ⟨ret_two (by rw [hfin.out]) rfl, by assumption⟩
set_option maxHeartbeats 1000000 in
theorem refMod_any (a b : Int) (w : World) (ha : I64 a) (hb : I64 b) (h0 : b ≠ 0) :
    Calls Tryd.prog 29 #[.int .i64 a, .int .i64 b] w fun e w' => e = .returned (.tuple #[.int .i64 (a.tmod b), .int .i64 0]) ∧ Below w.heap.size w w' := by
  obtain ⟨s1, hs1⟩ := exHid (decide (a < 0))
  obtain ⟨s2, hs2⟩ := exHid (decide (b < 0))
  obtain ⟨x, hx⟩ := exHid a.natAbs
  obtain ⟨y, hy⟩ := exHid b.natAbs
  have hx1 : x ≤ 9223372036854775808 := by rw [← hx.out]; obtain ⟨l, r⟩ := ha; omega
  have hy1 : y ≤ 9223372036854775808 := by rw [← hy.out]; obtain ⟨l, r⟩ := hb; omega
  have hy0 : 1 ≤ y := by rw [← hy.out]; omega
  have hk := Below.refl w.heap.size w
  go_enter Tryd.func29, Tryd.ntmps29
  go_wp2_with (first
    | ((with_reducible refine (of_is hs1 hx ha _).mono ?_); rintro e w1 ⟨rfl, hb1⟩; have hk1 : Below w.heap.size w _ := below_next (by go_grown) hb1; have hz1 := hk1.size)
    | ((with_reducible refine (of_is hs2 hy hb _).mono ?_); rintro e w2 ⟨rfl, hb2⟩; have hk2 : Below w.heap.size w _ := below_next (by go_grown) hb2; have hz3 := hk2.size; have hz2 := hb2.size; simp only [World.size_alloc] at hz2; have hc0 := fun o2 => cell_kept hb2 o2 0; have hc2 := fun o2 => cell_kept hb2 o2 2; simp only [show ∀ (a b c : Value), #[a, b, c][0]? = some a from fun _ _ _ => rfl] at hc0; simp only [show ∀ (a b c : Value), #[a, b, c][2]? = some c from fun _ _ _ => rfl] at hc2))
  obtain ⟨q, hqd⟩ := exHid (x % y)
  have hq : ((x : Int) % (y : Int)) = (q : Int) := by rw [← Int.natCast_emod, hqd.out]
  have hq2 : (x : Int).tmod (y : Int) = (q : Int) := by rw [← Int.ofNat_tmod, hqd.out]
  have hy2 : ¬ (y : Int) = 0 := by omega
  have hy3 : ((y : Int) == 0) = false := by simpa using hy2
  have hy4 : ¬ y = 0 := by omega
  have hy5 : (y == 0) = false := by simpa using hy4
  have hxy := Nat.mod_le x y
  rw [hqd.out] at hxy
  have uq : U64 (q : Int) := by unfold U64; omega
  have u0 : U64 0 := by unfold U64; omega
  have hfin : Hid (held (wv s1 0 (q : Int)) = a.tmod b) := by
    show held (wv s1 0 (q : Int)) = a.tmod b
    have h1 := Int.natAbs_tmod a b
    have h5 := Nat.mod_lt x (show y > 0 by omega)
    rw [hqd.out] at h5
    rw [hx.out, hy.out, hqd.out] at h1
    have h4 : wv s1 0 (q : Int) = a.tmod b := by
      rw [← hs1.out]
      unfold wv
      by_cases h2 : a < 0 <;> simp [h2]
      · have := Int.tmod_nonneg b (a := -a) (by omega)
        rw [Int.neg_tmod] at this
        omega
      · have := Int.tmod_nonneg b (a := a) (by omega)
        omega
    rw [h4, held_in] <;> omega
  have f1 : (w2.alloc (Obj.cells #[Value.bool s2, Value.int IntKind.u64 0, Value.int IntKind.u64 (y : Int)] 69)).cell? ⟨w1.heap.size, 0, none⟩ = some (.bool s1) := hc0 _
  have f2 : (w2.alloc (Obj.cells #[Value.bool s2, Value.int IntKind.u64 0, Value.int IntKind.u64 (y : Int)] 69)).cell? ⟨w1.heap.size, 2, none⟩ = some (.int .u64 (x : Int)) := hc2 _
  have f4 : (w2.alloc (Obj.cells #[Value.bool s2, Value.int IntKind.u64 0, Value.int IntKind.u64 (y : Int)] 69)).cell? ⟨w2.heap.size, 2, none⟩ = some (.int .u64 (y : Int)) := World.cell?_alloc_new _ _ _ _
  clear hc0 hc2
  go_region_held3 (fun w' => w'.cell? ⟨w1.heap.size, 0, none⟩ = some (.bool s1) ∧ w'.cell? ⟨w1.heap.size, 2, none⟩ = some (.int .u64 (x : Int)) ∧ w'.cell? ⟨w2.heap.size, 2, none⟩ = some (.int .u64 (y : Int)))
    (first
      | exact ⟨f1, f2, f4⟩
      | (go_split_ands; refine ⟨?_, ?_, ?_⟩ <;> (rw [hb.cell (by first | (simp; done) | (simp; omega))]; first | assumption | exact f1 | exact f2 | exact f4)))
    ((go_at_call 46; refine (held_any _ _ _ _ (by assumption) (by assumption)).mono ?_; rintro e w' ⟨rfl, hb⟩; have hk : Below w.heap.size w _ := below_next (by go_grown) hb))
  all_goals
    go_wp2
    go_ret2
    exact ⟨ret_two (by rw [hfin.out]) rfl, by assumption⟩

set_option maxHeartbeats 400000 in
theorem refDiv_zero (a : Int) (w : World) :
    Calls Tryd.prog 28 #[.int .i64 a, .int .i64 0] w fun e w' => e = .returned (.tuple #[.int .i64 0, .int .i64 10]) ∧ Below w.heap.size w w' := by
  go_enter Tryd.func28, Tryd.ntmps28
  go_wp2
  go_ret2
  exact ⟨rfl, Below.refl _ _⟩

set_option maxHeartbeats 400000 in
theorem refMod_zero (a : Int) (w : World) :
    Calls Tryd.prog 29 #[.int .i64 a, .int .i64 0] w fun e w' => e = .returned (.tuple #[.int .i64 0, .int .i64 10]) ∧ Below w.heap.size w w' := by
  go_enter Tryd.func29, Tryd.ntmps29
  go_wp2
  go_ret2
  exact ⟨rfl, Below.refl _ _⟩

theorem held_double (x : Int) : held (held x + held x) = held (x * 2) := by unfold held; (repeat' split) <;> omega

theorem held_pow (a : Int) (k : Nat) : held (held (a * 2 ^ k) + held (a * 2 ^ k)) = held (a * 2 ^ (k + 1)) := by
  rw [held_double, Int.mul_assoc, ← Int.pow_succ]

theorem held_far {a : Int} {m : Nat} (h : 64 ≤ m) : held (a * 2 ^ 64) = held (a * 2 ^ m) := by
  rw [held_big (pow_big (Nat.le_refl 64)), held_big (pow_big h)]

set_option maxHeartbeats 1000000 in
theorem refShift_any (a n : Int) (w : World) (ha : I64 a) (hn : I64 n) :
    Calls Tryd.prog 30 #[.int .i64 a, .int .i64 n] w fun e w' => e = .returned (.int .i64 (held (a * 2 ^ n.toNat))) ∧ Below w.heap.size w w' := by
  obtain ⟨n1, n2⟩ := hn
  go_enter Tryd.func30, Tryd.ntmps30
  go_wp2
  go_loopw [0, 5] (fun v i wr => ∃ k : Nat, k ≤ 64 ∧ k ≤ n.toNat ∧ i = .int .i64 k ∧ v = .int .i64 (held (a * 2 ^ k)) ∧ Below w.heap.size w wr) (fun _ i _ => 64 - (intOf i).toNat)
  case atStart =>
    exact ⟨0, by omega, by omega, rfl, by rw [Int.pow_zero, Int.mul_one, held_in ha.1 ha.2], Below.refl _ _⟩
  case round =>
    obtain ⟨k, hk1, hk2, rfl, rfl, hb0⟩ := hrel
    obtain ⟨v, hv⟩ := exHid (held (a * 2 ^ k))
    have hvI : I64 v := by rw [← hv.out]; exact held_range _
    rw [hv.out]
    by_cases hc : (k : Int) < n ∧ k < 64
    · obtain ⟨hc1, hc2⟩ := hc
      have hc3 : (k : Int) < 64 := by omega
      go_wp2_with (go_at_call 21; refine (refAdd_any _ _ _ hvI hvI).mono ?_; rintro e w' ⟨rfl, hb⟩; have hk : Below w.heap.size w _ := below_next hb0 hb)
      go_roundw
      case rel =>
        refine ⟨k + 1, by omega, by omega, by go_num, ?_, by assumption⟩
        rw [← hv.out, held_pow]
      case measure => simp [intOf]; omega
    · have hfin : Hid (v = held (a * 2 ^ n.toNat)) := by
        show v = held (a * 2 ^ n.toNat)
        rw [← hv.out]
        by_cases h64 : k = 64
        · rw [h64]; exact held_far (by omega)
        · rw [show n.toNat = k by omega]
      by_cases hcn : (k : Int) < n
      · have hc3 : ¬ (k : Int) < 64 := by omega
        clear hc
        go_wp2
        go_ret
        exact ⟨ret_int hfin.out, hb0⟩
      · clear hc
        go_wp2
        go_ret
        exact ⟨ret_int hfin.out, hb0⟩
end Go.Proofs.YtkhbgmdjfkkkcaaDoor
