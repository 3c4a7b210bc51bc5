/- Contracts of whole.Most at its instances, and of the document's own: the greatest of a list, for every list that lies in memory. -/
import Derived.Test.YtkhbgmdjfkkkcaaDoorRef2
import Derived.Test.YtkhbgmdjfkkkcaaDoorWRests
import Derived.LoopTactic
namespace Go.Proofs.YtkhbgmdjfkkkcaaDoor
open Go.RowKit

/-- The greatest of some numbers; 0 of none. -/
def maxL : List Int → Int
  | [] => 0
  | a :: r => r.foldl max a

theorem maxL_snoc (l : List Int) (x : Int) (h : l ≠ []) : maxL (l ++ [x]) = max (maxL l) x := by
  cases l with
  | nil => exact absurd rfl h
  | cons a r => simp [maxL, List.foldl_append]
theorem take_ne (l : List Int) (k : Nat) (h0 : 0 < k) (h : k < l.length) : l.take k ≠ [] := by
  intro e
  have := congrArg List.length e
  rw [List.length_take] at this
  simp at this
  rcases this with h1 | h1
  · omega
  · subst h1; simp at h
theorem maxL_more (l : List Int) (k : Nat) (h0 : 0 < k) (h : k < l.length) : maxL (l.take (k + 1)) = max (maxL (l.take k)) l[k] := by
  rw [List.take_succ_eq_append_getElem h, maxL_snoc _ _ (take_ne l k h0 h)]
theorem maxL_one (l : List Int) (h : 0 < l.length) : maxL (l.take 1) = l[0] := by
  cases l with
  | nil => simp at h
  | cons a r => rfl
theorem getD_at (l : List Int) (k : Nat) (h : k < l.length) : l.getD k 0 = l[k] := by simp [List.getD, h]
/-- One number more: the greatest so far, or it. -/
theorem maxL_step (l : List Int) (k : Nat) (h0 : 0 < k) (h : k < l.length) : maxL (l.take (k + 1)) = if maxL (l.take k) < l.getD k 0 then l.getD k 0 else maxL (l.take k) := by
  rw [maxL_more l k h0 h, getD_at l k h]
  split <;> omega

theorem ret_most {k : IntKind} {a b : Int} (h : a = b) : Ending.returned (.tuple #[.int k a, .bool true]) = .returned (.tuple #[.int k b, .bool true]) := by rw [h]


set_option maxHeartbeats 1000000 in
theorem most64_none (a : Option Addr) (cap : Nat) (w : World) :
    Calls Tryd.prog 34 #[.slice a 0 cap] w fun e w' => e = .returned (.tuple #[.int .i64 0, .bool false]) ∧ w = w' := by
  go_enter Tryd.func34, Tryd.ntmps34
  go_wp2
  go_ret2
  exact ⟨rfl, rfl⟩

set_option maxHeartbeats 1000000 in
theorem most64_some (b off len cap : Nat) (zs : List Int) (w : World) (hlen : len = zs.length) (h1 : 1 ≤ len) (hcl : len ≤ cap) (hm : cap ≤ 9223372036854775807)
    (hc : ∀ j, j < len → w.cell? ⟨b, off + j, none⟩ = some (.int .i64 (zs.getD j 0))) :
    Calls Tryd.prog 34 #[.slice (some ⟨b, off, none⟩) len cap] w fun e w' => e = .returned (.tuple #[.int .i64 (maxL zs), .bool true]) ∧ w = w' := by
  replace hlen := Lib.hid hlen
  have hc0 : w.cell? ⟨b, off, none⟩ = some (.int .i64 (zs.getD 0 0)) := hc 0 (by omega)
  obtain ⟨z0, hz0⟩ := exHid (zs.getD 0 0)
  rw [hz0.out] at hc0
  have hz1 : Hid (z0 = maxL (zs.take 1)) := by
    show z0 = maxL (zs.take 1)
    rw [← hz0.out, getD_at _ _ (by rw [← hlen.out]; omega), ← maxL_one zs (by rw [← hlen.out]; omega)]
  have hne : ((len : Int) == 0) = false := by rw [beq_eq_false_iff_ne]; omega
  have h0 : 0 < len := by omega
  replace hc := Lib.hid hc
  by_cases hcap : cap = 1
  · have hl1 : Hid (len = 1) := by show len = 1; omega
    have hfin : Hid (z0 = maxL zs) := by
      show z0 = maxL zs
      rw [hz1.out, List.take_of_length_le (by rw [← hlen.out]; omega)]
    obtain rfl : len = 1 := hl1.out
    subst hcap
    go_enter Tryd.func34, Tryd.ntmps34
    go_wp2
    go_rounds 1
    go_ret2
    exact ⟨ret_most hfin.out, rfl⟩
  · have hcap1 : 1 < cap := by omega
    have hlm : ((len : Int) - 1) = ((len - 1 : Nat) : Int) := by omega
    go_enter Tryd.func34, Tryd.ntmps34
    go_wp2
    go_loop [4, 16] (fun v i => ∃ (k : Nat) (x : Int), k + 1 ≤ len ∧ i = .int .i64 k ∧ v = .int .i64 x ∧ x = maxL (zs.take (k + 1))) (fun _ i => len - (intOf i).toNat)
    case atStart => exact ⟨0, z0, by omega, rfl, rfl, hz1.out⟩
    case round =>
      obtain ⟨k, x, hk, rfl, rfl, hx⟩ := hrel
      replace hx := Lib.hid hx
      by_cases hlt : k < len - 1
      · have hcell : w.cell? ⟨b, off + 1 + k, none⟩ = some (.int .i64 (zs.getD (k + 1) 0)) := by
          have := hc.out (k + 1) (by omega)
          rw [show off + 1 + k = off + (k + 1) by omega]
          exact this
        have hst := maxL_step zs (k + 1) (by omega) (by rw [← hlen.out]; omega)
        rw [← hx.out] at hst
        obtain ⟨z, hz⟩ := exHid (zs.getD (k + 1) 0)
        rw [hz.out] at hcell hst
        by_cases hgt : x < z
        · rw [if_pos hgt] at hst
          replace hst := Lib.hid hst
          go_wp2
          go_round
          case rel => exact ⟨k + 1, z, by omega, by go_num, rfl, hst.out.symm⟩
          case measure => simp [intOf]; omega
        · rw [if_neg hgt] at hst
          replace hst := Lib.hid hst
          go_wp2
          go_round
          case rel => exact ⟨k + 1, x, by omega, by go_num, rfl, hst.out.symm⟩
          case measure => simp [intOf]; omega
      · have hfin : Hid (x = maxL zs) := by
          show x = maxL zs
          rw [hx.out, List.take_of_length_le (by rw [← hlen.out]; omega)]
        go_wp2
        go_ret2
        exact ⟨ret_most hfin.out, rfl⟩

set_option maxHeartbeats 1000000 in
theorem most8_none (a : Option Addr) (cap : Nat) (w : World) :
    Calls Tryd.prog 37 #[.slice a 0 cap] w fun e w' => e = .returned (.tuple #[.int .i8 0, .bool false]) ∧ w = w' := by
  go_enter Tryd.func37, Tryd.ntmps37
  go_wp2
  go_ret2
  exact ⟨rfl, rfl⟩

set_option maxHeartbeats 1000000 in
theorem most8_some (b off len cap : Nat) (zs : List Int) (w : World) (hlen : len = zs.length) (h1 : 1 ≤ len) (hcl : len ≤ cap) (hm : cap ≤ 9223372036854775807)
    (hc : ∀ j, j < len → w.cell? ⟨b, off + j, none⟩ = some (.int .i8 (zs.getD j 0))) :
    Calls Tryd.prog 37 #[.slice (some ⟨b, off, none⟩) len cap] w fun e w' => e = .returned (.tuple #[.int .i8 (maxL zs), .bool true]) ∧ w = w' := by
  replace hlen := Lib.hid hlen
  have hc0 : w.cell? ⟨b, off, none⟩ = some (.int .i8 (zs.getD 0 0)) := hc 0 (by omega)
  obtain ⟨z0, hz0⟩ := exHid (zs.getD 0 0)
  rw [hz0.out] at hc0
  have hz1 : Hid (z0 = maxL (zs.take 1)) := by
    show z0 = maxL (zs.take 1)
    rw [← hz0.out, getD_at _ _ (by rw [← hlen.out]; omega), ← maxL_one zs (by rw [← hlen.out]; omega)]
  have hne : ((len : Int) == 0) = false := by rw [beq_eq_false_iff_ne]; omega
  have h0 : 0 < len := by omega
  replace hc := Lib.hid hc
  by_cases hcap : cap = 1
  · have hl1 : Hid (len = 1) := by show len = 1; omega
    have hfin : Hid (z0 = maxL zs) := by
      show z0 = maxL zs
      rw [hz1.out, List.take_of_length_le (by rw [← hlen.out]; omega)]
    obtain rfl : len = 1 := hl1.out
    subst hcap
    go_enter Tryd.func37, Tryd.ntmps37
    go_wp2
    go_rounds 1
    go_ret2
    exact ⟨ret_most hfin.out, rfl⟩
  · have hcap1 : 1 < cap := by omega
    have hlm : ((len : Int) - 1) = ((len - 1 : Nat) : Int) := by omega
    go_enter Tryd.func37, Tryd.ntmps37
    go_wp2
    go_loop [4, 16] (fun v i => ∃ (k : Nat) (x : Int), k + 1 ≤ len ∧ i = .int .i64 k ∧ v = .int .i8 x ∧ x = maxL (zs.take (k + 1))) (fun _ i => len - (intOf i).toNat)
    case atStart => exact ⟨0, z0, by omega, rfl, rfl, hz1.out⟩
    case round =>
      obtain ⟨k, x, hk, rfl, rfl, hx⟩ := hrel
      replace hx := Lib.hid hx
      by_cases hlt : k < len - 1
      · have hcell : w.cell? ⟨b, off + 1 + k, none⟩ = some (.int .i8 (zs.getD (k + 1) 0)) := by
          have := hc.out (k + 1) (by omega)
          rw [show off + 1 + k = off + (k + 1) by omega]
          exact this
        have hst := maxL_step zs (k + 1) (by omega) (by rw [← hlen.out]; omega)
        rw [← hx.out] at hst
        obtain ⟨z, hz⟩ := exHid (zs.getD (k + 1) 0)
        rw [hz.out] at hcell hst
        by_cases hgt : x < z
        · rw [if_pos hgt] at hst
          replace hst := Lib.hid hst
          go_wp2
          go_round
          case rel => exact ⟨k + 1, z, by omega, by go_num, rfl, hst.out.symm⟩
          case measure => simp [intOf]; omega
        · rw [if_neg hgt] at hst
          replace hst := Lib.hid hst
          go_wp2
          go_round
          case rel => exact ⟨k + 1, x, by omega, by go_num, rfl, hst.out.symm⟩
          case measure => simp [intOf]; omega
      · have hfin : Hid (x = maxL zs) := by
          show x = maxL zs
          rw [hx.out, List.take_of_length_le (by rw [← hlen.out]; omega)]
        go_wp2
        go_ret2
        exact ⟨ret_most hfin.out, rfl⟩

set_option maxHeartbeats 1000000 in
theorem mostInt_none (a : Option Addr) (cap : Nat) (w : World) :
    Calls Tryd.prog 14 #[.slice a 0 cap] w fun e w' => e = .returned (.tuple #[.int .i64 0, .bool false]) ∧ w = w' := by
  go_enter Tryd.func14, Tryd.ntmps14
  go_wp2
  go_ret2
  exact ⟨rfl, rfl⟩

set_option maxHeartbeats 1000000 in
theorem mostInt_some (b off len cap : Nat) (zs : List Int) (w : World) (hlen : len = zs.length) (h1 : 1 ≤ len) (hcl : len ≤ cap) (hm : cap ≤ 9223372036854775807)
    (hc : ∀ j, j < len → w.cell? ⟨b, off + j, none⟩ = some (.int .i64 (zs.getD j 0))) :
    Calls Tryd.prog 14 #[.slice (some ⟨b, off, none⟩) len cap] w fun e w' => e = .returned (.tuple #[.int .i64 (maxL zs), .bool true]) ∧ w = w' := by
  replace hlen := Lib.hid hlen
  have hc0 : w.cell? ⟨b, off, none⟩ = some (.int .i64 (zs.getD 0 0)) := hc 0 (by omega)
  obtain ⟨z0, hz0⟩ := exHid (zs.getD 0 0)
  rw [hz0.out] at hc0
  have hz1 : Hid (z0 = maxL (zs.take 1)) := by
    show z0 = maxL (zs.take 1)
    rw [← hz0.out, getD_at _ _ (by rw [← hlen.out]; omega), ← maxL_one zs (by rw [← hlen.out]; omega)]
  have hne : ((len : Int) == 0) = false := by rw [beq_eq_false_iff_ne]; omega
  have h0 : 0 < len := by omega
  replace hc := Lib.hid hc
  by_cases hcap : cap = 1
  · have hl1 : Hid (len = 1) := by show len = 1; omega
    have hfin : Hid (z0 = maxL zs) := by
      show z0 = maxL zs
      rw [hz1.out, List.take_of_length_le (by rw [← hlen.out]; omega)]
    obtain rfl : len = 1 := hl1.out
    subst hcap
    go_enter Tryd.func14, Tryd.ntmps14
    go_wp2
    go_rounds 1
    go_ret2
    exact ⟨ret_most hfin.out, rfl⟩
  · have hcap1 : 1 < cap := by omega
    have hlm : ((len : Int) - 1) = ((len - 1 : Nat) : Int) := by omega
    go_enter Tryd.func14, Tryd.ntmps14
    go_wp2
    go_loop [4, 16] (fun v i => ∃ (k : Nat) (x : Int), k + 1 ≤ len ∧ i = .int .i64 k ∧ v = .int .i64 x ∧ x = maxL (zs.take (k + 1))) (fun _ i => len - (intOf i).toNat)
    case atStart => exact ⟨0, z0, by omega, rfl, rfl, hz1.out⟩
    case round =>
      obtain ⟨k, x, hk, rfl, rfl, hx⟩ := hrel
      replace hx := Lib.hid hx
      by_cases hlt : k < len - 1
      · have hcell : w.cell? ⟨b, off + 1 + k, none⟩ = some (.int .i64 (zs.getD (k + 1) 0)) := by
          have := hc.out (k + 1) (by omega)
          rw [show off + 1 + k = off + (k + 1) by omega]
          exact this
        have hst := maxL_step zs (k + 1) (by omega) (by rw [← hlen.out]; omega)
        rw [← hx.out] at hst
        obtain ⟨z, hz⟩ := exHid (zs.getD (k + 1) 0)
        rw [hz.out] at hcell hst
        by_cases hgt : x < z
        · rw [if_pos hgt] at hst
          replace hst := Lib.hid hst
          go_wp2
          go_round
          case rel => exact ⟨k + 1, z, by omega, by go_num, rfl, hst.out.symm⟩
          case measure => simp [intOf]; omega
        · rw [if_neg hgt] at hst
          replace hst := Lib.hid hst
          go_wp2
          go_round
          case rel => exact ⟨k + 1, x, by omega, by go_num, rfl, hst.out.symm⟩
          case measure => simp [intOf]; omega
      · have hfin : Hid (x = maxL zs) := by
          show x = maxL zs
          rw [hx.out, List.take_of_length_le (by rw [← hlen.out]; omega)]
        go_wp2
        go_ret2
        exact ⟨ret_most hfin.out, rfl⟩

set_option maxHeartbeats 1000000 in
theorem refMost_none (a : Option Addr) (cap : Nat) (w : World) :
    Calls Tryd.prog 35 #[.slice a 0 cap] w fun e w' => e = .returned (.tuple #[.int .i64 0, .bool false]) ∧ w = w' := by
  go_enter Tryd.func35, Tryd.ntmps35
  go_wp2
  go_ret2
  exact ⟨rfl, rfl⟩

set_option maxHeartbeats 1000000 in
theorem refMost_some (b off len cap : Nat) (zs : List Int) (w : World) (hlen : len = zs.length) (h1 : 1 ≤ len) (hcl : len ≤ cap) (hm : cap ≤ 9223372036854775807)
    (hc : ∀ j, j < len → w.cell? ⟨b, off + j, none⟩ = some (.int .i64 (zs.getD j 0))) :
    Calls Tryd.prog 35 #[.slice (some ⟨b, off, none⟩) len cap] w fun e w' => e = .returned (.tuple #[.int .i64 (maxL zs), .bool true]) ∧ w = w' := by
  replace hlen := Lib.hid hlen
  have hc0 : w.cell? ⟨b, off, none⟩ = some (.int .i64 (zs.getD 0 0)) := hc 0 (by omega)
  obtain ⟨z0, hz0⟩ := exHid (zs.getD 0 0)
  rw [hz0.out] at hc0
  have hz1 : Hid (z0 = maxL (zs.take 1)) := by
    show z0 = maxL (zs.take 1)
    rw [← hz0.out, getD_at _ _ (by rw [← hlen.out]; omega), ← maxL_one zs (by rw [← hlen.out]; omega)]
  have hne : ((len : Int) == 0) = false := by rw [beq_eq_false_iff_ne]; omega
  have h0 : 0 < len := by omega
  replace hc := Lib.hid hc
  go_enter Tryd.func35, Tryd.ntmps35
  go_wp2
  go_loop [4, 5] (fun v i => ∃ (k : Nat) (x : Int), 1 ≤ k ∧ k ≤ len ∧ i = .int .i64 k ∧ v = .int .i64 x ∧ x = maxL (zs.take k)) (fun _ i => len - (intOf i).toNat)
  case atStart => exact ⟨1, z0, by omega, by omega, rfl, rfl, hz1.out⟩
  case round =>
    obtain ⟨k, x, hk1, hk, rfl, rfl, hx⟩ := hrel
    replace hx := Lib.hid hx
    by_cases hlt : k < len
    · have hcell : w.cell? ⟨b, off + k, none⟩ = some (.int .i64 (zs.getD k 0)) := hc.out k (by omega)
      have hst := maxL_step zs k (by omega) (by rw [← hlen.out]; omega)
      rw [← hx.out] at hst
      obtain ⟨z, hz⟩ := exHid (zs.getD k 0)
      rw [hz.out] at hcell hst
      by_cases hgt : x < z
      · rw [if_pos hgt] at hst
        replace hst := Lib.hid hst
        have hmax : max x z = z := by omega
        go_wp2
        go_round
        case rel => exact ⟨k + 1, z, by omega, by omega, by go_num, by first | rfl | (congr 1; omega), hst.out.symm⟩
        case measure => simp [intOf]; omega
      · rw [if_neg hgt] at hst
        replace hst := Lib.hid hst
        have hmax : max x z = x := by omega
        go_wp2
        go_round
        case rel => exact ⟨k + 1, x, by omega, by omega, by go_num, by first | rfl | (congr 1; omega), hst.out.symm⟩
        case measure => simp [intOf]; omega
    · have hfin : Hid (x = maxL zs) := by
        show x = maxL zs
        rw [hx.out, List.take_of_length_le (by rw [← hlen.out]; omega)]
      go_wp2
      go_ret2
      exact ⟨ret_most hfin.out, rfl⟩

set_option maxHeartbeats 1000000 in
theorem most16_none (a : Option Addr) (cap : Nat) (w : World) :
    Calls Tryd.prog 15 #[.slice a 0 cap] w fun e w' => e = .returned (.tuple #[.int .i16 0, .bool false]) ∧ w = w' := by
  go_enter Tryd.func15, Tryd.ntmps15
  go_wp2
  go_ret2
  exact ⟨rfl, rfl⟩

end Go.Proofs.YtkhbgmdjfkkkcaaDoor
