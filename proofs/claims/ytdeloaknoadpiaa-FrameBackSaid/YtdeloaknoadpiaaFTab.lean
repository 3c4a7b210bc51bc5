/- The sum (layer 6), walked: halve, steps. -/
import Derived.Test.YtdeloaknoadpiaaFMem
namespace Go.Proofs.Ytdeloaknoadpiaa
open Go.RowKit Crc

theorem halve_eq {x : Nat} (hx : x < 4294967296) :
    bits BinOp.xor IntKind.u32 ((x : Int) / 2) (bits BinOp.and IntKind.u32 3988292384 (-bits BinOp.and IntKind.u32 (x : Int) 1 % 4294967296)) = (stp x : Nat) := by
  have h1 : bits BinOp.and IntKind.u32 (x : Int) 1 = ((x % 2 : Nat) : Int) := by
    have := u32_and_nat x 1 hx (by omega)
    rw [nat_mask1] at this
    exact this
  rw [h1]
  unfold stp
  rcases Nat.mod_two_eq_zero_or_one x with h | h
  · rw [h, if_neg (by omega)]
    have e := u32_and_nat 3988292384 0 (by omega) (by omega)
    have e2 := u32_xor_nat (x / 2) 0 (by omega) (by omega)
    rw [Nat.and_zero] at e
    rw [Nat.xor_zero] at e2
    exact (congrArg (bits BinOp.xor IntKind.u32 ((x : Int) / 2)) e).trans e2
  · rw [h, if_pos rfl]
    have e := u32_and_nat 3988292384 4294967295 (by omega) (by omega)
    have e2 := u32_xor_nat (x / 2) 3988292384 (by omega) (by omega)
    exact (congrArg (bits BinOp.xor IntKind.u32 ((x : Int) / 2)) e).trans e2
set_option maxHeartbeats 400000 in
theorem halve_any {x : Nat} (hx : x < 4294967296) (w : World) :
    Calls Try.prog 34 #[.int .u32 x] w fun e w' => e = .returned (.int .u32 (stp x : Nat)) ∧ w = w' := by
  go_enter Try.func34, Try.ntmps34
  go_wp2
  go_ret
  exact ⟨ret_int (halve_eq hx), rfl⟩

/-- What four halvings make of each number of four bits, as cells, those ahead of i. -/
def tabA (i : Nat) : Array Value := ((List.range 16).map fun j => Value.int .u32 (if j < i then (stps 4 j : Nat) else 0 : Int)).toArray
theorem tabA_size (i : Nat) : (tabA i).size = 16 := by simp [tabA]

theorem tabA_set (i : Nat) : (tabA i).setIfInBounds i (.int .u32 (stps 4 i : Nat)) = tabA (i + 1) := by
  apply Array.ext_getElem?
  intro j
  rw [Array.getElem?_setIfInBounds]
  simp only [tabA, List.size_toArray, List.length_map, List.length_range, List.getElem?_toArray, List.getElem?_map, List.getElem?_range]
  by_cases hij : i = j
  · subst hij
    rw [if_pos rfl]
    by_cases h : i < 16
    · rw [if_pos h, List.getElem?_range h]; simp
    · rw [if_neg h, List.getElem?_eq_none (by simpa using h)]; rfl
  · rw [if_neg hij]
    by_cases h : j < 16
    · rw [List.getElem?_range h]
      simp only [Option.map_some]
      by_cases h2 : j < i
      · rw [if_pos h2, if_pos (by omega)]
      · rw [if_neg h2, if_neg (by omega)]
    · rw [List.getElem?_eq_none (by simpa using h)]; rfl
theorem tabA_get {i j : Nat} (hj : j < 16) (hi : j < i) : (tabA i)[j]? = some (.int .u32 (stps 4 j : Nat)) := by
  simp only [tabA, List.getElem?_toArray, List.getElem?_map]
  rw [List.getElem?_range hj]
  simp [hi]

/-- The table, written out. -/
def tabL (t : Nat → Nat) : Array Value := #[.int .u32 (t 0 : Nat), .int .u32 (t 1 : Nat), .int .u32 (t 2 : Nat), .int .u32 (t 3 : Nat), .int .u32 (t 4 : Nat), .int .u32 (t 5 : Nat), .int .u32 (t 6 : Nat), .int .u32 (t 7 : Nat), .int .u32 (t 8 : Nat), .int .u32 (t 9 : Nat), .int .u32 (t 10 : Nat), .int .u32 (t 11 : Nat), .int .u32 (t 12 : Nat), .int .u32 (t 13 : Nat), .int .u32 (t 14 : Nat), .int .u32 (t 15 : Nat)]
theorem tabA_all : tabA 16 = tabL (stps 4) := rfl

set_option maxRecDepth 20000 in
set_option maxHeartbeats 400000 in
theorem steps_any (w : World) :
    Calls Try.prog 29 #[] w fun e w' => e = .returned (.agg (tabL (stps 4))) ∧ Below w.heap.size w w' := by
  generalize hT : tabL (stps 4) = T
  go_enter Try.func29, Try.ntmps29
  go_wp2
  go_loopw [1, 2] (fun _ t2 wr => ∃ i : Nat, i ≤ 16 ∧ t2 = .int .i64 i ∧ wr = w.alloc (.cells (tabA i) 54)) (fun _ t2 _ => 16 - (intOf t2).toNat)
  case atStart => exact ⟨0, by omega, rfl, rfl⟩
  case round =>
    obtain ⟨i, hi, rfl, rfl⟩ := hrel
    rcases Nat.lt_or_ge i 16 with hlt | hge
    · have hlti : (i : Int) < 16 := by omega
      have hcu : IntKind.u32.wrap (i : Int) = ((i : Nat) : Int) := by rw [IntKind.wrap_u32]; omega
      have hS := Lib.hid (tabA_set i)
      have hsz := tabA_size i
      have k0 : i < 4294967296 := by omega
      have k1 := stp_lt k0
      have k2 := stp_lt k1
      have k3 := stp_lt k2
      have h0 := halve_any k0
      have h1 := halve_any k1
      have h2 := halve_any k2
      have h3 := halve_any k3
      have e4 : stp (stp (stp (stp i))) = stps 4 i := rfl
      rw [e4] at h3
      clear k0 k1 k2 k3
      replace hlti := Lib.hid hlti
      have hlti' := hlti.out
      go_wp2_with (first
        | ((with_reducible refine (h0 _).mono ?_); rintro e w' ⟨rfl, rfl⟩)
        | ((with_reducible refine (h1 _).mono ?_); rintro e w' ⟨rfl, rfl⟩)
        | ((with_reducible refine (h2 _).mono ?_); rintro e w' ⟨rfl, rfl⟩)
        | ((with_reducible refine (h3 _).mono ?_); rintro e w' ⟨rfl, rfl⟩))
      go_roundw
      case rel => exact ⟨i + 1, by omega, by go_num, by rw [hS.out]⟩
      case measure => have := hlti.out; simp [intOf]; omega
    · obtain rfl : i = 16 := by omega
      rw [tabA_all]
      revert hT
      generalize stps 4 = t
      intro hT
      replace hT := Lib.hid hT
      unfold tabL
      go_wp2
      refine bodyPost_ret (results_cell_row rfl _ _ w.heap.size _ _ (0, 0) _ rfl (heap_alloc_new w _) Try.underlying54 rfl (by kernel_rfl)) rfl ?_
      exact ⟨congrArg (fun x => Ending.returned (.agg x)) hT.out, (Below.refl _ w).alloc (Nat.le_refl _) _⟩
end Go.Proofs.Ytdeloaknoadpiaa
