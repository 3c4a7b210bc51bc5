/- The document's four bytes of a number, number of four bytes, and frame (layer 6), walked. -/
import Derived.Test.YtdeloaknoadpiaaFPut
namespace Go.Proofs.Ytdeloaknoadpiaa
open Go.RowKit Crc

section
variable {w : World} {base : Nat} {v : Value} {l : List Nat}
theorem one_cells {x : Int} {b : Nat} (h : x = (b : Int)) : (#[Value.int IntKind.u8 x] : Array Value) = (cellsN [b]).toArray := by rw [h]; rfl

set_option maxRecDepth 20000 in
set_option maxHeartbeats 2000000 in
theorem four_any {x : Nat} (hx : x < 4294967296) (w : World) :
    Calls Try.prog 30 #[.int .u32 x] w fun e w' => ∃ v', e = .returned v' ∧ Buf8 w' w.heap.size v' (le 4 x) ∧ Below w.heap.size w w' := by
  go_enter Try.func30, Try.ntmps30
  go_wp2
  go_loopw [0, 3, 4] (fun t0 t3 t4 wr => ∃ (i m : Nat) (l' : List Nat), i ≤ 4 ∧ t4 = .int .i64 i ∧ t0 = .int .u32 m ∧ m < 4294967296 ∧ l' ++ le (4 - i) m = le 4 x ∧ l'.length = i ∧ Buf8 wr w.heap.size t3 l' ∧ Below w.heap.size w wr) (fun _ _ t4 _ => 4 - (intOf t4).toNat)
  case atStart => exact ⟨0, x, [], by omega, rfl, rfl, hx, rfl, rfl, Buf8.nil _ _, Below.refl _ _⟩
  case round =>
    obtain ⟨i, m, l', hi, rfl, rfl, hm, hl, hll, hB, hb⟩ := hrel
    rcases Nat.lt_or_ge i 4 with hlt | hge
    · have hi4 : (i : Int) < 4 := by omega
      have z1 : (m : Int).tmod 256 = ((m % 256 : Nat) : Int) := by rw [Int.tmod_eq_emod_of_nonneg (by omega)]; omega
      have z2 : (m : Int) % 256 = ((m % 256 : Nat) : Int) := by omega
      have z3 : IntKind.u8.wrap ((m % 256 : Nat) : Int) = ((m % 256 : Nat) : Int) := by rw [IntKind.wrap_u8']; omega
      have hle : le (4 - i) m = (m % 256) :: le (4 - (i + 1)) (m / 256) := by rw [show 4 - i = (4 - (i + 1)) + 1 by omega]; rfl
      have hnew := fun cs t (h : cs = (cellsN [m % 256]).toArray) => bs_new wr (m := [m % 256]) (fun b hb => by simp at hb; omega) (by simp) (t := t) h (n := 1) rfl
      have hB1 := fun cs t => Buf8.below hB ((Below.refl wr.heap.size wr).alloc (Nat.le_refl _) (.cells cs t))
      have hll' := hll
      generalize m % 256 = b at z1 z2 z3 hle hnew
      replace hnew := Lib.hid hnew
      replace hB1 := Lib.hid hB1
      replace hle := Lib.hid hle
      replace hl := Lib.hid hl
      replace hll := Lib.hid hll
      have hsz := hb.size
      have hone := fun x (h : x = (b : Int)) => one_cells h
      replace hone := Lib.hid hone
      clear hll'
      go_wp2_with (at_builtin; (refine wpList_append_bs (base := w.heap.size) (v := _) (l := l') (m := [b]) rfl _ _ rfl rfl (hB1.out _ _) rfl (hnew.out _ _ (hone.out _ (by first | rfl | assumption))) (by rw [hll.out]; simp; omega) (by simp; omega) ?_; intro v1 w1 hB2 hO hN _))
      go_roundw
      case rel =>
        refine ⟨i + 1, m / 256, l' ++ [b], by omega, by go_num, by go_num, by omega, ?_, by rw [List.length_append, hll.out]; rfl, hB2, ?_⟩
        · rw [← hl.out, hle.out, List.append_assoc]; rfl
        · have h1 := (hb.alloc hsz (.cells #[.int .u8 b] 5))
          exact h1.trans (hO.below h1.size (fun k hk h' => by have := row_base hB k h'; omega))
      case measure => simp [intOf]; omega
    · obtain rfl : i = 4 := by omega
      go_wp2
      go_ret
      refine ⟨_, rfl, ?_, hb⟩
      have : l' = le 4 x := by rw [← hl]; simp [le]
      rw [← this]; exact hB

theorem num4_byte {j : Nat} (hl : ∀ b ∈ l, b < 256) (hj : j < 4) : num4 l / 256 ^ j = 256 * (num4 l / 256 ^ (j + 1)) + l.getD j 0 := by
  have hd : ∀ i, l.getD i 0 < 256 := fun i => by
    rw [List.getD_eq_getElem?_getD]
    rcases Nat.lt_or_ge i l.length with hi | hi
    · rw [List.getElem?_eq_getElem hi]; exact hl _ (List.getElem_mem _)
    · rw [List.getElem?_eq_none hi]; decide
  have h0 := hd 0
  have h1 := hd 1
  have h2 := hd 2
  have h3 := hd 3
  unfold num4
  rcases (show j = 0 ∨ j = 1 ∨ j = 2 ∨ j = 3 by omega) with rfl | rfl | rfl | rfl <;> simp only [Nat.reduceAdd, Nat.reducePow] <;> omega
set_option maxRecDepth 20000 in
set_option maxHeartbeats 2000000 in
theorem refNumber_any (h : Bs w v l) (hl : 4 ≤ l.length) :
    Calls Try.prog 31 #[v] w fun e w' => e = .returned (.int .u32 (num4 l : Nat)) ∧ w = w' := by
  have hby := h.byte
  have hn4 := num4_lt hby
  obtain ⟨a, cap, rfl, hB, h1, h2, h3⟩ := h
  obtain ⟨b, off, rfl, _, hc⟩ := hB (by omega)
  go_enter Try.func31, Try.ntmps31
  go_wp2
  go_loopw [3, 4] (fun t3 t4 wr => ∃ (j : Nat), j ≤ 4 ∧ t4 = .int .i64 ((j : Int) - 1) ∧ t3 = .int .u32 (num4 l / 256 ^ j : Nat) ∧ wr = w) (fun _ t4 _ => (intOf t4 + 1).toNat)
  case atStart => exact ⟨4, by omega, rfl, by rw [Nat.div_eq_of_lt (by omega)]; rfl, rfl⟩
  case round =>
    obtain ⟨j, hj, rfl, rfl, rfl⟩ := hrel
    rcases Nat.eq_zero_or_pos j with h0 | h0
    · subst h0
      rw [Nat.pow_zero, Nat.div_one]
      have hge : ¬ (0 : Int) ≤ ((0 : Nat) : Int) - 1 := by omega
      go_wp2
      all_goals
        go_ret
        exact ⟨rfl, rfl⟩
    · obtain ⟨i, rfl⟩ : ∃ i, j = i + 1 := ⟨j - 1, by omega⟩
      have hs := num4_byte hby (j := i) (by omega)
      obtain ⟨hc1, hc2⟩ := hc i (by omega)
      try dsimp only at hc1 hc2
      generalize l.getD i 0 = c at hs hc1 hc2
      have hlt : num4 l / 256 ^ i < 4294967296 := Nat.lt_of_le_of_lt (Nat.div_le_self _ _) hn4
      obtain ⟨N, hN⟩ := exHid (num4 l / 256 ^ i)
      rw [hN.out] at hs hlt
      generalize num4 l / 256 ^ (i + 1) = M at hs ⊢
      have e1 : ((i + 1 : Nat) : Int) - 1 = (i : Int) := by omega
      rw [e1]
      have hge : (0 : Int) ≤ (i : Int) := by omega
      have hil : (i : Int) < l.length := by omega
      have z1 : IntKind.u32.wrap (256 * (M : Int)) = 256 * (M : Int) := by rw [IntKind.wrap_u32]; omega
      have z2 : IntKind.u32.wrap (c : Int) = (c : Int) := by rw [IntKind.wrap_u32]; omega
      have z3 : IntKind.u32.wrap (256 * (M : Int) + (c : Int)) = 256 * (M : Int) + (c : Int) := by rw [IntKind.wrap_u32]; omega
      replace hs := Lib.hid hs
      clear hc hB hby
      go_wp2
      go_roundw
      case rel => exact ⟨i, by omega, rfl, by rw [hN.out, hs.out]; go_num, trivial⟩
      case measure => simp [intOf]

set_option maxRecDepth 20000 in
set_option maxHeartbeats 2000000 in
theorem refFrame_any (h : Bs w v l) (hl : l.length ≤ 65536) :
    Calls Try.prog 17 #[v] w fun e w' => ∃ v', e = .returned v' ∧ Buf8 w' w.heap.size v' (frameL l) ∧ Below w.heap.size w w' := by
  have hby := h.byte
  have hs := sum_lt hby
  have hs4 : sum (le 4 l.length) < 4294967296 := sum_lt (le_byte 4 l.length)
  have hl4 := le_length 4 l.length
  have hw1 : IntKind.u32.wrap (l.length : Int) = ((l.length : Nat) : Int) := by rw [IntKind.wrap_u32]; omega
  have hw2 : (l.length : Int) % 4294967296 = ((l.length : Nat) : Int) := by omega
  have hBs := Lib.hid h
  have hE : Hid (frameL l = ((le 4 l.length ++ le 4 (sum (le 4 l.length))) ++ l) ++ le 4 (sum l)) := by show frameL l = _; simp [frameL]
  have hF1 := fun W => four_any (x := l.length) (by omega) W
  have hF2 := fun W => four_any hs4 W
  have hF3 := fun W => four_any hs W
  obtain ⟨a, cap, rfl, hB, h1, h2, h3⟩ := h
  clear hB
  replace hby := Lib.hid hby
  go_enter Try.func17, Try.ntmps17
  go_wp2_with (first
    | (at_builtin; (refine wpList_append_bs (base := w.heap.size) (v := v4) (l := _) (m := _) rfl _ _ rfl rfl hB6 rfl (hB7.bs (le_byte _ _)) (by simp [le_length]; omega) hb7.size ?_; intro v6 w7 hB8 hO7 _ _; have hg7 := hO7.below hb7.size (fun k hk h' => by have := row_base hB6 k h'; omega); have hb8 := hb7.trans hg7))
    | ((with_reducible refine (hF3 _).mono ?_); rintro e w6 ⟨v5, rfl, hB7, hg6⟩; have hb7 := hb6.trans (hg6.mono hb6.size); have hB6 := hB5.below hg6)
    | (go_at_call 18; refine (refSum_any (hBs.out.below hb5)).mono ?_; rintro e w6 ⟨rfl, rfl⟩; have hb6 := hb5)
    | (at_builtin; (refine wpList_append_bs (base := w.heap.size) (v := v3) (l := _) (m := l) rfl _ _ rfl rfl hB4 rfl (hBs.out.below hb4) (by simp [le_length]; omega) hb4.size ?_; intro v4 w5 hB5 hO5 _ _; have hg5 := hO5.below hb4.size (fun k hk h' => by have := row_base hB4 k h'; omega); have hb5 := hb4.trans hg5))
    | (at_builtin; (refine wpList_append_bs (base := w.heap.size) (v := v1) (l := _) (m := _) rfl _ _ rfl rfl hB2 rfl (hB3.bs (le_byte _ _)) (by simp [le_length]) hb3.size ?_; intro v3 w4 hB4 hO4 _ _; have hg4 := hO4.below hb3.size (fun k hk h' => by have := row_base hB2 k h'; omega); have hb4 := hb3.trans hg4))
    | ((with_reducible refine (hF2 _).mono ?_); rintro e w3 ⟨v2, rfl, hB3, hg3⟩; have hb3 := hb2.trans (hg3.mono hb2.size); have hB2 := hB1.below hg3)
    | (go_at_call 18; refine (refSum_any (hB1.bs (le_byte _ _))).mono ?_; rintro e w3 ⟨rfl, rfl⟩; have hb2 := hb1)
    | ((with_reducible refine (hF1 _).mono ?_); rintro e w2 ⟨v1, rfl, hB1, hb1⟩))
  go_ret
  refine ⟨v6, rfl, ?_, hb8⟩
  rw [hE.out]
  exact hB8
end
end Go.Proofs.Ytdeloaknoadpiaa
