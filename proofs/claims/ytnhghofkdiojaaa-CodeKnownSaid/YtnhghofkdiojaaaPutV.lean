/- Contracts of code's writers: a complex number, a node. -/
import Derived.Test.YtnhghofkdiojaaaVTop
namespace Go.Proofs.Ytnhghofkdiojaaa
open Go.RowKit

section
variable {w : World} {base : Nat} {v : Value} {l : List Nat}
theorem wrap8 (x : Nat) : IntKind.u8.wrap (x : Int) = ((x % 256 : Nat) : Int) := by rw [IntKind.wrap_u8']; omega

set_option maxRecDepth 100000 in
set_option maxHeartbeats 4000000 in
theorem putPart_any (h : Buf8 w base v l) (hb : base ≤ w.heap.size) (hlen : l.length ≤ 1099511627776) (x : Nat) (hx : x < 18446744073709551616) :
    Calls Try.prog 73 #[v, .float .f64 x] w fun e w' => ∃ v', e = .returned v' ∧ Buf8 w' base v' (l ++ beL x) ∧ Only (RowOf v) w w' ∧ OwnNext w v v' := by
  obtain ⟨i0, hi, hz0, hz1, hz2⟩ := info8_parts
  have hf := f2b_any x
  replace h := Lib.hid h
  go_enter Try.func73, Try.ntmps73
  go_wp2
  go_loopw [0, 6] (fun t0 t6 wr => ∃ k : Nat, k ≤ 8 ∧ t6 = .int .i64 (56 - 8 * (k : Int)) ∧ Buf8 wr base t0 (l ++ (beL x).take k) ∧ Only (RowOf v) w wr ∧ OwnNext w v t0) (fun _ t6 _ => (intOf t6 + 8).toNat)
  case atStart => exact ⟨0, by omega, rfl, by simpa using h.out, Only.refl _ _, fun k hk => .inl hk⟩
  case round =>
    obtain ⟨k, hk, rfl, hB, hO, hN⟩ := hrel
    have hbl : base ≤ wr.heap.size := Nat.le_trans hb hO.size
    have hll : (l ++ (beL x).take k).length ≤ 1099511627784 := by
      have : ((beL x).take k).length ≤ 8 := by rw [List.length_take]; show min k 8 ≤ 8; omega
      rw [List.length_append]; omega
    rcases Nat.lt_or_ge k 8 with h8 | h8
    · obtain ⟨l', hl'⟩ : ∃ l', l ++ (beL x).take k = l' := ⟨_, rfl⟩
      obtain ⟨q, hq⟩ : ∃ q : Nat, q = x / 2 ^ (56 - 8 * k) := ⟨_, rfl⟩
      have hS : l ++ (beL x).take (k + 1) = l' ++ [q % 256] := by
        rw [← hl', List.append_assoc, hq]
        rcases (show k = 0 ∨ k = 1 ∨ k = 2 ∨ k = 3 ∨ k = 4 ∨ k = 5 ∨ k = 6 ∨ k = 7 by omega) with rfl | rfl | rfl | rfl | rfl | rfl | rfl | rfl
        · rfl
        · rfl
        · rfl
        · rfl
        · rfl
        · rfl
        · rfl
        · show l ++ _ = l ++ (_ ++ [x / 2 ^ 0 % 256])
          rw [Nat.pow_zero, Nat.div_one]; rfl
      rw [hl'] at hB hll
      obtain ⟨c, hc⟩ : ∃ c, q % 256 = c := ⟨_, rfl⟩
      have hc8 : IntKind.u8.wrap (q : Int) = (c : Int) := by rw [← hc]; exact wrap8 q
      rw [hc] at hS
      have hge : (0 : Int) ≤ 56 - 8 * (k : Int) := by omega
      have hqi : (x : Int) / 2 ^ (56 - 8 * k) = (q : Int) := by rw [hq]; simp
      have htn : (56 - 8 * (k : Int)).toNat = 56 - 8 * k := by omega
      have hown := World.ownsRow.alloc hB (.cells #[.int .u8 (c : Int)] 5)
      replace hS := Lib.hid hS
      replace hown := Lib.hid hown
      replace hO := Lib.hid hO
      replace hN := Lib.hid hN
      clear hl' hq hc
      go_wp2_with (at_builtin; (refine wpList_append_own_at _ rfl _ _ 22 rfl base 5 i0 (.int .u8 0) 1 1 Try.underlying22 hi hz0 hz1 hz2 rfl (by decide) _ l'.length (cellsN l') rfl hown.out ⟨wr.heap.size, 0, none⟩ 1 1 [.int .u8 (c : Int)] rfl rfl (cell_one_new _ _ _) one_byte (by unfold maxLen; omega) (by omega) (by simp; omega) ?_; intro v1 w1 hown1 hg1 _ hloc1))
      go_roundw
      case rel =>
        obtain ⟨q1, q2, q3⟩ := put_step hO.out hN.out hown1 rfl hg1 hloc1
        refine ⟨k + 1, by omega, by go_num, ?_, q2, q3⟩
        rw [hS.out]
        exact q1
      case measure => simp [intOf]; omega
    · have hk8 : k = 8 := by omega
      subst hk8
      replace hB := Lib.hid hB
      go_wp2
      go_ret
      exact ⟨_, rfl, hB.out, hO, hN⟩

theorem putPart_on (h : Buf8 w base v l) (hb : base ≤ w.heap.size) (hlen : l.length ≤ 1099511627776) (x : Nat) (hx : x < 18446744073709551616) :
    Calls Try.prog 73 #[v, .float .f64 x] w (PutOn base w (l ++ beL x)) :=
  (putPart_any h hb hlen x hx).mono fun _ _ ⟨v', he, hB, hO, _⟩ => ⟨v', he, hB, hO.below hb (fun k hk h' => by have := row_base h k h'; omega)⟩

set_option maxHeartbeats 1000000 in
theorem putNum_on (h : Buf8 w base v l) (hb : base ≤ w.heap.size) (hlen : l.length ≤ 1099511627000) (x y : Nat) (hx : x < 18446744073709551616) (hy : y < 18446744073709551616) :
    Calls Try.prog 57 #[v, .complex .f64 x y] w (PutOn base w (l ++ (beL x ++ beL y))) := by
  have h1 := putPart_on h hb (by omega) x hx
  have hl8 : (l ++ beL x).length ≤ 1099511627776 := by rw [List.length_append]; show l.length + 8 ≤ _; omega
  have h2 := fun (w1 : World) (v1 : Value) (hB : Buf8 w1 base v1 (l ++ beL x)) (hb1 : base ≤ w1.heap.size) => putPart_on hB hb1 hl8 y hy
  go_enter Try.func57, Try.ntmps57
  go_wp2_with (first
    | ((with_reducible refine h1.mono ?_); rintro e w1 ⟨v1, rfl, hB1, hb1⟩; have h3 := h2 _ _ hB1 (Nat.le_trans hb hb1.size))
    | ((with_reducible refine h3.mono ?_); rintro e w2 ⟨v2, rfl, hB2, hb2⟩))
  go_ret
  refine ⟨_, rfl, ?_, hb1.trans hb2⟩
  rw [← List.append_assoc]
  exact hB2
end
end Go.Proofs.Ytnhghofkdiojaaa
