/- Contracts of code's reader: a whole number, a text, a complex number. -/
import Derived.Test.YtnhghofkdiojaaaFace
import Derived.Test.YtnhghofkdiojaaaCSpec
import Derived.Test.YtnhghofkdiojaaaFine
import Derived.Laws.DeepNot64
import Derived.Laws.IdiomStrings
import Derived.Lib.BufferRead
namespace Go.Proofs.Ytnhghofkdiojaaa
open Go.RowKit

section
variable {w : World} {R L cap p : Nat} {a : Option Addr} {f : Nat → Nat}
theorem TookN.took {V : Nat → Value} {r : Rn} {e : Ending} {w' : World} (h : TookN V r w R a L cap f e w') : Took (fun v _ => v = V r.v) r.to r.code w R a L cap f e w' := by
  refine ⟨h.1, ?_⟩
  rcases h.2 with ⟨h1, h2, h3⟩ | h1
  · exact .inl ⟨h1, ⟨_, h2, rfl⟩, h3⟩
  · exact .inr h1
theorem number_took (h : Rd w R a L cap f p) :
    Calls Try.prog 32 #[.pointer (some ⟨R, 0, none⟩)] w (Took (fun v _ => v = .int .u64 ((numR f L p).v : Nat)) (numR f L p).to (numR f L p).code w R a L cap f) :=
  (number_any h).mono fun _ _ h => h.took

set_option maxHeartbeats 400000 in
theorem unfold_any (u : Nat) (hu : u < 18446744073709551616) (w : World) :
    Calls Try.prog 59 #[.int .u64 u] w fun e w' => e = .returned (.int .i64 (unfN u)) ∧ w = w' := by
  have e1 : bits .and .u64 (u : Int) 1 = ((u % 2 : Nat) : Int) := by
    have e := u64_and_nat u 1 hu (by omega)
    rw [show (((1 : Nat)) : Int) = 1 by rfl] at e
    rw [e, nat_mask1]
  rcases Nat.mod_two_eq_zero_or_one u with h | h
  · replace e1 : bits .and .u64 (u : Int) 1 = 0 := by rw [e1, h]; rfl
    have E : Hid (unfN u = ((u / 2 : Nat) : Int)) := by show unfN u = _; unfold unfN; rw [if_neg (by omega)]
    clear h
    go_enter Try.func59, Try.ntmps59
    go_wp2
    go_ret
    refine ⟨ret_int ?_, rfl⟩
    rw [E.out]
    omega
  · replace e1 : bits .and .u64 (u : Int) 1 = 1 := by rw [e1, h]; rfl
    have E : Hid (unfN u = -((u / 2 : Nat) : Int) - 1) := by show unfN u = _; unfold unfN; rw [if_pos h]
    have hx : Hid (bits .xor .i64 (-1) ((u : Int) / 2) = -1 - (u : Int) / 2) := by
      have := i64_not (u / 2) (by omega)
      show bits .xor .i64 (-1) ((u : Int) / 2) = -1 - (u : Int) / 2
      rw [show (u : Int) / 2 = ((u / 2 : Nat) : Int) by omega]
      exact this
    have hsg : IntKind.i64.signed = true := rfl
    clear h
    go_enter Try.func59, Try.ntmps59
    go_wp2
    go_ret
    refine ⟨ret_int ?_, rfl⟩
    rw [E.out]
    refine hx.out.trans ?_
    omega

set_option maxHeartbeats 400000 in
theorem whole_took (h : Rd w R a L cap f p) (hr : (numR f L p).v < 18446744073709551616) :
    Calls Try.prog 40 #[.pointer (some ⟨R, 0, none⟩)] w (Took (fun v _ => v = .int .i64 (unfN (numR f L p).v)) (numR f L p).to (numR f L p).code w R a L cap f) := by
  have hN := number_took h
  generalize numR f L p = r at hN hr ⊢
  rcases Nat.eq_zero_or_pos r.code with hc | hc
  · have hok := hN.mono fun e w' h => Took.ok h hc
    have hu := unfold_any r.v hr
    replace hc := Lib.hid hc
    clear hN h
    go_enter Try.func40, Try.ntmps40
    go_wp2_with (first
      | ((with_reducible refine hok.mono ?_); rintro e w' ⟨v, rfl, rfl, hr', hO⟩; replace hr' := Lib.hid hr')
      | ((with_reducible refine (hu _).mono ?_); rintro e w' ⟨rfl, rfl⟩))
    go_ret
    exact ⟨hO, .inl ⟨hc.out, ⟨_, rfl, rfl⟩, hr'.out⟩⟩
  · have hbad := hN.mono fun e w' h => Took.bad h (by omega)
    have hc' : Hid (r.code ≠ 0) := by show r.code ≠ 0; omega
    clear hN h hc
    go_enter Try.func40, Try.ntmps40
    go_wp2_with (first
      | ((with_reducible refine hbad.mono ?_); rintro e w' ⟨rfl, hO⟩))
    exact ⟨rfl, hO, .inr ⟨hc'.out, rfl⟩⟩

set_option maxHeartbeats 1000000 in
theorem part_any (h : Rd w R a L cap f p) (hp : p + 8 ≤ L) :
    Calls Try.prog 63 #[.pointer (some ⟨R, 0, none⟩)] w fun e w' => e = .returned (.float .f64 (be f p 8)) ∧ Rd w' R a L cap f (p + 8) ∧ Only (fun k => k = R) w w' := by
  have hf : ∀ j, j < L → f j < 256 := fun j hj => by obtain ⟨b, off, _, _, hc⟩ := h.by_ (by omega); exact (hc j hj).2
  have hg := b2f_any
  replace h := Lib.hid h
  replace hf := Lib.hid hf
  go_enter Try.func63, Try.ntmps63
  go_wp2
  go_loopw [3, 4] (fun n i wr => ∃ k : Nat, k ≤ 8 ∧ i = .int .i64 k ∧ n = .int .u64 ((be f p k : Nat) : Int) ∧ Rd wr R a L cap f (p + k) ∧ Only (fun k => k = R) w wr) (fun _ i _ => 8 - (intOf i).toNat)
  case atStart => exact ⟨0, by omega, rfl, rfl, h.out, Only.refl _ _⟩
  case round =>
    obtain ⟨k, hk, rfl, rfl, hR, hO⟩ := hrel
    replace hO := Lib.hid hO
    by_cases hk8 : k < 8
    · have hN3 := next_some hR (by omega)
      have hb7 := be_lt7 (f := f) (p := p) (k := k) (by omega) (fun j hj => hf.out _ (by omega))
      obtain ⟨n, hn⟩ := exHid (be f p k)
      obtain ⟨c, hc⟩ := exHid (f (p + k))
      have hS : Hid (be f p (k + 1) = n * 256 + c) := by show be f p (k + 1) = _; rw [← hn.out, ← hc.out]; rfl
      rw [hc.out] at hN3
      rw [hn.out] at hb7 ⊢
      have hki : (k : Int) < 8 := by omega
      have hj : Hid (c < 256 → bits .or .u64 (IntKind.u64.wrap ((n : Int) * 256)) (c : Int) = ((n * 256 + c : Nat) : Int)) := by
        show c < 256 → _
        intro hc'
        have e1 : IntKind.u64.wrap ((n : Int) * 256) = ((n * 256 : Nat) : Int) := by rw [IntKind.wrap_u64]; omega
        rw [e1, u64_or_nat _ _ (by omega) (by omega), nat_join 8 _ _ (by omega) (by omega)]
      replace hb7 := Lib.hid hb7
      go_wp2_with (first
        | ((with_reducible refine hN3.mono ?_); rintro e w' ⟨rfl, hc256, hR', hO'⟩))
      go_roundw
      case rel =>
        refine ⟨k + 1, by omega, by go_num, ?_, hR', hO.out.then hO'⟩
        rw [hS.out, ← hj.out hc256]
      case measure => simp [intOf]; omega
    · obtain rfl : k = 8 := by omega
      obtain ⟨n, hn⟩ := exHid (be f p 8)
      rw [hn.out]
      go_wp2
      go_ret
      exact ⟨by rw [hn.out]; rfl, hR, hO.out⟩

set_option maxHeartbeats 1000000 in
theorem part_short (h : Rd w R a L cap f p) (hp : L < p + 8) :
    Calls Try.prog 63 #[.pointer (some ⟨R, 0, none⟩)] w fun e w' => e = .panicked [{ v := .iface 87 (.agg #[.int .i64 4, .int .i64 L]), recovered := false }] ∧ Only (fun k => k = R) w w' := by
  have hpL := h.le
  replace h := Lib.hid h
  go_enter Try.func63, Try.ntmps63
  go_wp2
  go_loopw [3, 4] (fun n i wr => ∃ (k : Nat) (z : Int), p + k ≤ L ∧ i = .int .i64 k ∧ n = .int .u64 z ∧ Rd wr R a L cap f (p + k) ∧ Only (fun k => k = R) w wr) (fun _ i _ => 8 - (intOf i).toNat)
  case atStart => exact ⟨0, 0, by omega, rfl, rfl, h.out, Only.refl _ _⟩
  case round =>
    obtain ⟨k, z, hk, rfl, rfl, hR, hO⟩ := hrel
    replace hO := Lib.hid hO
    have hki : (k : Int) < 8 := by omega
    have hkn : k < 8 := by omega
    by_cases hkl : p + k < L
    · have hN3 := next_some hR hkl
      obtain ⟨c, hc⟩ := exHid (f (p + k))
      rw [hc.out] at hN3
      go_wp2_with (first
        | ((with_reducible refine hN3.mono ?_); rintro e w' ⟨rfl, hc256, hR', hO'⟩))
      go_roundw
      case rel => exact ⟨k + 1, _, by omega, by go_num, rfl, hR', hO.out.then hO'⟩
      case measure => simp [intOf]; omega
    · have hpe : L = p + k := by omega
      have hN3 := next_end hR hpe
      unfold Gave faultV at hN3
      rw [← hpe] at hN3
      replace hpe := Lib.hid hpe
      go_wp2_with (first
        | ((with_reducible refine hN3.mono ?_); rintro e w' ⟨rfl, hO'⟩))
      exact ⟨rfl, rfl, hO.out.then hO'⟩

set_option maxHeartbeats 1000000 in
theorem num_took (h : Rd w R a L cap f p) :
    Calls Try.prog 44 #[.pointer (some ⟨R, 0, none⟩)] w (Took (fun v _ => v = .complex .f64 (be f p 8) (be f (p + 8) 8)) (numTo L p (fineB (be f p 8) (be f (p + 8) 8))) (numCode L p (fineB (be f p 8) (be f (p + 8) 8))) w R a L cap f) := by
  have hf : ∀ j, j < L → f j < 256 := fun j hj => by obtain ⟨b, off, _, _, hc⟩ := h.by_ (by omega); exact (hc j hj).2
  have hpL := h.le
  have c1 := h.c1
  by_cases h1 : L < p + 8
  · have hN := part_short h h1
    have E : Hid (numTo L p (fineB (be f p 8) (be f (p + 8) 8)) = L ∧ numCode L p (fineB (be f p 8) (be f (p + 8) 8)) = 4) := ⟨by unfold numTo; rw [if_pos (by omega)], by unfold numCode; rw [if_pos (by omega)]⟩
    clear h hf
    go_enter Try.func44, Try.ntmps44
    go_wp2_with (first
      | ((with_reducible refine hN.mono ?_); rintro e w' ⟨rfl, hO⟩))
    refine ⟨rfl, hO, .inr ?_⟩
    rw [E.out.1, E.out.2]
    exact ⟨by decide, rfl⟩
  · have hN := part_any h (by omega)
    by_cases h2 : L < p + 16
    · have E : Hid (numTo L p (fineB (be f p 8) (be f (p + 8) 8)) = L ∧ numCode L p (fineB (be f p 8) (be f (p + 8) 8)) = 4) := ⟨by unfold numTo; rw [if_pos h2], by unfold numCode; rw [if_pos h2]⟩
      clear h hf
      obtain ⟨x, hx⟩ := exHid (be f p 8)
      rw [hx.out] at hN
      go_enter Try.func44, Try.ntmps44
      go_wp2_with (first
        | ((with_reducible refine hN.mono ?_); rintro e w' ⟨rfl, hR', hO⟩; have hN2 := part_short hR' (by omega); replace hR' := Lib.hid hR')
        | ((with_reducible refine hN2.mono ?_); rintro e w' ⟨rfl, hO2⟩))
      refine ⟨rfl, hO.then hO2, .inr ?_⟩
      rw [E.out.1, E.out.2]
      exact ⟨by decide, rfl⟩
    · have l1 := be_lt8 (f := f) (p := p) (k := 8) (by omega) (fun j hj => hf _ (by omega))
      have l2 := be_lt8 (f := f) (p := p + 8) (k := 8) (by omega) (fun j hj => hf _ (by omega))
      have hF := Fine_full l1 l2
      have hN2 := fun w2 (h2 : Rd w2 R a L cap f (p + 8)) => part_any h2 (by omega)
      obtain ⟨x, hx⟩ := exHid (be f p 8)
      obtain ⟨y, hy⟩ := exHid (be f (p + 8) 8)
      rw [hx.out] at hN hF
      rw [hy.out] at hF hN2
      rw [hx.out, hy.out]
      have hN2' : ∀ w2, Rd w2 R a L cap f (p + 8) → Calls Try.prog 63 #[.pointer (some ⟨R, 0, none⟩)] w2 fun e w' => e = .returned (.float .f64 y) ∧ Rd w' R a L cap f (p + 16) ∧ Only (fun k => k = R) w2 w' := hN2
      clear hN2
      have E1 : Hid (∀ b, numTo L p b = if b then p + 16 else p) := fun b => by unfold numTo; rw [if_neg h2]
      have E2 : Hid (∀ b, numCode L p b = if b then 0 else 20) := fun b => by unfold numCode; rw [if_neg h2]
      have hp64 : (p : Int) ≤ 9223372036854775807 := by have := h.lc; have := h.cm; omega
      generalize fineB x y = b at hF ⊢
      clear h hf l1 l2 h1 h2
      cases b
      · go_enter Try.func44, Try.ntmps44
        go_wp2_with (first
          | ((with_reducible refine hN.mono ?_); rintro e w' ⟨rfl, hR', hO⟩; have hN2 := hN2' _ hR'; replace hR' := Lib.hid hR')
          | ((with_reducible refine hN2.mono ?_); rintro e w' ⟨rfl, hR2, hO2⟩; replace hR2 := Lib.hid hR2)
          | ((with_reducible refine (hF _).mono ?_); rintro e w' ⟨rfl, rfl⟩)
          | ((with_reducible refine (giveUp_any _ _ _).mono ?_); rintro e w' ⟨rfl, rfl⟩))
        refine ⟨rfl, hO.then hO2, .inr ?_⟩
        rw [E1.out, E2.out]
        exact ⟨by decide, rfl⟩
      · go_enter Try.func44, Try.ntmps44
        go_wp2_with (first
          | ((with_reducible refine hN.mono ?_); rintro e w' ⟨rfl, hR', hO⟩; have hN2 := hN2' _ hR'; replace hR' := Lib.hid hR')
          | ((with_reducible refine hN2.mono ?_); rintro e w' ⟨rfl, hR2, hO2⟩; replace hR2 := Lib.hid hR2)
          | ((with_reducible refine (hF _).mono ?_); rintro e w' ⟨rfl, rfl⟩))
        go_ret
        refine ⟨hO.then hO2, .inl ?_⟩
        rw [E1.out, E2.out]
        exact ⟨rfl, ⟨_, rfl, rfl⟩, hR2.out⟩
end
end Go.Proofs.Ytnhghofkdiojaaa
