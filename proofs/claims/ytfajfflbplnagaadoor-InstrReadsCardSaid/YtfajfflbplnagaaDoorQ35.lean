/- A part of the proof: JCRef. No condition. -/
import Derived.Test.YtfajfflbplnagaaDoorQ34
set_option linter.unusedVariables false
set_option linter.unusedSimpArgs false
namespace Go.Proofs.YtfajfflbplnagaaDoor
open Go.RowKit
section
variable {w : World} {L cap p : Nat} {a : Option Addr} {f : Nat → Nat}
theorem NumAt.wordr {i acc c : Nat} (h : NumAt f L p i acc) (hb : ¬ ((0 < i ∧ f (p + i) = 0) ∨ (i = 9 ∧ f (p + i) ≠ 1))) (hc : f (p + i) = c) (h256 : c < 256) :
   (c < 128 → IntKind.u64.wrap ((acc : Int) + IntKind.u64.wrap ((c : Int) % 128 * 2 ^ (7 * i))) = ((acc + f (p + i) * 2 ^ (7 * i) : Nat) : Int)) ∧
     (128 ≤ c → IntKind.u64.wrap ((acc : Int) + IntKind.u64.wrap ((c : Int) % 128 * 2 ^ (7 * i))) = ((acc + (f (p + i) - 128) * 2 ^ (7 * i) : Nat) : Int)) := by
 have hr := h.range hb;have e : (2 : Nat) ^ 64 = 18446744073709551616 := by decide
 have e3 : (2 : Nat) ^ 63 = 9223372036854775808 := by decide
 rw [e, e3, hc] at hr;have hw : IntKind.u64.wrap ((acc : Int) + IntKind.u64.wrap ((c : Int) % 128 * 2 ^ (7 * i))) = ((acc + c % 128 * 2 ^ (7 * i) : Nat) : Int) := by
   rw [show (c : Int) % 128 = ((c % 128 : Nat) : Int) by omega, wrapS hr.2.1, show (acc : Int) + ((c % 128 * 2 ^ (7 * i) : Nat) : Int) = ((acc + c % 128 * 2 ^ (7 * i) : Nat) : Int) by rw [Int.natCast_add], wrapU hr.2.2]
 rw [hw, hc];exact ⟨fun h1 => by rw [Nat.mod_eq_of_lt h1], fun h1 => by rw [show c % 128 = c - 128 by omega]⟩
theorem NumAt.waysr {i acc c : Nat} (h : NumAt f L p i acc) (hb : ¬ ((0 < i ∧ f (p + i) = 0) ∨ (i = 9 ∧ f (p + i) ≠ 1))) (hc : f (p + i) = c) :
   (¬ 0 < (i : Int) ∧ ((i : Int) == 9) = false ∧ i ≤ 8) ∨ (0 < (i : Int) ∧ ((c : Int) == 0) = false ∧ ((i : Int) == 9) = false ∧ i ≤ 8) ∨
     (0 < (i : Int) ∧ ((c : Int) == 0) = false ∧ ((i : Int) == 9) = true ∧ ((c : Int) != 1) = false ∧ c < 128) := by
 rcases h.ways hb rfl hc with ⟨k1, k2, k3⟩ | ⟨k1, k2, k3, k4⟩ | ⟨k1, k2, k3, k4, k5⟩
 · exact .inl ⟨by omega, by simp; omega, k3⟩
 · exact .inr (.inl ⟨by omega, k2, by simp; omega, k4⟩)
 · exact .inr (.inr ⟨by omega, k2, by simp at k3 ⊢; omega, k4, k5⟩)
theorem NumAt.wrongsr {i acc c : Nat} (h : NumAt f L p i acc) (hb : (0 < i ∧ f (p + i) = 0) ∨ (i = 9 ∧ f (p + i) ≠ 1)) (hc : f (p + i) = c) :
   (0 < (i : Int) ∧ ((c : Int) == 0) = true) ∨ (0 < (i : Int) ∧ ((c : Int) == 0) = false ∧ ((i : Int) == 9) = true ∧ ((c : Int) != 1) = true) := by
 rcases h.wrongs hb rfl hc with ⟨k1, k2⟩ | ⟨k1, k2, k3, k4⟩
 · exact .inl ⟨by omega, k2⟩
 · exact .inr ⟨by omega, k2, by simp at k3 ⊢; omega, k4⟩
theorem ret_three {v v' : Value} {a a' b b' : Int} (h1 : v = v') (h2 : a = a') (h3 : b = b') : Ending.returned (.tuple #[v, .int .i64 a, .int .i64 b]) = .returned (.tuple #[v', .int .i64 a', .int .i64 b']) := by rw [h1, h2, h3]
set_option maxRecDepth 100000 in
set_option maxHeartbeats 2000000 in
theorem refUint_any (h : By w a L f) (hlc : L ≤ cap) (hcm : cap ≤ 9223372036854775807) (hL : L ≤ 20000) (hp : p ≤ L) :
   Calls Tryd.prog 11 #[.slice a L cap, .int .i64 p] w fun e w' => e = .returned (.tuple #[.int .u64 ((numR f L p).v : Nat), .int .i64 ((numR f L p).to : Nat), .int .i64 ((numR f L p).code : Nat)]) ∧ w = w' := by
 replace h := Lib.hid h;go_enter Tryd.func11, Tryd.ntmps11
 go_wp2
 go_loopw [7, 8] (fun n s wr => ∃ (i acc : Nat), NumAt f L p i acc ∧ n = .int .u64 acc ∧ s = .int .i64 i ∧ w = wr) (fun _ s _ => 10 - (intOf s).toNat)
 case atStart => exact ⟨0, 0, NumAt.start f L p, rfl, rfl, rfl⟩
 case round =>
   obtain ⟨i, acc, hN, rfl, rfl, rfl⟩ := hrel;have hi := hN.1;have hi10 : (i : Int) < 10 := by omega
   by_cases hlt : p + i < L
   · obtain ⟨b, off, rfl, hb, hcell⟩ := h.out (by omega)
     have hcp := (hcell (p + i) hlt).1;have h256 := (hcell (p + i) hlt).2;clear hcell;obtain ⟨c, hc⟩ := exHid (f (p + i));rw [hc.out] at hcp h256;have hge : ¬ (L : Int) ≤ (p : Int) + i := by omega
     by_cases hsh : (0 < i ∧ f (p + i) = 0) ∨ (i = 9 ∧ f (p + i) ≠ 1)
     · have HS := Lib.hid (hN.shape hlt hsh)
       have hw := hN.wrongsr hsh hc.out;clear hN hsh;rcases hw with ⟨k1, k2⟩ | ⟨k1, k2, k3, k4⟩
       all_goals
         go_wp2
         go_ret3
         refine ⟨ret_three ?_ ?_ ?_, rfl⟩
         · rw [HS.out]; rfl
         · rw [HS.out]; rfl
         · rw [HS.out]; rfl
     · have hw := hN.waysr hsh hc.out
       have HW := Lib.hid (hN.wordr hsh hc.out h256);have HL := Lib.hid (hN.last hlt hsh);have HM := Lib.hid (hN.next hlt hsh);clear hN hsh;rcases hw with ⟨k1, k2, k3⟩ | ⟨k1, k2, k3, k4⟩ | ⟨k1, k2, k3, k4, k5⟩
       case inr.inr =>
         go_wp2
         go_ret3
         have HE := HL.out (by rw [hc.out]; exact k5);refine ⟨ret_three ?_ ?_ ?_, rfl⟩
         · rw [HE]; show Value.int _ _ = Value.int _ _; rw [HW.out.1 k5]
         · rw [HE]; show (p : Int) + i + 1 = ((p + i + 1 : Nat) : Int); omega
         · rw [HE]; rfl
       all_goals
         rcases Nat.lt_or_ge c 128 with h128 | h128
         · go_wp2
           go_ret3
           have HE := HL.out (by rw [hc.out]; exact h128);refine ⟨ret_three ?_ ?_ ?_, rfl⟩
           · rw [HE]; show Value.int _ _ = Value.int _ _; rw [HW.out.1 h128]
           · rw [HE]; show (p : Int) + i + 1 = ((p + i + 1 : Nat) : Int); omega
           · rw [HE]; rfl
         · go_wp2
           go_roundw
           case rel => exact ⟨i + 1, _, HM.out (by rw [hc.out]; omega) (by rw [hc.out]; exact h256), by rw [HW.out.2 h128], by go_num, by trivial⟩
           case measure => simp [intOf]; omega
   · have HS := Lib.hid (hN.short (by omega))
     have hge : (L : Int) ≤ (p : Int) + i := by omega
     clear hN;go_wp2
     go_ret3
     refine ⟨ret_three ?_ ?_ ?_, rfl⟩
     · rw [HS.out]; rfl
     · rw [HS.out]
     · rw [HS.out]; rfl
theorem numR_zero (hp : p ≤ L) (hf : ∀ j, p ≤ j → j < L → f j < 256) (hc : (numR f L p).code ≠ 0) : (numR f L p).v = 0 := by
 rcases (numR_range hp hf).2.2 with h | h | h
 · exact absurd h.1 hc
 · exact h.2.2
 · exact h.2.2
theorem By.lt (h : By w a L f) : ∀ j, j < L → f j < 256 := fun j hj => by obtain ⟨b, off, _, _, hc⟩ := h (by omega); exact (hc j hj).2
set_option maxHeartbeats 1000000 in
theorem refInt_any5 (h : By w a L f) (hlc : L ≤ cap) (hcm : cap ≤ 9223372036854775807) (hL : L ≤ 20000) (hp : p ≤ L) :
   Calls Tryd.prog 21 #[.slice a L cap, .int .i64 p] w fun e w' => e = .returned (.tuple #[.int .i64 (unfN (numR f L p).v), .int .i64 ((numR f L p).to : Nat), .int .i64 ((numR f L p).code : Nat)]) ∧ w = w' := by
 have hN := refUint_any h hlc hcm hL hp;have hr := numR_range hp (fun j _ hj => h.lt j hj);have hz := numR_zero hp (fun j _ hj => h.lt j hj);generalize numR f L p = r at hN hr hz ⊢;have hv := hr.1;have ht : r.to ≤ 20000 := by have := hr.2.1; omega
 have hcd : r.code ≤ 4 := by rcases hr.2.2 with h | h | h <;> omega
 clear hr h;rcases Nat.eq_zero_or_pos r.code with hc | hc
 · have hc' : ((r.code : Int) != 0) = false := by simp; omega
   replace hc := Lib.hid hc;replace hz := Lib.hid hz;rcases Nat.mod_two_eq_zero_or_one r.v with h2 | h2
   · have hm : ((r.v : Int) % 2 == 1) = false := by simp; omega
     have E : Hid (unfN r.v = ((r.v / 2 : Nat) : Int)) := by show unfN r.v = _; unfold unfN; rw [if_neg (by omega)]
     replace h2 := Lib.hid h2;go_enter Tryd.func21, Tryd.ntmps21
     go_wp2_with ((with_reducible refine hN.mono ?_); rintro e w' ⟨rfl, rfl⟩)
     go_ret3
     refine ⟨ret_three ?_ rfl rfl, rfl⟩;rw [E.out];show Value.int _ _ = Value.int _ _
     congr 1
   · have hm : ((r.v : Int) % 2 == 1) = true := by simp; omega
     have E : Hid (unfN r.v = -((r.v / 2 : Nat) : Int) - 1) := by show unfN r.v = _; unfold unfN; rw [if_pos h2]
     replace h2 := Lib.hid h2;go_enter Tryd.func21, Tryd.ntmps21
     go_wp2_with ((with_reducible refine hN.mono ?_); rintro e w' ⟨rfl, rfl⟩)
     go_ret3
     refine ⟨ret_three ?_ rfl rfl, rfl⟩;rw [E.out];show Value.int _ _ = Value.int _ _
     congr 1
 · have hc' : ((r.code : Int) != 0) = true := by simp; omega
   have hz' : Hid (unfN r.v = 0) := by show unfN r.v = 0; rw [hz (by omega)]; rfl
   clear hz;replace hc := Lib.hid hc;go_enter Tryd.func21, Tryd.ntmps21
   go_wp2_with ((with_reducible refine hN.mono ?_); rintro e w' ⟨rfl, rfl⟩)
   go_ret3
   refine ⟨ret_three ?_ rfl rfl, rfl⟩;rw [hz'.out];rfl
def textV (f : Nat → Nat) (L : Nat) (r : Rn) : Value := if textCode L r = 0 then .string (textB f r.to r.v) else .string ⟨#[]⟩
theorem By.string {b off n c : Nat} (h : ∀ j, j < L → w.cell? ⟨b, off + j, none⟩ = some (.int .u8 (f j)) ∧ f j < 256) (hn : p + n ≤ L) :
   (convert 22 9 (.slice (some ⟨b, off + p, none⟩) n c)).run Tryd.prog w = .ok (.string (textB f p n)) w :=
 bytes_string w (fun j hj => ⟨by rw [show off + p + j = off + (p + j) by omega]; exact (h (p + j) (by omega)).1, (h (p + j) (by omega)).2⟩)
set_option maxRecDepth 100000 in
set_option maxHeartbeats 1000000 in
theorem refText_any5 (h : By w a L f) (hlc : L ≤ cap) (hcm : cap ≤ 9223372036854775807) (hnl : a = none → cap = 0) (hL : L ≤ 20000) (hp : p ≤ L) :
   Calls Tryd.prog 22 #[.slice a L cap, .int .i64 p] w fun e w' => e = .returned (.tuple #[textV f L (numR f L p), .int .i64 (textTo L (numR f L p) : Nat), .int .i64 (textCode L (numR f L p) : Nat)]) ∧ w = w' := by
 have hN := refUint_any h hlc hcm hL hp;have hr := numR_range hp (fun j _ hj => h.lt j hj);generalize numR f L p = r at hN hr ⊢;have ht := hr.2.1;have hv := hr.1;clear hr;rcases Nat.eq_zero_or_pos r.code with hc | hc
 · have hc' : ((r.code : Int) != 0) = false := by simp; omega
   by_cases hlt : L - r.to < r.v
   · have E : Hid (textV f L r = .string ⟨#[]⟩ ∧ textTo L r = L ∧ textCode L r = 4) := by
       have e2 : textCode L r = 4 := by unfold textCode; rw [if_pos hc, if_pos hlt]
       exact ⟨by unfold textV; rw [e2]; rfl, by unfold textTo; rw [if_pos hc, if_pos hlt], e2⟩
     have hgt : ((L : Int) - (r.to : Int)) < (r.v : Int) := by omega
     have hgt2 : (((L - r.to : Nat)) : Int) < (r.v : Int) := by omega
     clear h;replace hc := Lib.hid hc;go_enter Tryd.func22, Tryd.ntmps22
     go_wp2_with ((with_reducible refine hN.mono ?_); rintro e w' ⟨rfl, rfl⟩)
     go_ret3
     refine ⟨ret_three ?_ ?_ ?_, rfl⟩
     · first | (rw [E.out.1]; rfl) | rw [E.out.1]
     · rw [E.out.2.1]
     · first | rw [E.out.2.2, hc0.out] | (rw [E.out.2.2]; done) | (rw [E.out.2.2]; rfl)
   · have E : Hid (textV f L r = .string (textB f r.to r.v) ∧ textTo L r = r.to + r.v ∧ textCode L r = 0) := by
       have e2 : textCode L r = 0 := by unfold textCode; rw [if_pos hc, if_neg hlt]
       exact ⟨by unfold textV; rw [e2]; rfl, by unfold textTo; rw [if_pos hc, if_neg hlt], e2⟩
     have hgt : ¬ ((L : Int) - (r.to : Int)) < (r.v : Int) := by omega
     have hgt2 : ¬ (((L - r.to : Nat)) : Int) < (r.v : Int) := by omega
     have hsum : r.to + r.v ≤ L := by omega
     replace hc0 := Lib.hid hc;clear hc;have hz : Hid (∀ q, r.v = 0 → textB f q r.v = ⟨#[]⟩) := fun q e => by rw [e]; rfl
     rcases Nat.eq_zero_or_pos L with h0 | h0
     · subst h0
       have t0 : r.to = 0 := by omega
       have v0 : r.v = 0 := by omega
       rw [t0, v0] at hN E;rcases ha : a with _ | q
       · subst ha
         have hn0 := hnl rfl;subst hn0;have hstr := nil_string;go_enter Tryd.func22, Tryd.ntmps22
         go_wp2_with ((with_reducible refine hN.mono ?_); rintro e w' ⟨rfl, rfl⟩)
         all_goals
           go_ret3
           refine ⟨ret_three ?_ ?_ ?_, rfl⟩
           · first | (rw [E.out.1]; rfl) | rw [E.out.1] | (rw [E.out.1, hz.out]; rfl)
           · first | (rw [E.out.2.1]; rfl) | (rw [E.out.2.1]; omega) | rw [E.out.2.1]
           · first | rw [E.out.2.2, hc0.out] | (rw [E.out.2.2]; done) | (rw [E.out.2.2]; rfl)
       · subst ha
         have hstr := empty_string;go_enter Tryd.func22, Tryd.ntmps22
         go_wp2_with ((with_reducible refine hN.mono ?_); rintro e w' ⟨rfl, rfl⟩)
         all_goals
           go_ret3
           refine ⟨ret_three ?_ ?_ ?_, rfl⟩
           · first | (rw [E.out.1]; rfl) | rw [E.out.1] | (rw [E.out.1, hz.out]; rfl)
           · first | (rw [E.out.2.1]; rfl) | (rw [E.out.2.1]; omega) | rw [E.out.2.1]
           · first | rw [E.out.2.2, hc0.out] | (rw [E.out.2.2]; done) | (rw [E.out.2.2]; rfl)
     · obtain ⟨b, off, rfl, hb, hcell⟩ := h h0
       by_cases hpc : r.to = cap
       · have v0 : r.v = 0 := by omega
         obtain rfl : L = cap := by omega
         rw [v0, hpc] at hN E;have hstr := empty_string;clear hcell;go_enter Tryd.func22, Tryd.ntmps22
         go_wp2_with ((with_reducible refine hN.mono ?_); rintro e w' ⟨rfl, rfl⟩)
         all_goals
           go_ret3
           refine ⟨ret_three ?_ ?_ ?_, rfl⟩
           · first | (rw [E.out.1]; rfl) | rw [E.out.1] | (rw [E.out.1, hz.out]; rfl)
           · first | (rw [E.out.2.1]; rfl) | (rw [E.out.2.1]; omega) | rw [E.out.2.1]
           · first | rw [E.out.2.2, hc0.out] | (rw [E.out.2.2]; done) | (rw [E.out.2.2]; rfl)
       · have hstr := fun c => By.string (p := r.to) (n := r.v) (c := c) hcell hsum
         have hpc' : r.to < cap := by omega
         have hsi : (r.to : Int) + (r.v : Int) ≤ L := by omega
         clear hcell;go_enter Tryd.func22, Tryd.ntmps22
         go_wp2_with ((with_reducible refine hN.mono ?_); rintro e w' ⟨rfl, rfl⟩)
         all_goals
           go_ret3
           refine ⟨ret_three ?_ ?_ ?_, rfl⟩
           · first | (rw [E.out.1]; rfl) | rw [E.out.1] | (rw [E.out.1, hz.out]; rfl)
           · first | (rw [E.out.2.1]; rfl) | (rw [E.out.2.1]; omega) | rw [E.out.2.1]
           · first | rw [E.out.2.2, hc0.out] | (rw [E.out.2.2]; done) | (rw [E.out.2.2]; rfl)
 · have hc' : ((r.code : Int) != 0) = true := by simp; omega
   have E : Hid (textV f L r = .string ⟨#[]⟩ ∧ textTo L r = r.to ∧ textCode L r = r.code) := by
     have e2 : textCode L r = r.code := by unfold textCode; rw [if_neg (by omega)]
     exact ⟨by unfold textV; rw [e2, if_neg (by omega)], by unfold textTo; rw [if_neg (by omega)], e2⟩
   clear h;replace hc := Lib.hid hc;go_enter Tryd.func22, Tryd.ntmps22
   go_wp2_with ((with_reducible refine hN.mono ?_); rintro e w' ⟨rfl, rfl⟩)
   go_ret3
   refine ⟨ret_three ?_ ?_ ?_, rfl⟩
   · first | (rw [E.out.1]; rfl) | rw [E.out.1]
   · rw [E.out.2.1]
   · first | rw [E.out.2.2, hc0.out] | (rw [E.out.2.2]; done) | (rw [E.out.2.2]; rfl)
end
end Go.Proofs.YtfajfflbplnagaaDoor
