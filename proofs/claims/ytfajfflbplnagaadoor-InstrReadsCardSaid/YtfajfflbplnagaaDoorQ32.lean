/- A part of the proof: Rd. No condition. -/
import Derived.Test.YtfajfflbplnagaaDoorRows
import Derived.WalkKit
import Derived.WalkSpells
import Derived.WalkLawsBesides
import Derived.Handy
import Derived.Lib.Hide
import Derived.Laws.BitsAllLaws
import Derived.LoopTactic
import Derived.Deep.QuietTactic
import Derived.BigQuiet
import Derived.RegionTactic
import Derived.Test.YtfajfflbplnagaaDoorQ02
import Derived.Test.YtfajfflbplnagaaDoorQ03
import Derived.Test.YtfajfflbplnagaaDoorQ31
set_option linter.unusedVariables false
set_option linter.unusedSimpArgs false
namespace Go.Proofs.YtfajfflbplnagaaDoor
open Go.RowKit
def By (w : World) (a : Option Addr) (L : Nat) (f : Nat → Nat) : Prop :=
 0 < L → ∃ b off, a = some ⟨b, off, none⟩ ∧ b < w.heap.size ∧ ∀ j, j < L → w.cell? ⟨b, off + j, none⟩ = some (.int .u8 (f j)) ∧ f j < 256
theorem By.kept {w w' : World} {a : Option Addr} {L : Nat} {f : Nat → Nat} (h : By w a L f) {F : Nat → Prop} (ho : Only F w w') (hF : ∀ p, a = some p → 0 < L → ¬ F p.block) : By w' a L f := by
 intro h0;obtain ⟨b, off, rfl, hb, hc⟩ := h h0;exact ⟨b, off, rfl, Nat.lt_of_lt_of_le hb ho.size, fun j hj => ⟨(ho.cell (p := ⟨b, off + j, none⟩) hb (hF (⟨b, off, none⟩ : Addr) rfl h0)).trans (hc j hj).1, (hc j hj).2⟩⟩
structure Rd (w : World) (R : Nat) (a : Option Addr) (L cap : Nat) (f : Nat → Nat) (p : Nat) : Prop where
 st : w.heap[R]? = some (.cells #[.slice a L cap, .int .i64 p] 98 (0, 0))
 by_ : By w a L f
 ne : ∀ q, a = some q → 0 < L → q.block ≠ R
 le : p ≤ L
 lc : L ≤ cap
 cm : cap ≤ 9223372036854775807
 nl : a = none → cap = 0
section
variable {w : World} {R L cap p : Nat} {a : Option Addr} {f : Nat → Nat}
theorem Rd.c0 (h : Rd w R a L cap f p) : w.cell? ⟨R, 0, none⟩ = some (.slice a L cap) := by simp [World.cell?, h.st]
theorem Rd.c1 (h : Rd w R a L cap f p) : w.cell? ⟨R, 1, none⟩ = some (.int .i64 p) := by simp [World.cell?, h.st]
theorem Rd.fz (h : Rd w R a L cap f p) (j : Nat) : w.frozen? ⟨R, j, none⟩ = false := by simp [World.frozen?, h.st]
theorem Rd.drewN (h : Rd w R a L cap f p) (n : Nat) : Rd (w.drewN n) R a L cap f p := ⟨h.st, h.by_, h.ne, h.le, h.lc, h.cm, h.nl⟩
theorem Rd.moved (h : Rd w R a L cap f p) {q : Nat} (hq : q ≤ L) : Rd (w.setCell ⟨R, 1, none⟩ (.int .i64 q)) R a L cap f q := by
 have ho : Only (fun k => k = R) w (w.setCell ⟨R, 1, none⟩ (.int .i64 q)) := (Only.refl (fun k => k = R) w).setCell (p := ⟨R, 1, none⟩) (.inl rfl) _;refine ⟨?_, h.by_.kept ho (fun q hq h0 => h.ne q hq h0), h.ne, hq, h.lc, h.cm, h.nl⟩;have := heap_setCell_same w R 1 _ _ (.int .i64 q) h.st
 simpa using this
end
theorem only_drewN {F : Nat → Prop} {w w' : World} {n : Nat} (h : Only F (w.drewN n) w') : Only F w w' := ⟨h.os, h.tape, h.output, h.size, h.block⟩
def faultV (c p : Nat) : Value := .iface 96 (.agg #[.int .i64 c, .int .i64 p])
def Gave (c p : Nat) (e : Ending) : Prop := e = .panicked [{ v := faultV c p, recovered := false }]
set_option maxHeartbeats 400000 in
theorem giveUp_any (c p : Int) (w : World) :
   Calls Tryd.prog 53 #[.int .i64 c, .int .i64 p] w fun e w' => e = .panicked [{ v := .iface 96 (.agg #[.int .i64 c, .int .i64 p]), recovered := false }] ∧ w = w' := by
 go_enter Tryd.func53, Tryd.ntmps53
 go_wp2
 exact ⟨rfl, rfl, rfl⟩
section
variable {w : World} {R L cap p : Nat} {a : Option Addr} {f : Nat → Nat}
set_option maxHeartbeats 400000 in
theorem next_end (h : Rd w R a L cap f p) (hp : L = p) :
   Calls Tryd.prog 52 #[.pointer (some ⟨R, 0, none⟩)] w fun e w' => Gave 4 p e ∧ Only (fun k => k = R) w w' := by
 subst hp;have c0 := h.c0;have c1 := h.c1;have lc := h.lc;have cm := h.cm;clear h;go_enter Tryd.func52, Tryd.ntmps52
 go_wp2
 go_quiet (fail)
 have c1' : (w.drewN nq).cell? ⟨R, 1, none⟩ = some (.int .i64 L) := c1;have ho : Only (fun k => k = R) w (w.drewN nq) := only_drewN (Only.refl _ _);generalize w.drewN nq = wq at c1' ho ⊢;go_wp2_with ((with_reducible refine (giveUp_any _ _ _).mono ?_); rintro e w' ⟨rfl, rfl⟩)
 exact ⟨rfl, rfl, ho⟩
theorem wrap64_id {x : Int} (h1 : -9223372036854775808 ≤ x) (h2 : x ≤ 9223372036854775807) : wrap64 x = x := by simp only [wrap64]; omega
set_option maxHeartbeats 400000 in
theorem next_some (h : Rd w R a L cap f p) (hp : p < L) :
   Calls Tryd.prog 52 #[.pointer (some ⟨R, 0, none⟩)] w fun e w' => e = .returned (.int .u8 (f p)) ∧ f p < 256 ∧ Rd w' R a L cap f (p + 1) ∧ Only (fun k => k = R) w w' := by
 obtain ⟨b, off, rfl, hb, hc⟩ := h.by_ (by omega);have hne := h.ne _ rfl (by omega);have hcp := (hc p hp).1;have hlt := (hc p hp).2;have lc := h.lc;have cm := h.cm;clear hb hc;have c0 := h.c0;have c1 := h.c1;have f1 := h.fz 1;replace h := Lib.hid h;replace hlt := Lib.hid hlt;have hq : ((p : Int) == (L : Int)) = false := by simp; omega
 go_enter Tryd.func52, Tryd.ntmps52
 go_wp2
 go_quiet (fail)
 have h1 := h.out.drewN nq;have c1' : (w.drewN nq).cell? ⟨R, 1, none⟩ = some (.int .i64 p) := c1;have c0' : (w.drewN nq).cell? ⟨R, 0, none⟩ = some (.slice (some ⟨b, off, none⟩) L cap) := c0;have f1' : (w.drewN nq).frozen? ⟨R, 1, none⟩ = false := f1;have hcp' : (w.drewN nq).cell? ⟨b, off + p, none⟩ = some (.int .u8 (f p)) := hcp;have ho : Only (fun k => k = R) w (w.drewN nq) := only_drewN (Only.refl _ _);clear c0 c1 hcp f1;generalize w.drewN nq = wq at h1 c1' c0' hcp' f1' ho ⊢;replace h1 := Lib.hid h1;go_wp2
 go_quiet (fail)
 have h2 := h1.out.drewN nq;have c12 : (wq.drewN nq).cell? ⟨R, 1, none⟩ = some (.int .i64 p) := c1';have f12 : (wq.drewN nq).frozen? ⟨R, 1, none⟩ = false := f1';have ho2 : Only (fun k => k = R) wq (wq.drewN nq) := only_drewN (Only.refl _ _);clear c0' c1' hcp' f1';generalize wq.drewN nq = wr at h2 c12 f12 ho2 ⊢;replace h2 := Lib.hid h2;go_wp2
 go_ret
 have he : (p : Int) + 1 = ((p + 1 : Nat) : Int) := by omega
 rw [he];exact ⟨rfl, hlt.out, h2.out.moved (by omega), (ho.then ho2).setCell (p := ⟨R, 1, none⟩) (.inl rfl) _⟩
def TookN (V : Nat → Value) (r : Rn) (w : World) (R : Nat) (a : Option Addr) (L cap : Nat) (f : Nat → Nat) (e : Ending) (w' : World) : Prop :=
 Only (fun k => k = R) w w' ∧ (r.code = 0 ∧ e = .returned (V r.v) ∧ Rd w' R a L cap f r.to ∨ r.code ≠ 0 ∧ Gave r.code r.to e)
theorem clr7 {c : Nat} (h : c < 256) : bits .andNot .u8 (c : Int) 128 = ((c % 128 : Nat) : Int) := by
 have e := u8_andNot_nat c 128 h (by omega);rw [show (((128 : Nat)) : Int) = 128 by rfl] at e;rw [e];have : c &&& (255 - 128) = c % 128 := Nat.and_two_pow_sub_one_eq_mod c 7;rw [this]
theorem wrapU {t : Nat} (h : t < 18446744073709551616) : IntKind.u64.wrap (t : Int) = (t : Int) := by
 rw [IntKind.wrap_u64]; omega
theorem wrapS {t s : Nat} (h : t * 2 ^ s < 18446744073709551616) : IntKind.u64.wrap ((t : Int) * 2 ^ s) = ((t * 2 ^ s : Nat) : Int) := by
 rw [IntKind.wrap_u64];have : ((t * 2 ^ s : Nat) : Int) = (t : Int) * 2 ^ s := by simp
 rw [← this];omega
theorem joinU {acc t i : Nat} (ha : acc < 2 ^ (7 * i)) (h1 : acc < 18446744073709551616) (h2 : t * 2 ^ (7 * i) < 18446744073709551616) : bits .or .u64 (acc : Int) ((t * 2 ^ (7 * i) : Nat) : Int) = ((acc + t * 2 ^ (7 * i) : Nat) : Int) := by
 rw [u64_or_nat _ _ h1 h2, Nat.or_comm, nat_join (7 * i) _ _ (Nat.mul_mod_left _ _) ha, Nat.add_comm]
theorem NumAt.word {i acc s c : Nat} (h : NumAt f L p i acc) (hb : ¬ ((0 < i ∧ f (p + i) = 0) ∨ (i = 9 ∧ f (p + i) ≠ 1))) (hs : 7 * i = s) (hc : f (p + i) = c) (h256 : c < 256) :
   bits .or .u64 (acc : Int) (IntKind.u64.wrap (IntKind.u64.wrap (bits .andNot .u8 (c : Int) 128) * 2 ^ s)) = ((acc + c % 128 * 2 ^ (7 * i) : Nat) : Int) := by
 have hr := h.range hb;have e : (2 : Nat) ^ 64 = 18446744073709551616 := by decide
 have e3 : (2 : Nat) ^ 63 = 9223372036854775808 := by decide
 rw [e, e3, hc] at hr;have h0 := h.1;rw [clr7 h256, wrapU (by omega), ← hs, wrapS hr.2.1, joinU h.2.1 (by omega) hr.2.1]
theorem NumAt.words {i acc s c : Nat} (h : NumAt f L p i acc) (hb : ¬ ((0 < i ∧ f (p + i) = 0) ∨ (i = 9 ∧ f (p + i) ≠ 1))) (hs : 7 * i = s) (hc : f (p + i) = c) (h256 : c < 256) :
   (c < 128 → bits .or .u64 (acc : Int) (IntKind.u64.wrap (IntKind.u64.wrap (bits .andNot .u8 (c : Int) 128) * 2 ^ s)) = ((acc + f (p + i) * 2 ^ (7 * i) : Nat) : Int)) ∧
     (128 ≤ c → bits .or .u64 (acc : Int) (IntKind.u64.wrap (IntKind.u64.wrap (bits .andNot .u8 (c : Int) 128) * 2 ^ s)) = ((acc + (f (p + i) - 128) * 2 ^ (7 * i) : Nat) : Int)) := by
 rw [h.word hb hs hc h256, hc];exact ⟨fun h1 => by rw [Nat.mod_eq_of_lt h1], fun h1 => by rw [show c % 128 = c - 128 by omega]⟩
theorem NumAt.ways {i acc s c : Nat} (h : NumAt f L p i acc) (hb : ¬ ((0 < i ∧ f (p + i) = 0) ∨ (i = 9 ∧ f (p + i) ≠ 1))) (hs : 7 * i = s) (hc : f (p + i) = c) :
   (¬ 0 < (s : Int) ∧ ((s : Int) == 63) = false ∧ i ≤ 8) ∨ (0 < (s : Int) ∧ ((c : Int) == 0) = false ∧ ((s : Int) == 63) = false ∧ i ≤ 8) ∨
     (0 < (s : Int) ∧ ((c : Int) == 0) = false ∧ ((s : Int) == 63) = true ∧ ((c : Int) != 1) = false ∧ c < 128) := by
 have h0 := h.1;rw [hc] at hb;rcases Nat.lt_or_ge 0 i with h1 | h1
 · rcases Nat.lt_or_ge i 9 with h2 | h2
   · exact .inr (.inl ⟨by omega, by simp; omega, by simp; omega, by omega⟩)
   · have : c = 1 := by
       rcases Nat.decEq c 1 with h3 | h3
       · exact absurd (.inr ⟨by omega, h3⟩) hb
       · exact h3
     exact .inr (.inr ⟨by omega, by simp; omega, by simp; omega, by simp; omega, by omega⟩)
 · exact .inl ⟨by omega, by simp; omega, by omega⟩
theorem NumAt.wrongs {i acc s c : Nat} (h : NumAt f L p i acc) (hb : (0 < i ∧ f (p + i) = 0) ∨ (i = 9 ∧ f (p + i) ≠ 1)) (hs : 7 * i = s) (hc : f (p + i) = c) :
   (0 < (s : Int) ∧ ((c : Int) == 0) = true) ∨ (0 < (s : Int) ∧ ((c : Int) == 0) = false ∧ ((s : Int) == 63) = true ∧ ((c : Int) != 1) = true) := by
 have h0 := h.1;rw [hc] at hb;rcases Nat.decEq c 0 with h3 | h3
 · rcases hb with hb | hb
   · exact absurd hb.2 h3
   · exact .inr ⟨by omega, by simp; omega, by simp; omega, by simp; omega⟩
 · exact .inl ⟨by omega, by simp; omega⟩
set_option maxRecDepth 100000 in
set_option maxHeartbeats 2000000 in
theorem number_any (h : Rd w R a L cap f p) :
   Calls Tryd.prog 29 #[.pointer (some ⟨R, 0, none⟩)] w (TookN (fun v => .int .u64 v) (numR f L p) w R a L cap f) := by
 have hpL := h.le;replace h := Lib.hid h;go_enter Tryd.func29, Tryd.ntmps29
 go_wp2
 go_loopw [3, 4] (fun n s wr => ∃ (i acc : Nat), NumAt f L p i acc ∧ n = .int .u64 acc ∧ s = .int .i64 ((7 * i : Nat) : Int) ∧ Rd wr R a L cap f (p + i) ∧ Only (fun k => k = R) w wr) (fun _ s _ => 70 - (intOf s).toNat)
 case atStart => exact ⟨0, 0, NumAt.start f L p, rfl, rfl, h.out, Only.refl _ _⟩
 case round =>
   obtain ⟨i, acc, hN, rfl, rfl, hR, hO⟩ := hrel;have hi := hN.1;replace hO := Lib.hid hO;have hlc := hR.lc;have hcm := hR.cm;by_cases hlt : p + i < L
   · obtain ⟨s, hs⟩ := exHid (7 * i)
     rw [hs.out];obtain ⟨c, hc⟩ := exHid (f (p + i));have hN3 := next_some hR hlt;rw [hc.out] at hN3;replace hlt := Lib.hid hlt;by_cases hsh : (0 < i ∧ f (p + i) = 0) ∨ (i = 9 ∧ f (p + i) ≠ 1)
     · have HS := Lib.hid (hN.shape hlt.out hsh)
       have hw := hN.wrongs hsh hs.out hc.out;clear hN hsh;rcases hw with ⟨k1, k2⟩ | ⟨k1, k2, k3, k4⟩
       all_goals
         go_wp2_with (first
           | ((with_reducible refine hN3.mono ?_); rintro e w' ⟨rfl, hc256, hR', hO'⟩; have c1 := hR'.c1)
           | ((with_reducible refine (giveUp_any _ _ _).mono ?_); rintro e w' ⟨rfl, rfl⟩))
         refine ⟨rfl, hO.out.then hO', .inr ⟨by rw [HS.out]; simp, ?_⟩⟩;rw [HS.out];have ep : wrap64 ((p : Int) + i) = ((p + i : Nat) : Int) := wrap64_id (by omega) (by have := hlt.out; omega);rw [ep];rfl
     · have HW := Lib.hid (fun h256 => hN.words hsh hs.out hc.out h256)
       have HL := Lib.hid (hN.last hlt.out hsh);have HM := Lib.hid (hN.next hlt.out hsh);have hw := hN.ways hsh hs.out hc.out;have hs64 : s ≤ 64 := by have := hs.out; omega
       clear hN hsh;rcases hw with ⟨k1, k2, k3⟩ | ⟨k1, k2, k3, k4⟩ | ⟨k1, k2, k3, k4, k5⟩
       case inr.inr =>
         go_wp2_with (first
           | ((with_reducible refine hN3.mono ?_); rintro e w' ⟨rfl, hc256, hR', hO'⟩))
         go_ret
         refine ⟨hO.out.then hO', .inl ?_⟩;rw [HL.out (by rw [hc.out]; exact k5)];exact ⟨rfl, ret_int ((HW.out hc256).1 k5), hR'⟩
       all_goals
         rcases Nat.lt_or_ge c 128 with h128 | h128
         · go_wp2_with (first
             | ((with_reducible refine hN3.mono ?_); rintro e w' ⟨rfl, hc256, hR', hO'⟩))
           go_ret
           refine ⟨hO.out.then hO', .inl ?_⟩;rw [HL.out (by rw [hc.out]; exact h128)];exact ⟨rfl, ret_int ((HW.out hc256).1 h128), hR'⟩
         · go_wp2_with (first
             | ((with_reducible refine hN3.mono ?_); rintro e w' ⟨rfl, hc256, hR', hO'⟩))
           go_roundw
           case rel => exact ⟨i + 1, _, HM.out (by rw [hc.out]; omega) (by rw [hc.out]; exact hc256), by rw [(HW.out hc256).2 h128], by have := hs.out; congr 1; omega, hR', hO.out.then hO'⟩
           case measure => have := hs.out; simp [intOf]; omega
   · have hpe : L = p + i := by have := hR.le; omega
     have HS := Lib.hid (hN.short (by omega));have hN3 := next_end hR hpe;replace hpe := Lib.hid hpe;clear hN hlt;unfold Gave at hN3;go_wp2_with (first
       | ((with_reducible refine hN3.mono ?_); rintro e w' ⟨rfl, hO'⟩))
     refine ⟨rfl, hO.out.then hO', .inr ⟨by rw [HS.out]; simp, ?_⟩⟩;rw [HS.out];unfold Gave;rw [show (⟨0, L, 4⟩ : Rn).to = p + i from hpe.out]
end
end Go.Proofs.YtfajfflbplnagaaDoor
