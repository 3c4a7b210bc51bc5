/- A part of the proof: JRd3. No condition. -/
import Derived.Test.YtfajfflbplnagaaDoorQ33
set_option linter.unusedVariables false
set_option linter.unusedSimpArgs false
namespace Go.Proofs.YtfajfflbplnagaaDoor
open Go.RowKit
section
variable {w : World} {R L cap p : Nat} {a : Option Addr} {f : Nat → Nat}
theorem bytes_string {b off n c : Nat} (W : World) (hc : ∀ j, j < n → W.cell? ⟨b, off + j, none⟩ = some (.int .u8 (f (p + j))) ∧ f (p + j) < 256) :
   (convert 22 9 (.slice (some ⟨b, off, none⟩) n c)).run Tryd.prog W = .ok (.string (textB f p n)) W := by
 have := run_convert_bytes_back (P := Tryd.prog) W 22 9 5 ⟨b, off, none⟩ c (textL f p n) Tryd.underlying22 Tryd.underlying5 Tryd.underlying9 (fun j hj => by
   have hj' : j < n := by simpa [textL] using hj
   rw [show (⟨b, off, none⟩ : Addr).add j = ⟨b, off + j, none⟩ by simp [Addr.add], (hc j hj').1];have e : (textL f p n)[j] = (f (p + j)).toUInt8 := by simp [textL]
   rw [e];have := (hc j hj').2;simp; omega)
 rw [textL_length] at this;exact this
theorem empty_string (q : Addr) (c : Nat) (W : World) : (convert 22 9 (.slice (some q) 0 c)).run Tryd.prog W = .ok (.string ⟨#[]⟩) W :=
 run_convert_bytes_back (P := Tryd.prog) W 22 9 5 q c [] Tryd.underlying22 Tryd.underlying5 Tryd.underlying9 (fun j hj => by simp at hj)
theorem nil_string (c : Nat) (W : World) : (convert 22 9 (.slice none 0 c)).run Tryd.prog W = .ok (.string ⟨#[]⟩) W :=
 Lib.run_convert_nil_bytes W _ _ _ c Tryd.underlying22 Tryd.underlying5 Tryd.underlying9
def Taken (n : Nat) (w : World) (R : Nat) (a : Option Addr) (L cap : Nat) (f : Nat → Nat) (p : Nat) : Ending → World → Prop :=
 Took (fun v _ => v = .string (textB f p n)) (if L - p < n then L else p + n) (if L - p < n then 4 else 0) w R a L cap f
set_option maxRecDepth 100000 in
set_option maxHeartbeats 1000000 in
theorem take_any (h : Rd w R a L cap f p) (n : Nat) (hn : n < 18446744073709551616) :
   Calls Tryd.prog 68 #[.pointer (some ⟨R, 0, none⟩), .int .u64 n] w (Taken n w R a L cap f p) := by
 have hpL := h.le;have hlc := h.lc;have hcm := h.cm;have c0 := h.c0;have c1 := h.c1;have f1 := h.fz 1;unfold Taken;by_cases hlt : L - p < n
 · rw [if_pos hlt, if_pos hlt]
   have hgt : ((L - p : Nat) : Int) < (n : Int) := by omega
   have hgt2 : ((L : Int) - (p : Int)) < (n : Int) := by omega
   replace h := Lib.hid h;rcases ha : a with _ | q
   · subst ha
     have hn0 := h.out.nl rfl;obtain rfl : L = 0 := by omega
     obtain rfl : p = 0 := by omega
     subst hn0;go_enter Tryd.func68, Tryd.ntmps68
     go_wp2
     go_quiet (fail)
     have c0' : (w.drewN nq).cell? ⟨R, 0, none⟩ = some (.slice none 0 0) := c0;have hO : Only (fun k => k = R) w (w.drewN nq) := only_drewN (Only.refl _ _);generalize w.drewN nq = wq at c0' hO ⊢;clear c0 c1 f1;go_wp2_with ((with_reducible refine (giveUp_any _ _ _).mono ?_); rintro e w' ⟨rfl, rfl⟩)
     all_goals exact ⟨rfl, hO, .inr ⟨by decide, rfl⟩⟩
   · subst ha
     go_enter Tryd.func68, Tryd.ntmps68
     go_wp2
     go_quiet (fail)
     have c0' : (w.drewN nq).cell? ⟨R, 0, none⟩ = some (.slice (some q) L cap) := c0;have hO : Only (fun k => k = R) w (w.drewN nq) := only_drewN (Only.refl _ _);generalize w.drewN nq = wq at c0' hO ⊢;clear c0 c1 f1;go_wp2_with ((with_reducible refine (giveUp_any _ _ _).mono ?_); rintro e w' ⟨rfl, rfl⟩)
     all_goals exact ⟨rfl, hO, .inr ⟨by decide, rfl⟩⟩
 · rw [if_neg hlt, if_neg hlt]
   have hgt : ¬ ((L - p : Nat) : Int) < (n : Int) := by omega
   have hgt2 : ¬ ((L : Int) - (p : Int)) < (n : Int) := by omega
   have hpn : p + n ≤ L := by omega
   have hpi : (p : Int) + (n : Int) ≤ 9223372036854775807 := by omega
   have hni : (n : Int) ≤ 9223372036854775807 := by omega
   rcases Nat.eq_zero_or_pos L with h0 | h0
   · subst h0
     obtain rfl : p = 0 := by omega
     obtain rfl : n = 0 := by omega
     replace h := Lib.hid h;rcases ha : a with _ | q
     · subst ha
       have hn0 := h.out.nl rfl;subst hn0;have hstr := nil_string;go_enter Tryd.func68, Tryd.ntmps68
       go_wp2
       go_quiet (fail)
       have hq := h.out.drewN nq;have c1' : (w.drewN nq).cell? ⟨R, 1, none⟩ = some (.int .i64 ((0 : Nat) : Int)) := c1;have f1' : (w.drewN nq).frozen? ⟨R, 1, none⟩ = false := f1;have hO : Only (fun k => k = R) w (w.drewN nq) := only_drewN (Only.refl _ _);generalize w.drewN nq = wq at hq c1' f1' hO ⊢;clear c0 c1 f1;replace hq := Lib.hid hq;go_wp2
       all_goals
         go_ret
         refine ⟨hO.setCell (p := ⟨R, 1, none⟩) (.inl rfl) _, .inl ⟨rfl, ⟨_, rfl, rfl⟩, ?_⟩⟩;exact hq.out.moved (by omega)
     · subst ha
       have hstr := empty_string;go_enter Tryd.func68, Tryd.ntmps68
       go_wp2
       go_quiet (fail)
       have hq := h.out.drewN nq;have c1' : (w.drewN nq).cell? ⟨R, 1, none⟩ = some (.int .i64 ((0 : Nat) : Int)) := c1;have f1' : (w.drewN nq).frozen? ⟨R, 1, none⟩ = false := f1;have hO : Only (fun k => k = R) w (w.drewN nq) := only_drewN (Only.refl _ _);generalize w.drewN nq = wq at hq c1' f1' hO ⊢;clear c0 c1 f1;replace hq := Lib.hid hq;go_wp2
       all_goals
         go_ret
         refine ⟨hO.setCell (p := ⟨R, 1, none⟩) (.inl rfl) _, .inl ⟨rfl, ⟨_, rfl, rfl⟩, ?_⟩⟩;exact hq.out.moved (by omega)
   · obtain ⟨b, off, rfl, hb, hc⟩ := h.by_ h0
     have hne : b ≠ R := h.ne _ rfl h0;replace h := Lib.hid h;replace hc := Lib.hid hc;by_cases hpc : p = cap
     · subst hpc
       obtain rfl : L = p := by omega
       obtain rfl : n = 0 := by omega
       have hstr := empty_string;go_enter Tryd.func68, Tryd.ntmps68
       go_wp2
       go_quiet (fail)
       have hq := h.out.drewN nq;have c1' : (w.drewN nq).cell? ⟨R, 1, none⟩ = some (.int .i64 L) := c1;have f1' : (w.drewN nq).frozen? ⟨R, 1, none⟩ = false := f1;have hO : Only (fun k => k = R) w (w.drewN nq) := only_drewN (Only.refl _ _);generalize w.drewN nq = wq at hq c1' f1' hO ⊢;clear c0 c1 f1;replace hq := Lib.hid hq;go_wp2
       all_goals
         go_ret
         refine ⟨hO.setCell (p := ⟨R, 1, none⟩) (.inl rfl) _, .inl ⟨rfl, ⟨_, rfl, rfl⟩, ?_⟩⟩;exact hq.out.moved (by omega)
     go_enter Tryd.func68, Tryd.ntmps68
     go_wp2
     go_quiet (fail)
     have hq := h.out.drewN nq;have c1' : (w.drewN nq).cell? ⟨R, 1, none⟩ = some (.int .i64 p) := c1;have f1' : (w.drewN nq).frozen? ⟨R, 1, none⟩ = false := f1;have hO : Only (fun k => k = R) w (w.drewN nq) := only_drewN (Only.refl _ _);have hstr : ∀ c, (convert 22 9 (.slice (some ⟨b, off + p, none⟩) n c)).run Tryd.prog ((w.drewN nq).setCell ⟨R, 1, none⟩ (.int .i64 ((p : Int) + (n : Int)))) = .ok (.string (textB f p n)) ((w.drewN nq).setCell ⟨R, 1, none⟩ (.int .i64 ((p : Int) + (n : Int)))) :=
       fun c => bytes_string _ (fun j hj => ⟨by
         rw [World.cell?_setCell_other _ _ _ _ (by intro h; simp only [Addr.mk.injEq] at h; omega), show off + p + j = off + (p + j) by omega];exact (hc.out (p + j) (by omega)).1, (hc.out (p + j) (by omega)).2⟩)
     generalize w.drewN nq = wq at hq c1' f1' hO hstr ⊢;clear c0 c1 f1;replace hq := Lib.hid hq;go_wp2
     go_ret
     refine ⟨hO.setCell (p := ⟨R, 1, none⟩) (.inl rfl) _, .inl ⟨rfl, ⟨_, rfl, rfl⟩, ?_⟩⟩;exact hq.out.moved hpn
set_option maxHeartbeats 400000 in
theorem text_took (h : Rd w R a L cap f p) (hr : (numR f L p).v < 18446744073709551616) :
   Calls Tryd.prog 57 #[.pointer (some ⟨R, 0, none⟩)] w (Took (fun v _ => v = .string (textB f (numR f L p).to (numR f L p).v)) (textTo L (numR f L p)) (textCode L (numR f L p)) w R a L cap f) := by
 have hN := number_took h;generalize numR f L p = r at hN hr ⊢;rcases Nat.eq_zero_or_pos r.code with hc | hc
 · have hok := hN.mono fun e w' h => Took.ok h hc
   have E : Hid (textTo L r = (if L - r.to < r.v then L else r.to + r.v) ∧ textCode L r = if L - r.to < r.v then 4 else 0) := ⟨by unfold textTo; rw [if_pos hc], by unfold textCode; rw [if_pos hc]⟩;clear hN h hc;rcases Nat.lt_or_ge (L - r.to) r.v with hlt | hlt
   · have E2 : Hid (textTo L r = L ∧ textCode L r = 4) := by have := E.out; rw [if_pos hlt, if_pos hlt] at this; exact this
     have hT := fun w2 (h2 : Rd w2 R a L cap f r.to) => (take_any h2 r.v hr).mono fun e w' h => Took.bad h (by rw [if_pos hlt]; decide)
     rw [if_pos hlt, if_pos hlt] at hT;go_enter Tryd.func57, Tryd.ntmps57
     go_wp2_with (first
       | ((with_reducible refine hok.mono ?_); rintro e w' ⟨v, rfl, rfl, hr', hO⟩; have hT2 := hT _ hr'; replace hr' := Lib.hid hr')
       | ((with_reducible refine hT2.mono ?_); rintro e w' ⟨rfl, hO2⟩))
     refine ⟨rfl, hO.then hO2, .inr ?_⟩;rw [E2.out.1, E2.out.2];exact ⟨by decide, rfl⟩
   · have hn : ¬ L - r.to < r.v := by omega
     have E2 : Hid (textTo L r = r.to + r.v ∧ textCode L r = 0) := by have := E.out; rw [if_neg hn, if_neg hn] at this; exact this
     have hT := fun w2 (h2 : Rd w2 R a L cap f r.to) => (take_any h2 r.v hr).mono fun e w' h => Took.ok h (by rw [if_neg hn])
     rw [if_neg hn] at hT;go_enter Tryd.func57, Tryd.ntmps57
     go_wp2_with (first
       | ((with_reducible refine hok.mono ?_); rintro e w' ⟨v, rfl, rfl, hr', hO⟩; have hT2 := hT _ hr'; replace hr' := Lib.hid hr')
       | ((with_reducible refine hT2.mono ?_); rintro e w' ⟨v, rfl, rfl, hr2, hO2⟩; replace hr2 := Lib.hid hr2))
     go_ret
     refine ⟨hO.then hO2, .inl ?_⟩;rw [E2.out.1, E2.out.2];exact ⟨rfl, ⟨_, rfl, rfl⟩, hr2.out⟩
 · have hbad := hN.mono fun e w' h => Took.bad h (by omega)
   have hc0 : r.code ≠ 0 := by omega
   have hc' : Hid (r.code ≠ 0 ∧ textTo L r = r.to ∧ textCode L r = r.code) := ⟨hc0, by unfold textTo; rw [if_neg hc0], by unfold textCode; rw [if_neg hc0]⟩;clear hN h hc hc0;go_enter Tryd.func57, Tryd.ntmps57
   go_wp2_with (first
     | ((with_reducible refine hbad.mono ?_); rintro e w' ⟨rfl, hO⟩))
   refine ⟨rfl, hO, .inr ?_⟩;rw [hc'.out.2.1, hc'.out.2.2];exact ⟨hc'.out.1, rfl⟩
end
end Go.Proofs.YtfajfflbplnagaaDoor
