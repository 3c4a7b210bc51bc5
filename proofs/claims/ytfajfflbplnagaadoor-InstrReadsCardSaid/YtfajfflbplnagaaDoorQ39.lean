/- A part of the proof: JRead1. No condition. -/
import Derived.Shelf.Abstract
import Derived.Test.YtfajfflbplnagaaDoorQ37
import Derived.Test.YtfajfflbplnagaaDoorQ38
set_option linter.unusedVariables false
set_option linter.unusedSimpArgs false
namespace Go.Proofs.YtfajfflbplnagaaDoor
open Go.RowKit Go.Shelf
structure PE where
 p : Nat
 e : Nat
def numS (f : Nat → Nat) (L : Nat) (s : PE) : PE := if s.e = 0 then ⟨(numR f L s.p).to, (numR f L s.p).code⟩ else s
def txtS (f : Nat → Nat) (L : Nat) (s : PE) : PE := if s.e = 0 then ⟨textTo L (numR f L s.p), textCode L (numR f L s.p)⟩ else s
def bytS (L : Nat) (s : PE) : PE := if s.e = 0 then (if s.p < L then ⟨s.p + 1, 0⟩ else ⟨s.p, 4⟩) else s
def numVal (f : Nat → Nat) (L : Nat) (s : PE) : Nat := if s.e = 0 then (numR f L s.p).v else 0
def txtVal (f : Nat → Nat) (L : Nat) (s : PE) : List UInt8 := if s.e = 0 ∧ textCode L (numR f L s.p) = 0 then textL f (numR f L s.p).to (numR f L s.p).v else []
def bytVal (f : Nat → Nat) (L : Nat) (s : PE) : Nat := if s.e = 0 ∧ s.p < L then f s.p else 0
def RS (w : World) (R : Nat) (a : Option Addr) (L cap : Nat) (f : Nat → Nat) (s : PE) : Prop := RM w R a L cap f s.p s.e
section
variable {w : World} {R L cap p : Nat} {a : Option Addr} {f : Nat → Nat}
set_option maxRecDepth 20000 in
theorem readByte_any (h : By w a L f) : Calls Tryd.prog 31 #[.slice a L cap] w (ReadsTo (.int .u8 (if 0 < L then f 0 else 0 : Nat)) (if 0 < L then 1 else 0) (if 0 < L then 0 else 4) w) := by
 unfold ReadsTo;by_cases h0 : 0 < L
 · rw [if_pos h0, if_pos h0, if_pos h0]
   obtain ⟨b, off, rfl, hb, hc⟩ := h h0;have y := (hc 0 h0).1;rw [Nat.add_zero] at y;have q : ((L : Int) == 0) = false := beq_eq_false_iff_ne.2 (by omega);have hl : (0 : Int) < (L : Int) := by omega
   clear hc h;go_enter Tryd.func31, Tryd.ntmps31
   go_wp2_with fail
   go_ret3
   exact ⟨rfl, Below.refl _ _⟩
 · rw [if_neg h0, if_neg h0, if_neg h0]
   have q : ((L : Int) == 0) = true := by rw [show L = 0 by omega]; rfl
   clear h;replace h0 := Lib.hid h0;go_enter Tryd.func31, Tryd.ntmps31
   go_wp2_with fail
   go_ret3
   exact ⟨rfl, Below.refl _ _⟩
set_option maxRecDepth 20000 in
theorem readA_any (h : By w a L f) (hl : L ≤ cap) (hm : cap ≤ 9223372036854775807) (hn : a = none → cap = 0) : Calls Tryd.prog 33 #[.slice a L cap] w (ReadsTo (.int .i64 (min (numR f L 0).v 8192 : Nat)) (numR f L 0).to (numR f L 0).code w) := by
 unfold ReadsTo;have k := Lib.hid (ReadUint_any h hl hm hn);have hr := numR_range0 h;generalize numR f L 0 = r at *;obtain ⟨v, to, code⟩ := r;dsimp only at *;clear h;rcases Nat.lt_or_ge 8192 v with hv | hv
 rotate_left
 · rw [Nat.min_eq_left hv]
   have hv1 : (v : Int) ≤ 8192 := by omega
   go_enter Tryd.func33, Tryd.ntmps33
   go_wp2_with fail
   refine k.out.mono ?_;rintro e w1 ⟨rfl, hb⟩;replace hb := Lib.hid hb;go_wp2_with fail
   go_ret3
   refine ⟨?_, hb.out⟩;have hmin : min (v : Int) 8192 = (v : Int) := by omega
   first
     | rfl
     | (rw [hmin]; done)
     | (rw [hmin]; rfl)
 · rw [Nat.min_eq_right (Nat.le_of_lt hv)]
   have hv1 : ¬ (v : Int) ≤ 8192 := by omega
   go_enter Tryd.func33, Tryd.ntmps33
   go_wp2_with fail
   refine k.out.mono ?_;rintro e w1 ⟨rfl, hb⟩;replace hb := Lib.hid hb;go_wp2_with fail
   go_ret3
   refine ⟨?_, hb.out⟩;have hmin : min (v : Int) 8192 = (((8192 : Nat) : Int) : Int) := by omega
   first
     | rfl
     | (rw [hmin]; done)
     | (rw [hmin]; rfl)
def refS (s : PE) (q c : Nat) : PE := if s.e = 0 then ⟨q, c⟩ else s
set_option maxRecDepth 20000 in
theorem refuse_any {s : PE} (h : RS w R a L cap f s) {q c : Nat} (hq : q ≤ L) : Calls Tryd.prog 18 #[.pointer (some ⟨R, 0, none⟩), .int .i64 q, .int .i64 c] w fun e w' => e = .returned (.tuple #[]) ∧ RS w' R a L cap f (refS s q c) ∧ Only (fun k => k = R) w w' := by
 obtain ⟨p, e⟩ := s;unfold RS at h;dsimp only at h;have c1 := cellJ h.st 1; have c2 := cellJ h.st 2;have f1 := fzJ h.st 1; have f2 := fzJ h.st 2;simp only [List.getElem?_toArray, List.getElem?_cons_succ, List.getElem?_cons_zero] at c1 c2;have hm := Lib.hid (h.moved (p' := q) (e' := c) hq);have hH := Lib.hid h;unfold refS RS;dsimp only;clear h;by_cases h0 : e = 0
 · subst h0
   rw [if_pos rfl];go_enter Tryd.func18, Tryd.ntmps18
   go_wp2_with fail
   refine bodyPost_end (results_none rfl _ _ _) rfl ?_;exact ⟨rfl, hm.out.1, hm.out.2⟩
 · rw [if_neg h0]
   have q0 : ((e : Int) == 0) = false := beq_eq_false_iff_ne.2 (by omega);replace h0 := Lib.hid h0;go_enter Tryd.func18, Tryd.ntmps18
   go_wp2_with fail
   refine bodyPost_end (results_none rfl _ _ _) rfl ?_;exact ⟨rfl, hH.out, Only.refl _ _⟩
theorem ent_uint (args : Array Value) (W : World) : (callFunc 17 args).run Tryd.prog W = .ok (.enter 17 args) W := enters_of Tryd.func17 (by kernel_rfl) rfl args W
theorem ent_int (args : Array Value) (W : World) : (callFunc 35 args).run Tryd.prog W = .ok (.enter 35 args) W := enters_of Tryd.func35 (by kernel_rfl) rfl args W
theorem ent_text (args : Array Value) (W : World) : (callFunc 37 args).run Tryd.prog W = .ok (.enter 37 args) W := enters_of Tryd.func37 (by kernel_rfl) rfl args W
theorem ent_a (args : Array Value) (W : World) : (callFunc 33 args).run Tryd.prog W = .ok (.enter 33 args) W := enters_of Tryd.func33 (by kernel_rfl) rfl args W
theorem ent_byte (args : Array Value) (W : World) : (callFunc 31 args).run Tryd.prog W = .ok (.enter 31 args) W := enters_of Tryd.func31 (by kernel_rfl) rfl args W
def FldP (v : Value) (w : World) (R : Nat) (a : Option Addr) (L cap : Nat) (f : Nat → Nat) (s : PE) (e : Ending) (w' : World) : Prop := e = .returned v ∧ RS w' R a L cap f s ∧ Only (fun k => k = R) w w'
theorem num_to_off {s : PE} (h : RS w R a L cap f s) : s.p + (numR (offF f s.p) (L - s.p) 0).to ≤ L ∧ numR f L s.p = ⟨(numR (offF f s.p) (L - s.p) 0).v, s.p + (numR (offF f s.p) (L - s.p) 0).to, (numR (offF f s.p) (L - s.p) 0).code⟩ := by
 have hp : s.p ≤ L := h.le;have e := numR_off (f := f) hp;refine ⟨?_, e⟩;have := (numR_to (f := f) hp (fun j _ hj => h.by_.lt j hj)).1;rw [e] at this;exact this
theorem fld_uint {s : PE} (h : RS w R a L cap f s) : Calls Tryd.prog 16 #[.pointer (some ⟨R, 0, none⟩), .func (.func 17) #[] #[]] w (FldP (.int .u64 (numVal f L s : Nat)) w R a L cap f (numS f L s)) := by
 obtain ⟨hto, he⟩ := num_to_off h;obtain ⟨p, e⟩ := s;unfold FldP numVal numS;dsimp only at *;by_cases h0 : e = 0
 · subst h0
   rw [if_pos rfl, if_pos rfl, he];have hc := h.lc;exact field_u64 h ent_uint hto (fun W a' hW hn => ReadUint_any hW (by omega) (by have := h.cm; omega) hn)
 · rw [if_neg h0, if_neg h0]
   refine (fieldbad_u64 h h0).mono ?_;rintro e' w' ⟨rfl, rfl⟩;exact ⟨rfl, h, Only.refl _ _⟩
theorem fld_a {s : PE} (h : RS w R a L cap f s) : Calls Tryd.prog 32 #[.pointer (some ⟨R, 0, none⟩), .func (.func 33) #[] #[]] w (FldP (.int .i64 (min (numVal f L s) 8192 : Nat)) w R a L cap f (numS f L s)) := by
 obtain ⟨hto, he⟩ := num_to_off h;obtain ⟨p, e⟩ := s;unfold FldP numVal numS;dsimp only at *;by_cases h0 : e = 0
 · subst h0
   rw [if_pos rfl, if_pos rfl, he];have hc := h.lc;exact field_int h ent_a hto (fun W a' hW hn => readA_any hW (by omega) (by have := h.cm; omega) hn)
 · rw [if_neg h0, if_neg h0]
   refine (fieldbad_int h h0).mono ?_;rintro e' w' ⟨rfl, rfl⟩;exact ⟨rfl, h, Only.refl _ _⟩
theorem fld_num {s : PE} (h : RS w R a L cap f s) : Calls Tryd.prog 34 #[.pointer (some ⟨R, 0, none⟩), .func (.func 35) #[] #[]] w (FldP (.int .i64 (unfN (numVal f L s))) w R a L cap f (numS f L s)) := by
 obtain ⟨hto, he⟩ := num_to_off h;obtain ⟨p, e⟩ := s;unfold FldP numVal numS;dsimp only at *;by_cases h0 : e = 0
 · subst h0
   rw [if_pos rfl, if_pos rfl, he];have hc := h.lc;exact field_i64 h ent_int hto (fun W a' hW hn => ReadInt_any5 hW (by omega) (by have := h.cm; omega) hn)
 · rw [if_neg h0, if_neg h0]
   refine (fieldbad_i64 h h0).mono ?_;rintro e' w' ⟨rfl, rfl⟩;exact ⟨rfl, h, Only.refl _ _⟩
theorem fld_text {s : PE} (h : RS w R a L cap f s) : Calls Tryd.prog 36 #[.pointer (some ⟨R, 0, none⟩), .func (.func 37) #[] #[]] w (FldP (.string ⟨(txtVal f L s).toArray⟩) w R a L cap f (txtS f L s)) := by
 obtain ⟨hto, he⟩ := num_to_off h;obtain ⟨p, e⟩ := s;have hp : p ≤ L := h.le;unfold FldP txtVal txtS;dsimp only at *;by_cases h0 : e = 0
 · subst h0
   rw [if_pos rfl, he, textTo_off hp _ (by omega), textCode_off];have hc := h.lc;have hle : p + textTo (L - p) (numR (offF f p) (L - p) 0) ≤ L := by
     unfold textTo;split
     · split <;> omega
     · omega
   have k := field_str h ent_text hle (fun W a' hW hn => ReadText_any5 hW (by omega) (by have := h.cm; omega) hn);refine k.mono ?_;rintro e' w' ⟨rfl, h1, h2⟩;refine ⟨?_, h1, h2⟩;unfold textV;dsimp only;by_cases c : textCode (L - p) (numR (offF f p) (L - p) 0) = 0
   · rw [if_pos c, if_pos ⟨rfl, c⟩, textL_off]; rfl
   · rw [if_neg c, if_neg (fun h => c h.2)]
 · rw [if_neg h0, if_neg (fun h => h0 h.1)]
   refine (fieldbad_str h h0).mono ?_;rintro e' w' ⟨rfl, rfl⟩;exact ⟨rfl, h, Only.refl _ _⟩
theorem fld_byte {s : PE} (h : RS w R a L cap f s) : Calls Tryd.prog 30 #[.pointer (some ⟨R, 0, none⟩), .func (.func 31) #[] #[]] w (FldP (.int .u8 (bytVal f L s : Nat)) w R a L cap f (bytS L s)) := by
 obtain ⟨p, e⟩ := s;have hp : p ≤ L := h.le;unfold FldP bytVal bytS;dsimp only at *;by_cases h0 : e = 0
 · subst h0
   rw [if_pos rfl];have k := field_byte h ent_byte (to := if 0 < L - p then 1 else 0) (code := if 0 < L - p then 0 else 4) (v := .int .u8 (if 0 < L - p then offF f p 0 else 0 : Nat)) (by show p + _ ≤ L; split <;> omega) (fun W a' hW hn => readByte_any hW);refine k.mono ?_;rintro e' w' ⟨rfl, h1, h2⟩;by_cases c : p < L
   · rw [if_pos c, if_pos (show 0 = 0 ∧ p < L from ⟨rfl, c⟩)]
     rw [if_pos (show 0 < L - p by omega), if_pos (show 0 < L - p by omega)] at h1;rw [if_pos (show 0 < L - p by omega)];exact ⟨by unfold offF; rw [Nat.add_zero], h1, h2⟩
   · rw [if_neg c, if_neg (show ¬ (0 = 0 ∧ p < L) from fun h => c h.2)]
     rw [if_neg (show ¬ 0 < L - p by omega), if_neg (show ¬ 0 < L - p by omega)] at h1;rw [if_neg (show ¬ 0 < L - p by omega)];exact ⟨rfl, h1, h2⟩
 · rw [if_neg h0, if_neg (fun h => h0 h.1)]
   refine (fieldbad_byte h h0).mono ?_;rintro e' w' ⟨rfl, rfl⟩;exact ⟨rfl, h, Only.refl _ _⟩
end
end Go.Proofs.YtfajfflbplnagaaDoor
