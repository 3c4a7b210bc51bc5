/- A part of the proof: JFieldB, JFieldC. No condition. -/
import Derived.Test.YtfajfflbplnagaaDoorQ37
set_option linter.unusedVariables false
set_option linter.unusedSimpArgs false
namespace Go.Proofs.YtfajfflbplnagaaDoor
open Go.RowKit
set_option maxRecDepth 20000 in
set_option maxHeartbeats 2000000 in
theorem field_int {w : World} {R L cap p : Nat} {a : Option Addr} {f : Nat → Nat} {N : Nat} {v : Value} {to code : Nat} (h : RM w R a L cap f p 0) (hN : ∀ args W, (callFunc N args).run Tryd.prog W = .ok (.enter N args) W) (hto : p + to ≤ L)
   (kR : ∀ W a', By W a' (L - p) (offF f p) → (a' = none → cap - p = 0) → Calls Tryd.prog N #[.slice a' (L - p) (cap - p)] W (ReadsTo v to code W)) :
   Calls Tryd.prog 32 #[.pointer (some ⟨R, 0, none⟩), .func (.func N) #[] #[]] w (FieldP v w R a L cap f (p + to) code) := by
 obtain ⟨a', hrun, hby, hnn⟩ := bytes_left h;have c0 := cellJ h.st 0; have c1 := cellJ h.st 1; have c2 := cellJ h.st 2;simp only [List.getElem?_toArray, List.getElem?_cons_succ, List.getElem?_cons_zero] at c0 c1 c2;have hH := Lib.hid h;have kk := Lib.hid (kR w.drew a' (hby _ (h.by_.kept (F := fun _ => False) (Only.of_below (Below.refl _ w).drew) (fun _ _ _ e => e))) hnn);have hpb : (p : Int) ≤ 9223372036854775807 := by have := h.le; have := h.lc; have := h.cm; omega
 have htb : (p : Int) + (to : Int) ≤ 9223372036854775807 := by have := h.lc; have := h.cm; omega
 unfold ReadsTo at kk;clear h kR hby hnn;go_enter Tryd.func32, Tryd.ntmps32
 go_wp2_with fail
 go_region_with ((with_reducible refine kk.out.mono ?_); rintro e1 w1 ⟨rfl, hb1⟩)
 all_goals
   have hR1 := hH.out.below (below_drew hb1);have d1 := cellJ hR1.st 1; have d2 := cellJ hR1.st 2;have f1 := fzJ hR1.st 1; have f2 := fzJ hR1.st 2;simp only [List.getElem?_toArray, List.getElem?_cons_succ, List.getElem?_cons_zero] at d1 d2;have hm := Lib.hid (hR1.moved (p' := p + to) (e' := code) hto);have hcast : (((p + to : Nat) : Int)) = (p : Int) + (to : Int) := by omega
   rw [hcast] at hm;have ho1 := Lib.hid (Only.of_below (F := fun k => k = R) (below_drew hb1));clear c0 c1 c2 hR1 kk hrun hb1;go_wp2_with fail
   go_ret
   exact ⟨rfl, hm.out.1, ho1.out.then hm.out.2⟩
set_option maxRecDepth 20000 in
theorem fieldbad_int {w : World} {R L cap p e : Nat} {a : Option Addr} {f : Nat → Nat} {N : Nat} (h : RM w R a L cap f p e) (he : e ≠ 0) :
   Calls Tryd.prog 32 #[.pointer (some ⟨R, 0, none⟩), .func (.func N) #[] #[]] w fun e' w' => e' = .returned (.int .i64 0) ∧ w' = w := by
 have c2 := cellJ h.st 2;simp only [List.getElem?_toArray, List.getElem?_cons_succ, List.getElem?_cons_zero] at c2;have hq : ((e : Int) != 0) = true := bne_iff_ne.2 (by omega);clear h;replace he := Lib.hid he;go_enter Tryd.func32, Tryd.ntmps32
 go_wp2_with fail
 go_ret
 exact ⟨rfl, rfl⟩
set_option maxRecDepth 20000 in
set_option maxHeartbeats 2000000 in
theorem field_i64 {w : World} {R L cap p : Nat} {a : Option Addr} {f : Nat → Nat} {N : Nat} {v : Value} {to code : Nat} (h : RM w R a L cap f p 0) (hN : ∀ args W, (callFunc N args).run Tryd.prog W = .ok (.enter N args) W) (hto : p + to ≤ L)
   (kR : ∀ W a', By W a' (L - p) (offF f p) → (a' = none → cap - p = 0) → Calls Tryd.prog N #[.slice a' (L - p) (cap - p)] W (ReadsTo v to code W)) :
   Calls Tryd.prog 34 #[.pointer (some ⟨R, 0, none⟩), .func (.func N) #[] #[]] w (FieldP v w R a L cap f (p + to) code) := by
 obtain ⟨a', hrun, hby, hnn⟩ := bytes_left h;have c0 := cellJ h.st 0; have c1 := cellJ h.st 1; have c2 := cellJ h.st 2;simp only [List.getElem?_toArray, List.getElem?_cons_succ, List.getElem?_cons_zero] at c0 c1 c2;have hH := Lib.hid h;have kk := Lib.hid (kR w.drew a' (hby _ (h.by_.kept (F := fun _ => False) (Only.of_below (Below.refl _ w).drew) (fun _ _ _ e => e))) hnn);have hpb : (p : Int) ≤ 9223372036854775807 := by have := h.le; have := h.lc; have := h.cm; omega
 have htb : (p : Int) + (to : Int) ≤ 9223372036854775807 := by have := h.lc; have := h.cm; omega
 unfold ReadsTo at kk;clear h kR hby hnn;go_enter Tryd.func34, Tryd.ntmps34
 go_wp2_with fail
 go_region_with ((with_reducible refine kk.out.mono ?_); rintro e1 w1 ⟨rfl, hb1⟩)
 all_goals
   have hR1 := hH.out.below (below_drew hb1);have d1 := cellJ hR1.st 1; have d2 := cellJ hR1.st 2;have f1 := fzJ hR1.st 1; have f2 := fzJ hR1.st 2;simp only [List.getElem?_toArray, List.getElem?_cons_succ, List.getElem?_cons_zero] at d1 d2;have hm := Lib.hid (hR1.moved (p' := p + to) (e' := code) hto);have hcast : (((p + to : Nat) : Int)) = (p : Int) + (to : Int) := by omega
   rw [hcast] at hm;have ho1 := Lib.hid (Only.of_below (F := fun k => k = R) (below_drew hb1));clear c0 c1 c2 hR1 kk hrun hb1;go_wp2_with fail
   go_ret
   exact ⟨rfl, hm.out.1, ho1.out.then hm.out.2⟩
set_option maxRecDepth 20000 in
theorem fieldbad_i64 {w : World} {R L cap p e : Nat} {a : Option Addr} {f : Nat → Nat} {N : Nat} (h : RM w R a L cap f p e) (he : e ≠ 0) :
   Calls Tryd.prog 34 #[.pointer (some ⟨R, 0, none⟩), .func (.func N) #[] #[]] w fun e' w' => e' = .returned (.int .i64 0) ∧ w' = w := by
 have c2 := cellJ h.st 2;simp only [List.getElem?_toArray, List.getElem?_cons_succ, List.getElem?_cons_zero] at c2;have hq : ((e : Int) != 0) = true := bne_iff_ne.2 (by omega);clear h;replace he := Lib.hid he;go_enter Tryd.func34, Tryd.ntmps34
 go_wp2_with fail
 go_ret
 exact ⟨rfl, rfl⟩
end Go.Proofs.YtfajfflbplnagaaDoor
namespace Go.Proofs.YtfajfflbplnagaaDoor
open Go.RowKit
set_option maxRecDepth 20000 in
set_option maxHeartbeats 2000000 in
theorem field_str {w : World} {R L cap p : Nat} {a : Option Addr} {f : Nat → Nat} {N : Nat} {v : Value} {to code : Nat} (h : RM w R a L cap f p 0) (hN : ∀ args W, (callFunc N args).run Tryd.prog W = .ok (.enter N args) W) (hto : p + to ≤ L)
   (kR : ∀ W a', By W a' (L - p) (offF f p) → (a' = none → cap - p = 0) → Calls Tryd.prog N #[.slice a' (L - p) (cap - p)] W (ReadsTo v to code W)) :
   Calls Tryd.prog 36 #[.pointer (some ⟨R, 0, none⟩), .func (.func N) #[] #[]] w (FieldP v w R a L cap f (p + to) code) := by
 obtain ⟨a', hrun, hby, hnn⟩ := bytes_left h;have c0 := cellJ h.st 0; have c1 := cellJ h.st 1; have c2 := cellJ h.st 2;simp only [List.getElem?_toArray, List.getElem?_cons_succ, List.getElem?_cons_zero] at c0 c1 c2;have hH := Lib.hid h;have kk := Lib.hid (kR w.drew a' (hby _ (h.by_.kept (F := fun _ => False) (Only.of_below (Below.refl _ w).drew) (fun _ _ _ e => e))) hnn);have hpb : (p : Int) ≤ 9223372036854775807 := by have := h.le; have := h.lc; have := h.cm; omega
 have htb : (p : Int) + (to : Int) ≤ 9223372036854775807 := by have := h.lc; have := h.cm; omega
 unfold ReadsTo at kk;clear h kR hby hnn;go_enter Tryd.func36, Tryd.ntmps36
 go_wp2_with fail
 go_region_with ((with_reducible refine kk.out.mono ?_); rintro e1 w1 ⟨rfl, hb1⟩)
 all_goals
   have hR1 := hH.out.below (below_drew hb1);have d1 := cellJ hR1.st 1; have d2 := cellJ hR1.st 2;have f1 := fzJ hR1.st 1; have f2 := fzJ hR1.st 2;simp only [List.getElem?_toArray, List.getElem?_cons_succ, List.getElem?_cons_zero] at d1 d2;have hm := Lib.hid (hR1.moved (p' := p + to) (e' := code) hto);have hcast : (((p + to : Nat) : Int)) = (p : Int) + (to : Int) := by omega
   rw [hcast] at hm;have ho1 := Lib.hid (Only.of_below (F := fun k => k = R) (below_drew hb1));clear c0 c1 c2 hR1 kk hrun hb1;go_wp2_with fail
   go_ret
   exact ⟨rfl, hm.out.1, ho1.out.then hm.out.2⟩
set_option maxRecDepth 20000 in
theorem fieldbad_str {w : World} {R L cap p e : Nat} {a : Option Addr} {f : Nat → Nat} {N : Nat} (h : RM w R a L cap f p e) (he : e ≠ 0) :
   Calls Tryd.prog 36 #[.pointer (some ⟨R, 0, none⟩), .func (.func N) #[] #[]] w fun e' w' => e' = .returned (.string ⟨#[]⟩) ∧ w' = w := by
 have c2 := cellJ h.st 2;simp only [List.getElem?_toArray, List.getElem?_cons_succ, List.getElem?_cons_zero] at c2;have hq : ((e : Int) != 0) = true := bne_iff_ne.2 (by omega);clear h;replace he := Lib.hid he;go_enter Tryd.func36, Tryd.ntmps36
 go_wp2_with fail
 go_ret
 exact ⟨rfl, rfl⟩
end Go.Proofs.YtfajfflbplnagaaDoor
