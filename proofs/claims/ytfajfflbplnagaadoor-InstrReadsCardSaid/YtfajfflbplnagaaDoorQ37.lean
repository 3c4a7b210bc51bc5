/- A part of the proof: JCTop, JField, JFieldA. No condition. -/
import Derived.Deep.RegionWith
import Derived.Deep.RegionHeld
import Derived.Deep.RegionHeld3
import Derived.Test.YtfajfflbplnagaaDoorQ31
import Derived.Test.YtfajfflbplnagaaDoorQ35
import Derived.Test.YtfajfflbplnagaaDoorQ36
set_option linter.unusedVariables false
set_option linter.unusedSimpArgs false
namespace Go.Proofs.YtfajfflbplnagaaDoor
open Go.RowKit
section
variable {w : World} {L cap : Nat} {a : Option Addr} {f : Nat → Nat}
theorem numR_range0 (h : By w a L f) : (numR f L 0).v < 18446744073709551616 := (numR_range (Nat.zero_le _) (fun j _ hj => h.lt j hj)).1
set_option maxHeartbeats 400000 in
theorem ReadUint_any (h : By w a L f) (hl : L ≤ cap) (hm : cap ≤ 9223372036854775807) (hn : a = none → cap = 0) :
   Calls Tryd.prog 17 #[.slice a L cap] w fun e w' => e = .returned (.tuple #[.int .u64 ((numR f L 0).v : Nat), .int .i64 ((numR f L 0).to : Nat), .int .i64 ((numR f L 0).code : Nat)]) ∧ Below w.heap.size w w' := by
 have hF := faceU (T := fun v _ => v = .int .u64 ((numR f L 0).v : Nat)) h hl hm hn (fun v w1 w2 h _ => h) (fun w1 hR => number_took hR);have hz := numR_zero (L := L) (p := 0) (f := f) (Nat.zero_le _) (fun j _ hj => h.lt j hj);clear h;go_enter Tryd.func17, Tryd.ntmps17
 go_wp2_with ((with_reducible refine hF.mono ?_); rintro e w' ⟨v, rfl, hv, hb⟩)
 go_ret3
 refine ⟨?_, hb⟩;rcases hv with ⟨_, rfl⟩ | ⟨hc, rfl⟩
 · rfl
 · rw [hz hc]; rfl
set_option maxHeartbeats 400000 in
theorem ReadInt_any5 (h : By w a L f) (hl : L ≤ cap) (hm : cap ≤ 9223372036854775807) (hn : a = none → cap = 0) :
   Calls Tryd.prog 35 #[.slice a L cap] w fun e w' => e = .returned (.tuple #[.int .i64 (unfN (numR f L 0).v), .int .i64 ((numR f L 0).to : Nat), .int .i64 ((numR f L 0).code : Nat)]) ∧ Below w.heap.size w w' := by
 have hF := faceI (T := fun v _ => v = .int .i64 (unfN (numR f L 0).v)) h hl hm hn (fun v w1 w2 h _ => h) (fun w1 hR => whole_took hR (numR_range0 h));have hz := numR_zero (L := L) (p := 0) (f := f) (Nat.zero_le _) (fun j _ hj => h.lt j hj);clear h;go_enter Tryd.func35, Tryd.ntmps35
 go_wp2_with ((with_reducible refine hF.mono ?_); rintro e w' ⟨v, rfl, hv, hb⟩)
 go_ret3
 refine ⟨?_, hb⟩;rcases hv with ⟨_, rfl⟩ | ⟨hc, rfl⟩
 · rfl
 · rw [hz hc]; rfl
set_option maxHeartbeats 400000 in
theorem ReadText_any5 (h : By w a L f) (hl : L ≤ cap) (hm : cap ≤ 9223372036854775807) (hn : a = none → cap = 0) :
   Calls Tryd.prog 37 #[.slice a L cap] w fun e w' => e = .returned (.tuple #[textV f L (numR f L 0), .int .i64 (textTo L (numR f L 0) : Nat), .int .i64 (textCode L (numR f L 0) : Nat)]) ∧ Below w.heap.size w w' := by
 have hF := faceS (T := fun v _ => v = .string (textB f (numR f L 0).to (numR f L 0).v)) h hl hm hn (fun v w1 w2 h _ => h) (fun w1 hR => text_took hR (numR_range0 h));clear h;go_enter Tryd.func37, Tryd.ntmps37
 go_wp2_with ((with_reducible refine hF.mono ?_); rintro e w' ⟨v, rfl, hv, hb⟩)
 go_ret3
 refine ⟨?_, hb⟩;rcases hv with ⟨hc, rfl⟩ | ⟨hc, rfl⟩
 · exact ret_three (by unfold textV; rw [if_pos hc]; rfl) rfl rfl
 · exact ret_three (by unfold textV; rw [if_neg hc]; rfl) rfl rfl
end
end Go.Proofs.YtfajfflbplnagaaDoor
namespace Go.Proofs.YtfajfflbplnagaaDoor
open Go.RowKit
structure RM (w : World) (R : Nat) (a : Option Addr) (L cap : Nat) (f : Nat → Nat) (p e : Nat) : Prop where
 st : w.heap[R]? = some (.cells #[.slice a L cap, .int .i64 p, .int .i64 e] 35 (0, 0))
 by_ : By w a L f
 ne : ∀ q, a = some q → 0 < L → q.block ≠ R
 le : p ≤ L
 lc : L ≤ cap
 cm : cap ≤ 9223372036854775807
 nl : a = none → cap = 0
theorem cellJ {W : World} {b : Nat} {cs : Array Value} {t : TypeId} (h : W.heap[b]? = some (.cells cs t (0, 0))) (j : Nat) : W.cell? ⟨b, j, none⟩ = cs[j]? := by simp [World.cell?, h]
theorem fzJ {W : World} {b : Nat} {cs : Array Value} {t : TypeId} (h : W.heap[b]? = some (.cells cs t (0, 0))) (j : Nat) : W.frozen? ⟨b, j, none⟩ = false := by simp [World.frozen?, h]
section
variable {w W : World} {R L cap p e : Nat} {a : Option Addr} {f : Nat → Nat}
theorem RM.kept (h : RM w R a L cap f p e) {F : Nat → Prop} (ho : Only F w W) (hR : ¬ F R) (hF : ∀ q, a = some q → 0 < L → ¬ F q.block) : RM W R a L cap f p e :=
 ⟨(ho.block R (Array.getElem?_eq_some_iff.1 h.st).1 hR).trans h.st, h.by_.kept ho hF, h.ne, h.le, h.lc, h.cm, h.nl⟩
theorem RM.below (h : RM w R a L cap f p e) (hb : Below w.heap.size w W) : RM W R a L cap f p e := h.kept (F := fun _ => False) (Only.of_below hb) (fun e => e) (fun _ _ _ e => e)
theorem RM.moved (h : RM w R a L cap f p e) {p' e' : Nat} (hp : p' ≤ L) : RM ((w.setCell ⟨R, 1, none⟩ (.int .i64 p')).setCell ⟨R, 2, none⟩ (.int .i64 e')) R a L cap f p' e' ∧ Only (fun k => k = R) w ((w.setCell ⟨R, 1, none⟩ (.int .i64 p')).setCell ⟨R, 2, none⟩ (.int .i64 e')) := by
 have ho : Only (fun k => k = R) w ((w.setCell ⟨R, 1, none⟩ (.int .i64 p')).setCell ⟨R, 2, none⟩ (.int .i64 e')) := ((Only.refl (fun k => k = R) w).setCell (p := ⟨R, 1, none⟩) (.inl rfl) _).setCell (p := ⟨R, 2, none⟩) (.inl rfl) _;refine ⟨⟨?_, h.by_.kept ho (fun q hq h0 e => h.ne q hq h0 e), h.ne, hp, h.lc, h.cm, h.nl⟩, ho⟩;have a1 := heap_setCell_same w R 1 _ _ (.int .i64 p') h.st;have a2 := heap_setCell_same _ R 2 _ _ (.int .i64 e') a1
 simpa using a2
theorem By.off (h : By w a L f) (hp : p ≤ L) : By w (if cap = p then a else a.map (·.add p)) (L - p) (offF f p) ∨ cap = p := by
 by_cases hc : cap = p
 · exact .inr hc
 · left
   rw [if_neg hc];intro h0;obtain ⟨b, off, rfl, hb, hcc⟩ := h (by omega);refine ⟨b, off + p, by simp [Addr.add], hb, fun j hj => ?_⟩;have := hcc (p + j) (by omega);rw [show off + (p + j) = off + p + j by omega] at this;exact this
end
set_option maxRecDepth 20000 in
theorem size_u8s (W : World) : (sizeOf (Tryd.prog.elem 22)).run Tryd.prog W = .ok 1 W := by kernel_rfl
set_option maxRecDepth 20000 in
theorem bytes_left {w : World} {R L cap p e : Nat} {a : Option Addr} {f : Nat → Nat} (h : RM w R a L cap f p e) : ∃ a', (∀ W, (Instr.slice 22 (.slice a L cap) (some (.int .i64 (p : Int))) none none).run Tryd.prog W = .ok (.slice a' (L - p) (cap - p)) W) ∧ (∀ W, By W a L f → By W a' (L - p) (offF f p)) ∧ (a' = none → cap - p = 0) := by
 have hp := h.le;have hl := h.lc;refine ⟨if cap = p then a else a.map (·.add (p * 1)), fun W => ?_, fun W hW => ?_, fun hn => ?_⟩
 · rw [run_slice_l (P := Tryd.prog) (w := W) 22 a L cap Tryd.underlying22 .i64 p (by omega) (by omega), size_u8s]
   simp only [Result.andThen, sliced, Int.toNat_natCast]
 · rcases hW.off (cap := cap) hp with h1 | h1
   · rw [Nat.mul_one]; exact h1
   · intro h0; omega
 · by_cases hc : cap = p
   · omega
   · rw [if_neg hc] at hn
     have : a = none := by cases a <;> simp_all
     rw [h.nl this]; omega
def ReadsTo (v : Value) (to code : Nat) (W : World) (e : Ending) (w' : World) : Prop := e = .returned (.tuple #[v, .int .i64 to, .int .i64 code]) ∧ Below W.heap.size W w'
def FieldP (v : Value) (w : World) (R : Nat) (a : Option Addr) (L cap : Nat) (f : Nat → Nat) (p' e' : Nat) (e : Ending) (w' : World) : Prop := e = .returned v ∧ RM w' R a L cap f p' e' ∧ Only (fun k => k = R) w w'
end Go.Proofs.YtfajfflbplnagaaDoor
namespace Go.Proofs.YtfajfflbplnagaaDoor
open Go.RowKit
set_option maxRecDepth 20000 in
set_option maxHeartbeats 2000000 in
theorem field_u64 {w : World} {R L cap p : Nat} {a : Option Addr} {f : Nat → Nat} {N : Nat} {v : Value} {to code : Nat} (h : RM w R a L cap f p 0) (hN : ∀ args W, (callFunc N args).run Tryd.prog W = .ok (.enter N args) W) (hto : p + to ≤ L)
   (kR : ∀ W a', By W a' (L - p) (offF f p) → (a' = none → cap - p = 0) → Calls Tryd.prog N #[.slice a' (L - p) (cap - p)] W (ReadsTo v to code W)) :
   Calls Tryd.prog 16 #[.pointer (some ⟨R, 0, none⟩), .func (.func N) #[] #[]] w (FieldP v w R a L cap f (p + to) code) := by
 obtain ⟨a', hrun, hby, hnn⟩ := bytes_left h;have c0 := cellJ h.st 0; have c1 := cellJ h.st 1; have c2 := cellJ h.st 2;simp only [List.getElem?_toArray, List.getElem?_cons_succ, List.getElem?_cons_zero] at c0 c1 c2;have hH := Lib.hid h;have kk := Lib.hid (kR w.drew a' (hby _ (h.by_.kept (F := fun _ => False) (Only.of_below (Below.refl _ w).drew) (fun _ _ _ e => e))) hnn);have hpb : (p : Int) ≤ 9223372036854775807 := by have := h.le; have := h.lc; have := h.cm; omega
 have htb : (p : Int) + (to : Int) ≤ 9223372036854775807 := by have := h.lc; have := h.cm; omega
 unfold ReadsTo at kk;clear h kR hby hnn;go_enter Tryd.func16, Tryd.ntmps16
 go_wp2_with fail
 go_region_with ((with_reducible refine kk.out.mono ?_); rintro e1 w1 ⟨rfl, hb1⟩)
 all_goals
   have hR1 := hH.out.below (below_drew hb1);have d1 := cellJ hR1.st 1; have d2 := cellJ hR1.st 2;have f1 := fzJ hR1.st 1; have f2 := fzJ hR1.st 2;simp only [List.getElem?_toArray, List.getElem?_cons_succ, List.getElem?_cons_zero] at d1 d2;have hm := Lib.hid (hR1.moved (p' := p + to) (e' := code) hto);have hcast : (((p + to : Nat) : Int)) = (p : Int) + (to : Int) := by omega
   rw [hcast] at hm;have ho1 := Lib.hid (Only.of_below (F := fun k => k = R) (below_drew hb1));clear c0 c1 c2 hR1 kk hrun hb1;go_wp2_with fail
   go_ret
   exact ⟨rfl, hm.out.1, ho1.out.then hm.out.2⟩
set_option maxRecDepth 20000 in
theorem fieldbad_u64 {w : World} {R L cap p e : Nat} {a : Option Addr} {f : Nat → Nat} {N : Nat} (h : RM w R a L cap f p e) (he : e ≠ 0) :
   Calls Tryd.prog 16 #[.pointer (some ⟨R, 0, none⟩), .func (.func N) #[] #[]] w fun e' w' => e' = .returned (.int .u64 0) ∧ w' = w := by
 have c2 := cellJ h.st 2;simp only [List.getElem?_toArray, List.getElem?_cons_succ, List.getElem?_cons_zero] at c2;have hq : ((e : Int) != 0) = true := bne_iff_ne.2 (by omega);clear h;replace he := Lib.hid he;go_enter Tryd.func16, Tryd.ntmps16
 go_wp2_with fail
 go_ret
 exact ⟨rfl, rfl⟩
set_option maxRecDepth 20000 in
set_option maxHeartbeats 2000000 in
theorem field_byte {w : World} {R L cap p : Nat} {a : Option Addr} {f : Nat → Nat} {N : Nat} {v : Value} {to code : Nat} (h : RM w R a L cap f p 0) (hN : ∀ args W, (callFunc N args).run Tryd.prog W = .ok (.enter N args) W) (hto : p + to ≤ L)
   (kR : ∀ W a', By W a' (L - p) (offF f p) → (a' = none → cap - p = 0) → Calls Tryd.prog N #[.slice a' (L - p) (cap - p)] W (ReadsTo v to code W)) :
   Calls Tryd.prog 30 #[.pointer (some ⟨R, 0, none⟩), .func (.func N) #[] #[]] w (FieldP v w R a L cap f (p + to) code) := by
 obtain ⟨a', hrun, hby, hnn⟩ := bytes_left h;have c0 := cellJ h.st 0; have c1 := cellJ h.st 1; have c2 := cellJ h.st 2;simp only [List.getElem?_toArray, List.getElem?_cons_succ, List.getElem?_cons_zero] at c0 c1 c2;have hH := Lib.hid h;have kk := Lib.hid (kR w.drew a' (hby _ (h.by_.kept (F := fun _ => False) (Only.of_below (Below.refl _ w).drew) (fun _ _ _ e => e))) hnn);have hpb : (p : Int) ≤ 9223372036854775807 := by have := h.le; have := h.lc; have := h.cm; omega
 have htb : (p : Int) + (to : Int) ≤ 9223372036854775807 := by have := h.lc; have := h.cm; omega
 unfold ReadsTo at kk;clear h kR hby hnn;go_enter Tryd.func30, Tryd.ntmps30
 go_wp2_with fail
 go_region_with ((with_reducible refine kk.out.mono ?_); rintro e1 w1 ⟨rfl, hb1⟩)
 all_goals
   have hR1 := hH.out.below (below_drew hb1);have d1 := cellJ hR1.st 1; have d2 := cellJ hR1.st 2;have f1 := fzJ hR1.st 1; have f2 := fzJ hR1.st 2;simp only [List.getElem?_toArray, List.getElem?_cons_succ, List.getElem?_cons_zero] at d1 d2;have hm := Lib.hid (hR1.moved (p' := p + to) (e' := code) hto);have hcast : (((p + to : Nat) : Int)) = (p : Int) + (to : Int) := by omega
   rw [hcast] at hm;have ho1 := Lib.hid (Only.of_below (F := fun k => k = R) (below_drew hb1));clear c0 c1 c2 hR1 kk hrun hb1;go_wp2_with fail
   go_ret
   exact ⟨rfl, hm.out.1, ho1.out.then hm.out.2⟩
set_option maxRecDepth 20000 in
theorem fieldbad_byte {w : World} {R L cap p e : Nat} {a : Option Addr} {f : Nat → Nat} {N : Nat} (h : RM w R a L cap f p e) (he : e ≠ 0) :
   Calls Tryd.prog 30 #[.pointer (some ⟨R, 0, none⟩), .func (.func N) #[] #[]] w fun e' w' => e' = .returned (.int .u8 0) ∧ w' = w := by
 have c2 := cellJ h.st 2;simp only [List.getElem?_toArray, List.getElem?_cons_succ, List.getElem?_cons_zero] at c2;have hq : ((e : Int) != 0) = true := bne_iff_ne.2 (by omega);clear h;replace he := Lib.hid he;go_enter Tryd.func30, Tryd.ntmps30
 go_wp2_with fail
 go_ret
 exact ⟨rfl, rfl⟩
end Go.Proofs.YtfajfflbplnagaaDoor
