/- tree's look (layer 8), walked. No condition. -/
import Derived.Test.YtefijbpbenmbgaaDoorRPass
import Derived.OwnWalk
namespace Go.Proofs.YtefijbpbenmbgaaDoor
open Go.RowKit Go.Shelf

/-- Where it ends or is wrong, how deep it is, and what is wrong. -/
def lookF (ts : List Tw) : Nat × Nat × Int :=
  if 2048 < ts.length then (0, 0, 2) else if ts.length = 0 then (0, 0, 3) else
    if (passF ts.length ts 1 ⟨0, 0, 0⟩).1 = false ∨ (passF ts.length ts 1 ⟨0, 0, 0⟩).2.gone < ts.length then ((passF ts.length ts 1 ⟨0, 0, 0⟩).2.gone, 0, 3)
    else if 0 < (passF ts.length ts 1 ⟨0, 0, 0⟩).2.tooDeep then ((passF ts.length ts 1 ⟨0, 0, 0⟩).2.tooDeep, 0, 2) else (0, (passF ts.length ts 1 ⟨0, 0, 0⟩).2.deepest, 0)

def Held (w : World) (p : Addr) (v : Value) : Prop := w.cell? p = some v ∧ w.frozen? p = false
theorem Held.up {w : World} {p : Addr} {v : Value} (h : Held w p v) (o : Obj) : Held (w.alloc o) p v :=
  ⟨cell_on h.1 ((Below.refl _ w).alloc (Nat.le_refl _) o), frozen_on h.1 h.2 ((Below.refl _ w).alloc (Nat.le_refl _) o)⟩
theorem held_new {w : World} {n : Nat} (hn : w.heap.size = n) (v : Value) (t : TypeId) : Held (w.alloc (.cells #[v] t)) ⟨n, 0, none⟩ v := by
  subst hn
  exact ⟨one_cell w #[v] t 0, by have h := heap_alloc_new w (.cells #[v] t); unfold World.frozen?; dsimp only; rw [h]; rfl⟩
/-- Memory behind look's own beginning. -/
theorem look_mem (w : World) {v : Value} {ts : List Tw} {b : Nat} (hT : TwIn w v ts) (hK : KMap w b tabL) (t0 t1 t2 t3 t4 t5 : TypeId) (W : World) (hW : W = ((((((w.alloc (.cells #[.map (some b)] t0)).alloc (.cells #[v] t1)).alloc (.cells #[.int .i64 0] t2)).alloc (.cells #[.int .i64 0] t3)).alloc (.cells #[.int .i64 0] t4)).alloc (.cells #[.func (.func 59) #[] #[.pointer (some ⟨w.heap.size + 1, 0, none⟩), .pointer (some ⟨w.heap.size + 1 + 1, 0, none⟩), .pointer (some ⟨w.heap.size, 0, none⟩), .pointer (some ⟨w.heap.size + 1 + 1 + 1 + 1, 0, none⟩), .pointer (some ⟨w.heap.size + 1 + 1 + 1, 0, none⟩), .pointer (some ⟨w.heap.size + 1 + 1 + 1 + 1 + 1, 0, none⟩)]] t5))) :
    PMem W (w.heap.size + 1) w.heap.size (w.heap.size + 1 + 1) (w.heap.size + 1 + 1 + 1) (w.heap.size + 1 + 1 + 1 + 1) (w.heap.size + 1 + 1 + 1 + 1 + 1) v ts ⟨0, 0, 0⟩ ∧ Below w.heap.size w W := by
  have hB : Below w.heap.size w W := by
    rw [hW]
    refine ((((((Below.refl _ w).alloc ?_ _).alloc ?_ _).alloc ?_ _).alloc ?_ _).alloc ?_ _).alloc ?_ _ <;> (simp; try omega)
  refine ⟨⟨?_, ⟨b, ?_, hK.below hB hK.lt⟩, ?_, ?_, ?_, ?_, hT.below hB⟩, hB⟩ <;> rw [hW]
  · exact (((((held_new (by simp) v t1).up _).up _).up _).up _).1
  · exact ((((((held_new rfl _ t0).up _).up _).up _).up _).up _).1
  · exact ((((held_new (by simp) _ t2).up _).up _).up _)
  · exact (((held_new (by simp) _ t3).up _).up _)
  · exact ((held_new (by simp) _ t4).up _)
  · exact (held_new (by simp) _ t5).1

set_option maxRecDepth 20000 in
set_option maxHeartbeats 4000000 in
theorem look_any {v : Value} {ts : List Tw} {b : Nat} (w : World) (hT : TwIn w v ts) (hf : ∀ x ∈ ts, FitT x) (hK : KMap w b tabL) :
    Calls Tryd.prog 32 #[.map (some b), v] w fun e w' => e = .returned (.tuple #[.int .i64 (lookF ts).1, .int .i64 (lookF ts).2.1, .int .i64 (lookF ts).2.2]) ∧ Below w.heap.size w w' := by
  obtain ⟨Z, hZ⟩ := exHid (lookF ts)
  rw [hZ.out]
  have hT' := Lib.hid hT
  have hsf := fun c => sv_any (v := .func (.func 59) #[] c) rfl
  obtain ⟨a, cap, rfl, htc, htm, hcells⟩ := id hT
  have hz := hZ.out
  unfold lookF at hz
  clear hZ
  by_cases h1 : 2048 < ts.length
  · rw [if_pos h1] at hz
    have h1i : (2048 : Int) < (ts.length : Int) := by omega
    replace hz := Lib.hid hz
    clear hcells hT
    go_enter Tryd.func32, Tryd.ntmps32
    go_wp2_with fail
    refine bodyPost_ret (results_tmp3 rfl _ _ _) rfl ?_
    rw [← hz.out]
    exact ⟨rfl, by go_grown⟩
  · rw [if_neg h1] at hz
    have h1i : ¬ (2048 : Int) < (ts.length : Int) := by omega
    by_cases h0 : ts.length = 0
    · rw [if_pos h0] at hz
      have h0i : ((ts.length : Int) == 0) = true := by rw [h0]; rfl
      replace hz := Lib.hid hz
      replace h0 := Lib.hid h0
      clear hcells hT
      go_enter Tryd.func32, Tryd.ntmps32
      go_wp2_with fail
      refine bodyPost_ret (results_tmp3 rfl _ _ _) rfl ?_
      rw [← hz.out]
      exact ⟨rfl, by go_grown⟩
    · rw [if_neg h0] at hz
      have h0i : ((ts.length : Int) == 0) = false := beq_eq_false_iff_ne.2 (by omega)
      obtain ⟨g, off, rfl, hg, hc⟩ := hcells (by omega)
      clear hc
      replace hz := Lib.hid hz
      replace h0 := Lib.hid h0
      replace hT := Lib.hid hT
      go_enter Tryd.func32, Tryd.ntmps32
      go_wp2_with fail
      generalize hW : (World.alloc _ _) = W
      have hM := look_mem w hT.out hK _ _ _ _ _ _ W hW.symm
      clear hW
      obtain ⟨hP, hB⟩ := hM
      have hne : PNe (w.heap.size + 1) w.heap.size (w.heap.size + 1 + 1) (w.heap.size + 1 + 1 + 1) (w.heap.size + 1 + 1 + 1 + 1) (w.heap.size + 1 + 1 + 1 + 1 + 1) (.slice (some ⟨g, off, none⟩) ts.length cap) := by
        refine ⟨by omega, by omega, by omega, by omega, by omega, by omega, ?_⟩
        intro g' off' l c e
        cases e
        omega
      have kP := pass_any hne hf (by omega) ts.length 1 ⟨0, 0, 0⟩ W (by show 0 < _; have := h0.out; omega) (Nat.sub_le _ _) (by omega) (Nat.zero_le _) hP
      have mono := pass_mono_at ts ts.length 1 1000000 ⟨0, 0, 0⟩ (by show 0 < _; have := h0.out; omega) (Nat.zero_le _) (by omega)
      replace hz := hz.out
      generalize passF ts.length ts 1 ⟨0, 0, 0⟩ = R at kP mono hz
      obtain ⟨rb, s5⟩ := R
      dsimp only at kP mono hz
      have hBs := hB.size
      refine kP.mono ?_
      rintro e w5 ⟨rfl, hP5, hO5⟩
      have hB5 : Below w.heap.size w w5 := hB.trans (hO5.below hB.size (by intro k hk; omega))
      clear kP hP hO5
      have pg := hP5.g.1
      have pt := hP5.t
      have pd := hP5.d.1
      have px := hP5.x.1
      rcases rb with _ | _
      · rw [if_pos (Or.inl rfl)] at hz
        replace hz := Lib.hid hz
        replace hP5 := Lib.hid hP5
        replace hB5 := Lib.hid hB5
        go_wp2_with fail
        refine bodyPost_ret (results_tmp3 rfl _ _ _) rfl ?_
        rw [← hz.out]
        exact ⟨rfl, hB5.out⟩
      · by_cases hgo : s5.gone < ts.length
        · rw [if_pos (Or.inr hgo)] at hz
          have hgi : (s5.gone : Int) < (ts.length : Int) := by omega
          replace hz := Lib.hid hz
          replace hP5 := Lib.hid hP5
          replace hB5 := Lib.hid hB5
          go_wp2_with fail
          refine bodyPost_ret (results_tmp3 rfl _ _ _) rfl ?_
          rw [← hz.out]
          exact ⟨rfl, hB5.out⟩
        · rw [if_neg (by simp; omega)] at hz
          have hgi : ¬ (s5.gone : Int) < (ts.length : Int) := by omega
          by_cases hx : 0 < s5.tooDeep
          · rw [if_pos hx] at hz
            have hxi : (0 : Int) < (s5.tooDeep : Int) := by omega
            replace hz := Lib.hid hz
            replace hP5 := Lib.hid hP5
            replace hB5 := Lib.hid hB5
            go_wp2_with fail
            refine bodyPost_ret (results_tmp3 rfl _ _ _) rfl ?_
            rw [← hz.out]
            exact ⟨rfl, hB5.out⟩
          · rw [if_neg hx] at hz
            have hxi : ¬ (0 : Int) < (s5.tooDeep : Int) := by omega
            replace hz := Lib.hid hz
            replace hP5 := Lib.hid hP5
            replace hB5 := Lib.hid hB5
            replace hx := Lib.hid hx
            go_wp2_with fail
            go_quiet (fail)
            go_wp2_with fail
            refine bodyPost_ret (results_tmp3 rfl _ _ _) rfl ?_
            rw [← hz.out]
            exact ⟨rfl, below_drewN hB5.out _⟩
end Go.Proofs.YtefijbpbenmbgaaDoor
