/- A part of the proof: JRead. No condition. -/
import Derived.Test.YtfajfflbplnagaaDoorQ42
set_option linter.unusedVariables false
set_option linter.unusedSimpArgs false
namespace Go.Proofs.YtfajfflbplnagaaDoor
open Go.RowKit Go.Shelf
theorem go_err {f : Nat → Nat} {L n : Nat} : ∀ k p l, (goR f L n k p l).2.2 ≠ 0 → (goR f L n k p l).1 = []
 | 0, p, l, h => by
   unfold goR at h ⊢;split
   · rfl
   · rename_i c
     rw [if_neg c] at h;exact absurd rfl h
 | k + 1, p, l, h => by
   unfold goR at h ⊢;split
   · rfl
   · rename_i c
     rw [if_neg c] at h;exact go_err k _ _ h
theorem read_err {f : Nat → Nat} {L : Nat} (h : (readR f L).2.2 ≠ 0) : (readR f L).1 = [] := by
 unfold readR at h ⊢;split
 · rfl
 · rename_i c
   rw [if_neg c] at h;split
   · rfl
   · rename_i c2
     rw [if_neg c2] at h;exact go_err _ _ _ h
set_option maxRecDepth 20000 in
set_option maxHeartbeats 4000000 in
theorem Read_any {w : World} {L cap : Nat} {a : Option Addr} {f : Nat → Nat} (h : By w a L f) (hlc : L ≤ cap) (hcm : cap ≤ 9223372036854775807) (hnl : a = none → cap = 0) (hW : WordsOK w) :
   Calls Tryd.prog 5 #[.slice a L cap] w fun e w' => ∃ lv, e = .returned (.tuple #[lv, .int .i64 (readR f L).2.1, .int .i64 (readR f L).2.2]) ∧ InsAt w' w.heap.size lv (readR f L).1 ∧ Below w.heap.size w w' := by
 have hb1 := (Below.refl w.heap.size w).alloc (Nat.le_refl _) (.cells #[.slice a L cap, .int .i64 0, .int .i64 0] 35);have hby0 : ∀ q, a = some q → 0 < L → q.block < w.heap.size := fun q hq h0 => by
   obtain ⟨b, off, e1, e2, _⟩ := h h0;rw [hq] at e1;cases e1
   exact e2
 have hS : RS (w.alloc (.cells #[.slice a L cap, .int .i64 0, .int .i64 0] 35)) w.heap.size a L cap f ⟨0, 0⟩ :=
   ⟨heap_alloc_new w _, h.kept (F := fun _ => False) (Only.of_below hb1) (fun _ _ _ e => e), fun q hq h0 e => by have := hby0 q hq h0; omega, Nat.zero_le _, hlc, hcm, hnl⟩
 have kA := all_any hS (hW.below hb1);obtain ⟨Z, hZ⟩ := exHid (readR f L);have hE := read_err (f := f) (L := L);rw [hZ.out] at kA hE;rw [hZ.out];obtain ⟨zl, zp, ze⟩ := Z;dsimp only at kA hE;replace kA := Lib.hid kA;replace hE := Lib.hid hE;replace hb1 := Lib.hid hb1;clear hS h hW hZ;go_enter Tryd.func5, Tryd.ntmps5
 go_wp2_with fail
 refine kA.out.mono ?_;rintro e w1 ⟨lv, l, s, rfl, hI, hS, ho, hr, hl⟩;have hIn : InsAt w1 w.heap.size lv l := ownsRow_base hI (fun g hg => by have := hI.own hg; simp at this; omega);have hbw : Below w.heap.size w w1 := hb1.out.trans (ho.below (by simp) (fun k hk e => by omega));obtain ⟨rfl, rfl⟩ := Prod.mk.inj hr;have c0 := cellJ hS.st 0; have c1 := cellJ hS.st 1; have c2 := cellJ hS.st 2;simp only [List.getElem?_toArray, List.getElem?_cons_succ, List.getElem?_cons_zero] at c0 c1 c2;by_cases e : s.e = 0
 · have hL1 := hl e
   subst hL1;have qe : ((s.e : Int) != 0) = false := by rw [e]; rfl
   have e' : Hid (s.e = 0) := Lib.hid e;replace hIn := Lib.hid hIn;replace hbw := Lib.hid hbw;clear kA hI hS ho hr hl hb1 e hE;go_wp2_with fail
   go_region
   go_wp2_with fail
   refine bodyPost_ret (v := .tuple #[lv, .int .i64 s.p, .int .i64 0]) (by kernel_rfl) rfl ⟨lv, by rw [e'.out]; rfl, hIn.out.drew, hbw.out.drew⟩
 · have hL1 := hE.out e
   subst hL1;have qe : ((s.e : Int) != 0) = true := bne_iff_ne.2 (by omega);replace hbw := Lib.hid hbw;clear kA hI hIn hS ho hr hl hb1 e hE;go_wp2_with fail
   go_region
   go_wp2_with fail
   refine bodyPost_ret (v := .tuple #[.slice none 0 0, .int .i64 s.p, .int .i64 s.e]) (by kernel_rfl) rfl ⟨_, rfl, World.ownsRow_nil _ _ _ _, hbw.out.drew⟩
end Go.Proofs.YtfajfflbplnagaaDoor
