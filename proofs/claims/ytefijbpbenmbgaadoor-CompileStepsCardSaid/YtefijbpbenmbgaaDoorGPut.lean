/- compile's emitter (layer 15), walked: put. No condition. -/
import Derived.Test.YtefijbpbenmbgaaDoorGMem
import Derived.LoopTactic
import Derived.IntWalk
import Derived.Deep.RegionWith
import Derived.Deep.RegionHeld
import Derived.Deep.RegionLaw
import Derived.Deep.AppendLies
namespace Go.Proofs.YtefijbpbenmbgaaDoor
open Go.RowKit Go.Shelf

theorem cells_newG (w : World) (xs : List Value) (t : TypeId) (j : Nat) (u : Value) (h : xs[j]? = some u) : (w.alloc (.cells xs.toArray t)).cell? ((⟨w.heap.size, 0, none⟩ : Addr).add j) = some u := by
  rw [show (⟨w.heap.size, 0, none⟩ : Addr).add j = ⟨w.heap.size, j, none⟩ by simp [Addr.add]; omega]
  simp only [World.cell?, heap_alloc_new]
  simpa using h

set_option maxRecDepth 20000 in
set_option maxHeartbeats 4000000 in
theorem put_any {w0 w : World} {bc : Nat} {tl : List Tw} {code : List Ins} (h : CM w0 w bc tl code) (x : Ins) (hk : code.length ≤ 1000000) :
    Calls Tryd.prog 21 #[.pointer (some ⟨bc, 0, none⟩), insV x] w fun e w' => e = .returned (.tuple #[]) ∧ CM w0 w' bc tl (code ++ [x]) ∧ Only (Fcm w0.heap.size w) w w' := by
  obtain ⟨cv, tv, sv, sl, h1, h2, h3, h4, h5⟩ := id h.mem
  obtain ⟨ca, cc, rfl, hl1, hl2⟩ := id h2.shape
  have hh := Lib.hid h
  have c0 := cellC h1 0
  simp only [List.getElem?_toArray, List.getElem?_cons_zero] at c0
  have hbs := h.b.size
  obtain ⟨i0, hi, hz0, hz1, hz2⟩ := ins_parts
  obtain ⟨op, a, num, text⟩ := x
  unfold insV
  dsimp only
  have hH1 := Lib.hid h1
  have hH2 := Lib.hid h2
  clear h h1 h2
  go_enter Tryd.func21, Tryd.ntmps21
  go_wp2_with fail
  have hal := (Below.refl w.heap.size w).alloc (Nat.le_refl _) (.cells #[.int .u8 op, .int .i64 a, .int .i64 num, .string ⟨text.toArray⟩] 36)
  have hN : (w.alloc (.cells #[.int .u8 op, .int .i64 a, .int .i64 num, .string ⟨text.toArray⟩] 36)).heap[w.heap.size]? = some (.cells #[.int .u8 op, .int .i64 a, .int .i64 num, .string ⟨text.toArray⟩] 36 (0, 0)) := heap_alloc_new w _
  have hC1 := Below.keeps hal c0
  have hM1 := Lib.hid (hh.out.below hal)
  have hI1 := Lib.hid (InsAt.below hH2.out hal)
  have hB1 := Lib.hid ((hal.block bc (Array.getElem?_eq_some_iff.1 hH1.out).1).trans hH1.out)
  have hal1 := Lib.hid hal
  clear c0 hal
  generalize hW : w.alloc (.cells #[.int .u8 op, .int .i64 a, .int .i64 num, .string ⟨text.toArray⟩] 36) = W1 at *
  have n0 := cellC hN 0; have n1 := cellC hN 1; have n2 := cellC hN 2; have n3 := cellC hN 3
  simp only [List.getElem?_toArray, List.getElem?_cons_succ, List.getElem?_cons_zero] at n0 n1 n2 n3
  replace hW := Lib.hid hW
  replace hN := Lib.hid hN
  have hoA : Only (fun _ => False) W1 (W1.drew.alloc (.cells #[.int .u8 op, .int .i64 a, .int .i64 num, .string ⟨text.toArray⟩] 36)) := Only.of_below ((Below.refl _ W1).drew.alloc (Nat.le_refl _) _)
  have hIA := Lib.hid (ownsRow_only hI1.out hoA (fun _ _ e => e))
  have hBA := Lib.hid (heldC hoA hB1.out (fun e => e))
  have hsA : w0.heap.size ≤ (W1.drew.alloc (.cells #[.int .u8 op, .int .i64 a, .int .i64 num, .string ⟨text.toArray⟩] 36)).heap.size := Nat.le_trans (Nat.le_trans hbs hal1.out.size) hoA.size
  have hCA := cellC hBA.out 0
  simp only [List.getElem?_toArray, List.getElem?_cons_zero] at hCA
  change (W1.alloc (.cells #[.int .u8 op, .int .i64 a, .int .i64 num, .string ⟨text.toArray⟩] 36)).cell? _ = _ at hCA
  replace hoA := Lib.hid hoA
  have key := Lib.hid (fun (g cap : Nat) (w3 : World) (q1 : w3.ownsRow w0.heap.size 36 4 (.slice (some ⟨g, 0, none⟩) (code.length + 1) cap) (code.length + 1) (rowOf insC code ++ insC ⟨op, a, num, text⟩)) (q2 : (W1.drew.alloc (.cells #[.int .u8 op, .int .i64 a, .int .i64 num, .string ⟨text.toArray⟩] 36)).grownBy w3 (Value.slice ca code.length cc).ownBlock) => show Hid (w3.heap[bc]? = some (.cells #[.slice ca code.length cc, tv, sv] 47 (0, 0))) ∧ w3.cell? ⟨bc, 0, none⟩ = some (.slice ca code.length cc) ∧ w3.frozen? ⟨bc, 0, none⟩ = false ∧ Hid (InsAt w3 w0.heap.size (.slice (some ⟨g, 0, none⟩) (code.length + 1) cap) (code ++ [⟨op, a, num, text⟩])) ∧ Hid (Only (Fcm w0.heap.size w) w w3) from by
    have ho : Only (fun k => (Value.slice ca code.length cc).ownBlock = some k) (W1.drew.alloc (.cells #[.int .u8 op, .int .i64 a, .int .i64 num, .string ⟨text.toArray⟩] 36)) w3 := Only.of_grown q2 (fun k hk => hk)
    have hb := heldC ho hBA.out (InsAt.apart (ns := code) hIA.out hBA.out (by decide))
    have hb0 := cellC hb 0
    simp only [List.getElem?_toArray, List.getElem?_cons_zero] at hb0
    refine ⟨Lib.hid hb, hb0, fzC hb 0, Lib.hid ?_, Lib.hid ?_⟩
    · unfold InsAt
      rw [List.length_append, List.length_singleton, rowOf_append]
      have : rowOf insC [⟨op, a, num, text⟩] = insC ⟨op, a, num, text⟩ := List.append_nil _
      rw [this]
      exact q1
    · refine ((Only.of_below (F := Fcm w0.heap.size w) hal1.out).trans (K := Fcm w0.heap.size w) hoA.out (fun _ _ h => h) (fun _ _ h => h.elim)).trans (K := Fcm w0.heap.size w) ho (fun _ _ h => h) ?_
      intro k hk e
      obtain ⟨m1, _, cur, m3⟩ := hH2.out.block e
      refine ⟨m1, fun c t fr hc => ?_⟩
      rw [m3] at hc
      injection hc with hc
      injection hc with _ hc _
      exact .inr hc.symm)
  go_region_law ((refine step_append_lies (W1.drew.alloc (.cells #[.int .u8 op, .int .i64 a, .int .i64 num, .string ⟨text.toArray⟩] 36)) rfl (.tmp 8) (.tmp 10) 25 rfl w0.heap.size 36 i0 (.agg #[.int .u8 0, .int .i64 0, .int .i64 0, .string ⟨#[]⟩]) 4 40 Tryd.underlying25 hi hz0 hz1 hz2 rfl (by decide) (.slice ca code.length cc) code.length (rowOf insC code) rfl hIA.out ⟨W1.heap.size, 0, none⟩ 1 1 (insC ⟨op, a, num, text⟩) rfl rfl (fun j u hj => cells_newG W1.drew _ _ j u hj) (insC_one _) (by omega) (by unfold maxLen; omega) (by omega) hsA _ rfl ?_; intro g cap w3 q1 q2 _ _; obtain ⟨e1, e2, e3, e4, e5⟩ := key.out g cap w3 q1 q2; clear q1 q2))
  all_goals
    go_wp2_with fail
    refine bodyPost_end (results_none rfl _ _ _) rfl ?_
    have hsT := scOnly w3 bc 0 (.slice (some ⟨g, 0, none⟩) (code.length + 1) cap)
    have e1' := stored3 e1.out (.slice (some ⟨g, 0, none⟩) (code.length + 1) cap)
    have hB3 : Below w0.heap.size w0 w3 := hh.out.b.trans (e5.out.below hh.out.b.size (fun k hk e => by have := e.1; omega))
    have hoT : Only (Fcm w0.heap.size w) w (w3.setCell ⟨bc, 0, none⟩ (.slice (some ⟨g, 0, none⟩) (code.length + 1) cap)) := e5.out.setCell (p := ⟨bc, 0, none⟩) (.inl ⟨hh.out.hb, fun c t fr hc => by
      rw [hH1.out] at hc
      injection hc with hc
      injection hc with _ hc _
      exact .inl hc.symm⟩) _
    exact ⟨rfl, ⟨hB3.trans (hsT.below hB3.size (fun k hk e => by have := hh.out.hb; omega)), hh.out.hb, ⟨_, tv, sv, sl, e1', ownsRow_only e4.out hsT (fun g' hg' e => by subst e; exact e4.out.apart e1.out (by decide) hg'), h3, h4, h5⟩, hh.out.fit⟩, hoT⟩
end Go.Proofs.YtefijbpbenmbgaaDoor
