/- compile's emitter (layer 15), walked: the closure that fills a hole. No condition. -/
import Derived.Test.YtefijbpbenmbgaaDoorGOps
namespace Go.Proofs.YtefijbpbenmbgaaDoor
open Go.RowKit Go.Shelf

theorem row_set {L R : List Ins} {y : Ins} (a : Int) : (rowOf insC (L ++ y :: R)).set (L.length * 4 + 1) (.int .i64 a) = rowOf insC (L ++ ⟨y.op, a, y.num, y.text⟩ :: R) := by
  rw [rowOf_append, rowOf_append, List.set_append, rowOf_length insC_len L, if_neg (by omega), Nat.add_sub_cancel_left]
  rfl
set_option maxRecDepth 20000 in
set_option maxHeartbeats 1000000 in
/-- The closure writes the place at which it is called into the instruction that it was made with. -/
theorem fill_any {w0 w : World} {bc gb gi : Nat} {tl : List Tw} {L R : List Ins} {y : Ins} (u : FrameMode) (h : CM w0 w bc tl (L ++ y :: R)) (hH : HoleAt w bc gb gi L.length) (_hk : (L ++ y :: R).length ≤ 1000000) :
    CallsD Tryd.prog 61 #[.pointer (some ⟨gb, 0, none⟩), .pointer (some ⟨gi, 0, none⟩)] u w fun e u' w' => u' = u ∧ PutP w0 bc tl (L ++ ⟨y.op, ((L ++ y :: R).length : Int), y.num, y.text⟩ :: R) w e w' := by
  obtain ⟨cv, tv, sv, sl, h1, h2, h3, h4, h5⟩ := id h.mem
  have hcl : 0 < (L ++ y :: R).length := by simp; omega
  obtain ⟨g, cap, e, hgb, hgl, hcc, hcm⟩ := ownsRow_head h2 hcl
  subst e
  have c0 := cellC h1 0
  have m0 := cellC hH.m 0
  have i0 := cellC hH.i 0
  simp only [List.getElem?_toArray, List.getElem?_cons_zero] at c0 m0 i0
  have hst := World.ownsRow.stored h2 (L.length * 4 + 1) (.int .i64 ((L ++ y :: R).length : Int))
  rw [row_set] at hst
  have hcell := World.ownsRow.cellAt (g := g) (cap := cap) h2 (L.length * 4 + 1) (by simp; omega)
  have hfz := World.ownsRow.frozenAt (n := (L ++ y :: R).length) h2 (L.length * 4 + 1)
  rw [rowOf_append, List.getElem?_append_right (by rw [rowOf_length insC_len]; omega), rowOf_length insC_len, Nat.add_sub_cancel_left] at hcell
  have hcell' : w.cell? ⟨g, L.length * 4 + 1, none⟩ = some (.int .i64 y.a) := hcell
  have hlt : (L.length : Int) < ((L ++ y :: R).length : Int) := by simp; omega
  have kH := Lib.hid (here_any (h.below (Below.refl _ w).drew))
  have hbg : bc ≠ g := by
    intro e
    exact InsAt.apart h2 h1 (by decide) (by rw [e]; rfl)
  have hP : PutP w0 bc tl (L ++ ⟨y.op, ((L ++ y :: R).length : Int), y.num, y.text⟩ :: R) w (.returned (.tuple #[])) ((w.setCell ⟨g, L.length * 4 + 1, none⟩ (.int .i64 ((L ++ y :: R).length : Int))).drew) := by
    have ho : Only (Fcm w0.heap.size w) w (w.setCell ⟨g, L.length * 4 + 1, none⟩ (.int .i64 ((L ++ y :: R).length : Int))) := (Only.refl _ w).setCell (p := ⟨g, L.length * 4 + 1, none⟩) (.inl ⟨hgb, fun c t fr hc => by
      obtain ⟨cur, hcur, _⟩ := hcm.2
      rw [hcur] at hc
      injection hc with hc
      injection hc with _ hc _
      exact .inr hc.symm⟩) _
    have hl : (L ++ y :: R).length = (L ++ (⟨y.op, ((L ++ y :: R).length : Int), y.num, y.text⟩ : Ins) :: R).length := by simp
    have hi : InsAt (w.setCell ⟨g, L.length * 4 + 1, none⟩ (.int .i64 ((L ++ y :: R).length : Int))) w0.heap.size (.slice (some ⟨g, 0, none⟩) (L ++ y :: R).length cap) (L ++ ⟨y.op, ((L ++ y :: R).length : Int), y.num, y.text⟩ :: R) := by
      unfold InsAt
      rw [← hl]
      exact hst.1
    have hm : (w.setCell ⟨g, L.length * 4 + 1, none⟩ (.int .i64 ((L ++ y :: R).length : Int))).heap[bc]? = some (.cells #[.slice (some ⟨g, 0, none⟩) (L ++ y :: R).length cap, tv, sv] 47 (0, 0)) :=
      ((scOnly w g (L.length * 4 + 1) _).block bc (Array.getElem?_eq_some_iff.1 h1).1 hbg).trans h1
    have hB := h.b.trans (ho.below h.b.size (fun k hk e => by have := e.1; omega))
    exact ⟨rfl, ⟨⟨hB.os, hB.tape, hB.output, hB.size, hB.block⟩, h.hb, ⟨_, tv, sv, sl, hm, hi, h3, h4, h5⟩, h.fit⟩, ho.drew⟩
  replace hP := Lib.hid hP
  have hL0 : (0 : Int) ≤ (L.length : Int) := by omega
  clear hst h2 h1 h hH hcm h3 h4 h5 hcell
  generalize hN : (L ++ y :: R).length = n at *
  go_enter_d Tryd.func61, Tryd.ntmps61
  go_wp2_with fail
  go_region_with (go_at_call 39; refine kH.out.mono ?_; rintro e w' ⟨rfl, rfl⟩)
  all_goals
    refine bodyPost_end (results_none rfl _ _ _) rfl ?_
    exact hP.out
end Go.Proofs.YtefijbpbenmbgaaDoor
