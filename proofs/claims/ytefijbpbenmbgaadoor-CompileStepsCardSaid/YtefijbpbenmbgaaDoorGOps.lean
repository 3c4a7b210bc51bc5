/- compile's emitter (layer 15), walked: here, op, goTo, hole. No condition. -/
import Derived.Test.YtefijbpbenmbgaaDoorGPut
import Derived.Defers
namespace Go.Proofs.YtefijbpbenmbgaaDoor
open Go.RowKit Go.Shelf

def PutP (w0 : World) (bc : Nat) (tl : List Tw) (code : List Ins) (w : World) (e : Ending) (w' : World) : Prop := e = .returned (.tuple #[]) ∧ CM w0 w' bc tl code ∧ Only (Fcm w0.heap.size w) w w'
theorem here_any {w0 w : World} {bc : Nat} {tl : List Tw} {code : List Ins} (h : CM w0 w bc tl code) :
    Calls Tryd.prog 39 #[.pointer (some ⟨bc, 0, none⟩)] w fun e w' => e = .returned (.int .i64 code.length) ∧ w' = w := by
  obtain ⟨cv, tv, sv, sl, h1, h2, _⟩ := id h.mem
  obtain ⟨ca, cc, rfl, hl1, hl2⟩ := id h2.shape
  have c0 := cellC h1 0
  simp only [List.getElem?_toArray, List.getElem?_cons_zero] at c0
  clear h h1 h2
  go_enter Tryd.func39, Tryd.ntmps39
  go_wp2_with fail
  go_ret
  exact ⟨rfl, rfl⟩
set_option maxRecDepth 20000 in
theorem op_any {w0 w : World} {bc : Nat} {tl : List Tw} {code : List Ins} (h : CM w0 w bc tl code) (op : Nat) (hk : code.length ≤ 1000000) :
    Calls Tryd.prog 20 #[.pointer (some ⟨bc, 0, none⟩), .int .u8 op] w (PutP w0 bc tl (code ++ [mkI op 0]) w) := by
  have hp := Lib.hid (put_any h (mkI op 0) hk)
  unfold insV mkI at hp
  dsimp only at hp
  clear h
  go_enter Tryd.func20, Tryd.ntmps20
  go_wp2_with fail
  refine hp.out.mono ?_
  rintro e w' ⟨rfl, h1, h2⟩
  replace h1 := Lib.hid h1
  replace h2 := Lib.hid h2
  go_wp2_with fail
  refine bodyPost_end (results_none rfl _ _ _) rfl ?_
  exact ⟨rfl, h1.out, h2.out⟩
set_option maxRecDepth 20000 in
theorem goTo_any {w0 w : World} {bc : Nat} {tl : List Tw} {code : List Ins} (h : CM w0 w bc tl code) (op : Nat) (a : Int) (hk : code.length ≤ 1000000) :
    Calls Tryd.prog 40 #[.pointer (some ⟨bc, 0, none⟩), .int .u8 op, .int .i64 a] w (PutP w0 bc tl (code ++ [mkI op a]) w) := by
  have hp := Lib.hid (put_any h (mkI op a) hk)
  unfold insV mkI at hp
  dsimp only at hp
  clear h
  go_enter Tryd.func40, Tryd.ntmps40
  go_wp2_with fail
  refine hp.out.mono ?_
  rintro e w' ⟨rfl, h1, h2⟩
  replace h1 := Lib.hid h1
  replace h2 := Lib.hid h2
  go_wp2_with fail
  refine bodyPost_end (results_none rfl _ _ _) rfl ?_
  exact ⟨rfl, h1.out, h2.out⟩
/-- What a hole's closure has captured. -/
structure HoleAt (w : World) (bc gb gi at_ : Nat) : Prop where
  m : w.heap[gb]? = some (.cells #[.pointer (some ⟨bc, 0, none⟩)] 79 (0, 0))
  i : w.heap[gi]? = some (.cells #[.int .i64 at_] 3 (0, 0))
theorem HoleAt.keep {w W : World} {bc gb gi at_ base : Nat} (h : HoleAt w bc gb gi at_) (ho : Only (Fcm base w) w W) : HoleAt W bc gb gi at_ :=
  ⟨heldC ho h.m (notC h.m (by decide)), heldC ho h.i (notC h.i (by decide))⟩
def holeF (gb gi : Nat) : Value := .func (.func 61) #[] #[.pointer (some ⟨gb, 0, none⟩), .pointer (some ⟨gi, 0, none⟩)]
set_option maxRecDepth 20000 in
set_option maxHeartbeats 1000000 in
theorem hole_any {w0 w : World} {bc : Nat} {tl : List Tw} {code : List Ins} (h : CM w0 w bc tl code) (op : Nat) (hk : code.length ≤ 1000000) :
    Calls Tryd.prog 37 #[.pointer (some ⟨bc, 0, none⟩), .int .u8 op] w fun e w' => ∃ gb gi, e = .returned (holeF gb gi) ∧ HoleAt w' bc gb gi code.length ∧ CM w0 w' bc tl (code ++ [mkI op 0]) ∧ Only (Fcm w0.heap.size w) w w' := by
  have hmf : ∀ (fn : Fn) (first cap : Array Value) (w : World), (Instr.makeFunc fn first cap).run Tryd.prog w = .ok (.func fn first cap) w := fun _ _ _ _ => rfl
  have hbox := (Below.refl w.heap.size w).alloc (Nat.le_refl _) (.cells #[.pointer (some ⟨bc, 0, none⟩)] 79)
  have hN : (w.alloc (.cells #[.pointer (some ⟨bc, 0, none⟩)] 79)).heap[w.heap.size]? = some (.cells #[.pointer (some ⟨bc, 0, none⟩)] 79 (0, 0)) := heap_alloc_new w _
  have hM1 := h.below hbox
  have kH := Lib.hid (here_any hM1)
  have hbM := Lib.hid hbox
  have hM1' := Lib.hid hM1
  have hNc := cellC hN 0
  simp only [List.getElem?_toArray, List.getElem?_cons_zero] at hNc
  replace hN := Lib.hid hN
  clear hbox hM1
  go_enter Tryd.func37, Tryd.ntmps37
  go_wp2_with fail
  generalize hW : w.alloc (.cells #[.pointer (some ⟨bc, 0, none⟩)] 79) = W1 at *
  replace hW := Lib.hid hW
  refine kH.out.mono ?_
  rintro e w2 ⟨rfl, rfl⟩
  have hb2 := (Below.refl w2.heap.size w2).alloc (Nat.le_refl _) (.cells #[.int .i64 (code.length : Int)] 3)
  have hN2 : (w2.alloc (.cells #[.int .i64 (code.length : Int)] 3)).heap[w2.heap.size]? = some (.cells #[.int .i64 (code.length : Int)] 3 (0, 0)) := heap_alloc_new w2 _
  have hNk := heldC (F := fun _ => False) (Only.of_below hb2) hN.out (fun e => e)
  have hNc2 := cellC hNk 0
  simp only [List.getElem?_toArray, List.getElem?_cons_zero] at hNc2
  have hH : HoleAt (w2.alloc (.cells #[.int .i64 (code.length : Int)] 3)) bc w.heap.size w2.heap.size code.length := ⟨hNk, hN2⟩
  have kO := Lib.hid (op_any (hM1'.out.below hb2) op hk)
  have ho2 : Only (Fcm w0.heap.size w) w (w2.alloc (.cells #[.int .i64 (code.length : Int)] 3)) := (Only.of_below hbM.out).trans (K := Fcm w0.heap.size w) (Only.of_below (F := fun _ => False) hb2) (fun _ _ h => h) (fun _ _ h => h.elim)
  replace ho2 := Lib.hid ho2
  replace hH := Lib.hid hH
  clear hb2 hN2 hNk kH
  go_wp2_with fail
  refine kO.out.mono ?_
  rintro e w3 ⟨rfl, q1, q2⟩
  have q3 := cm_then ho2.out q2
  have hH3 := hH.out.keep q2
  have hc3 := cellC hH3.m 0
  simp only [List.getElem?_toArray, List.getElem?_cons_zero] at hc3
  replace q1 := Lib.hid q1
  replace q3 := Lib.hid q3
  replace hH3 := Lib.hid hH3
  clear q2 kO hH ho2
  go_wp2_with fail
  go_ret
  exact ⟨_, _, rfl, hH3.out, q1.out, q3.out⟩
end Go.Proofs.YtefijbpbenmbgaaDoor
