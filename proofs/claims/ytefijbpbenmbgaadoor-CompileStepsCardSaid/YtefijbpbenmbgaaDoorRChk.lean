/- tree's Check (layer 8), walked. No condition. -/
import Derived.Test.YtefijbpbenmbgaaDoorRLook
namespace Go.Proofs.YtefijbpbenmbgaaDoor
open Go.RowKit Go.Shelf

set_option maxRecDepth 20000 in
theorem Check_any {v : Value} {ts : List Tw} (w : World) (hT : TwIn w v ts) (hf : ∀ x ∈ ts, FitT x) :
    Calls Tryd.prog 17 #[v] w fun e w' => e = .returned (.tuple #[.int .i64 (lookF ts).1, .int .i64 (lookF ts).2.2]) ∧ Below w.heap.size w w' := by
  obtain ⟨Z, hZ⟩ := exHid (lookF ts)
  have hl : ∀ W b, TwIn W v ts → KMap W b tabL → Calls Tryd.prog 32 #[.map (some b), v] W fun e w' => e = .returned (.tuple #[.int .i64 Z.1, .int .i64 Z.2.1, .int .i64 Z.2.2]) ∧ Below W.heap.size W w' := fun W b h1 h2 => by rw [← hZ.out]; exact look_any W h1 hf h2
  rw [hZ.out]
  replace hl := Lib.hid hl
  replace hf := Lib.hid hf
  have hTT := Lib.hid hT
  obtain ⟨a, cap, rfl, _, _, _⟩ := hT
  go_enter Tryd.func17, Tryd.ntmps17
  go_wp2_with fail
  refine (table_any w).mono ?_
  rintro e w1 ⟨b, rfl, hK, hb⟩
  go_wp2_with fail
  refine (hl.out w1 b (hTT.out.below hb) hK).mono ?_
  rintro e w2 ⟨rfl, hb2⟩
  have hb3 : Below w.heap.size w w2 := hb.trans (hb2.mono hb.size)
  go_wp2_with fail
  go_ret2
  exact ⟨rfl, hb3⟩
end Go.Proofs.YtefijbpbenmbgaaDoor
