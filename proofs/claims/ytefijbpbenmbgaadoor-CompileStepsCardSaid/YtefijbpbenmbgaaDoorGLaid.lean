/- What the listed variable compile.ops says (layer 15): it holds the instructions' Ops. -/
import Derived.Test.YtefijbpbenmbgaaDoorGLone
import Derived.ChangeSame
import Derived.Stop.LaidErr
import Derived.Lib.LaidTab
namespace Go.Proofs.YtefijbpbenmbgaaDoor
open Go.RowKit Go.ChangeShapes
theorem opsNum : Tryd.prog.globalNamed "prompter/compile.ops" = some 0 := by kernel_rfl
theorem opsOK_of {r : List (String × DataW Unit)} {W : World} (h : laidMet Tryd.prog (("prompter/compile.ops", Lib.tabData .u8 (opsL.map Int.ofNat)) :: r) W) : OpsOK W := by
  have h1 := Lib.tabIs_of_head opsNum (show (Tryd.prog.globals[0]?).map (·.type) = some 84 by kernel_rfl) Tryd.underlying84 Tryd.underlying5 (by kernel_rfl) (by kernel_rfl) h
  intro i hi
  have h2 := World.var?_cell opsNum h1 i
  rw [h2]
  have hl : i < opsL.length := hi
  simp [List.getElem?_map, List.getElem?_eq_getElem hl, List.getD_eq_getElem?_getD]
end Go.Proofs.YtefijbpbenmbgaaDoor
