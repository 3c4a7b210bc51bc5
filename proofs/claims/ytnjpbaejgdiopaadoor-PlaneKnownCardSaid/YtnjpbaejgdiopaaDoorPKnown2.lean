/- The walk of PlaneKnown: the chapter's examples, where the library's table reads as its text lays it. -/
import Derived.Test.YtnjpbaejgdiopaaDoorPKnown
namespace Go.Proofs.YtnjpbaejgdiopaaDoor
open Go.RowKit

set_option maxRecDepth 100000 in
set_option maxHeartbeats 4000000 in
theorem planeKnown_walk (w : World) (h : DebOK w) :
    Calls Tryd.prog 3 #[] w fun e w' => e = .returned (.bool true) ∧ Below w.heap.size w w' := by
  have o5 : FloatKind.f64.format.order 4617315517961601024 4617315517961601024 = some .eq := by decide
  have o1 : FloatKind.f64.format.order 4607182418800017408 4607182418800017408 = some .eq := by decide
  have o3 : FloatKind.f64.format.order 4613937818241073152 4613937818241073152 = some .eq := by decide
  go_enter Tryd.func3, Tryd.ntmps3
  go_name_bytes TA hTA
  have eTA : TA = txt00 := by rw [← hTA]; decide +kernel
  subst eTA
  clear hTA
  go_wp2_with (first
    | ((with_reducible refine (copysign_known _).mono ?_); rintro e w' ⟨rfl, rfl⟩)
    | ((with_reducible refine (mul_known _).mono ?_); rintro e w' ⟨rfl, rfl⟩)
    | ((with_reducible refine (div_known _).mono ?_); rintro e w' ⟨rfl, rfl⟩)
    | ((with_reducible refine (mulzero_known _).mono ?_); rintro e w' ⟨rfl, rfl⟩)
    | ((with_reducible refine (addmost_known _).mono ?_); rintro e w' ⟨rfl, rfl⟩)
    | ((with_reducible refine (divminus_known _).mono ?_); rintro e w' ⟨rfl, rfl⟩)
    | ((with_reducible refine (nan_known _).mono ?_); rintro e w' ⟨rfl, rfl⟩)
    | ((with_reducible refine (divnan_known _).mono ?_); rintro e w' ⟨rfl, rfl⟩)
    | ((with_reducible refine (inf_known _).mono ?_); rintro e w' ⟨rfl, rfl⟩)
    | ((with_reducible refine (addinf_known _).mono ?_); rintro e w' ⟨rfl, rfl⟩)
    | ((with_reducible refine (parts_known _).mono ?_); rintro e w' ⟨rfl, rfl⟩)
    | ((with_reducible refine (awake_any _).mono ?_); rintro e w' ⟨rfl, rfl⟩)
    | ((with_reducible refine (text_00 _ h).mono ?_); rintro e w' ⟨rfl, hb1⟩; have g1 := h.below hb1)
    | ((with_reducible refine (fine_m0 _).mono ?_); rintro e w' ⟨rfl, rfl⟩)
    | ((with_reducible refine (text_m0 _).mono ?_); rintro e w' ⟨rfl, rfl⟩)
    | ((with_reducible refine (plain_m0 _).mono ?_); rintro e w' ⟨rfl, rfl⟩)
    | ((with_reducible refine (text_01 _ g1).mono ?_); rintro e w' ⟨rfl, hb2⟩))
  go_ret
  exact ⟨ret_bool (by decide +kernel), below_next hb1 hb2⟩
end Go.Proofs.YtnjpbaejgdiopaaDoor
