/- oper's comparisons of whole numbers and of texts (layer 12): compared, ofWholes, ofTexts at OLt and OLe, walked. No condition. -/
import Derived.Test.YtlljmagmphfnmaaOSame
import Derived.Sort.Walk0
namespace Go.Proofs.Ytlljmagmphfnmaa
open Go.RowKit

/-- Less (34), less or the same (35). -/
def cmpB (op : Int) (lt eq : Bool) : Bool := lt || (eq && (op == 35))
set_option maxHeartbeats 400000 in
theorem comparedI_any (op : Int) (x y : Int) (w : World) : Calls Try.prog 29 #[.int .u8 op, .int .i64 x, .int .i64 y] w (Told1 w [boolN (cmpB op (decide (x < y)) (x == y))]) := by
  have kB := Lib.hid (fun (b : Bool) (W : World) => Bool_row b W)
  obtain ⟨R, hR⟩ := exHid (cmpB op (decide (x < y)) (x == y))
  rw [hR.out]
  unfold cmpB at hR
  have main : ∀ a b c, decide (x < y) = a → (x == y) = b → (op == 35) = c → (a || (b && c)) = R → Calls Try.prog 29 #[.int .u8 op, .int .i64 x, .int .i64 y] w (Told1 w [boolN R]) := by
    clear hR
    intro a b c ha hb hc hR
    replace hR := Lib.hid hR
    have cs : a = true ∨ (a = false ∧ b = false) ∨ (a = false ∧ b = true ∧ c = false) ∨ (a = false ∧ b = true ∧ c = true) := by cases a <;> cases b <;> cases c <;> simp
    rcases cs with rfl | ⟨rfl, rfl⟩ | ⟨rfl, rfl, rfl⟩ | ⟨rfl, rfl, rfl⟩
    · have h1 : x < y := by simpa using ha
      go_enter Try.func29, Try.ntmps29
      go_wp2_with fail
      refine (kB.out true _).mono ?_
      rintro e w1 ⟨v, rfl, hr, hb⟩
      go_wp2_with fail
      go_ret
      exact ⟨_, rfl, by rw [← hR.out]; exact hr, hb⟩
    all_goals
      have h1 : ¬ x < y := by simpa using ha
      go_enter Try.func29, Try.ntmps29
      go_wp2_with fail
      refine (kB.out _ _).mono ?_
      rintro e w1 ⟨v, rfl, hr, hb⟩
      go_wp2_with fail
      go_ret
      exact ⟨_, rfl, by rw [← hR.out]; exact hr, hb⟩
  exact main _ _ _ rfl rfl rfl hR.out
set_option maxHeartbeats 400000 in
theorem comparedS_any (op : Int) (x y : ByteArray) (w : World) : Calls Try.prog 38 #[.int .u8 op, .string x, .string y] w (Told1 w [boolN (cmpB op (Op.bytesLess x.toList y.toList) (x.toList == y.toList))]) := by
  have kB := Lib.hid (fun (b : Bool) (W : World) => Bool_row b W)
  obtain ⟨R, hR⟩ := exHid (cmpB op (Op.bytesLess x.toList y.toList) (x.toList == y.toList))
  rw [hR.out]
  unfold cmpB at hR
  have main : ∀ a b c, Op.bytesLess x.toList y.toList = a → (x.toList == y.toList) = b → (op == 35) = c → (a || (b && c)) = R → Calls Try.prog 38 #[.int .u8 op, .string x, .string y] w (Told1 w [boolN R]) := by
    clear hR
    intro a b c ha hb hc hR
    replace hR := Lib.hid hR
    have cs : a = true ∨ (a = false ∧ b = false) ∨ (a = false ∧ b = true ∧ c = false) ∨ (a = false ∧ b = true ∧ c = true) := by cases a <;> cases b <;> cases c <;> simp
    rcases cs with rfl | ⟨rfl, rfl⟩ | ⟨rfl, rfl, rfl⟩ | ⟨rfl, rfl, rfl⟩
    all_goals
      go_enter Try.func38, Try.ntmps38
      go_wp2_with fail
      refine (kB.out _ _).mono ?_
      rintro e w1 ⟨v, rfl, hr, hb⟩
      go_wp2_with fail
      go_ret
      exact ⟨_, rfl, by rw [← hR.out]; exact hr, hb⟩
  exact main _ _ _ rfl rfl rfl hR.out
/-- A value and no error, told. -/
def Told2 (w : World) (d : List Nd) (e : Ending) (w' : World) : Prop := ∃ v, e = .returned (.tuple #[v, .int .i64 0]) ∧ RowN w' w.heap.size v d ∧ Below w.heap.size w w'
set_option maxHeartbeats 400000 in
theorem ofWholes_cmp {op : Int} (hop : op = 34 ∨ op = 35) (x y : Int) (w : World) : Calls Try.prog 13 #[.int .u8 op, .int .i64 x, .int .i64 y] w (Told2 w [boolN (cmpB op (decide (x < y)) (x == y))]) := by
  have kC := Lib.hid (comparedI_any op x y w)
  generalize cmpB op (decide (x < y)) (x == y) = R at *
  rcases hop with rfl | rfl
  all_goals
    go_enter Try.func13, Try.ntmps13
    go_wp2_with fail
    refine kC.out.mono ?_
    rintro e w1 ⟨v, rfl, hr, hb⟩
    go_wp2_with fail
    go_ret2
    exact ⟨_, rfl, hr, hb⟩
set_option maxHeartbeats 400000 in
theorem ofTexts_cmp {op : Int} (hop : op = 34 ∨ op = 35) (x y : ByteArray) (w : World) : Calls Try.prog 17 #[.int .u8 op, .string x, .string y] w (Told2 w [boolN (cmpB op (Op.bytesLess x.toList y.toList) (x.toList == y.toList))]) := by
  have kC := Lib.hid (comparedS_any op x y w)
  generalize cmpB op (Op.bytesLess x.toList y.toList) (x.toList == y.toList) = R at *
  rcases hop with rfl | rfl
  all_goals
    go_enter Try.func17, Try.ntmps17
    go_wp2_with fail
    refine kC.out.mono ?_
    rintro e w1 ⟨v, rfl, hr, hb⟩
    go_wp2_with fail
    go_ret2
    exact ⟨_, rfl, hr, hb⟩
end Go.Proofs.Ytlljmagmphfnmaa
