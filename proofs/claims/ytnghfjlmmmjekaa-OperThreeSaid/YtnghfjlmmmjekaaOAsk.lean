/- The statements' asked and wakes of layer 12 (oper), walked; two whole numbers, two texts: just one of less, the same, more. No condition. -/
import Derived.Test.YtnghfjlmmmjekaaOBinS
import Derived.Test.YtnghfjlmmmjekaaOBinT
namespace Go.Proofs.Ytnghfjlmmmjekaa
open Go.RowKit

def Asked (W : World) (b : Bool) (e : Ending) (w' : World) : Prop := e = .returned (.tuple #[.bool b, .bool true]) ∧ Below W.heap.size W w'
set_option maxHeartbeats 400000 in
theorem asked_any {op : Int} {v1 v2 : Value} {R : Bool} {w : World} (h : Calls Try.prog 33 #[.int .u8 op, v1, v2] w (Told2 w [boolN R])) :
    Calls Try.prog 18 #[.int .u8 op, v1, v2] w (Asked w R) := by
  have k1 := Lib.hid h
  have k2 := Lib.hid (fun (W : World) (b : Nat) (v : Value) (hr : RowN W b v [boolN R]) => Truth_any hr)
  clear h
  go_enter Try.func18, Try.ntmps18
  go_wp2_with fail
  refine k1.out.mono ?_
  rintro e w1 ⟨v, rfl, hr, hb1⟩
  have k3 := Lib.hid (k2.out _ _ _ hr)
  replace hb1 := Lib.hid hb1
  clear hr k2
  go_wp2_with fail
  refine k3.out.mono ?_
  rintro e w2 ⟨rfl, hb2⟩
  go_wp2_with fail
  go_ret2
  exact ⟨rfl, below_next hb1.out hb2⟩
theorem row_new (w : World) (n : Int) : RowN (w.alloc (.cells #[.int .u8 2, .int .i64 0, .int .i64 n, .string ⟨#[]⟩, .complex .f64 0 0] 72)) w.heap.size (.slice (some ⟨w.heap.size, 0, none⟩) 1 1) [intN n] :=
  ⟨rfl, .inr ⟨w.heap.size, 1, _, rfl, Nat.le_refl _, heap_alloc_new w _, Nat.le_refl _, by unfold maxLen; omega, rfl, rfl⟩⟩
set_option maxRecDepth 20000 in
set_option maxHeartbeats 1000000 in
theorem wakes12_any (w : World) : Calls Try.prog 19 #[] w fun e w' => e = .returned (.bool true) ∧ Below w.heap.size w w' := by
  have hsc := sc_any
  have hal := (Below.refl w.heap.size w).alloc (Nat.le_refl _) (.cells #[.int .u8 2, .int .i64 0, .int .i64 2, .string ⟨#[]⟩, .complex .f64 0 0] 72)
  have hr1 := row_new w 2
  have hr2 := row_new (w.alloc (.cells #[.int .u8 2, .int .i64 0, .int .i64 2, .string ⟨#[]⟩, .complex .f64 0 0] 72)) 3
  have hal2 := (Below.refl (w.alloc (.cells #[.int .u8 2, .int .i64 0, .int .i64 2, .string ⟨#[]⟩, .complex .f64 0 0] 72)).heap.size (w.alloc (.cells #[.int .u8 2, .int .i64 0, .int .i64 2, .string ⟨#[]⟩, .complex .f64 0 0] 72))).alloc (Nat.le_refl _) (.cells #[.int .u8 2, .int .i64 0, .int .i64 3, .string ⟨#[]⟩, .complex .f64 0 0] 72)
  have hS := Bin_sum (hr1.below hal2) hr2
  rw [show (w.alloc (.cells #[.int .u8 2, .int .i64 0, .int .i64 2, .string ⟨#[]⟩, .complex .f64 0 0] 72)).heap.size = w.heap.size + 1 by simp] at hS
  have hb := Lib.hid (below_next hal hal2)
  replace hS := Lib.hid hS
  clear hr1 hr2 hal hal2
  go_enter Try.func19, Try.ntmps19
  go_wp2_with fail
  refine hS.out.mono ?_
  rintro e w1 ⟨v, rfl, hr, hb1⟩
  obtain ⟨g, cap, rfl, -, hg, -⟩ := ownsRow_head hr (Nat.le_refl 1)
  obtain ⟨x0, x1, x2, x3, x4⟩ := rowN_cells (d := [intN 5]) hr (i := 0) (Nat.zero_lt_one)
  simp only [List.getElem_cons_zero, Nat.zero_mul, Nat.zero_add, intN] at x0 x2
  have hb2 := Lib.hid (below_next hb.out hb1)
  clear hr hb1 x1 x3 x4
  go_wp2_with fail
  go_ret
  exact ⟨rfl, hb2.out⟩
/-- Two values of which just one is true: less, the same, more. -/
structure PairOK (W0 : World) (a b : Value) (l s m : Bool) : Prop where
  lt : ∀ W, Below W0.heap.size W0 W → Calls Try.prog 18 #[.int .u8 34, a, b] W (Asked W l)
  eq : ∀ W, Below W0.heap.size W0 W → Calls Try.prog 18 #[.int .u8 32, a, b] W (Asked W s)
  gt : ∀ W, Below W0.heap.size W0 W → Calls Try.prog 18 #[.int .u8 34, b, a] W (Asked W m)
  le : ∀ W, Below W0.heap.size W0 W → Calls Try.prog 18 #[.int .u8 35, a, b] W (Asked W (l || s))
  ne : ∀ W, Below W0.heap.size W0 W → Calls Try.prog 18 #[.int .u8 33, a, b] W (Asked W (!s))
  one : (l = true ∧ s = false ∧ m = false) ∨ (l = false ∧ s = true ∧ m = false) ∨ (l = false ∧ s = false ∧ m = true)
theorem pair_int {W0 : World} {b1 b2 : Nat} {v1 v2 : Value} {p q : Int} (h1 : RowN W0 b1 v1 [intN p]) (h2 : RowN W0 b2 v2 [intN q]) (i1 : I64 p) (i2 : I64 q) : PairOK W0 v1 v2 (decide (p < q)) (p == q) (decide (q < p)) := by
  have hs : sameB (intN p) (intN q) = (p == q) := by simp [sameB, intN]
  have h34 : ∀ a b, cmpB 34 a b = a := by intro a b; cases a <;> cases b <;> rfl
  have h35 : ∀ a b, cmpB 35 a b = (a || b) := by intro a b; cases a <;> cases b <;> rfl
  refine ⟨fun W hb => asked_any ?_, fun W hb => asked_any ?_, fun W hb => asked_any ?_, fun W hb => asked_any ?_, fun W hb => asked_any ?_, ?_⟩
  · have := Bin_int (op := 34) (.inl rfl) (h1.below hb) (h2.below hb) i1 i2
    rwa [h34] at this
  · have := Bin_eq (h1.below hb) (h2.below hb) (int_right i1) (int_right i2) ⟨rfl, rfl⟩ ⟨rfl, rfl⟩
    rwa [hs] at this
  · have := Bin_int (op := 34) (.inl rfl) (h2.below hb) (h1.below hb) i2 i1
    rwa [h34] at this
  · have := Bin_int (op := 35) (.inr rfl) (h1.below hb) (h2.below hb) i1 i2
    rwa [h35] at this
  · have := Bin_ne (h1.below hb) (h2.below hb) (int_right i1) (int_right i2) ⟨rfl, rfl⟩ ⟨rfl, rfl⟩
    rwa [hs] at this
  · rcases Int.lt_trichotomy p q with h | h | h
    · exact .inl ⟨decide_eq_true h, beq_eq_false_iff_ne.2 (by omega), decide_eq_false (by omega)⟩
    · exact .inr (.inl ⟨decide_eq_false (by omega), by rw [h]; simp, decide_eq_false (by omega)⟩)
    · exact .inr (.inr ⟨decide_eq_false (by omega), beq_eq_false_iff_ne.2 (by omega), decide_eq_true h⟩)
theorem pair_text {W0 : World} {b1 b2 : Nat} {v1 v2 : Value} {p q : ByteArray} (h1 : RowN W0 b1 v1 [textN p]) (h2 : RowN W0 b2 v2 [textN q]) (i1 : p.size ≤ 4095) (i2 : q.size ≤ 4095) : PairOK W0 v1 v2 (Op.bytesLess p.toList q.toList) (p.toList == q.toList) (Op.bytesLess q.toList p.toList) := by
  have hs : sameB (textN p) (textN q) = (p.toList == q.toList) := by simp [sameB, textN]
  have h34 : ∀ a b, cmpB 34 a b = a := by intro a b; cases a <;> cases b <;> rfl
  have h35 : ∀ a b, cmpB 35 a b = (a || b) := by intro a b; cases a <;> cases b <;> rfl
  refine ⟨fun W hb => asked_any ?_, fun W hb => asked_any ?_, fun W hb => asked_any ?_, fun W hb => asked_any ?_, fun W hb => asked_any ?_, ?_⟩
  · have := Bin_text (op := 34) (.inl rfl) (h1.below hb) (h2.below hb) i1 i2
    rwa [h34] at this
  · have := Bin_eq (h1.below hb) (h2.below hb) (text_right i1) (text_right i2) ⟨rfl, rfl⟩ ⟨rfl, rfl⟩
    rwa [hs] at this
  · have := Bin_text (op := 34) (.inl rfl) (h2.below hb) (h1.below hb) i2 i1
    rwa [h34] at this
  · have := Bin_text (op := 35) (.inr rfl) (h1.below hb) (h2.below hb) i1 i2
    rwa [h35] at this
  · have := Bin_ne (h1.below hb) (h2.below hb) (text_right i1) (text_right i2) ⟨rfl, rfl⟩ ⟨rfl, rfl⟩
    rwa [hs] at this
  · rw [bytesLess_eq, bytesLess_eq]
    generalize p.toList = x
    generalize q.toList = y
    by_cases h : x < y
    · refine .inl ⟨decide_eq_true h, beq_eq_false_iff_ne.2 (fun e => ?_), decide_eq_false (fun h2 => ?_)⟩
      · rw [e] at h; exact List.lt_irrefl _ h
      · exact List.lt_irrefl _ (List.lt_trans h h2)
    · by_cases e : x = y
      · subst e
        exact .inr (.inl ⟨decide_eq_false h, by simp, decide_eq_false h⟩)
      · have h3 : y < x := by
          rcases List.le_iff_lt_or_eq.1 (List.not_lt.1 h) with h4 | h4
          · exact h4
          · exact absurd h4.symm e
        exact .inr (.inr ⟨decide_eq_false h, beq_eq_false_iff_ne.2 e, decide_eq_true h3⟩)
end Go.Proofs.Ytnghfjlmmmjekaa
