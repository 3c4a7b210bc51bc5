/- The law CodeKnown: the chapter's examples and limits. -/
import Derived.Test.YtnhghofkdiojaaaCOnce
namespace Go.Proofs.Ytnhghofkdiojaaa
open Go.RowKit

theorem uintL_step {n m r : Nat} (h : ¬ n < 128) (h1 : n / 128 = m) (h2 : n % 128 + 128 = r) : uintL n = r :: uintL m := by rw [uintL_big h, h1, h2]
theorem most_bytes : uintL 18446744073709551615 = [255, 255, 255, 255, 255, 255, 255, 255, 255, 1] := by
  rw [uintL_step (m := 144115188075855871) (r := 255) (by decide) (by decide) (by decide), uintL_step (m := 1125899906842623) (r := 255) (by decide) (by decide) (by decide),
    uintL_step (m := 8796093022207) (r := 255) (by decide) (by decide) (by decide), uintL_step (m := 68719476735) (r := 255) (by decide) (by decide) (by decide),
    uintL_step (m := 536870911) (r := 255) (by decide) (by decide) (by decide), uintL_step (m := 4194303) (r := 255) (by decide) (by decide) (by decide),
    uintL_step (m := 32767) (r := 255) (by decide) (by decide) (by decide), uintL_step (m := 255) (r := 255) (by decide) (by decide) (by decide),
    uintL_step (m := 1) (r := 255) (by decide) (by decide) (by decide), uintL_small (by decide)]
theorem int_bytes : uintL (foldN (-150)) = [171, 2] := by
  rw [show foldN (-150) = 299 by decide, uintL_step (m := 2) (r := 171) (by decide) (by decide) (by decide), uintL_small (by decide)]
theorem text_bytes : uintL (ByteArray.size ⟨#[97, 98]⟩) ++ strN ⟨#[97, 98]⟩ = [2, 97, 98] := by
  rw [show ByteArray.size ⟨#[97, 98]⟩ = 2 by rfl, uintL_small (by decide)]; rfl
theorem k_short : numR (fun j => [128].getD j 0) 1 0 = ⟨0, 1, 4⟩ := rfl
theorem k_zero : numR (fun j => [128, 0].getD j 0) 2 0 = ⟨0, 1, 3⟩ := rfl
theorem k_great : numR (fun j => [255, 255, 255, 255, 255, 255, 255, 255, 255, 2].getD j 0) 10 0 = ⟨0, 9, 3⟩ := rfl
theorem k_kids : valR (fun j => [5, 129, 8].getD j 0) 3 = ⟨[], 1, 2⟩ := rfl
theorem k_text : valR (fun j => [3, 128, 32].getD j 0) 3 = ⟨[], 1, 2⟩ := rfl
theorem k_more : allR (fun j => [0, 0].getD j 0) 2 = ⟨[], 1, 3⟩ := rfl

/-- The chapter's list. -/
def listD : List Nd := [⟨5, 2, 0, ⟨#[]⟩, 0, 0⟩, ⟨2, 0, 1, ⟨#[]⟩, 0, 0⟩, ⟨0, 0, 0, ⟨#[]⟩, 0, 0⟩]
theorem list_right : RightV listD := by
  have hn : ∀ x ∈ listD, RightNd x := by
    intro x hx
    simp only [listD, List.mem_cons, List.mem_nil_iff, or_false] at hx
    rcases hx with rfl | rfl | rfl
    · exact .inr (.inr (.inr (.inr (.inr ⟨rfl, rfl⟩))))
    · exact .inr (.inr (.inl ⟨rfl, rfl, by unfold I64; simp⟩))
    · exact .inl ⟨rfl, rfl⟩
  have hk : ∀ x ∈ listD, x.kids < 3 := by
    intro x hx
    simp only [listD, List.mem_cons, List.mem_nil_iff, or_false] at hx
    rcases hx with rfl | rfl | rfl <;> simp
  refine ⟨⟨by decide, by decide, fun x hx => by have := hk x hx; omega, ?_, by decide⟩, hn, hk, by decide⟩
  intro i hi
  have hi : i < 3 := hi
  rcases (show i = 0 ∨ i = 1 ∨ i = 2 by omega) with rfl | rfl | rfl <;> decide
theorem list_bytes : valL listD = [5, 2, 2, 2, 0] := by
  show 5 :: uintL 2 ++ (2 :: uintL (foldN 1) ++ ([0] ++ [])) = _
  rw [show foldN 1 = 2 by decide, uintL_small (by decide)]; rfl

theorem lit_by (W : World) (l : List Nat) (hl : ∀ b ∈ l, b < 256) : By (W.alloc (.cells (cellsN l).toArray 5)) (some ⟨W.heap.size, 0, none⟩) l.length (fun j => l.getD j 0) := by
  intro _
  refine ⟨W.heap.size, 0, rfl, by simp, fun j hj => ?_⟩
  have hb := hl (l.getD j 0) (by rw [List.getD_eq_getElem?_getD, List.getElem?_eq_getElem hj]; exact List.getElem_mem _)
  refine ⟨?_, hb⟩
  rw [Nat.zero_add, World.cell?_alloc_new]
  simp [cellsN, List.getElem?_eq_getElem hj, List.getD_eq_getElem?_getD]

theorem buf_head {w : World} {base g cap n k : Nat} {l : List Nat} (h : Buf8 w base (.slice (some ⟨g, 0, none⟩) n cap) l) (hn : n = l.length) (hk : k ≤ l.length) : Buf8 w base (.slice (some ⟨g, 0, none⟩) k cap) (l.take k) := by
  subst hn
  unfold Buf8 at h ⊢
  obtain ⟨h1, h2⟩ := h
  have hlen : (l.take k).length = k := by rw [List.length_take]; omega
  rw [hlen]
  refine ⟨by simp [cellsN]; omega, ?_⟩
  rcases h2 with ⟨h2, _⟩ | ⟨g', cap', cur, he, hg, hh, hnc, hcm, hsz, ht⟩
  · simp at h2
  · simp only [Value.slice.injEq, Option.some.injEq, Addr.mk.injEq, and_true, true_and] at he
    obtain ⟨rfl, rfl⟩ := he
    refine .inr ⟨_, _, cur, rfl, hg, hh, by omega, hcm, hsz, ?_⟩
    have := congrArg (List.take k) ht
    rw [List.take_take] at this
    rw [Nat.mul_one] at this ⊢
    rw [Nat.min_eq_left (by omega)] at this
    rw [this]
    simp [cellsN, List.map_take]

section
variable (W : World)
theorem kU1 : Calls Try.prog 9 #[.slice (some ⟨W.heap.size, 0, none⟩) 1 1] (W.alloc (.cells #[.int .u8 128] 5)) fun e w' => e = .returned (.tuple #[.int .u64 0, .int .i64 1, .int .i64 4]) ∧ Below W.heap.size W w' := by
  have h := ReadUint_any (lit_by W [128] (by decide)) (cap := 1) (by decide) (by decide) (fun h => by cases h)
  rw [show ([128] : List Nat).length = 1 by rfl, k_short] at h
  exact h.mono fun e w' ⟨h1, h2⟩ => ⟨h1, ((Below.refl _ W).alloc (Nat.le_refl _) _).trans (h2.mono (by simp))⟩
theorem kU2 : Calls Try.prog 9 #[.slice (some ⟨W.heap.size, 0, none⟩) 2 2] (W.alloc (.cells #[.int .u8 128, .int .u8 0] 5)) fun e w' => e = .returned (.tuple #[.int .u64 0, .int .i64 1, .int .i64 3]) ∧ Below W.heap.size W w' := by
  have h := ReadUint_any (lit_by W [128, 0] (by decide)) (cap := 2) (by decide) (by decide) (fun h => by cases h)
  rw [show ([128, 0] : List Nat).length = 2 by rfl, k_zero] at h
  exact h.mono fun e w' ⟨h1, h2⟩ => ⟨h1, ((Below.refl _ W).alloc (Nat.le_refl _) _).trans (h2.mono (by simp))⟩
theorem kU3 {base : Nat} {v : Value} (hB : Buf8 W base v [255, 255, 255, 255, 255, 255, 255, 255, 255, 2]) : Calls Try.prog 9 #[v] W fun e w' => e = .returned (.tuple #[.int .u64 0, .int .i64 9, .int .i64 3]) ∧ Below W.heap.size W w' := by
  obtain ⟨a, cap, rfl, hb, h1, h2, h3⟩ := hB.by_ (by decide)
  have h := ReadUint_any hb h1 h2 h3
  rw [show ([255, 255, 255, 255, 255, 255, 255, 255, 255, 2] : List Nat).length = 10 by rfl, k_great] at h
  exact h
def Nil3 (to code : Int) (W : World) (e : Ending) (w' : World) : Prop := ∃ v, e = .returned (.tuple #[v, .int .i64 to, .int .i64 code]) ∧ Below W.heap.size W w'
theorem kV1 : Calls Try.prog 10 #[.slice (some ⟨W.heap.size, 0, none⟩) 3 3] (W.alloc (.cells #[.int .u8 5, .int .u8 129, .int .u8 8] 5)) (Nil3 1 2 W) := by
  have h := ReadValue_any5 (lit_by W [5, 129, 8] (by decide)) (cap := 3) (by decide) (by decide) (fun h => by cases h)
  rw [show ([5, 129, 8] : List Nat).length = 3 by rfl, k_kids] at h
  exact h.mono fun e w' ⟨v, h1, _, h2⟩ => ⟨v, h1, ((Below.refl _ W).alloc (Nat.le_refl _) _).trans (h2.mono (by simp))⟩
theorem kV2 : Calls Try.prog 10 #[.slice (some ⟨W.heap.size, 0, none⟩) 3 3] (W.alloc (.cells #[.int .u8 3, .int .u8 128, .int .u8 32] 5)) (Nil3 1 2 W) := by
  have h := ReadValue_any5 (lit_by W [3, 128, 32] (by decide)) (cap := 3) (by decide) (by decide) (fun h => by cases h)
  rw [show ([3, 128, 32] : List Nat).length = 3 by rfl, k_text] at h
  exact h.mono fun e w' ⟨v, h1, _, h2⟩ => ⟨v, h1, ((Below.refl _ W).alloc (Nat.le_refl _) _).trans (h2.mono (by simp))⟩
theorem kV3 : Calls Try.prog 11 #[.slice (some ⟨W.heap.size, 0, none⟩) 2 2] (W.alloc (.cells #[.int .u8 0, .int .u8 0] 5)) (Nil3 1 3 W) := by
  have h := ReadAll_any5 (lit_by W [0, 0] (by decide)) (cap := 2) (by decide) (by decide) (fun h => by cases h)
  rw [show ([0, 0] : List Nat).length = 2 by rfl, k_more] at h
  exact h.mono fun e w' ⟨v, h1, _, h2⟩ => ⟨v, h1, ((Below.refl _ W).alloc (Nat.le_refl _) _).trans (h2.mono (by simp))⟩
theorem kMost : Calls Try.prog 8 #[.int .u64 18446744073709551615] W (Wrote [255, 255, 255, 255, 255, 255, 255, 255, 255, 1] W) := by
  have h := PutUint_any 18446744073709551615 (by decide) W
  rw [most_bytes] at h
  exact h
theorem kInt : Calls Try.prog 14 #[.int .i64 (-150)] W (Wrote [171, 2] W) := by
  have h := PutInt_any (i := -150) (by unfold I64; omega) W
  rw [int_bytes] at h
  exact h
theorem kText : Calls Try.prog 15 #[.string ⟨#[97, 98]⟩] W (Wrote [2, 97, 98] W) := by
  have h := PutText_any ⟨#[97, 98]⟩ (by decide) W
  rw [text_bytes] at h
  exact h
theorem kPut : Calls Try.prog 12 #[.slice (some ⟨W.heap.size, 0, none⟩) 3 3] (W.alloc (.cells #[.int .u8 5, .int .i64 2, .int .i64 0, .string ⟨#[]⟩, .complex .f64 0 0, .int .u8 2, .int .i64 0, .int .i64 1, .string ⟨#[]⟩, .complex .f64 0 0, .int .u8 0, .int .i64 0, .int .i64 0, .string ⟨#[]⟩, .complex .f64 0 0] 34)) fun e w' => ∃ v b, e = .returned (.tuple #[v, .int .i64 0]) ∧ Buf8 w' b v [5, 2, 2, 2, 0] ∧ Below W.heap.size W w' := by
  have hr := World.ownsRow_lit (base := 0) (e := 34) (size := 5) W #[.int .u8 5, .int .i64 2, .int .i64 0, .string ⟨#[]⟩, .complex .f64 0 0, .int .u8 2, .int .i64 0, .int .i64 1, .string ⟨#[]⟩, .complex .f64 0 0, .int .u8 0, .int .i64 0, .int .i64 0, .string ⟨#[]⟩, .complex .f64 0 0] 3 (Nat.zero_le _) (by unfold maxLen; omega) rfl
  have hrow : RowN (W.alloc (.cells #[.int .u8 5, .int .i64 2, .int .i64 0, .string ⟨#[]⟩, .complex .f64 0 0, .int .u8 2, .int .i64 0, .int .i64 1, .string ⟨#[]⟩, .complex .f64 0 0, .int .u8 0, .int .i64 0, .int .i64 0, .string ⟨#[]⟩, .complex .f64 0 0] 34)) 0 (.slice (some ⟨W.heap.size, 0, none⟩) 3 3) listD := hr
  have h := PutValue_any list_right hrow
  unfold PutV at h
  rw [list_bytes] at h
  exact h.mono fun e w' ⟨v, h1, h2, h3⟩ => ⟨v, _, h1, h2, ((Below.refl _ W).alloc (Nat.le_refl _) _).trans (h3.mono (by simp))⟩
end
end Go.Proofs.Ytnhghofkdiojaaa
