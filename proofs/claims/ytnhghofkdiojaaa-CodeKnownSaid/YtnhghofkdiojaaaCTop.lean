/- Contracts of code's readers as they are called; bytes in memory as a text; awake. -/
import Derived.Test.YtnhghofkdiojaaaCRef
import Derived.Test.YtnhghofkdiojaaaFaceI
import Derived.Test.YtnhghofkdiojaaaFaceS
import Derived.Test.YtnhghofkdiojaaaFaceC
import Derived.Test.YtnhghofkdiojaaaPut
namespace Go.Proofs.Ytnhghofkdiojaaa
open Go.RowKit

section
variable {w : World} {L cap : Nat} {a : Option Addr} {f : Nat → Nat}
theorem numR_range0 (h : By w a L f) : (numR f L 0).v < 18446744073709551616 := (numR_range (Nat.zero_le _) (fun j _ hj => h.lt j hj)).1

set_option maxHeartbeats 400000 in
theorem ReadUint_any (h : By w a L f) (hl : L ≤ cap) (hm : cap ≤ 9223372036854775807) (hn : a = none → cap = 0) :
    Calls Try.prog 9 #[.slice a L cap] w fun e w' => e = .returned (.tuple #[.int .u64 ((numR f L 0).v : Nat), .int .i64 ((numR f L 0).to : Nat), .int .i64 ((numR f L 0).code : Nat)]) ∧ Below w.heap.size w w' := by
  have hF := faceU (T := fun v _ => v = .int .u64 ((numR f L 0).v : Nat)) h hl hm hn (fun v w1 w2 h _ => h) (fun w1 hR => number_took hR)
  have hz := numR_zero (L := L) (p := 0) (f := f) (Nat.zero_le _) (fun j _ hj => h.lt j hj)
  clear h
  go_enter Try.func9, Try.ntmps9
  go_wp2_with ((with_reducible refine hF.mono ?_); rintro e w' ⟨v, rfl, hv, hb⟩)
  go_ret3
  refine ⟨?_, hb⟩
  rcases hv with ⟨_, rfl⟩ | ⟨hc, rfl⟩
  · rfl
  · rw [hz hc]; rfl

set_option maxHeartbeats 400000 in
theorem ReadInt_any5 (h : By w a L f) (hl : L ≤ cap) (hm : cap ≤ 9223372036854775807) (hn : a = none → cap = 0) :
    Calls Try.prog 18 #[.slice a L cap] w fun e w' => e = .returned (.tuple #[.int .i64 (unfN (numR f L 0).v), .int .i64 ((numR f L 0).to : Nat), .int .i64 ((numR f L 0).code : Nat)]) ∧ Below w.heap.size w w' := by
  have hF := faceI (T := fun v _ => v = .int .i64 (unfN (numR f L 0).v)) h hl hm hn (fun v w1 w2 h _ => h) (fun w1 hR => whole_took hR (numR_range0 h))
  have hz := numR_zero (L := L) (p := 0) (f := f) (Nat.zero_le _) (fun j _ hj => h.lt j hj)
  clear h
  go_enter Try.func18, Try.ntmps18
  go_wp2_with ((with_reducible refine hF.mono ?_); rintro e w' ⟨v, rfl, hv, hb⟩)
  go_ret3
  refine ⟨?_, hb⟩
  rcases hv with ⟨_, rfl⟩ | ⟨hc, rfl⟩
  · rfl
  · rw [hz hc]; rfl

set_option maxHeartbeats 400000 in
theorem ReadText_any5 (h : By w a L f) (hl : L ≤ cap) (hm : cap ≤ 9223372036854775807) (hn : a = none → cap = 0) :
    Calls Try.prog 20 #[.slice a L cap] w fun e w' => e = .returned (.tuple #[textV f L (numR f L 0), .int .i64 (textTo L (numR f L 0) : Nat), .int .i64 (textCode L (numR f L 0) : Nat)]) ∧ Below w.heap.size w w' := by
  have hF := faceS (T := fun v _ => v = .string (textB f (numR f L 0).to (numR f L 0).v)) h hl hm hn (fun v w1 w2 h _ => h) (fun w1 hR => text_took hR (numR_range0 h))
  clear h
  go_enter Try.func20, Try.ntmps20
  go_wp2_with ((with_reducible refine hF.mono ?_); rintro e w' ⟨v, rfl, hv, hb⟩)
  go_ret3
  refine ⟨?_, hb⟩
  rcases hv with ⟨hc, rfl⟩ | ⟨hc, rfl⟩
  · exact ret_three (by unfold textV; rw [if_pos hc]; rfl) rfl rfl
  · exact ret_three (by unfold textV; rw [if_neg hc]; rfl) rfl rfl

set_option maxHeartbeats 400000 in
theorem ReadNum_any5 (h : By w a L f) (hl : L ≤ cap) (hm : cap ≤ 9223372036854775807) (hn : a = none → cap = 0) :
    Calls Try.prog 22 #[.slice a L cap] w fun e w' => e = .returned (.tuple #[numV f L 0, .int .i64 (numTo L 0 (fineB (be f 0 8) (be f (0 + 8) 8)) : Nat), .int .i64 (numCode L 0 (fineB (be f 0 8) (be f (0 + 8) 8)) : Nat)]) ∧ Below w.heap.size w w' := by
  have hF := faceC (T := fun v _ => v = .complex .f64 (be f 0 8) (be f (0 + 8) 8)) h hl hm hn (fun v w1 w2 h _ => h) (fun w1 hR => num_took hR)
  have E : Hid (numV f L 0 = if numCode L 0 (fineB (be f 0 8) (be f (0 + 8) 8)) = 0 then .complex .f64 (be f 0 8) (be f (0 + 8) 8) else .complex .f64 0 0) := rfl
  clear h
  generalize numCode L 0 (fineB (be f 0 8) (be f (0 + 8) 8)) = c at hF E ⊢
  generalize numTo L 0 (fineB (be f 0 8) (be f (0 + 8) 8)) = t at hF ⊢
  go_enter Try.func22, Try.ntmps22
  go_wp2_with ((with_reducible refine hF.mono ?_); rintro e w' ⟨v, rfl, hv, hb⟩)
  go_ret3
  refine ⟨?_, hb⟩
  rcases hv with ⟨hc, rfl⟩ | ⟨hc, rfl⟩
  · exact ret_three (by rw [E.out, if_pos hc]; rfl) rfl rfl
  · exact ret_three (by rw [E.out, if_neg hc]; rfl) rfl rfl
end

/-- Bytes of the call's own, as bytes that are read. -/
theorem Buf8.by_ {w : World} {base : Nat} {v : Value} {l : List Nat} (h : Buf8 w base v l) (hl : ∀ b ∈ l, b < 256) :
    ∃ a cap, v = .slice a l.length cap ∧ By w a l.length (fun j => l.getD j 0) ∧ l.length ≤ cap ∧ cap ≤ 9223372036854775807 ∧ (a = none → cap = 0) := by
  have h' := h
  unfold Buf8 at h'
  obtain ⟨_, hcase⟩ := h'
  rcases hcase with ⟨rfl, h0⟩ | ⟨g, cap, cur, rfl, hg, hh, hnc, hcm, hsz, ht⟩
  · exact ⟨none, 0, by rw [h0], fun h1 => by omega, by omega, by omega, fun _ => rfl⟩
  · refine ⟨some ⟨g, 0, none⟩, cap, rfl, fun h0 => ⟨g, 0, rfl, (Array.getElem?_eq_some_iff.1 hh).1, fun j hj => ?_⟩, hnc, hcm, fun h => by cases h⟩
    have hc := World.ownsRow.cellAt (g := g) (cap := cap) h j (by omega)
    have hb := hl (l.getD j 0) (by
      rw [List.getD_eq_getElem?_getD, List.getElem?_eq_getElem hj]; exact List.getElem_mem _)
    refine ⟨?_, hb⟩
    rw [Nat.zero_add, hc]
    simp [cellsN, List.getElem?_eq_getElem hj, List.getD_eq_getElem?_getD]

/-- Bytes of the call's own, as a text. -/
def bytesB (l : List Nat) : ByteArray := ⟨(l.map (·.toUInt8)).toArray⟩
theorem Buf8.string {w : World} {base : Nat} {v : Value} {l : List Nat} (h : Buf8 w base v l) (hl : ∀ b ∈ l, b < 256) : (convert 22 9 v).run Try.prog w = .ok (.string (bytesB l)) w := by
  obtain ⟨a, cap, rfl, hB, h1, h2, h3⟩ := h.by_ hl
  have e : textB (fun j => l.getD j 0) 0 l.length = bytesB l := by
    unfold textB bytesB textL
    congr 2
    apply List.ext_getElem
    · simp
    · intro i h1 h2
      simp at h1 h2
      simp [List.getD_eq_getElem?_getD, List.getElem?_eq_getElem h1]
  rcases Nat.eq_zero_or_pos l.length with h0 | h0
  · have hl0 : l = [] := List.eq_nil_of_length_eq_zero h0
    subst hl0
    rcases a with _ | q
    · exact nil_string cap w
    · exact empty_string q cap w
  · obtain ⟨b, off, rfl, _, hc⟩ := hB h0
    rw [← e]
    exact bytes_string w (fun j hj => by rw [Nat.zero_add]; exact hc j hj)

theorem wrote300 : bytesB (uintL 300) = ⟨#[172, 2]⟩ := by
  rw [uintL_big (by omega), uintL_small (by omega)]; rfl
theorem read300 : numR (fun j => [172, 2, 7].getD j 0) 3 0 = ⟨300, 2, 0⟩ := rfl

set_option maxHeartbeats 400000 in
theorem awake_any5 (w : World) : Calls Try.prog 13 #[] w fun e w' => e = .returned (.bool true) ∧ Below w.heap.size w w' := by
  have hB : By (w.alloc (.cells #[.int .u8 172, .int .u8 2, .int .u8 7] 5)) (some ⟨w.heap.size, 0, none⟩) 3 (fun j => [172, 2, 7].getD j 0) := by
    intro _
    refine ⟨w.heap.size, 0, rfl, by simp, fun j hj => ?_⟩
    rw [Nat.zero_add, World.cell?_alloc_new]
    rcases (show j = 0 ∨ j = 1 ∨ j = 2 by omega) with rfl | rfl | rfl <;> exact ⟨rfl, by decide⟩
  have hR := ReadUint_any hB (cap := 3) (by omega) (by omega) (fun h => by cases h)
  rw [read300] at hR
  have hP : ∀ w, Calls Try.prog 8 #[.int .u64 300] w (Wrote (uintL 300) w) := fun w => PutUint_any 300 (by omega) w
  go_enter Try.func13, Try.ntmps13
  go_wp2_with (first
    | ((with_reducible refine hR.mono ?_); rintro e w' ⟨rfl, hb⟩)
    | ((with_reducible refine (hP _).mono ?_); rintro e w' ⟨v, rfl, hBu, hb2⟩; have hs := hBu.string (uintL_byte 300); rw [wrote300] at hs))
  go_ret
  exact ⟨rfl, ((Below.refl _ w).alloc (Nat.le_refl _) _).trans ((hb.trans (hb2.mono hb.size)).mono (by simp))⟩
end Go.Proofs.Ytnhghofkdiojaaa
