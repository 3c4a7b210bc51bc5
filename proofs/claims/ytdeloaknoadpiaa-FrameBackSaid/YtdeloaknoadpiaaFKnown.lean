/- The law FrameKnown: the chapter's examples and limits; a reader that nobody made. -/
import Derived.Test.YtdeloaknoadpiaaFAwake
import Derived.Laws.OwnMore
import Derived.Lib.SlBytesConst
namespace Go.Proofs.Ytdeloaknoadpiaa
open Go.RowKit Crc

section
variable {w : World} {base : Nat} {v : Value} {l : List Nat}
theorem made_zero (n : Nat) : (madeCells #[Value.int .u8 0] n).toList = cellsN (List.replicate n 0) := by
  apply List.ext_getElem?
  intro i
  by_cases h : i < n
  · simp [madeCells, cellsN, h, List.getElem?_replicate, Nat.mod_one]
  · simp [madeCells, cellsN, h, List.getElem?_replicate]
theorem make_bytes (n : Nat) (hn : n ≤ 70000) (w : World) : ∃ w', (Instr.makeSlice 22 (.int .i64 (n : Int)) (.int .i64 (n : Int))).run Try.prog w = .ok (.slice (some ⟨w.heap.size, 0, none⟩) n n) w' ∧
    Bs w' (.slice (some ⟨w.heap.size, 0, none⟩) n n) (List.replicate n 0) ∧ Below w.heap.size w w' := by
  obtain ⟨i0, hi, hz0, hz1, hz2⟩ := info8_parts
  obtain ⟨w1, hmk, hown, hg⟩ := run_makeSlice_full (P := Try.prog) w w.heap.size 22 5 i0 (.int .u8 0) 1 Try.underlying22 hi hz0 hz1 .i64 .i64 n (by omega) (by rw [hz2]; omega) (by unfold maxLen; omega) (Nat.le_refl _)
  refine ⟨w1, hmk, ?_, (Below.refl _ _).grown hg (Nat.le_refl _) (fun k hk => by cases hk)⟩
  have hB : Buf8 w1 w.heap.size (.slice (some ⟨w.heap.size, 0, none⟩) n n) (List.replicate n 0) := by
    unfold Buf8
    rw [List.length_replicate, ← made_zero]
    simpa [Value.cells] using hown
  exact hB.bs (fun b hb => by rw [List.eq_of_mem_replicate hb]; omega)

theorem known_none : bytesB (frameL []) = ⟨#[0, 0, 0, 0, 28, 223, 68, 33, 0, 0, 0, 0]⟩ := by decide +kernel
theorem known_a : bytesB (frameL [97]) = ⟨#[1, 0, 0, 0, 121, 184, 248, 153, 97, 67, 190, 183, 232]⟩ := by decide +kernel
theorem known_sum : sum [49, 50, 51, 52, 53, 54, 55, 56, 57] = 3421780262 := by decide +kernel
theorem known_read : readL (List.replicate 12 0) = ⟨[], 4, 8⟩ := by
  unfold readL
  rw [if_neg (by decide), if_pos (by decide +kernel)]

/-- A reader that nobody made. -/
theorem Feed_nil (u : Value) (w : World) : Calls Try.prog 11 #[.pointer none, u] w fun e w' => e = .returned (.tuple #[.slice none 0 0, .int .i64 1]) ∧ w = w' := by
  go_enter Try.func11, Try.ntmps11
  go_wp2
  go_ret2
  exact ⟨rfl, rfl⟩
theorem Feed_zero (u : Value) {R : Nat} (h : w.cell? ⟨R, 0, none⟩ = some (.bool false)) : Calls Try.prog 11 #[.pointer (some ⟨R, 0, none⟩), u] w fun e w' => e = .returned (.tuple #[.slice none 0 0, .int .i64 1]) ∧ w = w' := by
  go_enter Try.func11, Try.ntmps11
  go_wp2
  go_ret2
  exact ⟨rfl, rfl⟩
theorem Left_nil (w : World) : Calls Try.prog 12 #[.pointer none] w fun e w' => e = .returned (.int .i64 0) ∧ w = w' := by
  go_enter Try.func12, Try.ntmps12
  go_wp2
  go_ret
  exact ⟨rfl, rfl⟩
theorem Taken_nil (w : World) : Calls Try.prog 13 #[.pointer none] w fun e w' => e = .returned (.int .i64 0) ∧ w = w' := by
  go_enter Try.func13, Try.ntmps13
  go_wp2
  go_ret
  exact ⟨rfl, rfl⟩
theorem Left_any {R : Nat} {x : Int} (h : w.cell? ⟨R, 1, none⟩ = some (.int .i64 x)) : Calls Try.prog 12 #[.pointer (some ⟨R, 0, none⟩)] w fun e w' => e = .returned (.int .i64 x) ∧ w = w' := by
  go_enter Try.func12, Try.ntmps12
  go_wp2
  go_ret
  exact ⟨rfl, rfl⟩
theorem Taken_any {R : Nat} {x : Int} (h : w.cell? ⟨R, 3, none⟩ = some (.int .i64 x)) : Calls Try.prog 13 #[.pointer (some ⟨R, 0, none⟩)] w fun e w' => e = .returned (.int .i64 x) ∧ w = w' := by
  go_enter Try.func13, Try.ntmps13
  go_wp2
  go_ret
  exact ⟨rfl, rfl⟩

/-- A frame of so many bytes. -/
theorem Frame_len (h : Bs w v l) (hl : l.length ≤ 65536) {n : Nat} (hn : n = l.length + 12) :
    Calls Try.prog 9 #[v] w fun e w' => ∃ a cap, e = .returned (.tuple #[.slice a n cap, .int .i64 0]) ∧ Buf8 w' w.heap.size (.slice a n cap) (frameL l) ∧ Below w.heap.size w w' :=
  (Frame_any h hl).mono fun e w' ⟨v', he, hB, hb⟩ => by
    obtain ⟨a, cap, rfl, _, _⟩ := ownsRow_shape hB
    rw [frameL_length, ← hn] at he hB
    exact ⟨a, cap, he, hB, hb⟩

/-- Bytes in a block that was just laid, a part of it frozen or not. -/
theorem bs_new_fr (w : World) {m : List Nat} (hm : ∀ b ∈ m, b < 256) (hl : m.length ≤ 9223372036854775807) {cs : Array Value} {t : TypeId} {fr : Nat × Nat} (h : cs = (cellsN m).toArray) {n : Nat} (hn : n = m.length) :
    Bs (w.alloc (.cells cs t fr)) (.slice (some ⟨w.heap.size, 0, none⟩) n n) m := by
  subst h hn
  refine ⟨_, _, rfl, fun h0 => ⟨w.heap.size, 0, rfl, by simp, fun j hj => ?_⟩, Nat.le_refl _, hl, fun h => by cases h⟩
  have hb := hm (m.getD j 0) (by rw [List.getD_eq_getElem?_getD, List.getElem?_eq_getElem hj]; exact List.getElem_mem _)
  refine ⟨?_, hb⟩
  rw [Nat.zero_add]
  simp only [World.cell?, heap_alloc_new]
  simp [cellsN, List.getElem?_eq_getElem hj, List.getD_eq_getElem?_getD]
theorem make_most (w : World) : ∃ w', (Instr.makeSlice 22 (.int .i64 65536) (.int .i64 65536)).run Try.prog w = .ok (.slice (some ⟨w.heap.size, 0, none⟩) 65536 65536) w' ∧
    Bs w' (.slice (some ⟨w.heap.size, 0, none⟩) 65536 65536) (List.replicate 65536 0) ∧ Below w.heap.size w w' := make_bytes 65536 (by omega) w
theorem make_over (w : World) : ∃ w', (Instr.makeSlice 22 (.int .i64 65537) (.int .i64 65537)).run Try.prog w = .ok (.slice (some ⟨w.heap.size, 0, none⟩) 65537 65537) w' ∧
    Bs w' (.slice (some ⟨w.heap.size, 0, none⟩) 65537 65537) (List.replicate 65537 0) ∧ Below w.heap.size w w' := make_bytes 65537 (by omega) w
theorem make_dozen (w : World) : ∃ w', (Instr.makeSlice 22 (.int .i64 12) (.int .i64 12)).run Try.prog w = .ok (.slice (some ⟨w.heap.size, 0, none⟩) 12 12) w' ∧
    Bs w' (.slice (some ⟨w.heap.size, 0, none⟩) 12 12) (List.replicate 12 0) ∧ Below w.heap.size w w' := make_bytes 12 (by omega) w
theorem Frame_over (a : Option Addr) (cap : Nat) (w : World) :
    Calls Try.prog 9 #[.slice a 65537 cap] w fun e w' => e = .returned (.tuple #[.slice none 0 0, .int .i64 2]) ∧ w = w' := by
  have := Frame_long (w := w) (l := List.replicate 65537 0) (by rw [List.length_replicate]; omega) a cap
  rwa [List.length_replicate] at this
theorem Frame_most {v : Value} (h : Bs w v (List.replicate 65536 0)) :
    Calls Try.prog 9 #[v] w fun e w' => ∃ a cap, e = .returned (.tuple #[.slice a 65548 cap, .int .i64 0]) ∧ Below w.heap.size w w' :=
  (Frame_len (n := 65548) h (by rw [List.length_replicate]; omega) (by rw [List.length_replicate])).mono fun e w' ⟨a, cap, he, _, hb⟩ => ⟨a, cap, he, hb⟩

set_option maxRecDepth 20000 in
set_option maxHeartbeats 1000000 in
theorem frameKnown_walk (w : World) : Calls Try.prog 3 #[] w fun e w' => e = .returned (.bool true) ∧ Below w.heap.size w w' := by
  have hF0 := fun W => Frame_len (w := W) (Bs.nil W) (by decide) (n := 12) rfl
  have hF1 := fun W u (h : Bs W u [97]) => Frame_len (n := 13) h (by decide) rfl
  have hs0 : ∀ W b u, Buf8 W b u (frameL []) → (convert 22 9 u).run Try.prog W = .ok (.string ⟨#[0, 0, 0, 0, 28, 223, 68, 33, 0, 0, 0, 0]⟩) W := fun W b u h => by rw [← known_none]; exact (h.bs (frameL_byte (fun b hb => by simp at hb))).string
  have hs1 : ∀ W b u, Buf8 W b u (frameL [97]) → (convert 22 9 u).run Try.prog W = .ok (.string ⟨#[1, 0, 0, 0, 121, 184, 248, 153, 97, 67, 190, 183, 232]⟩) W := fun W b u h => by rw [← known_a]; exact (h.bs (frameL_byte (by decide))).string
  have hA := awake_any
  have kc := fun (w : World) (C : Array Value) (n c : Nat) => Lib.run_convert_bytes_const (P := Try.prog) w 22 5 C n c Try.underlying22 Try.underlying5
  have hR := fun W u (h : Bs W u (List.replicate 12 0)) => Read_any h (by decide)
  rw [known_read] at hR
  have hS := fun W u (h : Bs W u [49, 50, 51, 52, 53, 54, 55, 56, 57]) => Sum_any h
  rw [known_sum] at hS
  have hN9 := fun (W : World) cs t fr (h : cs = (cellsN [49, 50, 51, 52, 53, 54, 55, 56, 57]).toArray) => bs_new_fr W (m := [49, 50, 51, 52, 53, 54, 55, 56, 57]) (by decide) (by decide) (t := t) (fr := fr) h (n := 9) rfl
  generalize frameL [] = F0 at *
  generalize frameL [97] = F1 at *
  replace hF0 := Lib.hid hF0
  replace hF1 := Lib.hid hF1
  replace hs0 := Lib.hid hs0
  replace hs1 := Lib.hid hs1
  replace hR := Lib.hid hR
  replace hS := Lib.hid hS
  replace hN9 := Lib.hid hN9
  replace hA := Lib.hid hA
  go_enter Try.func3, Try.ntmps3
  go_wp2_with fail
  refine (hF0.out _).mono ?_
  rintro e w1 ⟨a1, c1, rfl, hB1, hb1⟩
  have hB97 := fun fr => bs_new_fr w1 (m := [97]) (cs := #[.int .u8 97]) (t := 5) (fr := fr) (by decide) (by decide) rfl (n := 1) rfl
  have ha := fun o => (Below.refl w1.heap.size w1).alloc (Nat.le_refl _) o
  replace hB1 := Lib.hid hB1
  go_wp2_with fail
  refine (hF1.out _ _ (hB97 _)).mono ?_
  rintro e w2 ⟨a2, c2, rfl, hB2, hg2⟩
  have hb2 : Below w1.heap.size w1 w2 := (ha _).trans (hg2.mono (ha _).size)
  obtain ⟨w3, hm3, hM3, hg3⟩ := make_most w2
  clear hB97 ha hg2
  replace hB2 := Lib.hid hB2
  replace hM3 := Lib.hid hM3
  go_wp2_with fail
  refine (Frame_most hM3.out).mono ?_
  rintro e w4 ⟨a4, c4, rfl, hg4⟩
  have hb4 : Below w2.heap.size w2 w4 := below_next hg3 hg4
  obtain ⟨w5, hm5, hM5, hg5⟩ := make_over w4
  clear hm3 hM3 hg3 hg4
  clear hM5
  go_wp2_with fail
  refine (Frame_over _ _ _).mono ?_
  rintro e w5 ⟨rfl, rfl⟩
  have hb5 : Below w2.heap.size w2 w5 := below_next hb4 hg5
  obtain ⟨w6, hm6, hM6, hg6⟩ := make_dozen w5
  clear hm5 hg5 hb4
  replace hM6 := Lib.hid hM6
  go_wp2_with fail
  refine (hR.out _ _ hM6.out).mono ?_
  rintro e w7 ⟨v7, rfl, _, hg7⟩
  have hb7 : Below w2.heap.size w2 w7 := below_next hb5 (below_next hg6 hg7)
  clear hm6 hM6 hg6 hg7 hb5
  have hfn := Feed_nil (.slice a2 13 c2)
  go_wp2_with fail
  refine (hfn _).mono ?_
  rintro e w7 ⟨rfl, rfl⟩
  have hz0 : (w7.alloc (.cells #[.bool false, .int .i64 0, .slice none 0 0, .int .i64 0, .int .i64 0] 33)).cell? ⟨w7.heap.size, 0, none⟩ = some (.bool false) := by rw [World.cell?_alloc_new]; rfl
  have hz1 : (w7.alloc (.cells #[.bool false, .int .i64 0, .slice none 0 0, .int .i64 0, .int .i64 0] 33)).cell? ⟨w7.heap.size, 1, none⟩ = some (.int .i64 0) := by rw [World.cell?_alloc_new]; rfl
  have hz3 : (w7.alloc (.cells #[.bool false, .int .i64 0, .slice none 0 0, .int .i64 0, .int .i64 0] 33)).cell? ⟨w7.heap.size, 3, none⟩ = some (.int .i64 0) := by rw [World.cell?_alloc_new]; rfl
  have hb8 : Below w2.heap.size w2 (w7.alloc (.cells #[.bool false, .int .i64 0, .slice none 0 0, .int .i64 0, .int .i64 0] 33)) := hb7.alloc hb7.size _
  have c1' := Feed_zero (.slice a2 13 c2) hz0
  have c2' := Left_any hz1
  have c3' := Taken_any hz3
  go_wp2_with fail
  refine c1'.mono ?_
  rintro e w8 ⟨rfl, rfl⟩
  go_wp2_with fail
  refine (Left_nil _).mono ?_
  rintro e w8 ⟨rfl, rfl⟩
  go_wp2_with fail
  refine c3'.mono ?_
  rintro e w8 ⟨rfl, rfl⟩
  go_wp2_with fail
  refine (Taken_nil _).mono ?_
  rintro e w8 ⟨rfl, rfl⟩
  go_wp2_with fail
  refine c2'.mono ?_
  rintro e w8 ⟨rfl, rfl⟩
  clear c1' c2' c3' hz0 hz1 hz3
  go_wp2_with fail
  refine (hA.out _).mono ?_
  rintro e w9 ⟨rfl, hg9⟩
  have hb9 : Below w2.heap.size w2 w9 := below_next hb8 hg9
  have f1 := hs0.out _ _ _ (hB1.out.below (hb2.trans (hb9.mono hb2.size)))
  have f2 := hs1.out _ _ _ (hB2.out.below hb9)
  have hS9 := fun fr => hS.out _ _ (hN9.out w9 _ 5 fr rfl)
  go_wp2_with fail
  refine (hS9 _).mono ?_
  rintro e w10 ⟨rfl, hg10⟩
  go_wp2
  go_ret
  refine ⟨rfl, ?_⟩
  have hba := hb1.trans ((hb2.trans (hb9.mono hb2.size)).mono hb1.size)
  exact hba.trans (((Below.refl w9.heap.size w9).alloc (Nat.le_refl _) _ |>.trans (hg10.mono (by simp))).mono hba.size)
end
end Go.Proofs.Ytdeloaknoadpiaa
