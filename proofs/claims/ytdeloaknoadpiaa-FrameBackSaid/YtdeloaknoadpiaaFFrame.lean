/- A frame (layer 6), walked. -/
import Derived.Test.YtdeloaknoadpiaaFPut
import Derived.Laws.MakeOwn
namespace Go.Proofs.Ytdeloaknoadpiaa
open Go.RowKit Crc

section
variable {w : World} {base : Nat} {v : Value} {l : List Nat}
theorem Frame_long (hl : 65536 < l.length) (a : Option Addr) (cap : Nat) :
    Calls Try.prog 9 #[.slice a l.length cap] w fun e w' => e = .returned (.tuple #[.slice none 0 0, .int .i64 2]) ∧ w = w' := by
  have hn : (65536 : Int) < (l.length : Int) := by omega
  go_enter Try.func9, Try.ntmps9
  go_wp2
  go_ret2
  exact ⟨rfl, rfl⟩

set_option maxRecDepth 20000 in
set_option maxHeartbeats 2000000 in
theorem Frame_any (h : Bs w v l) (hl : l.length ≤ 65536) :
    Calls Try.prog 9 #[v] w fun e w' => ∃ v', e = .returned (.tuple #[v', .int .i64 0]) ∧ Buf8 w' w.heap.size v' (frameL l) ∧ Below w.heap.size w w' := by
  obtain ⟨i0, hi, hz0, hz1, hz2⟩ := info8_parts
  have hby := h.byte
  have hs := sum_lt hby
  have hs4 : sum (le 4 l.length) < 4294967296 := sum_lt (le_byte 4 l.length)
  have hl4 := le_length 4 l.length
  have hn : ¬ (65536 : Int) < (l.length : Int) := by omega
  have hw1 : IntKind.u32.wrap (l.length : Int) = ((l.length : Nat) : Int) := by rw [IntKind.wrap_u32]; omega
  have hw2 : (l.length : Int) % 4294967296 = ((l.length : Nat) : Int) := by omega
  obtain ⟨w1, hmk, hown, hg⟩ := run_makeSlice_owned (P := Try.prog) w w.heap.size 22 5 i0 (.int .u8 0) 1 Try.underlying22 hi hz0 hz1 .i64 .i64 (12 + l.length) (by omega) (by rw [hz2]; omega) (by unfold maxLen; omega) (Nat.le_refl _)
  rw [show ((12 + l.length : Nat) : Int) = 12 + (l.length : Int) by omega] at hmk
  have hb1 : Below w.heap.size w w1 := (Below.refl _ _).grown hg (Nat.le_refl _) (fun k hk => by cases hk)
  have hB0 : Buf8 w1 w.heap.size _ [] := hown
  have hP1 := put_on hB0 hb1.size (by simp) (x := l.length) (by omega)
  rw [List.nil_append] at hP1
  have hBs := Lib.hid h
  have hE : Hid (frameL l = ((le 4 l.length) ++ le 4 (sum (le 4 l.length))) ++ l ++ le 4 (sum l)) := by show frameL l = _; simp [frameL]
  obtain ⟨a, cap, rfl, hB, h1, h2, h3⟩ := h
  clear hB hown hg
  replace hby := Lib.hid hby
  go_enter Try.func9, Try.ntmps9
  go_wp2_with (first
    | (go_at_call 15; refine (Sum_any (hBs.out.below hb5)).mono ?_; rintro e w6 ⟨rfl, hg5⟩; have hb6 := hb5.trans (hg5.mono hb5.size); have hP3 := put_on (hB4.below hg5) hb6.size (by simp [le_length]; omega) hs)
    | ((with_reducible refine hP3.mono ?_); rintro e w7 ⟨v5, rfl, hB5, hg6⟩; have hb7 := hb6.trans hg6)
    | (at_builtin; (refine wpList_append_bs (base := w.heap.size) (v := v3) (l := _) (m := l) rfl _ _ rfl rfl hB3 rfl (hBs.out.below hb4) (by simp [le_length]; omega) hb4.size ?_; intro v4 w5 hB4 hO4 _ _; have hg4 := hO4.below hb4.size (fun k hk h' => by have := row_base hB3 k h'; omega); have hb5 := hb4.trans hg4))
    | ((with_reducible refine hP2.mono ?_); rintro e w4 ⟨v3, rfl, hB3, hg3⟩; have hb4 := hb3.trans hg3)
    | (go_at_call 15; refine (Sum_any (hB2.bs (le_byte _ _))).mono ?_; rintro e w3 ⟨rfl, hg2⟩; have hb3 := hb2.trans (hg2.mono hb2.size); have hP2 := put_on (hB2.below hg2) hb3.size (by simp [le_length]) hs4)
    | ((with_reducible refine hP1.mono ?_); rintro e w2 ⟨v2, rfl, hB2, hg1⟩; have hb2 := hb1.trans hg1))
  go_ret2
  refine ⟨v5, rfl, ?_, hb7⟩
  rw [hE.out]
  exact hB5
end
end Go.Proofs.Ytdeloaknoadpiaa
