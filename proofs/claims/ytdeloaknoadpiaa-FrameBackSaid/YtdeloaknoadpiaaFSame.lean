/- Same of two lists of bytes that are the same (layer 6), walked. -/
import Derived.Test.YtdeloaknoadpiaaFBods
import Derived.Test.YtdeloaknoadpiaaFAwake
namespace Go.Proofs.Ytdeloaknoadpiaa
open Go.RowKit Crc

/-- A list of lists of bytes lies in memory as v. -/
def Rows2 (w : World) (v : Value) (ls : List (List Nat)) : Prop :=
  ∃ a cap, v = .slice a ls.length cap ∧ ls.length ≤ cap ∧ cap ≤ 9223372036854775807 ∧ (0 < ls.length → ∃ b off, a = some ⟨b, off, none⟩ ∧ b < w.heap.size ∧ ∀ i, i < ls.length → ∃ u, w.cell? ⟨b, off + i, none⟩ = some u ∧ Bs w u (ls.getD i []))
section
variable {w W : World} {base : Nat} {v : Value} {ls : List (List Nat)}
theorem Bods.rows (h : Bods w base v ls) (hl : ∀ m ∈ ls, ∀ b ∈ m, b < 256) : Rows2 w v ls := by
  obtain ⟨vs, h1, h2, h3⟩ := h
  rcases h2.2 with ⟨hv, h0⟩ | ⟨g, cap, cur, hv, hb, hg, hnc, hcm, hsz, ht⟩
  · exact ⟨none, 0, by rw [hv, h0], by omega, by omega, fun h => by omega⟩
  · subst hv
    refine ⟨_, _, rfl, hnc, hcm, fun _ => ⟨g, 0, rfl, (Array.getElem?_eq_some_iff.1 hg).1, fun i hi => ?_⟩⟩
    obtain ⟨u, hu, hB⟩ := h3 i hi
    have hc := World.ownsRow.cellAt (g := g) (cap := cap) h2 i (by omega)
    refine ⟨u, by rw [Nat.zero_add, hc]; exact hu, hB.bs (hl _ ?_)⟩
    rw [List.getD_eq_getElem?_getD, List.getElem?_eq_getElem hi]
    exact List.getElem_mem _
theorem Rows2.below (h : Rows2 w v ls) (hb : Below w.heap.size w W) : Rows2 W v ls := by
  obtain ⟨a, cap, rfl, h1, h2, h3⟩ := h
  refine ⟨a, cap, rfl, h1, h2, fun h0 => ?_⟩
  obtain ⟨b, off, rfl, hbl, hc⟩ := h3 h0
  refine ⟨b, off, rfl, Nat.lt_of_lt_of_le hbl hb.size, fun i hi => ?_⟩
  obtain ⟨u, hu, hB⟩ := hc i hi
  exact ⟨u, (hb.cell (p := ⟨b, off + i, none⟩) hbl).trans hu, hB.below hb⟩

set_option maxRecDepth 20000 in
set_option maxHeartbeats 1000000 in
theorem same_true {v1 v2 : Value} (h1 : Rows2 w v1 ls) (h2 : Rows2 w v2 ls) :
    Calls Try.prog 22 #[v1, v2] w fun e w' => e = .returned (.bool true) ∧ Below w.heap.size w w' := by
  obtain ⟨a1, cap1, rfl, _, _, k1⟩ := h1
  obtain ⟨a2, cap2, rfl, hlc, hcm, k2⟩ := h2
  have hne : ((ls.length : Int) != (ls.length : Int)) = false := by simp
  replace k1 := Lib.hid k1
  replace k2 := Lib.hid k2
  go_enter Try.func22, Try.ntmps22
  go_wp2
  go_loopw [5] (fun t5 wr => ∃ i : Nat, i ≤ ls.length ∧ t5 = .int .i64 i ∧ Below w.heap.size w wr) (fun t5 _ => ls.length - (intOf t5).toNat)
  case atStart => exact ⟨0, by omega, rfl, Below.refl _ _⟩
  case round =>
    obtain ⟨i, hi, rfl, hbw⟩ := hrel
    rcases Nat.lt_or_ge i ls.length with hlt | hge
    · obtain ⟨b1, o1, rfl, hl1, hc1⟩ := k1.out (by omega)
      obtain ⟨b2, o2, rfl, hl2, hc2⟩ := k2.out (by omega)
      obtain ⟨u1, x1, y1⟩ := hc1 i hlt
      obtain ⟨u2, x2, y2⟩ := hc2 i hlt
      have x1' : wr.cell? ⟨b1, o1 + i, none⟩ = some u1 := (hbw.cell (p := ⟨b1, o1 + i, none⟩) hl1).trans x1
      have x2' : wr.cell? ⟨b2, o2 + i, none⟩ = some u2 := (hbw.cell (p := ⟨b2, o2 + i, none⟩) hl2).trans x2
      have z1 : ∀ W, Below w.heap.size w W → (convert 22 9 u1).run Try.prog W = .ok (.string (bytesB (ls.getD i []))) W := fun W hb => (y1.below hb).string
      have z2 : ∀ W, Below w.heap.size w W → (convert 22 9 u2).run Try.prog W = .ok (.string (bytesB (ls.getD i []))) W := fun W hb => (y2.below hb).string
      have z1' := fun n => z1 (wr.drewN n) (below_drewN hbw _)
      have z2' := fun n => z2 (wr.drewN n) (below_drewN hbw _)
      obtain ⟨ua1, uc1, rfl, _⟩ := y1
      obtain ⟨ua2, uc2, rfl, _⟩ := y2
      generalize ls.getD i [] = m at *
      generalize bytesB m = S at *
      have hSS := str_self S
      have hlti : (i : Int) < (ls.length : Int) := by omega
      clear z1 z2 x1 x2 hc1 hc2
      replace hbw := Lib.hid hbw
      go_wp2
      go_quiet (fail)
      go_wp2
      go_roundw
      case rel => exact ⟨i + 1, by omega, by go_num, below_drewN hbw.out _⟩
      case measure => simp [intOf]; omega
    · obtain rfl : i = ls.length := by omega
      have hlti : ¬ ((ls.length : Int) < (ls.length : Int)) := by omega
      go_wp2
      go_ret
      exact ⟨rfl, hbw⟩
end
end Go.Proofs.Ytdeloaknoadpiaa
