/- The contract of filled: a heap of things with these keys, whose values are their numbers. -/
import Derived.Test.YtabcifaknckomaaHHp2
import Derived.Test.YtabcifaknckomaaHOpen
import Derived.Test.YtabcifaknckomaaHAwake
namespace Go.Proofs.Ytabcifaknckomaa
open Go.RowKit HI

/-- The things that the keys make. -/
def fillL (zs : List Int) (k : Nat) : List T := (List.range k).map fun i => ⟨zs.getD i 0, i, i⟩
theorem fillL_succ (zs : List Int) (k : Nat) : fillL zs (k + 1) = fillL zs k ++ [⟨zs.getD k 0, k, k⟩] := by unfold fillL; rw [List.range_succ, List.map_append]; rfl

/-- Where an argument's numbers lie, in a later world. -/
def Lies (w : World) (k : IntKind) (a : Option Addr) (len : Nat) (zs : List Int) : Prop := 0 < len → ∃ b off, a = some ⟨b, off, none⟩ ∧ ∀ j, j < len → w.cell? ⟨b, off + j, none⟩ = some (.int k (zs.getD j 0))
theorem Lies.below {w w' : World} {k : IntKind} {a : Option Addr} {len : Nat} {zs : List Int} (h : Lies w k a len zs) (hb : Below w.heap.size w w') : Lies w' k a len zs := fun h0 => by
  obtain ⟨b, off, e, hc⟩ := h h0
  exact ⟨b, off, e, fun j hj => Below.keeps hb (hc j hj)⟩

set_option maxHeartbeats 1000000 in
theorem filled_any {a : Option Addr} {len cap : Nat} {zs : List Int} {w : World} (h300 : len ≤ 300) (hz : Lies w .i64 a len zs) :
    Calls Try.prog 24 #[.slice a len cap] w fun e w' => ∃ b, e = .returned (.pointer (some ⟨b, 0, none⟩)) ∧ Hp (fun k => w.heap.size ≤ k) w' b (fillL zs len) len ∧ Below w.heap.size w w' := by
  replace hz := Lib.hid hz
  go_enter Try.func24, Try.ntmps24
  go_wp2_with fail
  refine (hp_new _).mono ?_
  rintro e w1 ⟨hb, rfl, hH1, hb1⟩
  go_wp2
  go_loopw [4] (fun i wr => ∃ k : Nat, k ≤ len ∧ i = .int .i64 k ∧ Hp (fun j => w.heap.size ≤ j) wr hb (fillL zs k) k ∧ Below w.heap.size w wr) (fun i _ => len - (intOf i).toNat)
  case atStart => exact ⟨0, Nat.zero_le _, rfl, hH1, hb1⟩
  case round =>
    obtain ⟨k, hk, rfl, hH, hB⟩ := hrel
    by_cases hlt : k < len
    · obtain ⟨ab, off, rfl, hc⟩ := hz.out.below hB (by omega)
      have hck := hc k hlt
      have hs := Lib.hid (fillL_succ zs k)
      replace hc := Lib.hid hc
      have hkl : (k : Int) < len := by omega
      obtain ⟨z, hzk⟩ := exHid (zs.getD k 0)
      rw [hzk.out] at hck
      go_wp2_with (go_at_call 9; refine (hp_push hH (by omega) (fun j hj => Nat.le_trans hB.size hj) z k).mono ?_; rintro e w2 ⟨rfl, hH2, ho2⟩)
      go_roundw
      case rel => exact ⟨k + 1, by omega, by go_num, by rw [hs.out, hzk.out]; exact hH2, hB.trans (ho2.below hB.size (fun j hj h => by omega))⟩
      case measure => simp [intOf]; omega
    · have hkl : ¬ (k : Int) < len := by omega
      have hkl2 : k = len := by omega
      replace hkl2 := Lib.hid hkl2
      go_wp2
      go_ret
      exact ⟨hb, rfl, by rw [← hkl2.out]; exact hH, hB⟩
end Go.Proofs.Ytabcifaknckomaa
