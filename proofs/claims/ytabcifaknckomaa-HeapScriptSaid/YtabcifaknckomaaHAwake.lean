/- The contract of awake: it answers true. -/
import Derived.Test.YtabcifaknckomaaSHp
namespace Go.Proofs.Ytabcifaknckomaa
open Go.RowKit

theorem two_first {p : Nat} {F : Nat → Prop} {w : World} {b : Nat} (h : HS.Hp F w b ([] ++ [⟨2, ((0 : Nat) : Int), ⟨#[98]⟩⟩] ++ [⟨1, ((1 : Nat) : Int), ⟨#[97]⟩⟩]) p) :
    Calls Try.prog 27 #[.pointer (some ⟨b, 0, none⟩)] w fun e w' => ∃ L' : List HS.T, e = .returned (.tuple #[.int .i64 1, .string ⟨#[97]⟩, .int .i64 1, .bool true]) ∧ L'.length = 1 ∧ HS.Hp F w' b L' p ∧ Only F w w' :=
  (HS.hp_pop_some h (by simp)).mono fun e w' ⟨x, L', he, hx, hp, hH, ho⟩ => by
    have hl := hp.length_eq
    simp at hl
    obtain ⟨hm, hall⟩ := hx
    have h2 := hall ⟨1, ((1 : Nat) : Int), ⟨#[97]⟩⟩ (by simp)
    simp at hm
    rcases hm with rfl | rfl
    · exfalso; unfold le_ lt_ lexLt at h2; simp at h2
    · exact ⟨L', he, by simp [hl], hH, ho⟩

set_option maxHeartbeats 1000000 in
theorem awake_any (w : World) :
    Calls Try.prog 7 #[] w fun e w' => e = .returned (.bool true) ∧ Below w.heap.size w w' := by
  go_enter Try.func7, Try.ntmps7
  go_wp2_with fail
  refine (HS.hp_new _).mono ?_
  rintro e w1 ⟨b, rfl, hH1, hb1⟩
  go_wp2_with fail
  refine (HS.hp_push hH1 (by omega) (fun k hk => Nat.le_trans hb1.size hk) 2 ⟨#[98]⟩).mono ?_
  rintro e w2 ⟨rfl, hH2, ho2⟩
  go_wp2_with fail
  refine (HS.hp_push hH2 (by omega) (fun k hk => Nat.le_trans (Nat.le_trans hb1.size ho2.size) hk) 1 ⟨#[97]⟩).mono ?_
  rintro e w3 ⟨rfl, hH3, ho3⟩
  go_wp2_with fail
  refine (two_first hH3).mono ?_
  rintro e w4 ⟨L4, rfl, hl4, hH4, ho4⟩
  have hlen := HS.hp_len hH4
  rw [hl4] at hlen
  replace hlen := Lib.hid hlen
  have hB : Below w.heap.size w w4 := ((hb1.trans (ho2.below (B := w.heap.size) hb1.size (fun k hk h => by omega))).trans (ho3.below (B := w.heap.size) (Nat.le_trans hb1.size ho2.size) (fun k hk h => by omega))).trans (ho4.below (B := w.heap.size) (Nat.le_trans (Nat.le_trans hb1.size ho2.size) ho3.size) (fun k hk h => by omega))
  clear hH1 hH2 hH3 hH4 ho2 ho3 ho4 hb1
  go_wp2_with (go_at_call 28; refine hlen.out.mono ?_; rintro e w5 ⟨rfl, rfl⟩)
  go_ret
  exact ⟨rfl, hB⟩
end Go.Proofs.Ytabcifaknckomaa
