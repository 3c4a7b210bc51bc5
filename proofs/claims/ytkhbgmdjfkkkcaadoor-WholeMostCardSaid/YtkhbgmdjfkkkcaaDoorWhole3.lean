/- More contracts: a number's text (whole.Text), and the statements' own 'awake', where the library's table of powers of ten reads as it was laid. -/
import Derived.Test.YtkhbgmdjfkkkcaaDoorWhole2
import Derived.Lib.ItoaLen
import Derived.Lib.LaidTab
import Derived.LaidMore
import Derived.LaidHandle
import Derived.Stop.LaidErr
namespace Go.Proofs.YtkhbgmdjfkkkcaaDoor
open Go.RowKit

/-- The library's table of powers of ten reads as its text lays it. -/
def TabOK (w : World) : Prop := Lib.TabIs Tryd.prog w "internal/strconv.uint64pow10" .u64 Lib.pow10Tab

theorem below_grow (w : World) (k : Nat) (os : Array Obj) : Below w.heap.size w (Sort.grow (w.drewN k) os) := by
  refine ⟨rfl, rfl, rfl, ?_, fun i hi => ?_⟩
  · simp [Sort.grow, World.drewN]
  · simp [Sort.grow, World.drewN, Array.getElem?_append, hi]

theorem tab_num : Tryd.prog.globalNamed "internal/strconv.uint64pow10" = some 0 := by kernel_rfl

theorem TabOK.below {w w' : World} (h : TabOK w) (hb : Below w.heap.size w w') : TabOK w' := by
  unfold TabOK Lib.TabIs World.var? at h ⊢
  rw [tab_num] at h ⊢
  simp only [Option.bind_some] at h ⊢
  have hlt : 0 < w.heap.size := by
    rcases Nat.lt_or_ge 0 w.heap.size with h' | h'
    · exact h'
    · rw [Array.getElem?_eq_none h'] at h; cases h
  rw [hb.block _ hlt]
  exact h

theorem text_any (a : Int) (w : World) (ha : I64 a) (ht : TabOK w) :
    Calls Tryd.prog 32 #[.int .i64 a] w fun e w' => e = .returned (.string ⟨(Lib.itoa a).toArray⟩) ∧ Below w.heap.size w w' := by
  obtain ⟨a1, a2⟩ := ha
  go_enter Tryd.func32, Tryd.ntmps32
  go_wp2_with (go_at_call 51; refine (Tryd.strconv_FormatInt_10 _ (by assumption) (by assumption) _ ht).mono ?_; rintro e w' ⟨rfl, k, os, rfl⟩)
  go_ret
  exact ⟨rfl, below_grow _ _ _⟩

theorem itoa_m7 : Lib.itoa (-7) = [45, 55] := by
  have := Lib.itoa_neg 7 (by omega)
  rw [Lib.decDigits_one (by omega)] at this
  exact this

theorem text_m7 (w : World) (ht : TabOK w) :
    Calls Tryd.prog 32 #[.int .i64 (-7)] w fun e w' => e = .returned (.string ⟨#[45, 55]⟩) ∧ Below w.heap.size w w' :=
  (text_any (-7) w (by unfold I64; omega) ht).mono fun e w' ⟨he, hb⟩ => by
    rw [itoa_m7] at he
    exact ⟨he, hb⟩

theorem add_23 (w : World) : Calls Tryd.prog 20 #[.int .i64 2, .int .i64 3] w fun e w' => e = .returned (.int .i64 5) ∧ w = w' :=
  (add_any 2 3 w (by unfold I64; omega) (by unfold I64; omega)).mono fun e w' h => h

theorem awake_any (w : World) (ht : TabOK w) :
    Calls Tryd.prog 16 #[] w fun e w' => e = .returned (.bool true) ∧ Below w.heap.size w w' := by
  go_enter Tryd.func16, Tryd.ntmps16
  go_wp2_with (first
    | (go_at_call 20; refine (add_23 _).mono ?_; rintro e w' ⟨rfl, rfl⟩)
    | (go_at_call 32; refine (text_m7 _ ht).mono ?_; rintro e w' ⟨rfl, hb⟩))
  go_ret
  exact ⟨rfl, by assumption⟩

/-! The same contracts, the answer under a name of its own. -/
theorem add_is {a b s : Int} (H : Hid (held (a + b) = s)) (ha : I64 a) (hb : I64 b) (w : World) :
    Calls Tryd.prog 20 #[.int .i64 a, .int .i64 b] w fun e w' => e = .returned (.int .i64 s) ∧ w = w' :=
  (add_any a b w ha hb).mono fun e w' ⟨he, hw⟩ => ⟨by rw [he, H.out], hw⟩
theorem sub_is {a b s : Int} (H : Hid (held (a - b) = s)) (ha : I64 a) (hb : I64 b) (w : World) :
    Calls Tryd.prog 22 #[.int .i64 a, .int .i64 b] w fun e w' => e = .returned (.int .i64 s) ∧ w = w' :=
  (sub_any a b w ha hb).mono fun e w' ⟨he, hw⟩ => ⟨by rw [he, H.out], hw⟩
theorem mul_is {a b s : Int} (H : Hid (held (a * b) = s)) (ha : I64 a) (hb : I64 b) (w : World) :
    Calls Tryd.prog 24 #[.int .i64 a, .int .i64 b] w fun e w' => e = .returned (.int .i64 s) ∧ w = w' :=
  (mul_any a b w ha hb).mono fun e w' ⟨he, hw⟩ => ⟨by rw [he, H.out], hw⟩
theorem neg_is {a s : Int} (H : Hid (held (-a) = s)) (ha : I64 a) (w : World) :
    Calls Tryd.prog 26 #[.int .i64 a] w fun e w' => e = .returned (.int .i64 s) ∧ w = w' :=
  (neg_any a w ha).mono fun e w' ⟨he, hw⟩ => ⟨by rw [he, H.out], hw⟩
theorem div_is {a b s : Int} (H : Hid (held (a.tdiv b) = s)) (ha : I64 a) (hb : I64 b) (h0 : b ≠ 0) (w : World) :
    Calls Tryd.prog 11 #[.int .i64 a, .int .i64 b] w fun e w' => e = .returned (.tuple #[.int .i64 s, .int .i64 0]) ∧ w = w' :=
  (div_any a b w ha hb h0).mono fun e w' ⟨he, hw⟩ => ⟨by rw [he, H.out], hw⟩
theorem mod_is {a b s : Int} (H : Hid (a.tmod b = s)) (ha : I64 a) (hb : I64 b) (h0 : b ≠ 0) (w : World) :
    Calls Tryd.prog 12 #[.int .i64 a, .int .i64 b] w fun e w' => e = .returned (.tuple #[.int .i64 s, .int .i64 0]) ∧ w = w' :=
  (mod_any a b w ha hb h0).mono fun e w' ⟨he, hw⟩ => ⟨by rw [he, H.out], hw⟩
theorem shift_is {a n s : Int} (H : Hid (held (a * 2 ^ n.toNat) = s)) (ha : I64 a) (hn : I64 n) (w : World) :
    Calls Tryd.prog 17 #[.int .i64 a, .int .i64 n] w fun e w' => e = .returned (.int .i64 s) ∧ w = w' :=
  (shift_any a n w ha hn).mono fun e w' ⟨he, hw⟩ => ⟨by rw [he, H.out], hw⟩

theorem held_mono {x y : Int} (h : x ≤ y) : held x ≤ held y := by unfold held; (repeat' split) <;> omega
end Go.Proofs.YtkhbgmdjfkkkcaaDoor
