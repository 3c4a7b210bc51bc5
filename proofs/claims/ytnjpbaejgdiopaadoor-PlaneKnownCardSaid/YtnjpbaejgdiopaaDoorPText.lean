/- The text of a number's part: its 16 digits to the base 16; the text of a number both parts of which are whole. -/
import Derived.Test.YtnjpbaejgdiopaaDoorPlane
import Derived.Test.YtnjpbaejgdiopaaDoorHex
import Derived.Test.YtnjpbaejgdiopaaDoorShelf
namespace Go.Proofs.YtnjpbaejgdiopaaDoor
open Go.RowKit

theorem DebOK.below {w w' : World} (h : DebOK w) (hb : Below w.heap.size w w') : DebOK w' := by
  unfold DebOK Lib.TabIs World.var? at h ⊢
  rw [deb_num] at h ⊢
  simp only [Option.bind_some] at h ⊢
  have hlt : 4 < w.heap.size := by
    rcases Nat.lt_or_ge 4 w.heap.size with h' | h'
    · exact h'
    · rw [Array.getElem?_eq_none h'] at h; cases h
  rw [hb.block _ hlt]
  exact h

theorem rep_any (c : Nat) (i : Int) (hi : i = c) (hc : c ≤ 15) (w : World) :
    Calls Tryd.prog 27 #[.string ⟨#[48]⟩, .int .i64 i] w fun e w' => e = .returned (.string ⟨(List.replicate c (48 : UInt8)).toArray⟩) ∧ Below w.heap.size w w' := by
  subst hi
  refine (Tryd.strings_Repeat ⟨#[48]⟩ c w (by omega) (by show 1 * c ≤ _; omega)).mono ?_
  rintro e w' ⟨rfl, hb⟩
  refine ⟨?_, hb⟩
  have : Lib.repeatL [(48 : UInt8)] c = List.replicate c 48 := by
    clear hb hc
    induction c with
    | zero => rfl
    | succ c ih => rw [Lib.repeatL, ih]; rfl
  rw [this]

theorem pad (U k : Nat) (hk : k ≤ 15) (h : U / 16 ^ k < 16) : List.replicate (15 - k) (48 : UInt8) ++ hexS U k = hexS U 15 := by
  apply List.ext_getElem
  · simp [hexS]; omega
  · intro i h1 h2
    have h3 : i < 16 := by simpa [hexS] using h2
    have e2 : (hexS U 15)[i] = (dg U (49 + i)).toUInt8 := by simp [hexS]
    refine Eq.trans ?_ e2.symm
    by_cases hi : i < 15 - k
    · rw [List.getElem_append_left (by simpa using hi), List.getElem_replicate]
      have hz : U / 16 ^ (64 - (49 + i)) = 0 := by
        rw [Nat.div_eq_zero_iff_lt (Nat.pow_pos (by omega))]
        have : U < 16 ^ k * 16 := by
          have := (Nat.div_lt_iff_lt_mul (Nat.pow_pos (by omega))).1 h
          rw [Nat.mul_comm]; exact this
        rw [← Nat.pow_succ] at this
        exact Nat.lt_of_lt_of_le this (Nat.pow_le_pow_right (by omega) (by omega))
      unfold dg
      rw [hz]
      decide
    · rw [List.getElem_append_right (by simpa using hi)]
      simp only [List.length_replicate]
      have e3 : ∀ j (hj : j < (hexS U k).length), (hexS U k)[j] = (dg U (64 - k + j)).toUInt8 := fun j hj => by simp [hexS]
      rw [e3, show 64 - k + (i - (15 - k)) = 49 + i by omega]

set_option maxHeartbeats 400000 in
theorem digits_any (x : Nat) (hx : x < 18446744073709551616) (w : World) (h : DebOK w) :
    Calls Tryd.prog 21 #[.float .f64 x] w fun e w' => e = .returned (.string ⟨(hexS x 15).toArray⟩) ∧ Below w.heap.size w w' := by
  have hf := f2b_any x
  go_enter Tryd.func21, Tryd.ntmps21
  go_wp2_with (first
    | ((with_reducible refine (fmt_any x hx _ h).mono ?_); rintro e w' ⟨k, hk, h1, h2, rfl, hb⟩; have H2 := Lib.hid h2; clear h2; have H1 := Lib.hid h1; clear h1; obtain ⟨S, hS⟩ := exHid (hexS x k); rw [hS.out]; have hl : S.length = k + 1 := by rw [← hS.out, hexS_length])
    | ((with_reducible refine (rep_any (15 - k) _ (by omega) (by omega) _).mono ?_); rintro e w' ⟨rfl, hb2⟩))
  go_ret
  refine ⟨?_, below_next hb hb2⟩
  have e : (⟨Array.replicate (15 - k) 48⟩ : ByteArray) ++ ⟨S.toArray⟩ = ⟨(hexS x 15).toArray⟩ := by
    apply ByteArray.ext
    rw [ByteArray.data_append, ← pad x k hk H1.out, hS.out]
    apply Array.ext'
    simp
  show Ending.returned (.string (_ ++ _)) = _
  rw [e]

set_option maxHeartbeats 400000 in
theorem Text_any {a b : Int} (ha : W53 a) (hb : W53 b) (w : World) (h : DebOK w) :
    Calls Tryd.prog 12 #[.complex .f64 (floatOfInt .f64 a) (floatOfInt .f64 b)] w
      fun e w' => e = .returned (.string ⟨(hexS (floatOfInt .f64 a) 15 ++ hexS (floatOfInt .f64 b) 15).toArray⟩) ∧ Below w.heap.size w w' := by
  have h1 := (IsI.of a).lt ha
  have h2 := (IsI.of b).lt hb
  obtain ⟨x, hx⟩ := exHid (floatOfInt .f64 a)
  obtain ⟨y, hy⟩ := exHid (floatOfInt .f64 b)
  have hF := fine_any ha hb
  rw [hx.out] at h1 hF
  rw [hy.out] at h2 hF
  rw [hx.out, hy.out]
  obtain ⟨S, hS⟩ := exHid (hexS x 15)
  obtain ⟨T, hT⟩ := exHid (hexS y 15)
  have d1 := fun w h => digits_any x h1 w h
  have d2 := fun w h => digits_any y h2 w h
  have lS := hexS_length x 15
  have lT := hexS_length y 15
  rw [hS.out] at d1 lS ⊢
  rw [hT.out] at d2 lT ⊢
  have mS : S.length ≤ 16 := by omega
  have mT : T.length ≤ 16 := by omega
  clear lS lT
  go_enter Tryd.func12, Tryd.ntmps12
  go_wp2_with (first
    | ((with_reducible refine (hF _).mono ?_); rintro e w' ⟨rfl, rfl⟩)
    | ((with_reducible refine (d1 _ h).mono ?_); rintro e w' ⟨rfl, hb1⟩; have g1 := h.below hb1)
    | ((with_reducible refine (d2 _ g1).mono ?_); rintro e w' ⟨rfl, hb2⟩))
  go_ret
  refine ⟨?_, below_next hb1 hb2⟩
  have e : (⟨S.toArray⟩ : ByteArray) ++ ⟨T.toArray⟩ = ⟨(S ++ T).toArray⟩ := by
    apply ByteArray.ext
    rw [ByteArray.data_append]
    apply Array.ext'
    simp
  show Ending.returned (.string (_ ++ _)) = _
  rw [e]

end Go.Proofs.YtnjpbaejgdiopaaDoor
