/- The document's Own and part (layer 8), walked. No condition. -/
import Derived.Test.YtnghfjlmmmjekaaRDoc1
import Derived.Test.YtnghfjlmmmjekaaRExp
import Derived.Test.YtnghfjlmmmjekaaNmR
import Derived.Test.YtnghfjlmmmjekaaKwR
namespace Go.Proofs.Ytnghfjlmmmjekaa
open Go.RowKit Go.Shelf

theorem refName_at {tx : List UInt8} {b : Bool} (h : nameL tx = b) (hl : tx.length ≤ 9223372036854775807) (W : World) :
    Calls Try.prog 96 #[.string ⟨tx.toArray⟩] W fun e w' => e = .returned (.bool b) ∧ w' = W := by
  have h1 := refName_any ⟨tx.toArray⟩ W (by simp [ByteArray.size]; omega)
  refine h1.mono fun e w' ⟨he, hw⟩ => ⟨?_, hw.symm⟩
  rw [he]
  exact ret_bool (by simpa using h)
theorem refKw_at {tx : List UInt8} {b : Bool} (h : kwB tx = b) (W : World) :
    Calls Try.prog 97 #[.string ⟨tx.toArray⟩] W fun e w' => e = .returned (.bool b) ∧ Below W.heap.size W w' := by
  refine (refKeyword_any ⟨tx.toArray⟩ W).mono fun e w' ⟨he, hw⟩ => ⟨?_, hw⟩
  rw [he]
  exact ret_bool (by rw [ByteArray.toList_eq]; simpa using h)
set_option maxHeartbeats 400000 in
theorem refOwn_any (s : List UInt8) (w : World) (hl : s.length ≤ 9223372036854775807) : Calls Try.prog 63 #[.string ⟨s.toArray⟩] w fun e w' => e = .returned (.bool (textOK 1 s)) ∧ Below w.heap.size w w' := by
  obtain ⟨B, hB⟩ := exHid (textOK 1 s)
  rw [hB.out]
  have h : (nameL s && !kwB s) = B := hB.out
  rcases h1 : nameL s with _ | _
  · have k1 := Lib.hid (fun W => refName_at h1 hl W)
    rw [h1] at h
    replace h := Lib.hid h
    clear h1
    go_enter Try.func63, Try.ntmps63
    go_wp2_with fail
    refine (k1.out _).mono ?_
    rintro e w2 ⟨rfl, rfl⟩
    go_wp2
    go_ret
    exact ⟨ret_bool (by rw [← h.out]; rfl), Below.refl _ _⟩
  · have k1 := Lib.hid (fun W => refName_at h1 hl W)
    have k2 := Lib.hid (fun W => refKw_at (tx := s) rfl W)
    rw [h1, Bool.true_and] at h
    replace h := Lib.hid h
    clear h1
    go_enter Try.func63, Try.ntmps63
    go_wp2_with fail
    refine (k1.out _).mono ?_
    rintro e w2 ⟨rfl, rfl⟩
    go_wp2_with fail
    refine (k2.out _).mono ?_
    rintro e w2 ⟨rfl, hb⟩
    replace hb := Lib.hid hb
    go_wp2
    go_ret
    exact ⟨ret_bool (by rw [← h.out]; try rfl), hb.out⟩

/-- May an Op be part number i of n of another one? -/
def partR (up : Nat) (i n : Int) (op : Nat) : Bool :=
  if up = 1 then (if i = n - 1 then (op : Int) == 3 else (op : Int) == 2)
  else if up = 3 then stmtB op
  else if (up = 6 ∨ up = 7) ∧ 0 < i then (op : Int) == 3
  else if up = 53 then (op : Int) == 3
  else exprB op
set_option maxHeartbeats 2000000 in
theorem refPart_any (up : Nat) (i n : Int) (op : Nat) (w : World) (hn : -1000000 ≤ n) (hn2 : n ≤ 1000000) :
    Calls Try.prog 36 #[.int .u8 (up : Int), .int .i64 i, .int .i64 n, .int .u8 (op : Int)] w fun e w' => e = .returned (.bool (partR up i n op)) ∧ w' = w := by
  obtain ⟨Z, hZ⟩ := exHid (partR up i n op)
  rw [hZ.out]
  have hz := hZ.out
  unfold partR at hz
  clear hZ
  have kE := Lib.hid (fun W => refExpression_any op W)
  have kS := Lib.hid (fun W => refStatement_any op W)
  by_cases h1 : up = 1
  · subst h1
    rw [if_pos rfl] at hz
    by_cases h : i = n - 1
    · rw [if_pos h] at hz
      have q : (i == n - 1) = true := beq_iff_eq.2 h
      replace hz := Lib.hid hz
      clear h
      go_enter Try.func36, Try.ntmps36
      go_wp2
      go_ret
      exact ⟨ret_bool hz.out, rfl⟩
    · rw [if_neg h] at hz
      have q : (i == n - 1) = false := beq_eq_false_iff_ne.2 h
      replace hz := Lib.hid hz
      clear h
      go_enter Try.func36, Try.ntmps36
      go_wp2
      go_ret
      exact ⟨ret_bool hz.out, rfl⟩
  · rw [if_neg h1] at hz
    have e1 : ((up : Int) == 1) = false := beq_eq_false_iff_ne.2 (by omega)
    by_cases h3 : up = 3
    · subst h3
      rw [if_pos rfl] at hz
      replace hz := Lib.hid hz
      go_enter Try.func36, Try.ntmps36
      go_wp2_with fail
      refine (kS.out _).mono ?_
      rintro e w2 ⟨rfl, rfl⟩
      go_wp2
      go_ret
      exact ⟨ret_bool hz.out, rfl⟩
    · rw [if_neg h3] at hz
      have e3 : ((up : Int) == 3) = false := beq_eq_false_iff_ne.2 (by omega)
      by_cases h67 : (up = 6 ∨ up = 7) ∧ 0 < i
      · rw [if_pos h67] at hz
        obtain ⟨h6, hi⟩ := h67
        replace hz := Lib.hid hz
        rcases h6 with rfl | rfl
        · go_enter Try.func36, Try.ntmps36
          go_wp2
          go_ret
          exact ⟨ret_bool hz.out, rfl⟩
        · go_enter Try.func36, Try.ntmps36
          go_wp2
          go_ret
          exact ⟨ret_bool hz.out, rfl⟩
      · rw [if_neg h67] at hz
        by_cases h53 : up = 53
        · subst h53
          rw [if_pos rfl] at hz
          replace hz := Lib.hid hz
          go_enter Try.func36, Try.ntmps36
          go_wp2
          go_ret
          exact ⟨ret_bool hz.out, rfl⟩
        · rw [if_neg h53] at hz
          have e53 : ((up : Int) == 53) = false := beq_eq_false_iff_ne.2 (by omega)
          replace hz := Lib.hid hz
          by_cases h6 : up = 6 ∨ up = 7
          · have hi : ¬ (0 : Int) < i := fun h => h67 ⟨h6, h⟩
            clear h67
            rcases h6 with rfl | rfl
            · go_enter Try.func36, Try.ntmps36
              go_wp2_with fail
              refine (kE.out _).mono ?_
              rintro e w2 ⟨rfl, rfl⟩
              go_wp2
              go_ret
              exact ⟨ret_bool hz.out, rfl⟩
            · go_enter Try.func36, Try.ntmps36
              go_wp2_with fail
              refine (kE.out _).mono ?_
              rintro e w2 ⟨rfl, rfl⟩
              go_wp2
              go_ret
              exact ⟨ret_bool hz.out, rfl⟩
          · have e6 : ((up : Int) == 6) = false := beq_eq_false_iff_ne.2 (by omega)
            have e7 : ((up : Int) == 7) = false := beq_eq_false_iff_ne.2 (by omega)
            clear h67 h6
            go_enter Try.func36, Try.ntmps36
            go_wp2_with fail
            refine (kE.out _).mono ?_
            rintro e w2 ⟨rfl, rfl⟩
            go_wp2
            go_ret
            exact ⟨ret_bool hz.out, rfl⟩
end Go.Proofs.Ytnghfjlmmmjekaa
