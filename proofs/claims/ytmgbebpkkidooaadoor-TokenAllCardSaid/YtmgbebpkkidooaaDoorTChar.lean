/- Bytes by kind (layer 7): isLetter, isDigit, isOfWord, isPlain of token; low, dig, Hex of the document. No condition. -/
import Derived.Test.YtmgbebpkkidooaaDoorNum
import Derived.Test.YtmgbebpkkidooaaDoorRows
import Derived.Test.YtmgbebpkkidooaaDoorTSpec
import Derived.WalkKit
import Derived.WalkSpells
import Derived.WalkLawsBesides
import Derived.Handy
import Derived.Lib.Hide
import Derived.LoopTactic
import Derived.Lib.IndexBytes
namespace Go.Proofs.YtmgbebpkkidooaaDoor
open Go.RowKit Tok

theorem between_any {c : UInt8} {a b : Nat} {B : Bool} (h : B = decide (a ≤ c.toNat ∧ c.toNat ≤ b)) : (a ≤ c.toNat ∧ B = decide ((c.toNat : Int) ≤ (b : Int))) ∨ (¬ a ≤ c.toNat ∧ B = false) := by
  by_cases h1 : a ≤ c.toNat
  · exact .inl ⟨h1, by rw [h]; simp [h1]⟩
  · exact .inr ⟨h1, by rw [h]; simp [h1]⟩

set_option maxHeartbeats 400000 in
theorem isLetter_any (c : UInt8) (w : World) : Calls Tryd.prog 14 #[.int .u8 (c.toNat : Int)] w fun e w' => e = .returned (.bool (lowC c)) ∧ w' = w := by
  obtain ⟨B, hB⟩ := exHid (lowC c)
  rw [hB.out]
  rcases between_any (B := B) (a := 97) (b := 122) (by rw [← hB.out]; rfl) with ⟨h1, h2⟩ | ⟨h1, h2⟩
  all_goals
    replace h2 := Lib.hid h2
    go_enter Tryd.func14, Tryd.ntmps14
    go_wp2
    go_ret
    exact ⟨ret_bool (by rw [h2.out]; try rfl), rfl⟩
set_option maxHeartbeats 400000 in
theorem isDigit_any (c : UInt8) (w : World) : Calls Tryd.prog 16 #[.int .u8 (c.toNat : Int)] w fun e w' => e = .returned (.bool (digC c)) ∧ w' = w := by
  obtain ⟨B, hB⟩ := exHid (digC c)
  rw [hB.out]
  rcases between_any (B := B) (a := 48) (b := 57) (by rw [← hB.out]; rfl) with ⟨h1, h2⟩ | ⟨h1, h2⟩
  all_goals
    replace h2 := Lib.hid h2
    go_enter Tryd.func16, Tryd.ntmps16
    go_wp2
    go_ret
    exact ⟨ret_bool (by rw [h2.out]; try rfl), rfl⟩
set_option maxHeartbeats 400000 in
theorem isPlain_any (c : UInt8) (w : World) : Calls Tryd.prog 48 #[.int .u8 (c.toNat : Int)] w fun e w' => e = .returned (.bool (plainC c)) ∧ w' = w := by
  obtain ⟨B, hB⟩ := exHid (plainC c)
  rw [hB.out]
  rcases between_any (B := B) (a := 32) (b := 126) (by rw [← hB.out]; rfl) with ⟨h1, h2⟩ | ⟨h1, h2⟩
  all_goals
    replace h2 := Lib.hid h2
    go_enter Tryd.func48, Tryd.ntmps48
    go_wp2
    go_ret
    exact ⟨ret_bool (by rw [h2.out]; try rfl), rfl⟩

theorem calls_at {P : Program} {f : FuncId} {args : Array Value} {w : World} {a b : Bool} (h : Calls P f args w fun e w' => e = .returned (.bool a) ∧ w' = w) (hab : a = b) : Calls P f args w fun e w' => e = .returned (.bool b) ∧ w' = w := hab ▸ h
theorem word_iff (c : UInt8) : (lowC c = true ∧ wordC c = true) ∨ (lowC c = false ∧ digC c = true ∧ wordC c = true) ∨ (lowC c = false ∧ digC c = false ∧ c.toNat = 95 ∧ wordC c = true) ∨ (lowC c = false ∧ digC c = false ∧ c.toNat ≠ 95 ∧ wordC c = false) := by
  unfold wordC
  cases lowC c <;> cases digC c <;> by_cases h : c.toNat = 95 <;> simp [h]
set_option maxHeartbeats 400000 in
theorem isOfWord_any (c : UInt8) (w : World) : Calls Tryd.prog 28 #[.int .u8 (c.toNat : Int)] w fun e w' => e = .returned (.bool (wordC c)) ∧ w' = w := by
  rcases word_iff c with ⟨h1, hW⟩ | ⟨h1, h2, hW⟩ | ⟨h1, h2, h3, hW⟩ | ⟨h1, h2, h3, hW⟩
  · rw [hW]
    have k1 := Lib.hid (calls_at (isLetter_any c w) h1)
    clear h1 hW
    go_enter Tryd.func28, Tryd.ntmps28
    go_wp2_with (first | (with_reducible refine k1.out.mono ?_; rintro e w' ⟨rfl, rfl⟩))
    go_ret
    exact ⟨rfl, rfl⟩
  · rw [hW]
    have k1 := Lib.hid (calls_at (isLetter_any c w) h1)
    have k2 := Lib.hid (calls_at (isDigit_any c w) h2)
    clear h1 h2 hW
    go_enter Tryd.func28, Tryd.ntmps28
    go_wp2_with (first | (with_reducible refine k1.out.mono ?_; rintro e w' ⟨rfl, rfl⟩) | (with_reducible refine k2.out.mono ?_; rintro e w' ⟨rfl, rfl⟩))
    go_ret
    exact ⟨rfl, rfl⟩
  all_goals
    rw [hW]
    have k1 := Lib.hid (calls_at (isLetter_any c w) h1)
    have k2 := Lib.hid (calls_at (isDigit_any c w) h2)
    first
    | (have h4 : (((c.toNat : Int)) == 95) = true := by rw [h3]; rfl)
    | (have h4 : (((c.toNat : Int)) == 95) = false := beq_eq_false_iff_ne.2 (by omega))
    clear h1 h2 h3 hW
    go_enter Tryd.func28, Tryd.ntmps28
    go_wp2_with (first | (with_reducible refine k1.out.mono ?_; rintro e w' ⟨rfl, rfl⟩) | (with_reducible refine k2.out.mono ?_; rintro e w' ⟨rfl, rfl⟩))
    go_ret
    exact ⟨rfl, rfl⟩
end Go.Proofs.YtmgbebpkkidooaaDoor
