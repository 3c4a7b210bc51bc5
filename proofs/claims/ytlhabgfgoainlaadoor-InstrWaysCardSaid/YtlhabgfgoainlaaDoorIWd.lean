/- instr's Word and allowsText (layer 14), walked. No condition but the table of words, which the card ties. -/
import Derived.Test.YtlhabgfgoainlaaDoorIFld
namespace Go.Proofs.YtlhabgfgoainlaaDoor
open Go.RowKit

/-- instr.words holds the words. -/
def WordsOK (w : World) : Prop := ∀ i, i < 58 → w.cell? ⟨0, i, none⟩ = some (.string ⟨(wordI i).toArray⟩)
theorem WordsOK.below {w W : World} (h : WordsOK w) (hb : Below w.heap.size w W) : WordsOK W := by
  intro i hi
  have h0 := h i hi
  exact (hb.cell (p := ⟨0, i, none⟩) (World.block_lt_of_cell? w _ h0)).trans h0
theorem WordsOK.drewN {w : World} (h : WordsOK w) (n : Nat) : WordsOK (w.drewN n) := h
theorem wordI_none {op : Nat} (h : 58 ≤ op) : wordI op = [] := by
  unfold wordI
  rw [List.getD_eq_getElem?_getD, List.getElem?_eq_none (by exact h)]
  rfl
set_option maxRecDepth 20000 in
theorem Word_any (op : Nat) (hop : op < 256) (w : World) (hW : WordsOK w) :
    Calls Tryd.prog 75 #[.int .u8 op] w fun e w' => e = .returned (.string ⟨(wordI op).toArray⟩) ∧ w = w' := by
  rcases Nat.lt_or_ge op 58 with h | h
  · have hc := hW op h
    generalize wordI op = s at *
    clear hW
    have h1 : (op : Int) < 58 := by omega
    go_enter Tryd.func75, Tryd.ntmps75
    go_wp2
    go_ret
    exact ⟨rfl, rfl⟩
  · rw [wordI_none h]
    have h1 : ¬ (op : Int) < 58 := by omega
    have h2 : (op : Int) < 256 := by omega
    go_enter Tryd.func75, Tryd.ntmps75
    go_wp2
    go_ret
    exact ⟨rfl, rfl⟩
set_option maxRecDepth 20000 in
theorem allowsText_any (op : Nat) (s : List UInt8) (hs : s.length ≤ 9223372036854775807) (w : World) :
    Calls Tryd.prog 77 #[.int .i64 (tkI op), .string ⟨s.toArray⟩] w fun e w' => e = .returned (.bool (txOK op s)) ∧ w = w' := by
  have hN := name_any ⟨s.toArray⟩ w hs
  have eN : (⟨s.toArray⟩ : ByteArray).data.toList = s := rfl
  rw [eN] at hN
  obtain ⟨n, hn⟩ := exHid (nameL s)
  rw [hn.out] at hN
  obtain ⟨B, hB⟩ := exHid (txOK op s)
  rw [hB.out]
  have hB' := hB.out
  unfold txOK nameI at hB'
  rw [hn.out] at hB'
  have ek : tkI op = if op = 24 then 5 else if op = 50 ∨ op = 51 ∨ op = 56 then 6 else 0 := rfl
  replace hN := Lib.hid hN
  by_cases h24 : op = 24
  · rw [if_pos h24] at hB' ek
    rw [ek]
    clear ek hB hn hN
    by_cases hl : s.length ≤ 4095
    · rw [decide_eq_true hl] at hB'
      have hl' : (s.length : Int) ≤ 4095 := by omega
      replace hB' := Lib.hid hB'
      go_enter Tryd.func77, Tryd.ntmps77
      go_wp2
      go_ret
      exact ⟨ret_bool hB'.out, rfl⟩
    · rw [decide_eq_false hl] at hB'
      have hl' : ¬ (s.length : Int) ≤ 4095 := by omega
      replace hB' := Lib.hid hB'
      go_enter Tryd.func77, Tryd.ntmps77
      go_wp2
      go_ret
      exact ⟨ret_bool hB'.out, rfl⟩
  · rw [if_neg h24] at hB' ek
    by_cases hnm : op = 50 ∨ op = 51 ∨ op = 56
    · rw [if_pos (by simp only [Bool.or_eq_true, beq_iff_eq]; omega)] at hB'
      rw [if_pos hnm] at ek
      rw [ek]
      clear ek hB hn
      replace hB' := Lib.hid hB'
      go_enter Tryd.func77, Tryd.ntmps77
      go_wp2_with (go_at_call 89; refine hN.out.mono ?_; rintro e w' ⟨rfl, rfl⟩)
      go_ret
      exact ⟨ret_bool hB'.out, rfl⟩
    · rw [if_neg (by simp only [Bool.or_eq_true, beq_iff_eq]; omega)] at hB'
      rw [if_neg hnm] at ek
      rw [ek]
      clear ek hB hn hN
      by_cases hl : s = []
      · rw [decide_eq_true hl] at hB'
        subst hl
        replace hB' := Lib.hid hB'
        go_enter Tryd.func77, Tryd.ntmps77
        go_wp2
        go_ret
        exact ⟨ret_bool hB'.out, rfl⟩
      · rw [decide_eq_false hl] at hB'
        have hl' : (s == []) = false := beq_eq_false_iff_ne.2 hl
        replace hB' := Lib.hid hB'
        go_enter Tryd.func77, Tryd.ntmps77
        go_wp2
        go_ret
        exact ⟨ret_bool hB'.out, rfl⟩
end Go.Proofs.YtlhabgfgoainlaaDoor
