/- token's word (layer 7), walked: a word at the beginning of a text. Conditions: the text is no longer than a source may be. -/
import Derived.Test.YtmgbebpkkidooaaDoorTChar
import Derived.Test.YtmgbebpkkidooaaDoorShelf
import Derived.Lib.Strings
namespace Go.Proofs.YtmgbebpkkidooaaDoor
open Go.RowKit Tok

theorem size_list (s : ByteArray) : s.data.toList.length = s.size := Array.length_toList
theorem list_at (s : ByteArray) (i : Nat) (h : i < s.size) : s.data.toList[i]'(by rw [size_list]; exact h) = s[i] := rfl
section
variable {p : UInt8 → Bool}
theorem span_le : ∀ (l : List UInt8), span p l ≤ l.length
  | [] => Nat.le_refl _
  | c :: l => by
    unfold span
    split
    · have := span_le l; simp; omega
    · exact Nat.zero_le _
theorem span_in : ∀ (l : List UInt8) (j : Nat) (h : j < span p l), p (l[j]'(Nat.lt_of_lt_of_le h (span_le l))) = true
  | [], j, h => by simp [span] at h
  | c :: l, j, h => by
    by_cases hc : p c = true
    · have e : span p (c :: l) = span p l + 1 := by show (if p c = true then _ else _) = _; rw [if_pos hc]
      match j with
      | 0 => exact hc
      | j + 1 => exact span_in l j (by omega)
    · have e : span p (c :: l) = 0 := by show (if p c = true then _ else _) = _; rw [if_neg hc]
      omega
theorem span_out : ∀ (l : List UInt8) (h : span p l < l.length), p l[span p l] = false
  | [], h => by simp at h
  | c :: l, h => by
    by_cases hc : p c = true
    · have e : span p (c :: l) = span p l + 1 := by show (if p c = true then _ else _) = _; rw [if_pos hc]
      have h' : span p l < l.length := by rw [e] at h; simpa using h
      have := span_out l h'
      simpa [e] using this
    · have e : span p (c :: l) = 0 := by show (if p c = true then _ else _) = _; rw [if_neg hc]
      simp only [e]
      simpa using hc
end
theorem span_yes {p : UInt8 → Bool} {s : ByteArray} {i : Nat} (h : i < span p s.data.toList) : ∃ hi : i < s.size, p s[i] = true :=
  have hi : i < s.size := by have := span_le (p := p) s.data.toList; rw [size_list] at this; omega
  ⟨hi, span_in _ _ h⟩
theorem span_no {p : UInt8 → Bool} {s : ByteArray} {i : Nat} (h : i = span p s.data.toList) (hi : i < s.size) : p s[i] = false := by
  subst h
  exact span_out _ (by rw [size_list]; exact hi)

theorem extract_size (s : ByteArray) (a b : Nat) : (s.extract a b).size = min b s.size - a := by simp
theorem extract_full (s : ByteArray) : s.extract 0 s.size = s := by simp
theorem strings_Clone (s : ByteArray) (w : World) (hl : s.size ≤ 281474976710656) : Calls Tryd.prog 29 #[.string s] w fun e w' => e = .returned (.string s) ∧ Below w.heap.size w w' := by
  have h := Tryd.stringslite_Clone s w hl
  go_enter Tryd.func29, Tryd.ntmps29
  go_wp2_with fail
  refine h.mono ?_
  rintro e w2 ⟨rfl, hg⟩
  go_wp2
  go_ret
  exact ⟨rfl, hg⟩
/-- What word answers. -/
def wordV (s : ByteArray) : Value := if 24 < span wordC s.data.toList then .tuple #[.string ⟨#[]⟩, .int .i64 0, .int .i64 2] else .tuple #[.string (s.extract 0 (span wordC s.data.toList)), .int .i64 (span wordC s.data.toList : Nat), .int .i64 0]
set_option maxRecDepth 20000 in
set_option maxHeartbeats 1000000 in
theorem word_any (s : ByteArray) (w : World) (hs : s.size ≤ 16384) :
    Calls Tryd.prog 15 #[.string s] w fun e w' => e = .returned (wordV s) ∧ Below w.heap.size w w' := by
  have hyes := Lib.hid (fun i => span_yes (p := wordC) (s := s) (i := i))
  have hno := Lib.hid (fun i => span_no (p := wordC) (s := s) (i := i))
  have hle := span_le (p := wordC) s.data.toList
  rw [size_list] at hle
  have hV : Hid (∀ n, span wordC s.data.toList = n → (24 < n → wordV s = .tuple #[.string ⟨#[]⟩, .int .i64 0, .int .i64 2]) ∧ (¬ 24 < n → wordV s = .tuple #[.string (s.extract 0 n), .int .i64 (n : Nat), .int .i64 0])) := by
    rintro n rfl
    exact ⟨fun h => if_pos h, fun h => if_neg h⟩
  have hV := Lib.hid (hV.out _ rfl)
  generalize span wordC s.data.toList = n at *
  go_enter Tryd.func15, Tryd.ntmps15
  go_wp2
  go_loop [3] (fun t3 => ∃ i : Nat, i ≤ n ∧ t3 = .int .i64 i) (fun t3 => n - (intOf t3).toNat)
  case atStart => exact ⟨0, by omega, rfl⟩
  case round =>
    obtain ⟨i, hi, rfl⟩ := hrel
    rcases Nat.lt_or_ge i n with hlt | hge
    · obtain ⟨hi2, hp⟩ := hyes.out i hlt
      have k1 := Lib.hid (calls_at (isOfWord_any s[i] w) hp)
      clear hp
      go_wp2_with (first | (with_reducible refine k1.out.mono ?_; rintro e w' ⟨rfl, rfl⟩))
      go_round
      case rel => exact ⟨i + 1, by omega, by go_num⟩
      case measure => simp [intOf]; omega
    · obtain rfl : i = n := by omega
      rcases Nat.lt_or_ge i s.size with hi2 | hi2
      · have hp := hno.out i rfl hi2
        have k1 := Lib.hid (calls_at (isOfWord_any s[i] w) hp)
        clear hp
        by_cases h24 : 24 < i
        · have h24' : (24 : Int) < (i : Int) := by omega
          go_wp2_with (first | (with_reducible refine k1.out.mono ?_; rintro e w' ⟨rfl, rfl⟩))
          go_ret3
          exact ⟨by rw [hV.out.1 h24]; rfl, Below.refl _ _⟩
        · have h24' : ¬ (24 : Int) < (i : Int) := by omega
          go_wp2_with (first
            | (with_reducible refine k1.out.mono ?_; rintro e w' ⟨rfl, rfl⟩)
            | (go_at_call 29; refine (strings_Clone (s.extract 0 i) _ (by rw [extract_size]; omega)).mono ?_; rintro e w2 ⟨rfl, hg2⟩))
          go_ret3
          exact ⟨by rw [hV.out.2 h24]; rfl, hg2⟩
      · obtain rfl : i = s.size := by omega
        by_cases h24 : 24 < s.size
        · have h24' : (24 : Int) < (s.size : Int) := by omega
          go_wp2
          go_ret3
          exact ⟨by rw [hV.out.1 h24]; rfl, Below.refl _ _⟩
        · have h24' : ¬ (24 : Int) < (s.size : Int) := by omega
          go_wp2_with (first
            | (go_at_call 29; refine (strings_Clone s _ (by omega)).mono ?_; rintro e w2 ⟨rfl, hg2⟩))
          go_ret3
          exact ⟨by rw [hV.out.2 h24, extract_full]; rfl, hg2⟩
end Go.Proofs.YtmgbebpkkidooaaDoor
