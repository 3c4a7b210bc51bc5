/- The document's low, dig, wrong, word (layer 7), walked. No condition. -/
import Derived.Test.YtmgbebpkkidooaaDoorTChar
import Derived.Test.YtmgbebpkkidooaaDoorTWord
import Derived.Test.YtmgbebpkkidooaaDoorTSign
namespace Go.Proofs.YtmgbebpkkidooaaDoor
open Go.RowKit Tok

set_option maxHeartbeats 400000 in
theorem refLow_any (c : UInt8) (w : World) : Calls Tryd.prog 33 #[.int .u8 (c.toNat : Int)] w fun e w' => e = .returned (.bool (lowC c)) ∧ w' = w := by
  obtain ⟨B, hB⟩ := exHid (lowC c)
  rw [hB.out]
  rcases between_any (B := B) (a := 97) (b := 122) (by rw [← hB.out]; rfl) with ⟨h1, h2⟩ | ⟨h1, h2⟩
  all_goals
    replace h2 := Lib.hid h2
    go_enter Tryd.func33, Tryd.ntmps33
    go_wp2
    go_ret
    exact ⟨ret_bool (by rw [h2.out]; try rfl), rfl⟩
set_option maxHeartbeats 400000 in
theorem refDig_any (c : UInt8) (w : World) : Calls Tryd.prog 35 #[.int .u8 (c.toNat : Int)] w fun e w' => e = .returned (.bool (digC c)) ∧ w' = w := by
  obtain ⟨B, hB⟩ := exHid (digC c)
  rw [hB.out]
  rcases between_any (B := B) (a := 48) (b := 57) (by rw [← hB.out]; rfl) with ⟨h1, h2⟩ | ⟨h1, h2⟩
  all_goals
    replace h2 := Lib.hid h2
    go_enter Tryd.func35, Tryd.ntmps35
    go_wp2
    go_ret
    exact ⟨ret_bool (by rw [h2.out]; try rfl), rfl⟩

/-- The document's Told: a token, where it ends, where it goes wrong, and how. -/
def toldV (kd : Nat) (tx : List UInt8) (x at_ en a e : Nat) : Value := .agg #[.int .u8 kd, .string ⟨tx.toArray⟩, .int .i64 x, .int .i64 at_, .int .i64 en, .int .i64 a, .int .i64 e]
/-- What the document's word, number, text, sign answer at i, by what stands there. -/
def resT (i : Nat) : Res → Value
  | .ok kd tx x n => toldV kd tx x i (i + n) 0 0
  | .bad n e => toldV 0 [] 0 0 0 (i + n) e
set_option maxHeartbeats 400000 in
theorem refWrong_any (a e : Nat) (w : World) : Calls Tryd.prog 50 #[.int .i64 a, .int .i64 e] w fun r w' => r = .returned (.agg #[.int .u8 0, .string ⟨#[]⟩, .int .i64 0, .int .i64 0, .int .i64 0, .int .i64 a, .int .i64 e]) ∧ w' = w.alloc (.cells #[.int .u8 0, .string ⟨#[]⟩, .int .i64 0, .int .i64 0, .int .i64 0, .int .i64 a, .int .i64 e] 47) := by
  go_enter Tryd.func50, Tryd.ntmps50
  go_wp2
  go_returns
  exact ⟨rfl, rfl⟩

theorem drop_get {s : ByteArray} {i j : Nat} (h : j < (s.data.toList.drop i).length) : ∃ hi : i + j < s.size, (s.data.toList.drop i)[j] = s[i + j] := by
  have hl : (s.data.toList.drop i).length = s.size - i := by rw [List.length_drop, size_list]
  refine ⟨by omega, ?_⟩
  rw [List.getElem_drop]
  rfl
theorem span_yes_at {p : UInt8 → Bool} {s : ByteArray} {i j : Nat} (h : j < span p (s.data.toList.drop i)) : ∃ hi : i + j < s.size, p s[i + j] = true := by
  have hl := Nat.lt_of_lt_of_le h (span_le (p := p) (s.data.toList.drop i))
  obtain ⟨hi, e⟩ := drop_get hl
  have h2 := span_in _ _ h
  rw [e] at h2
  exact ⟨hi, h2⟩
theorem span_no_at {p : UInt8 → Bool} {s : ByteArray} {i j : Nat} (h : j = span p (s.data.toList.drop i)) (hi : i + j < s.size) : p s[i + j] = false := by
  have hl : (s.data.toList.drop i).length = s.size - i := by rw [List.length_drop, size_list]
  subst h
  have h1 : span p (s.data.toList.drop i) < (s.data.toList.drop i).length := by omega
  have h2 := span_out _ h1
  obtain ⟨_, e⟩ := drop_get h1
  rw [e] at h2
  exact h2
theorem extract_piece (s : ByteArray) (i n : Nat) : s.extract i (i + n) = ⟨((s.data.toList.drop i).take n).toArray⟩ := by
  rw [Lib.extract_eq]
  congr 1
  rw [show i + n - i = n by omega]
/-- A byte that goes on a word, as the document's loop asks. -/
def RefW (c : UInt8) (b : Bool) : Prop := (lowC c = true ∧ b = true) ∨ (lowC c = false ∧ digC c = true ∧ b = true) ∨ (lowC c = false ∧ digC c = false ∧ ((c.toNat : Int) == 95) = true ∧ b = true) ∨ (lowC c = false ∧ digC c = false ∧ ((c.toNat : Int) == 95) = false ∧ b = false)
theorem refW_of {c : UInt8} {b : Bool} (h : wordC c = b) : RefW c b := by
  subst h
  rcases word_iff c with ⟨h1, hW⟩ | ⟨h1, h2, hW⟩ | ⟨h1, h2, h3, hW⟩ | ⟨h1, h2, h3, hW⟩
  · exact .inl ⟨h1, hW⟩
  · exact .inr (.inl ⟨h1, h2, hW⟩)
  · exact .inr (.inr (.inl ⟨h1, h2, by rw [h3]; rfl, hW⟩))
  · exact .inr (.inr (.inr ⟨h1, h2, beq_eq_false_iff_ne.2 (by omega), hW⟩))

set_option maxRecDepth 20000 in
set_option maxHeartbeats 2000000 in
theorem refWord_any (s : ByteArray) (i : Nat) (w : World) (hs : s.size ≤ 1000000) (hi : i ≤ s.size) :
    Calls Tryd.prog 34 #[.string s, .int .i64 i] w fun e w' => e = .returned (resT i (wordT (s.data.toList.drop i))) ∧ Below w.heap.size w w' := by
  have hyes := Lib.hid (fun j => span_yes_at (p := wordC) (s := s) (i := i) (j := j))
  have hno := Lib.hid (fun j => span_no_at (p := wordC) (s := s) (i := i) (j := j))
  have hle := span_le (p := wordC) (s.data.toList.drop i)
  rw [List.length_drop, size_list] at hle
  have hV : (∀ n, span wordC (s.data.toList.drop i) = n → (24 < n → resT i (wordT (s.data.toList.drop i)) = toldV 0 [] 0 0 0 i 2) ∧ (¬ 24 < n → resT i (wordT (s.data.toList.drop i)) = toldV 1 ((s.data.toList.drop i).take n) 0 i (i + n) 0 0)) := by
    rintro n rfl
    unfold wordT
    exact ⟨fun h => by rw [if_pos h]; rfl, fun h => by rw [if_neg h]; rfl⟩
  obtain ⟨V, hVe⟩ := exHid (resT i (wordT (s.data.toList.drop i)))
  rw [hVe.out] at hV ⊢
  replace hV := Lib.hid (hV _ rfl)
  generalize span wordC (s.data.toList.drop i) = n at *
  have hx := Lib.hid (extract_piece s i n)
  go_enter Tryd.func34, Tryd.ntmps34
  go_wp2
  go_loop [5] (fun t5 => ∃ j : Nat, j ≤ n ∧ t5 = .int .i64 ((i + j : Nat) : Int)) (fun t5 => i + n - (intOf t5).toNat)
  case atStart => exact ⟨0, by omega, rfl⟩
  case round =>
    obtain ⟨j, hj, rfl⟩ := hrel
    rcases Nat.lt_or_ge j n with hlt | hge
    · obtain ⟨hi2, hp⟩ := hyes.out j hlt
      have hi3 : ((i + j : Nat) : Int) < (s.size : Int) := by omega
      generalize hq : i + j = q at *
      rcases refW_of hp with ⟨h1, -⟩ | ⟨h1, h2, -⟩ | ⟨h1, h2, h3, -⟩ | ⟨_, _, _, h4⟩
      case inr.inr.inr => cases h4
      all_goals
        have k1 := Lib.hid (fun W => calls_at (refLow_any s[q] W) h1)
        try have k2 := Lib.hid (fun W => calls_at (refDig_any s[q] W) h2)
        clear hp
        go_wp2_with (first | (with_reducible refine (k1.out _).mono ?_; rintro e w' ⟨rfl, rfl⟩) | (with_reducible refine (k2.out _).mono ?_; rintro e w' ⟨rfl, rfl⟩))
        go_round
        case rel => exact ⟨j + 1, by omega, by rw [show i + (j + 1) = q + 1 by omega]; go_num⟩
        case measure => simp [intOf]; omega
    · obtain rfl : j = n := by omega
      have h24s : (24 < j ∧ (24 : Int) < ((i + j : Nat) : Int) - (i : Int)) ∨ (¬ 24 < j ∧ ¬ (24 : Int) < ((i + j : Nat) : Int) - (i : Int)) := by omega
      rcases Nat.lt_or_ge (i + j) s.size with hi2 | hi2
      · have hp := hno.out j rfl hi2
        have hi3 : ((i + j : Nat) : Int) < (s.size : Int) := by omega
        rcases refW_of hp with ⟨_, h4⟩ | ⟨_, _, h4⟩ | ⟨_, _, _, h4⟩ | ⟨h1, h2, h3, -⟩
        case inl => cases h4
        case inr.inl => cases h4
        case inr.inr.inl => cases h4
        rcases h24s with ⟨h24, h24i⟩ | ⟨h24, h24i⟩
        · have hr := Lib.hid (hV.out.1 h24)
          clear hV
          generalize hq : i + j = q at *
          have k1 := Lib.hid (fun W => calls_at (refLow_any s[q] W) h1)
          have k2 := Lib.hid (fun W => calls_at (refDig_any s[q] W) h2)
          clear hp
          go_wp2_with (first | (with_reducible refine (k1.out _).mono ?_; rintro e w' ⟨rfl, rfl⟩) | (with_reducible refine (k2.out _).mono ?_; rintro e w' ⟨rfl, rfl⟩) | (go_at_call 50; refine (refWrong_any i 2 _).mono ?_; rintro e w' ⟨rfl, rfl⟩))
          go_returns
          exact ⟨by rw [hr.out]; simp [toldV], by go_grown⟩
        · have hr := Lib.hid (hV.out.2 h24)
          clear hV
          generalize hq : i + j = q at *
          have k1 := Lib.hid (fun W => calls_at (refLow_any s[q] W) h1)
          have k2 := Lib.hid (fun W => calls_at (refDig_any s[q] W) h2)
          clear hp
          have hiq : (i : Int) ≤ (q : Int) := by omega
          go_wp2_with (first | (with_reducible refine (k1.out _).mono ?_; rintro e w' ⟨rfl, rfl⟩) | (with_reducible refine (k2.out _).mono ?_; rintro e w' ⟨rfl, rfl⟩))
          go_returns
          exact ⟨by rw [hr.out, hx.out]; simp [toldV], by go_grown⟩
      · have hi3 : ¬ ((i + j : Nat) : Int) < (s.size : Int) := by omega
        rcases h24s with ⟨h24, h24i⟩ | ⟨h24, h24i⟩
        · have hr := Lib.hid (hV.out.1 h24)
          clear hV
          generalize hq : i + j = q at *
          go_wp2_with (go_at_call 50; refine (refWrong_any i 2 _).mono ?_; rintro e w' ⟨rfl, rfl⟩)
          go_returns
          exact ⟨by rw [hr.out]; simp [toldV], by go_grown⟩
        · have hr := Lib.hid (hV.out.2 h24)
          clear hV
          have hiq : (i : Int) ≤ ((i + j : Nat) : Int) := by omega
          generalize hq : i + j = q at *
          have hqs : (q : Int) ≤ (s.size : Int) := by omega
          go_wp2
          go_returns
          exact ⟨by rw [hr.out, hx.out]; simp [toldV], by go_grown⟩
end Go.Proofs.YtmgbebpkkidooaaDoor
