/- Contracts of value.Name and of the document's Name: both tell, of every text, whether it is a name; the walk of ValueNames. -/
import Derived.Test.YtmlpgfepepiakaaNum
import Derived.Test.YtmlpgfepepiakaaRows
import Derived.WalkKit
import Derived.WalkSpells
import Derived.WalkLawsBesides
import Derived.Handy
import Derived.Lib.Hide
import Derived.LoopTactic
import Derived.Lib.IndexBytes
namespace Go.Proofs.Ytmlpgfepepiakaa
open Go.RowKit

/-- A letter; a byte that may stand behind the first one. -/
def letC (c : UInt8) : Bool := decide (97 ≤ c.toNat ∧ c.toNat ≤ 122)
def restC (c : UInt8) : Bool := letC c || decide (48 ≤ c.toNat ∧ c.toNat ≤ 57) || decide (c.toNat = 95)
/-- A name: 1 to 24 bytes, the first one a letter. -/
def nameL (l : List UInt8) : Bool := match l with
  | [] => false
  | c :: r => decide (r.length < 24) && letC c && r.all restC

theorem bytes_len (s : ByteArray) : s.data.toList.length = s.size := Array.length_toList
theorem list_head (s : ByteArray) (h : 0 < s.size) : s.data.toList = s[0] :: s.data.toList.drop 1 := by
  have h' : 0 < s.data.toList.length := by rw [bytes_len]; exact h
  have := List.drop_eq_getElem_cons h'
  rw [List.drop_zero] at this
  exact this
theorem list_none (s : ByteArray) (h : ¬ 0 < s.size) : s.data.toList = [] := by
  apply List.eq_nil_of_length_eq_zero
  rw [bytes_len]
  omega

theorem letC_rest {c : UInt8} (h : letC c = true) : restC c = true := by simp [restC, h]

/-- All bytes of a text may stand behind the first one of a name. -/
def AllR (l : List UInt8) : Prop := l.all restC = true
theorem AllR.more {s : ByteArray} {k : Nat} (h : AllR (s.data.toList.take k)) (hk : k < s.size) (hc : restC s[k] = true) : AllR (s.data.toList.take (k + 1)) := by
  have hk' : k < s.data.toList.length := by rw [bytes_len]; exact hk
  unfold AllR at h ⊢
  rw [List.take_succ_eq_append_getElem hk', List.all_append, h]
  have : s.data.toList[k] = s[k] := rfl
  simp [this, hc]
theorem AllR.all {s : ByteArray} {k : Nat} (h : AllR (s.data.toList.take k)) (hk : s.size ≤ k) : AllR s.data.toList := by
  rw [List.take_of_length_le (by rw [bytes_len]; exact hk)] at h
  exact h

theorem nameL_of {s : ByteArray} (h0 : 0 < s.size) (h1 : s.size ≤ 24) (h2 : letC s[0] = true) (h : AllR s.data.toList) : nameL s.data.toList = true := by
  have hl := bytes_len s
  have hh := list_head s h0
  unfold AllR at h
  rw [hh] at h ⊢
  rw [hh] at hl
  simp only [List.length_cons] at hl
  simp only [List.all_cons, Bool.and_eq_true] at h
  unfold nameL
  simp only
  rw [h.2, h2]
  simp
  simp at hl
  omega
theorem nameL_first {s : ByteArray} (h0 : 0 < s.size) (h2 : letC s[0] = false) : nameL s.data.toList = false := by
  rw [list_head s h0]
  unfold nameL
  simp only
  rw [h2]
  simp
theorem nameL_none {s : ByteArray} (h0 : ¬ 0 < s.size) : nameL s.data.toList = false := by
  rw [list_none s h0]; rfl
theorem nameL_long {s : ByteArray} (h0 : 24 < s.size) : nameL s.data.toList = false := by
  have hl := bytes_len s
  have hh := list_head s (by omega)
  rw [hh] at hl ⊢
  simp only [List.length_cons] at hl
  unfold nameL
  simp only
  rw [show decide ((List.drop 1 s.data.toList).length < 24) = false by simp at hl ⊢; omega]
  rfl
theorem nameL_wrong {s : ByteArray} {k : Nat} (hk : k < s.size) (hc : restC s[k] = false) : nameL s.data.toList = false := by
  by_cases h0 : k = 0
  · subst h0
    refine nameL_first hk ?_
    cases h : letC s[0] with
    | false => rfl
    | true => rw [letC_rest h] at hc; cases hc
  · have hh := list_head s (by omega)
    rw [hh]
    unfold nameL
    simp only
    have hm : s[k] ∈ s.data.toList.drop 1 := by
      have hk' : k - 1 < (s.data.toList.drop 1).length := by rw [List.length_drop, bytes_len]; omega
      have : (s.data.toList.drop 1)[k - 1] = s[k] := by
        rw [List.getElem_drop]
        have e : s.data.toList[1 + (k - 1)]'(by rw [bytes_len]; omega) = s.data.toList[k]'(by rw [bytes_len]; omega) := by congr 1; omega
        rw [e]; rfl
      rw [← this]
      exact List.getElem_mem hk'
    have : (s.data.toList.drop 1).all restC = false := by
      rw [List.all_eq_false]
      exact ⟨_, hm, by rw [hc]; decide⟩
    rw [this]
    simp

set_option maxHeartbeats 400000 in
theorem letter_any (c : UInt8) (w : World) :
    Calls Try.prog 31 #[.int .u8 (c.toNat : Int)] w fun e w' => e = .returned (.bool (letC c)) ∧ w = w' := by
  by_cases h1 : 97 ≤ c.toNat
  · have H : Hid (letC c = decide ((c.toNat : Int) ≤ 122)) := by
      show letC c = _
      rw [Bool.eq_iff_iff]; simp only [letC, decide_eq_true_eq]; omega
    go_enter Try.func31, Try.ntmps31
    go_wp2
    go_ret
    exact ⟨ret_bool H.out.symm, rfl⟩
  · have H : Hid (letC c = false) := by show letC c = false; simp [letC, h1]
    go_enter Try.func31, Try.ntmps31
    go_wp2
    go_ret
    exact ⟨ret_bool (by rw [H.out]), rfl⟩
theorem letter_yes {c : UInt8} (h : letC c = true) (w : World) :
    Calls Try.prog 31 #[.int .u8 (c.toNat : Int)] w fun e w' => e = .returned (.bool true) ∧ w = w' := by
  have := letter_any c w
  rw [h] at this
  exact this
theorem letter_no {c : UInt8} (h : letC c = false) (w : World) :
    Calls Try.prog 31 #[.int .u8 (c.toNat : Int)] w fun e w' => e = .returned (.bool false) ∧ w = w' := by
  have := letter_any c w
  rw [h] at this
  exact this

set_option maxHeartbeats 1000000 in
theorem name_any (s : ByteArray) (w : World) (hs : s.size ≤ 9223372036854775807) :
    Calls Try.prog 18 #[.string s] w fun e w' => e = .returned (.bool (nameL s.data.toList)) ∧ w = w' := by
  by_cases h0 : 0 < s.size
  · by_cases h24 : s.size ≤ 24
    · cases hc0 : letC s[0] with
      | false =>
        have HN := Lib.hid (nameL_first h0 hc0)
        replace hc0 := Lib.hid hc0
        have hz : ((s.size : Int) == 0) = false := beq_eq_false_iff_ne.2 (by omega)
        have h24' : decide (24 < (s.size : Int)) = false := decide_eq_false (by omega)
        go_enter Try.func18, Try.ntmps18
        go_wp2_with (first
          | ((with_reducible refine (letter_no hc0.out _).mono ?_); rintro e w' ⟨rfl, rfl⟩))
        go_ret
        exact ⟨ret_bool (by rw [HN.out]), rfl⟩
      | true =>
        replace hc0 := Lib.hid hc0
        have hz : ((s.size : Int) == 0) = false := beq_eq_false_iff_ne.2 (by omega)
        have h24' : decide (24 < (s.size : Int)) = false := decide_eq_false (by omega)
        go_enter Try.func18, Try.ntmps18
        go_wp2_with (first
          | ((with_reducible refine (letter_yes hc0.out _).mono ?_); rintro e w' ⟨rfl, rfl⟩))
        clear hz h24'
        go_loop [21] (fun i => ∃ k : Nat, k ≤ s.size ∧ i = .int .i64 k ∧ AllR (s.data.toList.take k)) (fun i => s.size - (intOf i).toNat)
        case atStart => exact ⟨0, Nat.zero_le _, rfl, rfl⟩
        case round =>
          obtain ⟨k, hk, rfl, hall⟩ := hrel
          replace hall := Lib.hid hall
          by_cases hlt : k < s.size
          · cases hl : letC s[k] with
            | true =>
              have hnx := Lib.hid (hall.out.more hlt (letC_rest hl))
              replace hl := Lib.hid hl
              go_wp2_with (first
                | ((with_reducible refine (letter_yes hl.out _).mono ?_); rintro e w' ⟨rfl, rfl⟩))
              go_round
              case rel => exact ⟨k + 1, by omega, by go_num, hnx.out⟩
              case measure => simp [intOf]; omega
            | false =>
              by_cases hd : restC s[k] = true
              · have hnx := Lib.hid (hall.out.more hlt hd)
                by_cases h95 : s[k].toNat = 95
                · have e1 : (((s[k].toNat : Int)) != 95) = false := by rw [h95]; rfl
                  have e2 : decide ((s[k].toNat : Int) ≤ 57) = false := decide_eq_false (by omega)
                  replace hl := Lib.hid hl
                  replace hd := Lib.hid hd
                  replace h95 := Lib.hid h95
                  go_wp2_with (first
                    | ((with_reducible refine (letter_no hl.out _).mono ?_); rintro e w' ⟨rfl, rfl⟩))
                  all_goals
                    go_round
                    case rel => exact ⟨k + 1, by omega, by go_num, hnx.out⟩
                    case measure => simp [intOf]; omega
                · have e0 : 48 ≤ s[k].toNat ∧ s[k].toNat ≤ 57 := by
                    unfold restC at hd; rw [hl] at hd; simp [h95] at hd; exact hd
                  obtain ⟨e1, e2⟩ := e0
                  replace hl := Lib.hid hl
                  replace hd := Lib.hid hd
                  replace h95 := Lib.hid h95
                  go_wp2_with (first
                    | ((with_reducible refine (letter_no hl.out _).mono ?_); rintro e w' ⟨rfl, rfl⟩))
                  go_round
                  case rel => exact ⟨k + 1, by omega, by go_num, hnx.out⟩
                  case measure => simp [intOf]; omega
              · have hd : restC s[k] = false := by cases h : restC s[k] with
                  | false => rfl
                  | true => exact absurd h hd
                have HN := Lib.hid (nameL_wrong hlt hd)
                have h95 : ¬ s[k].toNat = 95 := by intro h; unfold restC at hd; simp [h] at hd
                have hdg : ¬ (48 ≤ s[k].toNat ∧ s[k].toNat ≤ 57) := by intro h; unfold restC at hd; simp [h] at hd
                have e1 : (((s[k].toNat : Int)) != 95) = true := bne_iff_ne.2 (by omega)
                replace hl := Lib.hid hl
                replace hd := Lib.hid hd
                by_cases h48 : 48 ≤ s[k].toNat
                · have e2 : decide ((s[k].toNat : Int) ≤ 57) = false := decide_eq_false (by omega)
                  clear hdg h95
                  go_wp2_with (first
                    | ((with_reducible refine (letter_no hl.out _).mono ?_); rintro e w' ⟨rfl, rfl⟩))
                  go_ret
                  exact ⟨ret_bool (by rw [HN.out]), rfl⟩
                · have e2 : decide (48 ≤ (s[k].toNat : Int)) = false := decide_eq_false (by omega)
                  clear hdg h95
                  go_wp2_with (first
                    | ((with_reducible refine (letter_no hl.out _).mono ?_); rintro e w' ⟨rfl, rfl⟩))
                  go_ret
                  exact ⟨ret_bool (by rw [HN.out]), rfl⟩
          · have HN := Lib.hid (nameL_of h0 h24 hc0.out (hall.out.all (by omega)))
            go_wp2
            go_ret
            exact ⟨ret_bool (by rw [HN.out]), rfl⟩
    · have HN := Lib.hid (nameL_long (Nat.lt_of_not_le h24))
      have hz : ((s.size : Int) == 0) = false := beq_eq_false_iff_ne.2 (by omega)
      go_enter Try.func18, Try.ntmps18
      go_wp2
      go_ret
      exact ⟨ret_bool (by rw [HN.out]), rfl⟩
  · have HN := Lib.hid (nameL_none h0)
    have hz : ((s.size : Int) == 0) = true := by
      rw [show s.size = 0 by omega]; rfl
    go_enter Try.func18, Try.ntmps18
    go_wp2
    go_ret
    exact ⟨ret_bool (by rw [HN.out]), rfl⟩

/-- Behind k rounds: all that was seen may stand in a name, the first byte is a letter. -/
def SeenN (s : ByteArray) (k : Nat) : Prop := AllR (s.data.toList.take k) ∧ ∀ h : 0 < s.size, 0 < k → letC s[0] = true
theorem SeenN.more {s : ByteArray} {k : Nat} (h : SeenN s k) (hk : k < s.size) (hc : restC s[k] = true) (h0 : letC s[k] = true ∨ 0 < k) : SeenN s (k + 1) := by
  refine ⟨h.1.more hk hc, fun hs _ => ?_⟩
  by_cases hk0 : 0 < k
  · exact h.2 hs hk0
  · obtain rfl : k = 0 := by omega
    rcases h0 with h0 | h0
    · exact h0
    · omega

set_option maxHeartbeats 2000000 in
theorem refName_any (s : ByteArray) (w : World) (hs : s.size ≤ 9223372036854775807) :
    Calls Try.prog 19 #[.string s] w fun e w' => e = .returned (.bool (nameL s.data.toList)) ∧ w = w' := by
  by_cases h0 : 0 < s.size
  · by_cases h24 : s.size ≤ 24
    · have hz : decide ((s.size : Int) < 1) = false := decide_eq_false (by omega)
      have h24' : decide (24 < (s.size : Int)) = false := decide_eq_false (by omega)
      go_enter Try.func19, Try.ntmps19
      go_wp2
      clear hz h24'
      go_loop [3] (fun i => ∃ k : Nat, k ≤ s.size ∧ i = .int .i64 k ∧ SeenN s k) (fun i => s.size - (intOf i).toNat)
      case atStart => exact ⟨0, Nat.zero_le _, rfl, rfl, fun _ h => absurd h (by omega)⟩
      case round =>
        obtain ⟨k, hk, rfl, hall⟩ := hrel
        replace hall := Lib.hid hall
        by_cases hlt : k < s.size
        · by_cases hok : restC s[k] = true ∧ (letC s[k] = true ∨ 0 < k)
          · have hnx := Lib.hid (hall.out.more hlt hok.1 hok.2)
            by_cases hl : 97 ≤ s[k].toNat ∧ s[k].toNat ≤ 122
            · obtain ⟨h97, h122⟩ := hl
              have h48 : 48 ≤ s[k].toNat := by omega
              have e57 : decide ((s[k].toNat : Int) ≤ 57) = false := decide_eq_false (by omega)
              have e95 : ((s[k].toNat : Int) == 95) = false := beq_eq_false_iff_ne.2 (by omega)
              clear hok
              go_wp2
              go_round
              case rel => exact ⟨k + 1, by omega, by go_num, hnx.out⟩
              case measure => simp [intOf]; omega
            · have hl' : letC s[k] = false := by simp only [letC, decide_eq_false_iff_not]; exact hl
              have hk0 : 0 < k := by rcases hok.2 with h | h; · rw [hl'] at h; cases h
                                     · exact h
              have ek : ((k : Int) == 0) = false := beq_eq_false_iff_ne.2 (by omega)
              have hr := hok.1
              unfold restC at hr
              rw [hl'] at hr
              simp only [Bool.false_or, Bool.or_eq_true, decide_eq_true_eq] at hr
              have h97 : s[k].toNat < 97 := by omega
              have h48 : 48 ≤ s[k].toNat := by omega
              rcases hr with hr | hr
              · have h57 := hr.2
                clear hr hl' hl hok
                go_wp2
                go_round
                case rel => exact ⟨k + 1, by omega, by go_num, hnx.out⟩
                case measure => simp [intOf]; omega
              · have e57 : decide ((s[k].toNat : Int) ≤ 57) = false := decide_eq_false (by omega)
                have e95 : ((s[k].toNat : Int) == 95) = true := by rw [hr]; rfl
                clear hr hl' hl hok
                go_wp2
                go_round
                case rel => exact ⟨k + 1, by omega, by go_num, hnx.out⟩
                case measure => simp [intOf]; omega
          · have HN : Hid (nameL s.data.toList = false) := by
              show nameL s.data.toList = false
              cases hr : restC s[k] with
              | false => exact nameL_wrong hlt hr
              | true =>
                have hk0 : ¬ 0 < k := fun h => hok ⟨hr, .inr h⟩
                obtain rfl : k = 0 := by omega
                refine nameL_first hlt ?_
                cases hc : letC s[0] with
                | false => rfl
                | true => exact absurd ⟨hr, .inl hc⟩ hok
            have hnl : letC s[k] = false := by
              cases hc : letC s[k] with
              | false => rfl
              | true => exact absurd ⟨letC_rest hc, .inl hc⟩ hok
            have hl : ¬ (97 ≤ s[k].toNat ∧ s[k].toNat ≤ 122) := by simpa only [letC, decide_eq_false_iff_not] using hnl
            by_cases hk0 : 0 < k
            · have ek : ((k : Int) == 0) = false := beq_eq_false_iff_ne.2 (by omega)
              have hnr : restC s[k] = false := by
                cases hc : restC s[k] with
                | false => rfl
                | true => exact absurd ⟨hc, .inr hk0⟩ hok
              have h95 : ¬ s[k].toNat = 95 := by intro h; unfold restC at hnr; simp [h] at hnr
              have hdg : ¬ (48 ≤ s[k].toNat ∧ s[k].toNat ≤ 57) := by intro h; unfold restC at hnr; simp [h] at hnr
              have e95 : ((s[k].toNat : Int) == 95) = false := beq_eq_false_iff_ne.2 (by omega)
              replace hnl := Lib.hid hnl
              replace hnr := Lib.hid hnr
              replace hok := Lib.hid hok
              by_cases h48 : 48 ≤ s[k].toNat
              · have e57 : decide ((s[k].toNat : Int) ≤ 57) = false := decide_eq_false (by omega)
                by_cases h97 : 97 ≤ s[k].toNat
                · have e122 : decide ((s[k].toNat : Int) ≤ 122) = false := decide_eq_false (by omega)
                  clear hl hdg h95
                  go_wp2
                  go_ret
                  exact ⟨ret_bool (by rw [HN.out]), rfl⟩
                · have e97 : decide (97 ≤ (s[k].toNat : Int)) = false := decide_eq_false (by omega)
                  clear hl hdg h95
                  go_wp2
                  go_ret
                  exact ⟨ret_bool (by rw [HN.out]), rfl⟩
              · have e48 : decide (48 ≤ (s[k].toNat : Int)) = false := decide_eq_false (by omega)
                have e97 : decide (97 ≤ (s[k].toNat : Int)) = false := decide_eq_false (by omega)
                clear hl hdg h95
                go_wp2
                go_ret
                exact ⟨ret_bool (by rw [HN.out]), rfl⟩
            · obtain rfl : k = 0 := by omega
              replace hnl := Lib.hid hnl
              replace hok := Lib.hid hok
              by_cases h97 : 97 ≤ s[0].toNat
              · have e122 : decide ((s[0].toNat : Int) ≤ 122) = false := decide_eq_false (by omega)
                clear hl hk0
                go_wp2
                all_goals
                  go_ret
                  exact ⟨ret_bool (by rw [HN.out]), rfl⟩
              · have e97 : decide (97 ≤ (s[0].toNat : Int)) = false := decide_eq_false (by omega)
                clear hl hk0
                go_wp2
                all_goals
                  go_ret
                  exact ⟨ret_bool (by rw [HN.out]), rfl⟩
        · have HN := Lib.hid (nameL_of h0 h24 (hall.out.2 h0 (by omega)) (hall.out.1.all (by omega)))
          go_wp2
          go_ret
          exact ⟨ret_bool (by rw [HN.out]), rfl⟩
    · have HN := Lib.hid (nameL_long (Nat.lt_of_not_le h24))
      have hz : decide ((s.size : Int) < 1) = false := decide_eq_false (by omega)
      have h24' : decide (24 < (s.size : Int)) = true := decide_eq_true (by omega)
      go_enter Try.func19, Try.ntmps19
      go_wp2
      go_ret
      exact ⟨ret_bool (by rw [HN.out]), rfl⟩
  · have HN := Lib.hid (nameL_none h0)
    have hz : decide ((s.size : Int) < 1) = true := decide_eq_true (by omega)
    go_enter Try.func19, Try.ntmps19
    go_wp2
    go_ret
    exact ⟨ret_bool (by rw [HN.out]), rfl⟩

/-- The texts of the statement. -/
theorem name_yes (w : World) : Calls Try.prog 18 #[.string ⟨#[97, 95, 49]⟩] w fun e w' => e = .returned (.bool true) ∧ w = w' :=
  name_any ⟨#[97, 95, 49]⟩ w (by decide)
theorem name_no (w : World) : Calls Try.prog 18 #[.string ⟨#[49, 97]⟩] w fun e w' => e = .returned (.bool false) ∧ w = w' :=
  name_any ⟨#[49, 97]⟩ w (by decide)

set_option maxHeartbeats 400000 in
theorem valueNames_walk (s : ByteArray) (w : World) (hs : s.size ≤ 140737488351232) :
    Calls Try.prog 4 #[.string s] w fun e w' => e = .returned (.bool true) ∧ Below w.heap.size w w' := by
  go_enter Try.func4, Try.ntmps4
  go_wp2_with (first
    | ((with_reducible refine (name_yes _).mono ?_); rintro e w' ⟨rfl, rfl⟩)
    | ((with_reducible refine (name_no _).mono ?_); rintro e w' ⟨rfl, rfl⟩)
    | ((with_reducible refine (name_any s _ (by omega)).mono ?_); rintro e w' ⟨rfl, rfl⟩)
    | ((with_reducible refine (refName_any s _ (by omega)).mono ?_); rintro e w' ⟨rfl, rfl⟩))
  go_ret
  exact ⟨ret_bool (by simp), Below.refl _ _⟩
end Go.Proofs.Ytmlpgfepepiakaa
