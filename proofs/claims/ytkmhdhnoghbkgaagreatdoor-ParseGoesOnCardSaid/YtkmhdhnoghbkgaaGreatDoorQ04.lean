/- token's number (layer 7), walked: a number at the beginning of a text. Conditions: a digit begins it; the text is no longer than a source may be; strconv.ErrRange holds an error. -/
import Derived.Test.YtkmhdhnoghbkgaaGreatDoorQ03
import Derived.Lib.ParseIntBCases
set_option linter.unusedVariables false
/- token's number (layer 7), walked: a number at the beginning of a text. Conditions: a digit begins it; the text is no longer than a source may be; strconv.ErrRange holds an error. -/
namespace Go.Proofs.YtkmhdhnoghbkgaaGreatDoor
open Go.RowKit Tok

theorem fold_ge : ∀ (l : List UInt8) (a : Nat), a ≤ l.foldl (fun x c => 10 * x + (c.toNat - 48)) a
  | [], a => Nat.le_refl _
  | c :: l, a => by
    have := fold_ge l (10 * a + (c.toNat - 48))
    simp only [List.foldl_cons]
    omega
theorem parseM : ∀ (l : List UInt8) (a : Nat), (∀ c ∈ l, digC c = true) → a ≤ 18446744073709551615 →
    (l.foldl (fun x c => 10 * x + (c.toNat - 48)) a ≤ 18446744073709551615 → Lib.parseUintM 18446744073709551615 a l = .ok (l.foldl (fun x c => 10 * x + (c.toNat - 48)) a)) ∧
    (18446744073709551615 < l.foldl (fun x c => 10 * x + (c.toNat - 48)) a → Lib.parseUintM 18446744073709551615 a l = .range)
  | [], a, _, ha => ⟨fun _ => rfl, fun h => by have h' : 18446744073709551615 < a := h; omega⟩
  | c :: l, a, h, ha => by
    have hc : 48 ≤ c.toNat ∧ c.toNat ≤ 57 := by simpa [digC] using h c (by simp)
    have hg := fold_ge l (10 * a + (c.toNat - 48))
    have e : a * 10 + (c.toNat - 48) = 10 * a + (c.toNat - 48) := by omega
    have hu : Lib.parseUintM 18446744073709551615 a (c :: l) = if 1844674407370955162 ≤ a then .range else if 18446744073709551615 < 10 * a + (c.toNat - 48) then .range else Lib.parseUintM 18446744073709551615 (10 * a + (c.toNat - 48)) l := by
      conv => lhs; unfold Lib.parseUintM
      rw [if_pos hc, e]
    rw [List.foldl_cons, hu]
    have ih := fun h2 => parseM l (10 * a + (c.toNat - 48)) (fun c hc => h c (by simp [hc])) h2
    constructor
    · intro hV
      rw [if_neg (by omega), if_neg (by omega)]
      exact (ih (by omega)).1 hV
    · intro hV
      by_cases h1 : 1844674407370955162 ≤ a
      · rw [if_pos h1]
      · rw [if_neg h1]
        by_cases h2 : 18446744073709551615 < 10 * a + (c.toNat - 48)
        · rw [if_pos h2]
        · rw [if_neg h2]
          exact (ih (by omega)).2 hV
theorem parse_digits {l : List UInt8} (h0 : l ≠ []) (h : ∀ c ∈ l, digC c = true) : Lib.parseIntB 64 l = if 9223372036854775807 < numV l then .range else .ok (numV l : Nat) := by
  match l, h0 with
  | c :: r, _ =>
    have hc : 48 ≤ c.toNat ∧ c.toNat ≤ 57 := by simpa [digC] using h c (by simp)
    rw [Lib.parseIntB_plain 64 c r (by omega) (by omega)]
    have hB : Lib.parseUintB 64 (c :: r) = Lib.parseUintM 18446744073709551615 0 (c :: r) := by
      unfold Lib.parseUintB
      rw [if_neg (by simp)]
    rw [hB]
    have hp := parseM (c :: r) 0 h (by omega)
    have hV : numV (c :: r) = List.foldl (fun x c => 10 * x + (c.toNat - 48)) 0 (c :: r) := rfl
    rw [← hV] at hp
    by_cases h1 : numV (c :: r) ≤ 18446744073709551615
    · rw [hp.1 h1]
      unfold Lib.signlessC
      simp only
      by_cases h2 : 9223372036854775807 < numV (c :: r)
      · rw [if_pos h2, if_pos (by omega)]
      · rw [if_neg h2, if_neg (by omega)]
    · rw [hp.2 (by omega), if_pos (by omega)]
      rfl
theorem numN_le (l : List UInt8) : numN l ≤ l.length := by
  match l with
  | [] => exact Nat.le_refl _
  | c :: r =>
    show (if c.toNat = 48 then 1 else span digC (c :: r)) ≤ _
    split
    · simp
    · exact span_le _
theorem numN_digits {c : UInt8} {r : List UInt8} (h : digC c = true) : 0 < numN (c :: r) ∧ ∀ b ∈ (c :: r).take (numN (c :: r)), digC b = true := by
  by_cases h0 : c.toNat = 48
  · have e : numN (c :: r) = 1 := if_pos h0
    rw [e]
    refine ⟨by omega, fun b hb => ?_⟩
    simp at hb
    rw [hb]; exact h
  · have e : numN (c :: r) = span digC (c :: r) := if_neg h0
    rw [e]
    refine ⟨span_pos r h, fun b hb => ?_⟩
    obtain ⟨i, hi, rfl⟩ := List.getElem_of_mem hb
    rw [List.length_take] at hi
    rw [List.getElem_take]
    exact span_in _ i (by omega)
/-- What number answers. -/
def resV : Res → Value
  | .ok _ _ x n => .tuple #[.int .i64 x, .int .i64 n, .int .i64 0]
  | .bad n e => .tuple #[.int .i64 0, .int .i64 n, .int .i64 e]
/-- strconv.ErrRange holds an error. -/
def ErrR (w : World) : Prop := ∃ tp p, w.var? Tryz.prog "strconv.ErrRange" = some #[.iface tp p]
theorem list_take (s : ByteArray) (n : Nat) : (s.extract 0 n).data.toList = s.data.toList.take n := by
  rw [Lib.extract_data]; simp

/-- The number's text, parsed. -/
theorem parse_call (s : ByteArray) (w : World) (hs : s.size ≤ 16384) (hE : ErrR w) (h0 : 0 < s.size) (hd : ∀ c ∈ s.data.toList, digC c = true) :
    Calls Tryz.prog 70 #[.string s, .int .i64 10, .int .i64 64] w fun e w' =>
      (if 9223372036854775807 < numV s.data.toList then ∃ v t p, e = .returned (.tuple #[.int .i64 v, .iface t (.pointer p)]) else e = .returned (.tuple #[.int .i64 (numV s.data.toList : Nat), .nilIface])) ∧ Below w.heap.size w w' := by
  have hne : s.data.toList ≠ [] := by
    intro e
    have := size_list s
    rw [e] at this
    simp at this
    omega
  have hp := parse_digits hne hd
  by_cases h : 9223372036854775807 < numV s.data.toList
  · rw [if_pos h] at hp
    obtain ⟨tp, p, hv⟩ := hE
    refine (Tryz.strconv_ParseInt_10_at64_range_var s (by omega) hp tp p w hv).mono ?_
    rintro e w' ⟨N, rfl, _, _, hb⟩
    rw [if_pos h]
    exact ⟨⟨_, _, _, rfl⟩, hb⟩
  · rw [if_neg h] at hp
    refine (Tryz.strconv_ParseInt_10_at64_ok s (by omega) _ hp w).mono ?_
    rintro e w' ⟨rfl, hw⟩
    rw [if_neg h]
    refine ⟨rfl, ?_⟩
    rcases hw with rfl | ⟨t, rfl⟩
    · exact Below.refl _ _
    · exact Lib.bytesWorld_below _ _ _

theorem dig_yes {s : ByteArray} (h : ∃ h : 0 < s.size, digC s[0] = true) : ∃ c r, s.data.toList = c :: r ∧ digC c = true := by
  obtain ⟨h0, h⟩ := h
  have e : s.data.toList = s[0] :: s.data.toList.drop 1 := by
    have := List.drop_eq_getElem_cons (l := s.data.toList) (i := 0) (by rw [size_list]; exact h0)
    rw [List.drop_zero] at this
    exact this
  exact ⟨_, _, e, h⟩
/-- The digits of a number that has more than one: as the walk counts them. -/
theorem numN_step {s : ByteArray} (h : ∃ h : 0 < s.size, digC s[0] = true) : ∃ h0 : 0 < s.size, (s[0].toNat = 48 → numN s.data.toList = 1) ∧ (s[0].toNat ≠ 48 → numN s.data.toList = span digC s.data.toList ∧ 0 < span digC s.data.toList) := by
  obtain ⟨h0, h⟩ := h
  have e : s.data.toList = s[0] :: s.data.toList.drop 1 := by
    have := List.drop_eq_getElem_cons (l := s.data.toList) (i := 0) (by rw [size_list]; exact h0)
    rw [List.drop_zero] at this
    exact this
  refine ⟨h0, fun h1 => ?_, fun h1 => ?_⟩
  · rw [e]; exact if_pos h1
  · have h2 : numN s.data.toList = span digC s.data.toList := by rw [e]; exact if_neg h1
    refine ⟨h2, ?_⟩
    rw [e]
    exact span_pos _ h
theorem numT_big {l : List UInt8} (h : 9223372036854775807 < numV (l.take (numN l))) : numT l = .bad 0 2 := by
  unfold numT; rw [if_pos h]
theorem numT_fin {s : ByteArray} {n : Nat} (hn : n = numN s.data.toList) (h : ¬ 9223372036854775807 < numV (s.data.toList.take n)) :
    (∀ hi : n < s.size, wordC s[n] = true → numT s.data.toList = .bad n 9) ∧ ((∀ hi : n < s.size, wordC s[n] = false) → numT s.data.toList = .ok 2 [] (numV (s.data.toList.take n)) n) := by
  subst hn
  unfold numT
  rw [if_neg h]
  refine ⟨fun hi hw => ?_, fun hw => ?_⟩
  · rw [List.drop_eq_getElem_cons (by rw [size_list]; exact hi)]
    simp only
    exact if_pos hw
  · rcases Nat.lt_or_ge (numN s.data.toList) s.size with hi | hi
    · rw [List.drop_eq_getElem_cons (by rw [size_list]; exact hi)]
      simp only
      have := hw hi
      exact if_neg (fun h2 => by rw [show s.data.toList[numN s.data.toList]'(by rw [size_list]; exact hi) = s[numN s.data.toList] from rfl, this] at h2; cases h2)
    · rw [List.drop_eq_nil_of_le (by rw [size_list]; exact hi)]

set_option maxRecDepth 20000 in
set_option maxHeartbeats 1000000 in
theorem number_any (s : ByteArray) (w : World) (hs : s.size ≤ 16384) (hE : ErrR w) (hd : ∃ h : 0 < s.size, digC s[0] = true) :
    Calls Tryz.prog 34 #[.string s] w fun e w' => e = .returned (resV (numT s.data.toList)) ∧ Below w.heap.size w w' := by
  obtain ⟨h0, hz, hnz⟩ := numN_step hd
  have hle := numN_le s.data.toList
  rw [size_list] at hle
  have hdig : ∀ b ∈ s.data.toList.take (numN s.data.toList), digC b = true := by
    obtain ⟨c, r, e, hc⟩ := dig_yes hd
    rw [e]; exact (numN_digits hc).2
  have hpos : 0 < numN s.data.toList := by
    obtain ⟨c, r, e, hc⟩ := dig_yes hd
    rw [e]; exact (numN_digits hc).1
  have hpc := Lib.hid (fun w1 (hE1 : ErrR w1) => parse_call (s.extract 0 (numN s.data.toList)) w1 (by rw [extract_size]; omega) hE1 (by rw [extract_size]; omega) (by rw [list_take]; exact hdig))
  have hfin := Lib.hid (fun h => numT_fin (s := s) (n := numN s.data.toList) rfl h)
  have hbig := Lib.hid (fun h => numT_big (l := s.data.toList) h)
  rw [list_take] at hpc
  have hyes := Lib.hid (fun i => span_yes (p := digC) (s := s) (i := i))
  have hno := Lib.hid (fun i => span_no (p := digC) (s := s) (i := i))
  have hnz' := Lib.hid hnz
  generalize hn : numN s.data.toList = n at *
  generalize hv : numV (s.data.toList.take n) = V at *
  replace hn := Lib.hid hn
  replace hv := Lib.hid hv
  replace hE := Lib.hid hE
  replace hdig := Lib.hid hdig
  generalize hR : numT s.data.toList = R at *
  replace hR := Lib.hid hR
  by_cases h48 : s[0].toNat = 48
  · have h1 := hz h48
    subst h1
    clear hz hnz hnz'
    have h48' : (((s[0].toNat : Nat) : Int) != 48) = false := by rw [h48]; rfl
    replace h48 := Lib.hid h48
    go_enter Tryz.func34, Tryz.ntmps34
    go_wp2_with fail
    refine (hpc.out w hE.out).mono ?_
    rintro e w1 ⟨he, hb1⟩
    by_cases hV : 9223372036854775807 < V
    · rw [if_pos hV] at he
      obtain ⟨v, t, p, rfl⟩ := he
      have hR2 := hbig.out hV
      go_wp2
      go_ret3
      exact ⟨by rw [hR2]; rfl, hb1⟩
    · rw [if_neg hV] at he
      subst he
      have hf := Lib.hid (hfin.out hV)
      rcases Nat.lt_or_ge 1 s.size with hi2 | hi2
      · rcases hw : wordC s[1] with _ | _
        · have k1 := Lib.hid (calls_at (isOfWord_any s[1] w1) hw)
          have hR2 := Lib.hid (hf.out.2 (fun _ => hw))
          clear hw
          go_wp2_with fail
          refine k1.out.mono ?_
          rintro e w2 ⟨rfl, rfl⟩
          go_wp2
          go_ret3
          exact ⟨by rw [hR2.out]; rfl, hb1⟩
        · have k1 := Lib.hid (calls_at (isOfWord_any s[1] w1) hw)
          have hR2 := Lib.hid (hf.out.1 hi2 hw)
          clear hw
          go_wp2_with fail
          refine k1.out.mono ?_
          rintro e w2 ⟨rfl, rfl⟩
          go_wp2
          go_ret3
          exact ⟨by rw [hR2.out]; rfl, hb1⟩
      · have hR2 := Lib.hid (hf.out.2 (fun h => by omega))
        have hi3 : ¬ ((1 : Nat) : Int) < (s.size : Int) := by omega
        go_wp2
        go_ret3
        exact ⟨by rw [hR2.out]; rfl, hb1⟩
  · obtain ⟨h1, h2⟩ := hnz h48
    clear hz hnz hnz'
    have h48' : (((s[0].toNat : Nat) : Int) != 48) = true := by simp; omega
    rw [← h1] at hyes hno
    replace h48 := Lib.hid h48
    clear h1 h2
    go_enter Tryz.func34, Tryz.ntmps34
    go_wp2
    go_loop [3] (fun t3 => ∃ i : Nat, 1 ≤ i ∧ i ≤ n ∧ t3 = .int .i64 i) (fun t3 => n - (intOf t3).toNat)
    case atStart => exact ⟨1, by omega, by omega, rfl⟩
    case round =>
      obtain ⟨i, hi1, hi, rfl⟩ := hrel
      rcases Nat.lt_or_ge i n with hlt | hge
      · obtain ⟨hi2, hp⟩ := hyes.out i hlt
        have k1 := Lib.hid (calls_at (isDigit_any s[i] w) hp)
        clear hp
        go_wp2_with (first | (with_reducible refine k1.out.mono ?_; rintro e w' ⟨rfl, rfl⟩))
        go_round
        case rel => exact ⟨i + 1, by omega, by omega, by go_num⟩
        case measure => simp [intOf]; omega
      · obtain rfl : i = n := by omega
        rcases Nat.lt_or_ge i s.size with hi2 | hi2
        · have hp := hno.out i rfl hi2
          have k1 := Lib.hid (calls_at (isDigit_any s[i] w) hp)
          clear hp
          go_wp2_with fail
          refine k1.out.mono ?_
          rintro e w' ⟨rfl, rfl⟩
          go_wp2_with fail
          refine (hpc.out _ hE.out).mono ?_
          rintro e w1 ⟨he, hb1⟩
          by_cases hV : 9223372036854775807 < V
          · rw [if_pos hV] at he
            obtain ⟨v, t, p, rfl⟩ := he
            have hR2 := hbig.out hV
            go_wp2
            go_ret3
            exact ⟨by rw [hR2]; rfl, hb1⟩
          · rw [if_neg hV] at he
            subst he
            have hf := Lib.hid (hfin.out hV)
            rcases Nat.lt_or_ge i s.size with hi2 | hi2
            · rcases hw : wordC s[i] with _ | _
              · have k1 := Lib.hid (calls_at (isOfWord_any s[i] w1) hw)
                have hR2 := Lib.hid (hf.out.2 (fun _ => hw))
                clear hw
                go_wp2_with fail
                refine k1.out.mono ?_
                rintro e w2 ⟨rfl, rfl⟩
                go_wp2
                go_ret3
                exact ⟨by rw [hR2.out]; rfl, hb1⟩
              · have k1 := Lib.hid (calls_at (isOfWord_any s[i] w1) hw)
                have hR2 := Lib.hid (hf.out.1 hi2 hw)
                clear hw
                go_wp2_with fail
                refine k1.out.mono ?_
                rintro e w2 ⟨rfl, rfl⟩
                go_wp2
                go_ret3
                exact ⟨by rw [hR2.out]; rfl, hb1⟩
            · omega
        · have hi3 : ¬ ((i : Nat) : Int) < (s.size : Int) := by omega
          go_wp2_with fail
          refine (hpc.out w hE.out).mono ?_
          rintro e w1 ⟨he, hb1⟩
          by_cases hV : 9223372036854775807 < V
          · rw [if_pos hV] at he
            obtain ⟨v, t, p, rfl⟩ := he
            have hR2 := hbig.out hV
            go_wp2
            go_ret3
            exact ⟨by rw [hR2]; rfl, hb1⟩
          · rw [if_neg hV] at he
            subst he
            have hf := Lib.hid (hfin.out hV)
            rcases Nat.lt_or_ge i s.size with hi2 | hi2
            · omega
            · have hR2 := Lib.hid (hf.out.2 (fun h => by omega))
              go_wp2
              go_ret3
              exact ⟨by rw [hR2.out]; rfl, hb1⟩
end Go.Proofs.YtkmhdhnoghbkgaaGreatDoor
