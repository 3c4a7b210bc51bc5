/- Contracts of the document's own answers for whole numbers: what a text says, for every text. -/
import Derived.Test.YtkhbgmdjfkkkcaaDoorRef4
namespace Go.Proofs.YtkhbgmdjfkkkcaaDoor
open Go.RowKit

/-- The byte at a place behind the minus. -/
theorem drop_at (s : ByteArray) (A j : Nat) (h1 : A ≤ j) (h2 : j < s.size) (h : j - A < (s.data.toList.drop A).length) : (s.data.toList.drop A)[j - A] = s[j] := by
  rw [List.getElem_drop]
  simp only [show A + (j - A) = j by omega]
  rfl
theorem drop_len (s : ByteArray) (A : Nat) : (s.data.toList.drop A).length = s.size - A := by
  rw [List.length_drop, bytes_len]

theorem ret_read9 {v : Int × Int} (h : v = (0, 9)) : Ending.returned (.tuple #[.int .i64 0, .int .i64 9]) = .returned (.tuple #[.int .i64 v.1, .int .i64 v.2]) := by rw [h]

theorem ret_read2 {v : Int × Int} (h : v = (0, 2)) : Ending.returned (.tuple #[.int .i64 0, .int .i64 2]) = .returned (.tuple #[.int .i64 v.1, .int .i64 v.2]) := by rw [h]
theorem read_over {L l : List UInt8} {m : Bool} (hc : cutL L = (l, m)) (h : isNumB l m = true) (h2 : 9223372036854775808 < valN l) : readV L = (0, 2) :=
  readV_out (by rw [hc]; exact h) (by
    rw [hc]
    have : roomN m ≤ 9223372036854775808 := by unfold roomN; split <;> omega
    exact Nat.lt_of_le_of_lt this h2)
theorem read_end {L l : List UInt8} {m : Bool} (hm : m = false) (hc : cutL L = (l, m)) (h : isNumB l m = true) (h2 : valN l = 9223372036854775808) : readV L = (0, 2) := by
  subst hm
  exact readV_out (by rw [hc]; exact h) (by rw [hc]; show 9223372036854775807 < valN l; omega)
theorem read_minus {L l : List UInt8} {m : Bool} {n : Nat} (hm : m = true) (hc : cutL L = (l, m)) (h : isNumB l m = true) (hn : n = valN l) (h2 : n ≤ 9223372036854775808) : readV L = (held (wv true 0 (n : Int)), 0) := by
  subst hm
  rw [readV_in (by rw [hc]; exact h) (by rw [hc]; show valN l ≤ 9223372036854775808; omega), hc]
  simp only [signN, wv, if_true]
  rw [held_in (by omega) (by omega), ← hn]
  simp
theorem read_plain {L l : List UInt8} {m : Bool} {n : Nat} (hm : m = false) (hc : cutL L = (l, m)) (h : isNumB l m = true) (hn : n = valN l) (h2 : n ≤ 9223372036854775807) : readV L = (held (wv false 0 (n : Int)), 0) := by
  subst hm
  rw [readV_in (by rw [hc]; exact h) (by rw [hc]; show valN l ≤ 9223372036854775807; omega), hc]
  have e : wv false 0 (n : Int) = n := by simp [wv]
  rw [e, held_in (by omega) (by omega), ← hn]
  simp [signN]

/-- What the first look at a text finds. -/
theorem head_no (l : List UInt8) (m : Bool) (L : List UInt8) (hc : cutL L = (l, m)) (h : isNumB l m = false) : readV L = (0, 9) :=
  readV_no (by rw [hc]; exact h)

theorem byte_of {s : ByteArray} {l : List UInt8} {A j : Nat} (hl : Hid (l = s.data.toList.drop A)) (h1 : A ≤ j) (h2 : j < s.size) (h : j - A < l.length) : l[j - A] = s[j] := by
  have e := hl.out
  subst e
  exact drop_at s A j h1 h2 h

theorem isNum_cons {c : UInt8} {r : List UInt8} {m : Bool} (h : ¬ c.toNat = 48) : isNumB (c :: r) m = (c :: r).all dig := by
  unfold isNumB; simp only; rw [if_neg h]
theorem isNum_nought {c : UInt8} {r : List UInt8} {m : Bool} (h : c.toNat = 48) : isNumB (c :: r) m = (r.isEmpty && !m) := by
  unfold isNumB; simp only; rw [if_pos h]
theorem drop_cons (s : ByteArray) (A : Nat) (h : A < s.size) : s.data.toList.drop A = s[A] :: s.data.toList.drop (A + 1) := by
  rw [List.drop_eq_getElem_cons (by rw [bytes_len]; exact h)]
  rfl

set_option maxHeartbeats 4000000 in
theorem refRead_any (s : ByteArray) (w : World) (hs : s.size ≤ 9223372036854775807) :
    Calls Tryd.prog 31 #[.string s] w fun e w' => e = .returned (.tuple #[.int .i64 (readV s.data.toList).1, .int .i64 (readV s.data.toList).2]) ∧ Below w.heap.size w w' := by
  by_cases hz : 0 < s.size
  case neg =>
    have HR := Lib.hid (show readV s.data.toList = (0, 9) by rw [list_none s hz]; rfl)
    have hz2 : (0 == (s.size : Int)) = true := by rw [show s.size = 0 by omega]; rfl
    have hz3 : ((s.size : Int)) ≤ 0 := by omega
    go_enter Tryd.func31, Tryd.ntmps31
    go_wp2
    go_ret2
    exact ⟨ret_read9 HR.out, Below.refl _ _⟩
  case pos =>
    have hL := list_head s hz
    by_cases h45 : s[0].toNat = 45
    · have hc : Hid (cutL s.data.toList = (s.data.toList.drop 1, true)) := by
        show cutL s.data.toList = (s.data.toList.drop 1, true)
        rw [hL, cutL_minus _ h45]; rfl
      have hb45 : ((s[0].toNat : Int) == 45) = true := by simp; omega
      clear hL
      by_cases h1 : 1 < s.size
      · have hd1 := drop_cons s 1 h1
        by_cases h48 : s[1].toNat = 48
        · have hb48 : ((s[1].toNat : Int) == 48) = true := by simp; omega
          have HR := Lib.hid (head_no _ _ _ hc.out (by rw [hd1, isNum_nought h48]; simp))
          replace hd1 := Lib.hid hd1
          go_enter Tryd.func31, Tryd.ntmps31
          go_wp2
          go_ret2
          exact ⟨ret_read9 HR.out, Below.refl _ _⟩
        · have hb48 : ((s[1].toNat : Int) == 48) = false := by simp; omega
          obtain ⟨A, hA⟩ : ∃ A : Nat, Hid (A = 1) := ⟨1, rfl⟩
          obtain ⟨m, hm⟩ : ∃ m : Bool, Hid (m = true) := ⟨true, rfl⟩
          obtain ⟨l, hl⟩ : ∃ l, Hid (l = s.data.toList.drop A) := ⟨_, rfl⟩
          have hc2 : Hid (cutL s.data.toList = (l, m)) := by show cutL s.data.toList = (l, m); rw [hl.out, hm.out, hA.out]; exact hc.out
          have hnum : Hid (isNumB l m = l.all dig) := by show isNumB l m = l.all dig; rw [hl.out, hA.out, hd1, isNum_cons h48]
          have llen : Hid (l.length = s.size - A) := by show l.length = s.size - A; rw [hl.out, drop_len]
          have hAs : A ≤ s.size := by rw [hA.out]; omega
          have hsz1 : (1 == (s.size : Int)) = false := by rw [beq_eq_false_iff_ne]; omega
          clear hc hd1 h48
          replace hc := hc2
          go_enter Tryd.func31, Tryd.ntmps31
          go_wp2

          go_loop [6] (fun i => ∃ j : Nat, A ≤ j ∧ j ≤ s.size ∧ i = .int .i64 j ∧ AllD (l.take (j - A))) (fun i => s.size - (intOf i).toNat)
          case atStart => exact ⟨A, Nat.le_refl _, hAs, by rw [hA.out]; rfl, by rw [Nat.sub_self]; rfl⟩
          case round =>
            obtain ⟨j, hj1, hj2, rfl, hall⟩ := hrel
            replace hall := Lib.hid hall
            by_cases hlt : j < s.size
            · have hk : j - A < l.length := by rw [llen.out]; omega
              have hby : l[j - A] = s[j] := byte_of hl hj1 hlt hk
              by_cases hd : 48 ≤ s[j].toNat ∧ s[j].toNat ≤ 57
              · have hnext : Hid (AllD (l.take (j + 1 - A))) := by
                  show AllD (l.take (j + 1 - A))
                  rw [show j + 1 - A = (j - A) + 1 by omega]
                  exact all_take_more l (j - A) hk hall.out (by rw [hby]; simp [dig, hd])
                obtain ⟨hd1, hd2⟩ := hd
                replace hby := Lib.hid hby
                go_wp2
                go_round
                case rel => exact ⟨j + 1, by omega, by omega, by go_num, hnext.out⟩
                case measure => simp [intOf]; omega
              · have hno : Hid (readV s.data.toList = (0, 9)) := head_no l m _ hc.out (by
                  rw [hnum.out]
                  exact all_false_at l (j - A) hk (by rw [hby]; simp only [dig, decide_eq_false_iff_not]; exact hd))
                replace hby := Lib.hid hby
                by_cases hlo : s[j].toNat < 48
                · clear hd
                  go_wp2
                  go_ret2
                  exact ⟨ret_read9 hno.out, Below.refl _ _⟩
                · have hhi : 57 < s[j].toNat := by omega
                  clear hd
                  go_wp2
                  go_ret2
                  exact ⟨ret_read9 hno.out, Below.refl _ _⟩
            · have hall2 : AllD l := by
                have := hall.out
                unfold AllD at this ⊢
                rw [List.take_of_length_le (by rw [llen.out]; omega)] at this
                exact this
              have HN : Hid (isNumB l m = true) := by show isNumB l m = true; rw [hnum.out]; exact hall2
              clear hall
              go_wp2
              go_loop [7, 8] (fun v i => ∃ k n : Nat, A ≤ k ∧ k ≤ s.size ∧ i = .int .i64 k ∧ v = .int .u64 n ∧ n = valN (l.take (k - A)) ∧ n ≤ 9223372036854775808) (fun _ i => s.size - (intOf i).toNat)
              case atStart => exact ⟨A, 0, Nat.le_refl _, hAs, by rw [hA.out]; rfl, rfl, by rw [Nat.sub_self]; rfl, by omega⟩
              case round =>
                obtain ⟨k, n, hk1, hk2, rfl, rfl, hn, hnm⟩ := hrel
                replace hn := Lib.hid hn
                by_cases hlt2 : k < s.size
                · have hk : k - A < l.length := by rw [llen.out]; omega
                  obtain ⟨hd1, hd2⟩ := dig_at l (k - A) hk hall2
                  have hst := val_step l (k - A) hk
                  have hle := valN_take_le l (k - A + 1)
                  have hby : l[k - A] = s[k] := byte_of hl hk1 hlt2 hk
                  rw [hby] at hd1 hd2 hst
                  obtain ⟨c, hc3⟩ : ∃ c, s[k].toNat = c := ⟨_, rfl⟩
                  rw [hc3] at hd1 hd2 hst
                  rw [← hn.out] at hst
                  replace hst := Lib.hid hst
                  replace hle := Lib.hid hle
                  replace hby := Lib.hid hby
                  have hg : IntKind.u8.wrap ((c : Int) - 48) = (c : Int) - 48 := IntWalk.u8_in _ (by omega)
                  have hg2 : IntKind.u64.wrap ((c : Int) - 48) = (c : Int) - 48 := IntWalk.u64_in _ (by omega)
                  have hsub : IntKind.u64.wrap ((9223372036854775808 : Int) - ((c : Int) - 48)) = (9223372036854775808 : Int) - ((c : Int) - 48) := IntWalk.u64_in _ (by omega)
                  by_cases hb : (n : Int) > ((9223372036854775808 : Int) - ((c : Int) - 48)) / 10
                  · have hover : 9223372036854775808 < valN l := by
                      have := hst.out
                      have := hle.out
                      omega
                    have HR : Hid (readV s.data.toList = (0, 2)) := read_over hc.out HN.out hover
                    replace hover := Lib.hid hover
                    go_wp2
                    go_ret2
                    exact ⟨ret_read2 HR.out, Below.refl _ _⟩
                  · have hnext : 10 * n + (c - 48) ≤ 9223372036854775808 := by omega
                    have hnv : ((10 * n + (c - 48) : Nat) : Int) = 10 * (n : Int) + ((c : Int) - 48) := by omega
                    have hst2 : Hid (10 * n + (c - 48) = valN (l.take (k + 1 - A))) := by
                      show 10 * n + (c - 48) = valN (l.take (k + 1 - A))
                      rw [show k + 1 - A = k - A + 1 by omega]
                      exact hst.out.symm
                    replace hnv := Lib.hid hnv
                    go_wp2
                    go_round
                    case rel => exact ⟨k + 1, 10 * n + (c - 48), by omega, by omega, by go_num, by rw [hnv.out], hst2.out, hnext⟩
                    case measure => simp [intOf]; omega
                · have hfin : Hid (n = valN l) := by
                    have := hn.out
                    rw [List.take_of_length_le (by rw [llen.out]; omega)] at this
                    exact this
                  clear hn
                  have u0 : U64 0 := by unfold U64; omega
                  have un : U64 (n : Int) := by unfold U64; omega
                  have HR : Hid (readV s.data.toList = (held (wv true 0 (n : Int)), 0)) := read_minus hm.out hc.out HN.out hfin.out hnm
                  by_cases hend : n = 9223372036854775808
                  · have hend2 : ((n : Int) == 9223372036854775808) = true := by rw [hend]; rfl
                    replace hend := Lib.hid hend
                    go_wp2_with ((with_reducible refine (held_any _ _ _ _ u0 un).mono ?_); rintro e w' ⟨rfl, hb⟩)
                    go_ret2
                    exact ⟨ret_read HR.out, by assumption⟩
                  · have hend2 : ((n : Int) == 9223372036854775808) = false := by rw [beq_eq_false_iff_ne]; omega
                    replace hend := Lib.hid hend
                    go_wp2_with ((with_reducible refine (held_any _ _ _ _ u0 un).mono ?_); rintro e w' ⟨rfl, hb⟩)
                    go_ret2
                    exact ⟨ret_read HR.out, by assumption⟩
      · have HR := Lib.hid (head_no _ _ _ hc.out (by rw [List.drop_of_length_le (by rw [bytes_len]; omega)]; rfl))
        have hz2 : (1 == (s.size : Int)) = true := by rw [show s.size = 1 by omega]; rfl
        go_enter Tryd.func31, Tryd.ntmps31
        go_wp2
        go_ret2
        exact ⟨ret_read9 HR.out, Below.refl _ _⟩
    · have hc : Hid (cutL s.data.toList = (s.data.toList, false)) := by
        show cutL s.data.toList = (s.data.toList, false)
        rw [hL, cutL_plain _ h45, ← hL]
      have hb45 : ((s[0].toNat : Int) == 45) = false := by simp; omega
      have hsz0 : (0 == (s.size : Int)) = false := by rw [beq_eq_false_iff_ne]; omega
      have hd0 := drop_cons s 0 hz
      rw [List.drop_zero] at hd0
      clear hL
      by_cases hbad : s[0].toNat = 48 ∧ 1 < s.size
      · obtain ⟨h48, h1⟩ := hbad
        have hb48 : ((s[0].toNat : Int) == 48) = true := by simp; omega
        have HR := Lib.hid (head_no _ _ _ hc.out (by
          rw [hd0, isNum_nought h48]
          have : s.data.toList.drop (0 + 1) ≠ [] := by
            intro e
            have := congrArg List.length e
            rw [drop_len] at this
            simp at this
            omega
          simp [List.isEmpty_iff] at this ⊢
          exact this))
        replace hd0 := Lib.hid hd0
        go_enter Tryd.func31, Tryd.ntmps31
        go_wp2
        go_ret2
        exact ⟨ret_read9 HR.out, Below.refl _ _⟩
      · obtain ⟨A, hA⟩ : ∃ A : Nat, Hid (A = 0) := ⟨0, rfl⟩
        obtain ⟨m, hm⟩ : ∃ m : Bool, Hid (m = false) := ⟨false, rfl⟩
        obtain ⟨l, hl⟩ : ∃ l, Hid (l = s.data.toList.drop A) := ⟨_, rfl⟩
        have hl0 : l = s.data.toList := by rw [hl.out, hA.out]; rfl
        have hc2 : Hid (cutL s.data.toList = (l, m)) := by show cutL s.data.toList = (l, m); rw [hl0, hm.out]; exact hc.out
        have hnum : Hid (isNumB l m = l.all dig) := by
          show isNumB l m = l.all dig
          rw [hl0, hm.out]
          by_cases h48 : s[0].toNat = 48
          · rw [hd0, isNum_nought h48]
            have hnil : s.data.toList.drop (0 + 1) = [] := List.drop_of_length_le (by rw [bytes_len]; omega)
            rw [hnil]
            simp [dig, h48]
          · rw [hd0, isNum_cons h48]
        have llen : Hid (l.length = s.size - A) := by show l.length = s.size - A; rw [hl.out, drop_len]
        have hAs : A ≤ s.size := by rw [hA.out]; omega
        have hlook : (((s[0].toNat : Int) == 48) = true ∧ ¬ 1 < s.size) ∨ ((s[0].toNat : Int) == 48) = false := by
          by_cases h48 : s[0].toNat = 48
          · exact .inl ⟨by simp; omega, by omega⟩
          · exact .inr (by simp; omega)
        clear hc hd0 hbad hl0
        replace hc := hc2
        rcases hlook with ⟨hb48, h1⟩ | hb48
        all_goals
          go_enter Tryd.func31, Tryd.ntmps31
          go_wp2
          go_loop [6] (fun i => ∃ j : Nat, A ≤ j ∧ j ≤ s.size ∧ i = .int .i64 j ∧ AllD (l.take (j - A))) (fun i => s.size - (intOf i).toNat)
          case atStart => exact ⟨A, Nat.le_refl _, hAs, by rw [hA.out]; rfl, by rw [Nat.sub_self]; rfl⟩
          case round =>
            obtain ⟨j, hj1, hj2, rfl, hall⟩ := hrel
            replace hall := Lib.hid hall
            by_cases hlt : j < s.size
            · have hk : j - A < l.length := by rw [llen.out]; omega
              have hby : l[j - A] = s[j] := byte_of hl hj1 hlt hk
              by_cases hd : 48 ≤ s[j].toNat ∧ s[j].toNat ≤ 57
              · have hnext : Hid (AllD (l.take (j + 1 - A))) := by
                  show AllD (l.take (j + 1 - A))
                  rw [show j + 1 - A = (j - A) + 1 by omega]
                  exact all_take_more l (j - A) hk hall.out (by rw [hby]; simp [dig, hd])
                obtain ⟨hd1, hd2⟩ := hd
                replace hby := Lib.hid hby
                go_wp2
                go_round
                case rel => exact ⟨j + 1, by omega, by omega, by go_num, hnext.out⟩
                case measure => simp [intOf]; omega
              · have hno : Hid (readV s.data.toList = (0, 9)) := head_no l m _ hc.out (by
                  rw [hnum.out]
                  exact all_false_at l (j - A) hk (by rw [hby]; simp only [dig, decide_eq_false_iff_not]; exact hd))
                replace hby := Lib.hid hby
                by_cases hlo : s[j].toNat < 48
                · clear hd
                  go_wp2
                  go_ret2
                  exact ⟨ret_read9 hno.out, Below.refl _ _⟩
                · have hhi : 57 < s[j].toNat := by omega
                  clear hd
                  go_wp2
                  go_ret2
                  exact ⟨ret_read9 hno.out, Below.refl _ _⟩
            · have hall2 : AllD l := by
                have := hall.out
                unfold AllD at this ⊢
                rw [List.take_of_length_le (by rw [llen.out]; omega)] at this
                exact this
              have HN : Hid (isNumB l m = true) := by show isNumB l m = true; rw [hnum.out]; exact hall2
              clear hall
              go_wp2
              go_loop [7, 8] (fun v i => ∃ k n : Nat, A ≤ k ∧ k ≤ s.size ∧ i = .int .i64 k ∧ v = .int .u64 n ∧ n = valN (l.take (k - A)) ∧ n ≤ 9223372036854775808) (fun _ i => s.size - (intOf i).toNat)
              case atStart => exact ⟨A, 0, Nat.le_refl _, hAs, by rw [hA.out]; rfl, rfl, by rw [Nat.sub_self]; rfl, by omega⟩
              case round =>
                obtain ⟨k, n, hk1, hk2, rfl, rfl, hn, hnm⟩ := hrel
                replace hn := Lib.hid hn
                by_cases hlt2 : k < s.size
                · have hk : k - A < l.length := by rw [llen.out]; omega
                  obtain ⟨hd1, hd2⟩ := dig_at l (k - A) hk hall2
                  have hst := val_step l (k - A) hk
                  have hle := valN_take_le l (k - A + 1)
                  have hby : l[k - A] = s[k] := byte_of hl hk1 hlt2 hk
                  rw [hby] at hd1 hd2 hst
                  obtain ⟨c, hc3⟩ : ∃ c, s[k].toNat = c := ⟨_, rfl⟩
                  rw [hc3] at hd1 hd2 hst
                  rw [← hn.out] at hst
                  replace hst := Lib.hid hst
                  replace hle := Lib.hid hle
                  replace hby := Lib.hid hby
                  have hg : IntKind.u8.wrap ((c : Int) - 48) = (c : Int) - 48 := IntWalk.u8_in _ (by omega)
                  have hg2 : IntKind.u64.wrap ((c : Int) - 48) = (c : Int) - 48 := IntWalk.u64_in _ (by omega)
                  have hsub : IntKind.u64.wrap ((9223372036854775808 : Int) - ((c : Int) - 48)) = (9223372036854775808 : Int) - ((c : Int) - 48) := IntWalk.u64_in _ (by omega)
                  by_cases hb : (n : Int) > ((9223372036854775808 : Int) - ((c : Int) - 48)) / 10
                  · have hover : 9223372036854775808 < valN l := by
                      have := hst.out
                      have := hle.out
                      omega
                    have HR : Hid (readV s.data.toList = (0, 2)) := read_over hc.out HN.out hover
                    replace hover := Lib.hid hover
                    go_wp2
                    go_ret2
                    exact ⟨ret_read2 HR.out, Below.refl _ _⟩
                  · have hnext : 10 * n + (c - 48) ≤ 9223372036854775808 := by omega
                    have hnv : ((10 * n + (c - 48) : Nat) : Int) = 10 * (n : Int) + ((c : Int) - 48) := by omega
                    have hst2 : Hid (10 * n + (c - 48) = valN (l.take (k + 1 - A))) := by
                      show 10 * n + (c - 48) = valN (l.take (k + 1 - A))
                      rw [show k + 1 - A = k - A + 1 by omega]
                      exact hst.out.symm
                    replace hnv := Lib.hid hnv
                    go_wp2
                    go_round
                    case rel => exact ⟨k + 1, 10 * n + (c - 48), by omega, by omega, by go_num, by rw [hnv.out], hst2.out, hnext⟩
                    case measure => simp [intOf]; omega
                · have hfin : Hid (n = valN l) := by
                    have := hn.out
                    rw [List.take_of_length_le (by rw [llen.out]; omega)] at this
                    exact this
                  clear hn
                  have u0 : U64 0 := by unfold U64; omega
                  have un : U64 (n : Int) := by unfold U64; omega
                  by_cases hend : n = 9223372036854775808
                  · have hend2 : ((n : Int) == 9223372036854775808) = true := by rw [hend]; rfl
                    have HR : Hid (readV s.data.toList = (0, 2)) := read_end hm.out hc.out HN.out (by rw [← hfin.out]; exact hend)
                    replace hend := Lib.hid hend
                    go_wp2
                    go_ret2
                    exact ⟨ret_read2 HR.out, Below.refl _ _⟩
                  · have hend2 : ((n : Int) == 9223372036854775808) = false := by rw [beq_eq_false_iff_ne]; omega
                    have HR : Hid (readV s.data.toList = (held (wv false 0 (n : Int)), 0)) := read_plain hm.out hc.out HN.out hfin.out (by omega)
                    replace hend := Lib.hid hend
                    go_wp2_with ((with_reducible refine (held_any _ _ _ _ u0 un).mono ?_); rintro e w' ⟨rfl, hb⟩)
                    go_ret2
                    exact ⟨ret_read HR.out, by assumption⟩
end Go.Proofs.YtkhbgmdjfkkkcaaDoor
