/- The document's sign, One, Skip (layer 7), walked. No condition. -/
import Derived.Test.YtmgbebpkkidooaaDoorTDoc8
import Derived.Test.YtmgbebpkkidooaaDoorTDoc2
namespace Go.Proofs.YtmgbebpkkidooaaDoor
open Go.RowKit Tok

theorem prefix_at {s : ByteArray} {i : Nat} {T : List UInt8} (hi : i ≤ s.size) : T.isPrefixOf (s.data.toList.drop i) = true ↔ (i + T.length ≤ s.size ∧ (s.data.toList.drop i).take T.length = T) := by
  have hl : (s.data.toList.drop i).length = s.size - i := by rw [List.length_drop, size_list]
  rw [List.isPrefixOf_iff_prefix, List.prefix_iff_eq_take]
  constructor
  · intro h
    refine ⟨?_, h.symm⟩
    have := congrArg List.length h
    rw [List.length_take] at this
    omega
  · rintro ⟨_, h⟩
    exact h.symm
set_option maxRecDepth 20000 in
set_option maxHeartbeats 2000000 in
theorem refSkip_any (s : ByteArray) (i : Nat) (w : World) (hs : s.size ≤ 1000000) (hi : i ≤ s.size) :
    Calls Tryd.prog 21 #[.string s, .int .i64 i] w fun e w' => ∃ j : Nat, e = .returned (.int .i64 j) ∧ i ≤ j ∧ j ≤ s.size ∧ (∀ ts, allR (s.data.toList.drop i) i ts = allR (s.data.toList.drop j) j ts) ∧ (∀ h : j < s.size, s[j].toNat ≠ 32 ∧ s[j].toNat ≠ 10 ∧ s[j].toNat ≠ 35) ∧ w' = w := by
  go_enter Tryd.func21, Tryd.ntmps21
  go_wp2
  go_loop [1, 5] (fun t1 t5 => ∃ (j : Nat) (r : Bool), i ≤ j ∧ j ≤ s.size ∧ t1 = .int .i64 j ∧ t5 = .bool r ∧ Hid (if r = true then ∀ ts, allR (s.data.toList.drop i) i ts = allR (toLine (s.data.toList.drop j)) (j + ((s.size - j) - (toLine (s.data.toList.drop j)).length)) ts else ∀ ts, allR (s.data.toList.drop i) i ts = allR (s.data.toList.drop j) j ts)) (fun t1 _ => s.size - (intOf t1).toNat)
  case atStart => exact ⟨i, false, by omega, hi, rfl, rfl, fun _ => rfl⟩
  case round =>
    obtain ⟨j, r, hij, hj, rfl, rfl, hR⟩ := hrel
    rcases Nat.lt_or_ge j s.size with hlt | hge
    · have hlti : (j : Int) < (s.size : Int) := by omega
      have hd := at_drop hlt
      have hdl : (s.data.toList.drop (j + 1)).length = s.size - (j + 1) := by rw [List.length_drop, size_list]
      have htl := toLine_le (s.data.toList.drop (j + 1))
      by_cases c10 : s[j].toNat = 10
      · have q10 : ((s[j].toNat : Int) == 10) = true := by rw [c10]; rfl
        have hnx : Hid (∀ ts, allR (s.data.toList.drop i) i ts = allR (s.data.toList.drop (j + 1)) (j + 1) ts) := by
          intro ts
          have hR2 := hR.out
          cases r
          · rw [if_neg (by simp)] at hR2
            rw [hR2 ts, hd, allR_blank _ _ _ (.inr c10)]
          · rw [if_pos rfl] at hR2
            have e : toLine (s.data.toList.drop j) = s.data.toList.drop j := by rw [hd]; exact if_pos c10
            rw [hR2 ts, e, List.length_drop, size_list, Nat.sub_self, Nat.add_zero, hd, allR_blank _ _ _ (.inr c10)]
        replace c10 := Lib.hid c10
        clear hR
        go_wp2
        go_round
        case rel => exact ⟨j + 1, false, by omega, by omega, by go_num, rfl, hnx⟩
        case measure => simp [intOf]; omega
      · have q10 : ((s[j].toNat : Int) == 10) = false := beq_eq_false_iff_ne.2 (by omega)
        have hline : toLine (s.data.toList.drop j) = toLine (s.data.toList.drop (j + 1)) := toLine_next hlt c10
        by_cases c35 : s[j].toNat = 35
        · have q35 : ((s[j].toNat : Int) == 35) = true := by rw [c35]; rfl
          have hnx : Hid (if true = true then ∀ ts, allR (s.data.toList.drop i) i ts = allR (toLine (s.data.toList.drop (j + 1))) (j + 1 + ((s.size - (j + 1)) - (toLine (s.data.toList.drop (j + 1))).length)) ts else ∀ ts, allR (s.data.toList.drop i) i ts = allR (s.data.toList.drop (j + 1)) (j + 1) ts) := by
            show if true = true then _ else _
            rw [if_pos rfl]
            intro ts
            have hR2 := hR.out
            cases r
            · rw [if_neg (by simp)] at hR2
              rw [hR2 ts, hd, allR_remark _ _ _ c35, hdl]
            · rw [if_pos rfl, hline] at hR2
              rw [hR2 ts]
              congr 1
              omega
          replace c35 := Lib.hid c35
          clear hR
          go_wp2
          go_round
          case rel => exact ⟨j + 1, true, by omega, by omega, by go_num, rfl, hnx⟩
          case measure => simp [intOf]; omega
        · have q35 : ((s[j].toNat : Int) == 35) = false := beq_eq_false_iff_ne.2 (by omega)
          cases r
          · have hR2 := hR.out
            rw [if_neg (by simp)] at hR2
            by_cases c32 : s[j].toNat = 32
            · have q32 : ((s[j].toNat : Int) != 32) = false := by rw [c32]; rfl
              have hnx : Hid (if false = true then ∀ ts, allR (s.data.toList.drop i) i ts = allR (toLine (s.data.toList.drop (j + 1))) (j + 1 + ((s.size - (j + 1)) - (toLine (s.data.toList.drop (j + 1))).length)) ts else ∀ ts, allR (s.data.toList.drop i) i ts = allR (s.data.toList.drop (j + 1)) (j + 1) ts) := by
                show if false = true then _ else _
                rw [if_neg (by simp)]
                intro ts
                rw [hR2 ts, hd, allR_blank _ _ _ (.inl c32)]
              replace c32 := Lib.hid c32
              clear hR hR2
              go_wp2
              go_round
              case rel => exact ⟨j + 1, false, by omega, by omega, by go_num, rfl, hnx⟩
              case measure => simp [intOf]; omega
            · have q32 : ((s[j].toNat : Int) != 32) = true := by simp; omega
              replace hR2 := Lib.hid hR2
              clear hR
              go_wp2
              go_ret
              exact ⟨j, rfl, hij, by omega, hR2.out, fun _ => ⟨c32, c10, c35⟩, rfl⟩
          · have hnx : Hid (if true = true then ∀ ts, allR (s.data.toList.drop i) i ts = allR (toLine (s.data.toList.drop (j + 1))) (j + 1 + ((s.size - (j + 1)) - (toLine (s.data.toList.drop (j + 1))).length)) ts else ∀ ts, allR (s.data.toList.drop i) i ts = allR (s.data.toList.drop (j + 1)) (j + 1) ts) := by
              show if true = true then _ else _
              rw [if_pos rfl]
              intro ts
              have hR2 := hR.out
              rw [if_pos rfl, hline] at hR2
              rw [hR2 ts]
              congr 1
              omega
            clear hR
            go_wp2
            go_round
            case rel => exact ⟨j + 1, true, by omega, by omega, by go_num, rfl, hnx⟩
            case measure => simp [intOf]; omega
    · obtain rfl : j = s.size := by omega
      have hlti : ¬ ((s.size : Int) < (s.size : Int)) := by omega
      have hfin : ∀ ts, allR (s.data.toList.drop i) i ts = allR (s.data.toList.drop s.size) s.size ts := by
        intro ts
        have hR2 := hR.out
        cases r
        · rw [if_neg (by simp)] at hR2
          exact hR2 ts
        · rw [if_pos rfl, no_drop (Nat.le_refl _)] at hR2
          rw [hR2 ts, no_drop (Nat.le_refl _)]
          rfl
      replace hfin := Lib.hid hfin
      clear hR
      go_wp2
      go_ret
      exact ⟨s.size, rfl, hij, by omega, hfin.out, fun h => by omega, rfl⟩
end Go.Proofs.YtmgbebpkkidooaaDoor
