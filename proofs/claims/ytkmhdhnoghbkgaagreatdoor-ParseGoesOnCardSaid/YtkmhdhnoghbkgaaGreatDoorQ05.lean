/- token's hex, saidByte (layer 7), walked. Conditions: the text is no longer than a source may be. -/
import Derived.Test.YtkmhdhnoghbkgaaGreatDoorQ04
set_option linter.unusedVariables false
/- token's hex, saidByte (layer 7), walked. Conditions: the text is no longer than a source may be. -/
namespace Go.Proofs.YtkmhdhnoghbkgaaGreatDoor
open Go.RowKit Tok

def itemV : Tok.Item → Value
  | .ok c n => .tuple #[.int .u8 (c.toNat : Int), .int .i64 n, .int .i64 0]
  | .bad n e => .tuple #[.int .u8 0, .int .i64 n, .int .i64 e]
theorem byte_all {p : UInt8 → Prop} (h : ∀ n, n < 256 → p n.toUInt8) (c : UInt8) : p c := by
  have := h c.toNat (UInt8.toNat_lt c)
  simpa using this
theorem hex_index (c : UInt8) : Lib.indexByte [48, 49, 50, 51, 52, 53, 54, 55, 56, 57, 97, 98, 99, 100, 101, 102] c = match hexV c with | some x => (x : Int) | none => -1 := by
  revert c
  refine byte_all ?_
  decide +kernel
theorem hexV_le (c : UInt8) {x : Nat} (h : hexV c = some x) : x ≤ 15 := by
  unfold hexV digC at h
  repeat' split at h
  all_goals first
    | (injection h; simp at *; omega)
    | (cases h)
theorem at_drop {s : ByteArray} {i : Nat} (h : i < s.size) : s.data.toList.drop i = s[i] :: s.data.toList.drop (i + 1) := List.drop_eq_getElem_cons (l := s.data.toList) (i := i) (by rw [size_list]; exact h)
theorem no_drop {s : ByteArray} {i : Nat} (h : s.size ≤ i) : s.data.toList.drop i = [] := List.drop_eq_nil_of_le (by rw [size_list]; exact h)

theorem idx_some {s : ByteArray} {i : Nat} (h : i < s.size) {x : Nat} (hx : hexV s[i] = some x) (w : World) :
    Calls Tryz.prog 142 #[.string ⟨#[48, 49, 50, 51, 52, 53, 54, 55, 56, 57, 97, 98, 99, 100, 101, 102]⟩, .int .u8 (s[i].toNat : Int)] w fun e w' => e = .returned (.int .i64 (x : Int)) ∧ w' = w := by
  have := Tryz.strings_IndexByte ⟨#[48, 49, 50, 51, 52, 53, 54, 55, 56, 57, 97, 98, 99, 100, 101, 102]⟩ (s[i].toNat : Int) w
  have e : ((s[i].toNat : Int)).toNat.toUInt8 = s[i] := by simp
  rw [e, hex_index, hx] at this
  exact this
theorem idx_none {s : ByteArray} {i : Nat} (h : i < s.size) (hx : hexV s[i] = none) (w : World) :
    Calls Tryz.prog 142 #[.string ⟨#[48, 49, 50, 51, 52, 53, 54, 55, 56, 57, 97, 98, 99, 100, 101, 102]⟩, .int .u8 (s[i].toNat : Int)] w fun e w' => e = .returned (.int .i64 (-1)) ∧ w' = w := by
  have := Tryz.strings_IndexByte ⟨#[48, 49, 50, 51, 52, 53, 54, 55, 56, 57, 97, 98, 99, 100, 101, 102]⟩ (s[i].toNat : Int) w
  have e : ((s[i].toNat : Int)).toNat.toUInt8 = s[i] := by simp
  rw [e, hex_index, hx] at this
  exact this

theorem or_all : ∀ x : Nat, x < 16 → ∀ y : Nat, y < 16 → bits BinOp.or IntKind.u8 ((x : Int) * 16) (y : Int) = ((16 * x + y : Nat) : Int) := by decide +kernel
theorem hexT_none {s : ByteArray} (h : s.size ≤ 2) : hexT (s.data.toList.drop 2) = .bad 2 4 := by rw [no_drop h]; rfl
theorem hexT_one {s : ByteArray} {x : Nat} (h2 : 2 < s.size) (hx : hexV s[2] = some x) (h : s.size ≤ 3) : hexT (s.data.toList.drop 2) = .bad 3 4 := by
  rw [at_drop h2, no_drop h]; simp [hexT, hx]
theorem hexT_bad {s : ByteArray} {x : Nat} (h2 : 2 < s.size) (hx : hexV s[2] = some x) (h : 3 < s.size) (hy : hexV s[3] = none) : hexT (s.data.toList.drop 2) = .bad 3 9 := by
  rw [at_drop h2, at_drop h]; simp [hexT, hx, hy]
theorem hexT_two {s : ByteArray} {x y : Nat} (h2 : 2 < s.size) (hx : hexV s[2] = some x) (h : 3 < s.size) (hy : hexV s[3] = some y) : hexT (s.data.toList.drop 2) = .ok (16 * x + y).toUInt8 4 := by
  rw [at_drop h2, at_drop h]; simp [hexT, hx, hy]

set_option maxRecDepth 20000 in
set_option maxHeartbeats 1000000 in
theorem hex_any (s : ByteArray) (w : World) (hs : s.size ≤ 16384) (h2 : 2 ≤ s.size) :
    Calls Tryz.prog 107 #[.string s] w fun e w' => e = .returned (itemV (hexT (s.data.toList.drop 2))) ∧ w' = w := by
  obtain ⟨R, hR⟩ := exHid (hexT (s.data.toList.drop 2))
  rw [hR.out]
  go_enter Tryz.func107, Tryz.ntmps107
  go_wp2
  go_loop [2, 3] (fun t2 t3 => ∃ k c : Nat, t3 = .int .i64 k ∧ t2 = .int .u8 c ∧ ((k = 2 ∧ c = 0) ∨ (k = 3 ∧ ∃ h : 2 < s.size, hexV s[2] = some c) ∨ (k = 4 ∧ ∃ (h : 3 < s.size) (x y : Nat), hexV s[2] = some x ∧ hexV s[3] = some y ∧ c = 16 * x + y))) (fun _ t3 => 4 - (intOf t3).toNat)
  case atStart => exact ⟨2, 0, rfl, rfl, .inl ⟨rfl, rfl⟩⟩
  case round =>
    obtain ⟨k, c, rfl, rfl, hst⟩ := hrel
    rcases hst with ⟨rfl, rfl⟩ | ⟨rfl, h3, hx⟩ | ⟨rfl, h4, x, y, hx, hy, rfl⟩
    · rcases Nat.lt_or_ge 2 s.size with h | h
      · have hb : (((2 : Nat) : Int) == (s.size : Int)) = false := beq_eq_false_iff_ne.2 (by omega)
        rcases hx : hexV s[2] with _ | x
        · have k1 := Lib.hid (idx_none h hx w)
          have hRv : R = .bad 2 9 := by rw [← hR.out, at_drop h]; simp [hexT, hx]
          clear hx
          go_wp2_with fail
          refine k1.out.mono ?_
          rintro e w2 ⟨rfl, rfl⟩
          go_wp2
          go_ret3
          exact ⟨by first | (rw [hRv]; rfl) | rfl, rfl⟩
        · have k1 := Lib.hid (idx_some h hx w)
          have hx15 := hexV_le _ hx
          replace hx := Lib.hid hx
          go_wp2_with fail
          refine k1.out.mono ?_
          rintro e w2 ⟨rfl, rfl⟩
          go_wp2
          go_round
          case rel => exact ⟨3, x, rfl, by have := or_all 0 (by omega) x (by omega); simpa using this, .inr (.inl ⟨rfl, h, hx.out⟩)⟩
          case measure => simp [intOf]
      · have hRv : R = .bad 2 4 := by rw [← hR.out, hexT_none h]
        have hb : (((2 : Nat) : Int) == (s.size : Int)) = true := beq_iff_eq.2 (by omega)
        go_wp2
        go_ret3
        exact ⟨by first | (rw [hRv]; rfl) | rfl, rfl⟩
    · have hx15 := hexV_le _ hx
      rcases Nat.lt_or_ge 3 s.size with h | h
      · have hb : (((3 : Nat) : Int) == (s.size : Int)) = false := beq_eq_false_iff_ne.2 (by omega)
        rcases hy : hexV s[3] with _ | y
        · have k1 := Lib.hid (idx_none h hy w)
          have hRv : R = .bad 3 9 := by rw [← hR.out, hexT_bad h3 hx h hy]
          clear hy hx
          go_wp2_with fail
          refine k1.out.mono ?_
          rintro e w2 ⟨rfl, rfl⟩
          go_wp2
          go_ret3
          exact ⟨by first | (rw [hRv]; rfl) | rfl, rfl⟩
        · have k1 := Lib.hid (idx_some h hy w)
          have hy15 := hexV_le _ hy
          replace hx := Lib.hid hx
          replace hy := Lib.hid hy
          go_wp2_with fail
          refine k1.out.mono ?_
          rintro e w2 ⟨rfl, rfl⟩
          go_wp2
          go_round
          case rel => exact ⟨4, 16 * c + y, rfl, congrArg _ (or_all c (by omega) y (by omega)), .inr (.inr ⟨rfl, h, c, y, hx.out, hy.out, rfl⟩)⟩
          case measure => simp [intOf]
      · have hRv : R = .bad 3 4 := by rw [← hR.out, hexT_one h3 hx h]
        have hb : (((3 : Nat) : Int) == (s.size : Int)) = true := beq_iff_eq.2 (by omega)
        clear hx
        go_wp2
        go_ret3
        exact ⟨by first | (rw [hRv]; rfl) | rfl, rfl⟩
    · have hx15 := hexV_le _ hx
      have hy15 := hexV_le _ hy
      have hRv : R = .ok (16 * x + y).toUInt8 4 := by rw [← hR.out, hexT_two (by omega) hx h4 hy]
      have hv : itemV (.ok (16 * x + y).toUInt8 4) = .tuple #[.int .u8 (16 * (x : Int) + (y : Int)), .int .i64 4, .int .i64 0] := by
        have h1 : ((16 * x + y).toUInt8.toNat : Int) = 16 * (x : Int) + (y : Int) := by simp; omega
        show Value.tuple #[.int .u8 ((16 * x + y).toUInt8.toNat : Int), .int .i64 4, .int .i64 0] = _
        rw [h1]
      replace hx := Lib.hid hx
      replace hy := Lib.hid hy
      replace hRv := Lib.hid hRv
      replace hv := Lib.hid hv
      go_wp2
      go_ret3
      exact ⟨by rw [hRv.out, hv.out]; rfl, rfl⟩

set_option maxRecDepth 20000 in
set_option maxHeartbeats 1000000 in
theorem saidByte_any (s : ByteArray) (w : World) (hs : s.size ≤ 16384) (h0 : 0 < s.size) :
    Calls Tryz.prog 71 #[.string s] w fun e w' => e = .returned (itemV (itemT s[0] (s.data.toList.drop 1))) ∧ w' = w := by
  obtain ⟨R, hR⟩ := exHid (itemT s[0] (s.data.toList.drop 1))
  rw [hR.out]
  rcases hp : plainC s[0] with _ | _
  · have k1 := Lib.hid (calls_at (isPlain_any s[0] w) hp)
    have hRv : R = .bad 0 9 := by rw [← hR.out]; unfold itemT; rw [if_pos hp]
    clear hp
    go_enter Tryz.func71, Tryz.ntmps71
    go_wp2_with fail
    refine k1.out.mono ?_
    rintro e w2 ⟨rfl, rfl⟩
    go_wp2
    go_ret3
    exact ⟨by first | (rw [hRv]; rfl) | rfl, rfl⟩
  · have k1 := Lib.hid (calls_at (isPlain_any s[0] w) hp)
    by_cases h92 : s[0].toNat = 92
    · have hb : (((s[0].toNat : Nat) : Int) != 92) = false := by rw [h92]; rfl
      rcases Nat.lt_or_ge 1 s.size with h1 | h1
      · have hRi : R = if s[1].toNat = 34 ∨ s[1].toNat = 92 then .ok s[1] 2 else if s[1].toNat = 110 then .ok 10 2 else if s[1].toNat = 120 then hexT (s.data.toList.drop 2) else .bad 1 9 := by
          rw [← hR.out, at_drop h1]; unfold itemT; simp [hp, h92]
        have k2 := Lib.hid (fun (h2 : 2 ≤ s.size) => hex_any s w hs h2)
        replace hRi := Lib.hid hRi
        replace h92 := Lib.hid h92
        clear hp
        go_enter Tryz.func71, Tryz.ntmps71
        by_cases c34 : s[1].toNat = 34
        · have q1 : (((s[1].toNat : Nat) : Int) == 34) = true := by rw [c34]; rfl
          replace c34 := Lib.hid c34
          go_wp2_with fail
          refine k1.out.mono ?_
          rintro e w2 ⟨rfl, rfl⟩
          go_wp2
          go_ret3
          exact ⟨by rw [hRi.out, if_pos (.inl c34.out)]; rfl, rfl⟩
        · have q1 : (((s[1].toNat : Nat) : Int) == 34) = false := beq_eq_false_iff_ne.2 (by omega)
          by_cases c92 : s[1].toNat = 92
          · have q2 : (((s[1].toNat : Nat) : Int) == 92) = true := by rw [c92]; rfl
            replace c92 := Lib.hid c92
            go_wp2_with fail
            refine k1.out.mono ?_
            rintro e w2 ⟨rfl, rfl⟩
            go_wp2
            go_ret3
            exact ⟨by rw [hRi.out, if_pos (.inr c92.out)]; rfl, rfl⟩
          · have q2 : (((s[1].toNat : Nat) : Int) == 92) = false := beq_eq_false_iff_ne.2 (by omega)
            have hRj := hRi.out
            rw [if_neg (by omega)] at hRj
            by_cases c110 : s[1].toNat = 110
            · have q3 : (((s[1].toNat : Nat) : Int) == 110) = true := by rw [c110]; rfl
              rw [if_pos c110] at hRj
              replace hRj := Lib.hid hRj
              replace c110 := Lib.hid c110
              go_wp2_with fail
              refine k1.out.mono ?_
              rintro e w2 ⟨rfl, rfl⟩
              go_wp2
              go_ret3
              exact ⟨by rw [hRj.out]; rfl, rfl⟩
            · have q3 : (((s[1].toNat : Nat) : Int) == 110) = false := beq_eq_false_iff_ne.2 (by omega)
              rw [if_neg c110] at hRj
              by_cases c120 : s[1].toNat = 120
              · have q4 : (((s[1].toNat : Nat) : Int) == 120) = true := by rw [c120]; rfl
                rw [if_pos c120] at hRj
                have k3 := Lib.hid (hex_any s w hs (by omega))
                rw [← hRj] at k3
                replace hRj := Lib.hid hRj
                replace c120 := Lib.hid c120
                go_wp2_with fail
                refine k1.out.mono ?_
                rintro e w2 ⟨rfl, rfl⟩
                go_wp2_with fail
                refine k3.out.mono ?_
                rintro e w2 ⟨rfl, rfl⟩
                clear hRj hRi hR k3
                cases R
                all_goals
                  unfold itemV
                  go_wp2
                  go_ret3
                  exact ⟨rfl, rfl⟩
              · have q4 : (((s[1].toNat : Nat) : Int) == 120) = false := beq_eq_false_iff_ne.2 (by omega)
                rw [if_neg c120] at hRj
                replace hRj := Lib.hid hRj
                go_wp2_with fail
                refine k1.out.mono ?_
                rintro e w2 ⟨rfl, rfl⟩
                go_wp2
                go_ret3
                exact ⟨by rw [hRj.out]; rfl, rfl⟩
      · have hRv : R = .bad 1 4 := by rw [← hR.out, no_drop h1]; unfold itemT; simp [hp, h92]
        have hb1 : ((s.size : Int) == 1) = true := beq_iff_eq.2 (by omega)
        replace h92 := Lib.hid h92
        replace hRv := Lib.hid hRv
        clear hp
        go_enter Tryz.func71, Tryz.ntmps71
        go_wp2_with fail
        refine k1.out.mono ?_
        rintro e w2 ⟨rfl, rfl⟩
        go_wp2
        go_ret3
        exact ⟨by rw [hRv.out]; rfl, rfl⟩
    · have hb : (((s[0].toNat : Nat) : Int) != 92) = true := by simp; omega
      have hRv : R = .ok s[0] 1 := by rw [← hR.out]; unfold itemT; simp [hp, h92]
      replace hRv := Lib.hid hRv
      clear hp
      go_enter Tryz.func71, Tryz.ntmps71
      go_wp2_with fail
      refine k1.out.mono ?_
      rintro e w2 ⟨rfl, rfl⟩
      go_wp2
      go_ret3
      exact ⟨by rw [hRv.out]; rfl, rfl⟩
end Go.Proofs.YtkmhdhnoghbkgaaGreatDoor
