/- Contracts of whole.Read: what a text says as a number, for every text. -/
import Derived.Test.YtkhbgmdjfkkkcaaDoorRead1
import Derived.Test.YtkhbgmdjfkkkcaaDoorWhole2
namespace Go.Proofs.YtkhbgmdjfkkkcaaDoor
open Go.RowKit

/-- The number that digits say, if it is at most so much. -/
def SizePost (l : List UInt8) (most : Nat) (w : World) (e : Ending) (w' : World) : Prop :=
  w = w' ∧ ((valN l ≤ most ∧ e = .returned (.tuple #[.int .u64 (valN l : Int), .bool true])) ∨ (most < valN l ∧ e = .returned (.tuple #[.int .u64 0, .bool false])))

theorem val_step (l : List UInt8) (k : Nat) (h : k < l.length) : valN (l.take (k + 1)) = 10 * valN (l.take k) + (l[k].toNat - 48) := by
  rw [take_more l k h, valN_snoc]

set_option maxHeartbeats 1000000 in
theorem readSize_any (d : ByteArray) (most : Nat) (w : World) (hs : d.size ≤ 9223372036854775807) (hall : AllD d.data.toList) (hm : 9 ≤ most) (hm2 : most ≤ 9223372036854775808) :
    Calls Tryd.prog 42 #[.string d, .int .u64 (most : Int)] w (SizePost d.data.toList most w) := by
  have hl := Lib.hid (bytes_len d)
  go_enter Tryd.func42, Tryd.ntmps42
  go_wp2
  go_loop [6, 7] (fun v i => ∃ k n : Nat, k ≤ d.size ∧ i = .int .i64 k ∧ v = .int .u64 n ∧ n = valN (d.data.toList.take k) ∧ n ≤ most) (fun _ i => d.size - (intOf i).toNat)
  case atStart => exact ⟨0, 0, Nat.zero_le _, rfl, rfl, rfl, by omega⟩
  case round =>
    obtain ⟨k, n, hk, rfl, rfl, hn, hnm⟩ := hrel
    replace hn := Lib.hid hn
    by_cases hlt : k < d.size
    · have hkl : k < d.data.toList.length := by rw [hl.out]; exact hlt
      obtain ⟨hd1, hd2⟩ := dig_at _ k hkl hall
      have hst := val_step _ k hkl
      have hle := valN_take_le d.data.toList (k + 1)
      obtain ⟨c, hc⟩ : ∃ c, d[k].toNat = c := ⟨_, rfl⟩
      have hc2 : d.data.toList[k].toNat = c := hc
      rw [hc2] at hd1 hd2 hst
      rw [← hn.out] at hst
      replace hst := Lib.hid hst
      replace hle := Lib.hid hle
      clear hc2
      have hg : IntKind.u8.wrap ((c : Int) - 48) = (c : Int) - 48 := IntWalk.u8_in _ (by omega)
      have hg2 : IntKind.u64.wrap ((c : Int) - 48) = (c : Int) - 48 := IntWalk.u64_in _ (by omega)
      have hsub : IntKind.u64.wrap ((most : Int) - ((c : Int) - 48)) = (most : Int) - ((c : Int) - 48) := IntWalk.u64_in _ (by omega)
      by_cases hb : (n : Int) > ((most : Int) - ((c : Int) - 48)) / 10
      · have hover : most < valN d.data.toList := by
          have := hst.out
          have := hle.out
          omega
        replace hover := Lib.hid hover
        go_wp2
        go_ret2
        exact ⟨rfl, .inr ⟨hover.out, rfl⟩⟩
      · have hnext : 10 * n + (c - 48) ≤ most := by omega
        have hnv : ((10 * n + (c - 48) : Nat) : Int) = 10 * (n : Int) + ((c : Int) - 48) := by omega
        replace hnv := Lib.hid hnv
        go_wp2
        go_round
        case rel => exact ⟨k + 1, 10 * n + (c - 48), by omega, by go_num, by rw [hnv.out], hst.out.symm, hnext⟩
        case measure => simp [intOf]; omega
    · have hfin : Hid (n = valN d.data.toList) := by
        have := hn.out
        rw [List.take_of_length_le (by rw [hl.out]; omega)] at this
        exact this
      go_wp2
      go_ret2
      exact ⟨rfl, .inl ⟨by rw [← hfin.out]; exact hnm, by rw [← hfin.out]; rfl⟩⟩

theorem readSize_in {d : ByteArray} {l : List UInt8} {most n : Nat} (HD : Hid (d.data.toList = l)) (H : Hid (valN l = n)) (h : n ≤ most) (hs : d.size ≤ 9223372036854775807) (hall : AllD l) (hm : 9 ≤ most) (hm2 : most ≤ 9223372036854775808) (w : World) :
    Calls Tryd.prog 42 #[.string d, .int .u64 (most : Int)] w fun e w' => e = .returned (.tuple #[.int .u64 (n : Int), .bool true]) ∧ w = w' :=
  (readSize_any d most w hs (by rw [HD.out]; exact hall) hm hm2).mono fun e w' ⟨hw, hc⟩ => by
    rw [HD.out, H.out] at hc
    rcases hc with ⟨_, h1⟩ | ⟨h1, _⟩
    · exact ⟨h1, hw⟩
    · omega
theorem readSize_out {d : ByteArray} {l : List UInt8} {most n : Nat} (HD : Hid (d.data.toList = l)) (H : Hid (valN l = n)) (h : most < n) (hs : d.size ≤ 9223372036854775807) (hall : AllD l) (hm : 9 ≤ most) (hm2 : most ≤ 9223372036854775808) (w : World) :
    Calls Tryd.prog 42 #[.string d, .int .u64 (most : Int)] w fun e w' => e = .returned (.tuple #[.int .u64 0, .bool false]) ∧ w = w' :=
  (readSize_any d most w hs (by rw [HD.out]; exact hall) hm hm2).mono fun e w' ⟨hw, hc⟩ => by
    rw [HD.out, H.out] at hc
    rcases hc with ⟨h1, _⟩ | ⟨_, h1⟩
    · omega
    · exact ⟨h1, hw⟩
theorem isNumber_is {d : ByteArray} {l : List UInt8} {m b : Bool} (HD : Hid (d.data.toList = l)) (H : Hid (isNumB l m = b)) (hs : d.size ≤ 9223372036854775807) (w : World) :
    Calls Tryd.prog 41 #[.string d, .bool m] w fun e w' => e = .returned (.bool b) ∧ w = w' :=
  (isNumber_any d m w hs).mono fun e w' ⟨he, hw⟩ => ⟨by rw [he, HD.out, H.out], hw⟩
/-- What is left behind a minus, under names of their own. -/
def CutIs (l : List UInt8) (m : Bool) (w : World) (e : Ending) (w' : World) : Prop := ∃ d : ByteArray, e = .returned (.tuple #[.string d, .bool m]) ∧ Hid (d.data.toList = l) ∧ d.size ≤ 9223372036854775807 ∧ w = w'
theorem cut_is {s : ByteArray} {l : List UInt8} {m : Bool} (H : Hid (cutL s.data.toList = (l, m))) (hs : s.size ≤ 9223372036854775807) (hl : l.length ≤ s.size) (w : World) :
    Calls Tryd.prog 40 #[.string s] w (CutIs l m w) :=
  (cut_any s w hs).mono fun e w' ⟨d, he, hd, hw⟩ => by
    rw [H.out] at he hd
    exact ⟨d, he, hd, by rw [← bytes_len, hd]; simp only; omega, hw⟩

theorem roomN_is (b : Bool) : roomN b = roomOf b := rfl
theorem signN_is (n : Nat) (b : Bool) : signN n b = signedOf n b := rfl

theorem readV_no {l : List UInt8} (h : isNumB (cutL l).1 (cutL l).2 = false) : readV l = (0, 9) := by
  unfold readV; rw [if_pos h]
theorem readV_in {l : List UInt8} (h : isNumB (cutL l).1 (cutL l).2 = true) (h2 : valN (cutL l).1 ≤ roomN (cutL l).2) : readV l = (signN (valN (cutL l).1) (cutL l).2, 0) := by
  unfold readV; rw [if_neg (by rw [h]; simp), if_pos h2]
theorem readV_out {l : List UInt8} (h : isNumB (cutL l).1 (cutL l).2 = true) (h2 : roomN (cutL l).2 < valN (cutL l).1) : readV l = (0, 2) := by
  unfold readV; rw [if_neg (by rw [h]; simp), if_neg (by omega)]
theorem cut_len (l : List UInt8) : (cutL l).1.length ≤ l.length := by
  cases l with
  | nil => exact Nat.le_refl _
  | cons c r =>
    unfold cutL
    simp only
    split <;> simp

theorem ret_read {v : Int × Int} {a b : Int} (h : v = (a, b)) : Ending.returned (.tuple #[.int .i64 a, .int .i64 b]) = .returned (.tuple #[.int .i64 v.1, .int .i64 v.2]) := by rw [h]

set_option maxHeartbeats 1000000 in
theorem read_any (s : ByteArray) (w : World) (hs : s.size ≤ 9223372036854775807) :
    Calls Tryd.prog 13 #[.string s] w fun e w' => e = .returned (.tuple #[.int .i64 (readV s.data.toList).1, .int .i64 (readV s.data.toList).2]) ∧ w = w' := by
  have hlen := cut_len s.data.toList
  rw [bytes_len] at hlen
  obtain ⟨l, hl⟩ : ∃ l, (cutL s.data.toList).1 = l := ⟨_, rfl⟩
  obtain ⟨m, hm⟩ : ∃ m, (cutL s.data.toList).2 = m := ⟨_, rfl⟩
  have hc : Hid (cutL s.data.toList = (l, m)) := by show cutL s.data.toList = (l, m); rw [← hl, ← hm]
  have h0 := @readV_no s.data.toList
  have h1 := @readV_in s.data.toList
  have h2 := @readV_out s.data.toList
  rw [hl] at hlen h0 h1 h2
  rw [hm] at h0 h1 h2
  clear hl hm
  obtain ⟨n, hn⟩ : ∃ n, valN l = n := ⟨_, rfl⟩
  rw [hn, roomN_is, signN_is] at h1
  rw [hn, roomN_is] at h2
  replace hn := Lib.hid hn
  have hr := room_le m
  cases hN : isNumB l m with
  | false =>
    have HN := Lib.hid hN
    have HR := Lib.hid (h0 hN)
    clear hN h0 h1 h2
    go_enter Tryd.func13, Tryd.ntmps13
    go_wp2_with (first
      | ((with_reducible refine (cut_is hc hs hlen _).mono ?_); rintro e w' ⟨d, rfl, hd, hds, rfl⟩)
      | ((with_reducible refine (isNumber_is (by assumption) HN (by assumption) _).mono ?_); rintro e w' ⟨rfl, rfl⟩))
    go_ret2
    exact ⟨ret_read HR.out, rfl⟩
  | true =>
    have hall : AllD l := isNum_all hN
    have HN := Lib.hid hN
    by_cases hv : n ≤ roomOf m
    · have HR := Lib.hid (h1 hN hv)
      clear hN h0 h1 h2
      go_enter Tryd.func13, Tryd.ntmps13
      go_wp2_with (first
        | ((with_reducible refine (cut_is hc hs hlen _).mono ?_); rintro e w' ⟨d, rfl, hd, hds, rfl⟩)
        | ((with_reducible refine (isNumber_is (by assumption) HN (by assumption) _).mono ?_); rintro e w' ⟨rfl, rfl⟩)
        | ((with_reducible refine (room_any _ _).mono ?_); rintro e w' ⟨rfl, rfl⟩)
        | ((with_reducible refine (readSize_in (by assumption) hn hv (by assumption) hall (by omega) (by omega) _).mono ?_); rintro e w' ⟨rfl, rfl⟩)
        | ((with_reducible refine (signed_any _ _ _ hv).mono ?_); rintro e w' ⟨rfl, rfl⟩))
      go_ret2
      exact ⟨ret_read HR.out, rfl⟩
    · have hv2 : roomOf m < n := by omega
      have HR := Lib.hid (h2 hN hv2)
      clear hN h0 h1 h2 hv
      go_enter Tryd.func13, Tryd.ntmps13
      go_wp2_with (first
        | ((with_reducible refine (cut_is hc hs hlen _).mono ?_); rintro e w' ⟨d, rfl, hd, hds, rfl⟩)
        | ((with_reducible refine (isNumber_is (by assumption) HN (by assumption) _).mono ?_); rintro e w' ⟨rfl, rfl⟩)
        | ((with_reducible refine (room_any _ _).mono ?_); rintro e w' ⟨rfl, rfl⟩)
        | ((with_reducible refine (readSize_out (by assumption) hn hv2 (by assumption) hall (by omega) (by omega) _).mono ?_); rintro e w' ⟨rfl, rfl⟩))
      go_ret2
      exact ⟨ret_read HR.out, rfl⟩
end Go.Proofs.YtkhbgmdjfkkkcaaDoor
