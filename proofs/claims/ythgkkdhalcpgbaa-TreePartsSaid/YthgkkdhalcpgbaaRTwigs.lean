/- tree's twigs (layer 8): how many twigs the tree at a list's beginning has. No condition. -/
import Derived.Test.YthgkkdhalcpgbaaRPass
namespace Go.Proofs.Ythgkkdhalcpgbaa
open Go.RowKit Go.Shelf

/-- Where so many trees one behind the other end. -/
def endL : List Tw → Nat → Option Nat
  | _, 0 => some 0
  | [], _ + 1 => none
  | x :: r, m + 1 => (endL r (m + x.kids.toNat)).map (· + 1)
theorem endL_zero (ts : List Tw) : endL ts 0 = some 0 := by cases ts <;> rfl
theorem endL_le : ∀ (ts : List Tw) (m n : Nat), endL ts m = some n → n ≤ ts.length
  | ts, 0, n, h => by rw [endL_zero] at h; cases h; exact Nat.zero_le _
  | [], m + 1, n, h => by cases h
  | x :: r, m + 1, n, h => by
    unfold endL at h
    rcases he : endL r (m + x.kids.toNat) with _ | k
    · rw [he] at h; cases h
    · rw [he] at h
      cases h
      have := endL_le r _ _ he
      simp only [List.length_cons]
      omega
set_option maxRecDepth 20000 in
set_option maxHeartbeats 1000000 in
theorem twigs_any {v : Value} {ts : List Tw} {n : Nat} (w : World) (hT : TwIn w v ts) (hk : ∀ x ∈ ts, 0 ≤ x.kids ∧ x.kids ≤ 2048) (hl : ts.length ≤ 2048) (he : endL ts 1 = some n) :
    Calls Try.prog 22 #[v] w fun e w' => e = .returned (.int .i64 n) ∧ w' = w := by
  obtain ⟨a, cap, rfl, hlc, hcm, k1⟩ := hT
  replace k1 := Lib.hid k1
  replace hk := Lib.hid hk
  go_enter Try.func22, Try.ntmps22
  go_wp2
  go_loopw [3, 4] (fun t3 t4 wr => ∃ i m : Nat, i ≤ ts.length ∧ m ≤ 1 + 2048 * i ∧ t3 = .int .i64 i ∧ t4 = .int .i64 m ∧ wr = w ∧ Hid (∃ r, endL (ts.drop i) m = some r ∧ i + r = n)) (fun t3 _ _ => ts.length - (intOf t3).toNat)
  case atStart => exact ⟨0, 1, by omega, by omega, rfl, rfl, rfl, Lib.hid ⟨n, he, by omega⟩⟩
  case round =>
    obtain ⟨i, m, hi, hm, rfl, rfl, rfl, hr⟩ := hrel
    obtain ⟨r, hr1, hr2⟩ := hr.out
    rcases Nat.eq_zero_or_pos m with hm0 | hm0
    · rw [hm0, endL_zero] at hr1
      cases hr1
      have hni : i = n := by omega
      have hm0i : ¬ (0 : Int) < (m : Int) := by omega
      replace hni := Lib.hid hni
      clear hr hr2 hm0 hm
      go_wp2
      go_ret
      exact ⟨by rw [hni.out]; rfl, rfl⟩
    · obtain ⟨m, rfl⟩ : ∃ k, m = k + 1 := ⟨m - 1, by omega⟩
      rcases Nat.lt_or_ge i ts.length with hlt | hge
      · obtain ⟨b1, o1, rfl, hl1, hc1⟩ := k1.out (by omega)
        have hlti : (i : Int) < (ts.length : Int) := by omega
        have p1 := hc1 i hlt 1 (by omega)
        have hk2 := hk.out ts[i] (List.getElem_mem hlt)
        rw [List.drop_eq_getElem_cons hlt] at hr1
        unfold endL at hr1
        rcases htw : ts[i] with ⟨op, kids, num, text⟩
        rw [htw] at p1 hk2 hr1
        dsimp only at hk2 hr1
        obtain ⟨kn, rfl⟩ : ∃ kn : Nat, kids = kn := ⟨kids.toNat, by omega⟩
        simp only [twC, List.getElem?_cons_succ, List.getElem?_cons_zero] at p1
        have hnew : ∃ r', endL (ts.drop (i + 1)) (m + kn) = some r' ∧ i + 1 + r' = n := by
          rcases hq : endL (ts.drop (i + 1)) (m + kn) with _ | k
          · simp [hq] at hr1
          · simp [hq] at hr1
            exact ⟨k, rfl, by omega⟩
        replace hnew := Lib.hid hnew
        have hkn : kn ≤ 2048 := by omega
        have hmb : m ≤ 5000000 := by omega
        have hm2 : m + kn ≤ 1 + 2048 * (i + 1) := by omega
        have hm0i : (0 : Int) < ((m + 1 : Nat) : Int) := by omega
        clear hr hr1 hr2 hc1 htw hk2
        go_wp2
        go_roundw
        case rel => exact ⟨i + 1, m + kn, by omega, hm2, by go_num, by go_num, trivial, hnew⟩
        case measure => simp [intOf]; omega
      · rw [List.drop_eq_nil_of_le hge] at hr1
        cases hr1
end Go.Proofs.Ythgkkdhalcpgbaa
