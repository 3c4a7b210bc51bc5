/- The document's End (layer 8), walked. No condition. -/
import Derived.Test.YtnghfjlmmmjekaaREndL
namespace Go.Proofs.Ytnghfjlmmmjekaa
open Go.RowKit Go.Shelf

theorem endL_split : ∀ (L : List Tw) (m k r : Nat), endL L (m + k) = some r → ∃ a b, endL L m = some a ∧ endL (L.drop a) k = some b ∧ a + b = r
  | L, 0, k, r, h => ⟨0, r, endL_zero L, by simpa using h, by omega⟩
  | [], m + 1, k, r, h => by rw [show m + 1 + k = (m + k) + 1 by omega] at h; cases h
  | x :: t, m + 1, k, r, h => by
    rw [show m + 1 + k = (m + k) + 1 by omega] at h
    unfold endL at h
    rcases hq : endL t (m + k + x.kids.toNat) with _ | q
    · rw [hq] at h; cases h
    · rw [hq] at h
      cases h
      obtain ⟨a, b, h1, h2, h3⟩ := endL_split t (m + x.kids.toNat) k q (by rw [← hq]; congr 1; omega)
      refine ⟨a + 1, b, ?_, ?_, by show a + 1 + b = q + 1; omega⟩
      · unfold endL
        rw [h1]
        rfl
      · simpa using h2
set_option maxRecDepth 20000 in
set_option maxHeartbeats 1000000 in
theorem refEnd_any {v : Value} {ts : List Tw} (w : World) (hT : TwIn w v ts) (hk : ∀ x ∈ ts, 0 ≤ x.kids ∧ x.kids ≤ 2048) (hl : ts.length ≤ 5000) : ∀ (fuel at_ n : Nat), ts.length - at_ ≤ fuel → at_ ≤ ts.length → endL (ts.drop at_) 1 = some n →
    Calls Try.prog 37 #[v, .int .i64 at_] w fun e w' => e = .returned (.int .i64 ((at_ + n : Nat) : Int)) ∧ w' = w := by
  intro fuel
  obtain ⟨a, cap, rfl, hlc, hcm, k1⟩ := hT
  replace k1 := Lib.hid k1
  replace hk := Lib.hid hk
  induction fuel with
  | zero =>
    intro at_ n h1 h2 h3
    rw [List.drop_eq_nil_of_le (by omega)] at h3
    cases h3
  | succ fuel ih =>
    intro at_ n h1 h2 h3
    rcases Nat.lt_or_ge at_ ts.length with hlt | hge
    · obtain ⟨b1, o1, rfl, hl1, hc1⟩ := k1.out (by omega)
      have hlti : (at_ : Int) < (ts.length : Int) := by omega
      have p1 := hc1 at_ hlt 1 (by omega)
      have hk2 := hk.out ts[at_] (List.getElem_mem hlt)
      rw [List.drop_eq_getElem_cons hlt] at h3
      unfold endL at h3
      rcases htw : ts[at_] with ⟨op, kids, num, text⟩
      rw [htw] at p1 hk2 h3
      dsimp only at hk2 h3
      obtain ⟨kn, rfl⟩ : ∃ kn : Nat, kids = kn := ⟨kids.toNat, by omega⟩
      simp only [twC, List.getElem?_cons_succ, List.getElem?_cons_zero] at p1
      have hkn : kn ≤ 2048 := by omega
      obtain ⟨r0, hr0, hr1⟩ : ∃ r, endL (ts.drop (at_ + 1)) kn = some r ∧ r + 1 = n := by
        rcases hq : endL (ts.drop (at_ + 1)) kn with _ | k
        · simp [hq] at h3
        · simp [hq] at h3
          exact ⟨k, rfl, h3⟩
      have hi1 : IntKind.i64.wrap ((at_ : Int) + 1) = (at_ : Int) + 1 := IntWalk.i64_in _ (by omega)
      replace hr0 := Lib.hid hr0
      replace hr1 := Lib.hid hr1
      replace ih := Lib.hid ih
      clear h3 hc1 htw hk2
      go_enter Try.func37, Try.ntmps37
      go_wp2_with fail
      go_loopw [1, 6] (fun t1 ti wr => ∃ i p : Nat, i ≤ kn ∧ p ≤ ts.length ∧ at_ + 1 ≤ p ∧ t1 = .int .i64 p ∧ ti = .int .i64 i ∧ wr = w ∧ Hid (∃ r, endL (ts.drop p) (kn - i) = some r ∧ p + r = at_ + n)) (fun _ ti _ => kn - (intOf ti).toNat)
      case atStart => exact ⟨0, at_ + 1, by omega, by omega, by omega, by go_num, rfl, rfl, Lib.hid ⟨r0, hr0.out, by have := hr1.out; omega⟩⟩
      case round =>
        obtain ⟨i, p, hi, hp, hp2, rfl, rfl, rfl, hr⟩ := hrel
        rcases Nat.lt_or_ge i kn with hik | hik
        · have hiki : (i : Int) < (kn : Int) := by omega
          obtain ⟨r, e1, e2⟩ := hr.out
          rw [show kn - i = 1 + (kn - (i + 1)) by omega] at e1
          obtain ⟨x, y, f1, f2, f3⟩ := endL_split _ _ _ _ e1
          have f4 := endL_le _ _ _ f1
          rw [List.length_drop] at f4
          rw [List.drop_drop] at f2
          have c := Lib.hid (ih.out p x (by omega) hp f1)
          have hnew := Lib.hid (show ∃ r, endL (ts.drop (p + x)) (kn - (i + 1)) = some r ∧ p + x + r = at_ + n from ⟨y, f2, by omega⟩)
          have hpx : p + x ≤ ts.length := by omega
          clear e1 f1 f2 e2 hr
          go_wp2_with fail
          refine c.out.mono ?_
          rintro e w2 ⟨rfl, rfl⟩
          go_wp2_with fail
          go_roundw
          case rel => exact ⟨i + 1, p + x, by omega, hpx, by omega, by go_num, by go_num, trivial, hnew⟩
          case measure => simp [intOf]; omega
        · have hiki : ¬ (i : Int) < (kn : Int) := by omega
          obtain ⟨r, e1, e2⟩ := hr.out
          rw [show kn - i = 0 by omega, endL_zero] at e1
          cases e1
          have e3 := Lib.hid (show (p : Int) = (at_ : Int) + (n : Int) by omega)
          clear hr e2 hik
          go_wp2_with fail
          go_ret
          exact ⟨by rw [← e3.out]; rfl, rfl⟩
    · rw [List.drop_eq_nil_of_le hge] at h3
      cases h3
end Go.Proofs.Ytnghfjlmmmjekaa
