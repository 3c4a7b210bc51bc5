/- The law's Many, and Alike as a call that only draws (layer 8), walked. Lists of at most 4000000000000 twigs each. -/
import Derived.Test.YthgkkdhalcpgbaaRTrs
import Derived.Test.YthgkkdhalcpgbaaRAlike
namespace Go.Proofs.Ythgkkdhalcpgbaa
open Go.RowKit Go.Shelf

theorem drewN_add (w : World) (a b : Nat) : (w.drewN a).drewN b = w.drewN (a + b) := by
  simp [World.drewN, Nat.add_assoc]
theorem flat_take_one {ps : List (List Tw)} {i : Nat} (h : i < ps.length) : (ps.take (i + 1)).flatten.length = (ps.take i).flatten.length + (ps.getD i []).length := by
  rw [List.take_add_one, List.getD_eq_getElem?_getD, List.getElem?_eq_getElem h, List.flatten_append]
  simp
set_option maxRecDepth 20000 in
set_option maxHeartbeats 1000000 in
theorem alike_quiet {w : World} {v1 v2 : Value} {ts : List Tw} (h1 : TwIn w v1 ts) (h2 : TwIn w v2 ts) :
    Calls Try.prog 12 #[v1, v2] w fun e w' => e = .returned (.bool true) ∧ ∃ n, w' = w.drewN n := by
  obtain ⟨a1, cap1, rfl, _, _, k1⟩ := h1
  obtain ⟨a2, cap2, rfl, hlc, hcm, k2⟩ := h2
  have hne : ((ts.length : Int) != (ts.length : Int)) = false := by simp
  replace k1 := Lib.hid k1
  replace k2 := Lib.hid k2
  go_enter Try.func12, Try.ntmps12
  go_wp2
  go_loopw [5] (fun t5 wr => ∃ i k : Nat, i ≤ ts.length ∧ t5 = .int .i64 i ∧ wr = w.drewN k) (fun t5 _ => ts.length - (intOf t5).toNat)
  case atStart => exact ⟨0, 0, by omega, rfl, rfl⟩
  case round =>
    obtain ⟨i, k, hi, rfl, hwr⟩ := hrel
    have hbw : Below w.heap.size w wr := by rw [hwr]; exact below_drewN (Below.refl _ _) _
    rcases Nat.lt_or_ge i ts.length with hlt | hge
    · obtain ⟨b1, o1, rfl, hl1, hc1⟩ := k1.out (by omega)
      obtain ⟨b2, o2, rfl, hl2, hc2⟩ := k2.out (by omega)
      have hlti : (i : Int) < (ts.length : Int) := by omega
      have x1 := fun n c (h : c < 4) => ((below_drewN hbw n).cell (p := ⟨b1, o1 + i * 4 + c, none⟩) hl1).trans (hc1 i hlt c h)
      have x2 := fun n c (h : c < 4) => ((below_drewN hbw n).cell (p := ⟨b2, o2 + i * 4 + c, none⟩) hl2).trans (hc2 i hlt c h)
      generalize ts[i] = t at *
      obtain ⟨op, kids, num, text⟩ := t
      have p0 := fun n => x1 n 0 (by omega); have p1 := fun n => x1 n 1 (by omega); have p2 := fun n => x1 n 2 (by omega); have p3 := fun n => x1 n 3 (by omega)
      have q0 := fun n => x2 n 0 (by omega); have q1 := fun n => x2 n 1 (by omega); have q2 := fun n => x2 n 2 (by omega); have q3 := fun n => x2 n 3 (by omega)
      simp only [twC, List.getElem?_cons_succ, List.getElem?_cons_zero, Nat.add_zero] at p0 p1 p2 p3 q0 q1 q2 q3
      clear x1 x2 hc1 hc2
      replace hbw := Lib.hid hbw
      replace hwr := Lib.hid hwr
      go_wp2
      go_quiet (fail)
      go_wp2
      go_roundw
      case rel => exact ⟨i + 1, k + nq, by omega, by go_num, by rw [hwr.out, drewN_add]⟩
      case measure => simp [intOf]; omega
    · obtain rfl : i = ts.length := by omega
      have hlti : ¬ ((ts.length : Int) < (ts.length : Int)) := by omega
      replace hwr := Lib.hid hwr
      go_wp2
      go_ret
      exact ⟨rfl, k, hwr.out⟩
def ManyPost (ps : List (List Tw)) (w : World) (e : Ending) (w' : World) : Prop := ∃ b, e = .returned (.bool b) ∧ (b = false → ps.flatten.length ≤ 6000 ∧ ps.length ≤ 3001) ∧ w' = w
set_option maxRecDepth 20000 in
set_option maxHeartbeats 1000000 in
theorem Many_any {w : World} {v : Value} {ps : List (List Tw)} (hT : TrsIn w v ps) (hl : ∀ p ∈ ps, p.length ≤ 4000000000000) :
    Calls Try.prog 13 #[v] w (ManyPost ps w) := by
  have hTT := Lib.hid hT
  obtain ⟨a, cap, rfl, hlc, hcm, _⟩ := hT
  obtain ⟨n, hn⟩ := exHid ps.length
  rw [hn.out] at hlc ⊢
  replace hl := Lib.hid hl
  go_enter Try.func13, Try.ntmps13
  go_wp2_with fail
  go_loopw [3, 4] (fun t3 t4 wr => ∃ i m : Nat, i ≤ n ∧ t4 = .int .i64 i ∧ t3 = .int .i64 m ∧ m ≤ 4000000007000 ∧ i ≤ 3001 ∧ Hid (m = (ps.take i).flatten.length) ∧ wr = w) (fun _ t4 _ => n - (intOf t4).toNat)
  case atStart => exact ⟨0, 0, by omega, by go_num, by go_num, by omega, by omega, Lib.hid rfl, rfl⟩
  case round =>
    obtain ⟨i, m, hi, rfl, rfl, hm, hi2, hm2, rfl⟩ := hrel
    rcases Nat.lt_or_ge i n with hlt | hge
    · have hlti : (i : Int) < (n : Int) := by omega
      have hip : i < ps.length := by rw [hn.out]; exact hlt
      obtain ⟨a', cap', e', _, _, h3⟩ := hTT.out
      injection e' with e1 e2 e3
      subst e1 e3
      obtain ⟨g, off, rfl, hg, hc⟩ := h3 (by omega)
      obtain ⟨u, hu, ua, uc, rfl, hx1, hx2, hx3⟩ := hc i hip
      clear hx3
      have hpl := hl.out (ps.getD i []) (by rw [List.getD_eq_getElem?_getD, List.getElem?_eq_getElem hip]; exact List.getElem_mem _)
      have hfo := flat_take_one hip
      generalize (ps.getD i []).length = pl at *
      replace hfo := Lib.hid hfo
      clear hc h3 e2
      by_cases h6 : 6000 < m
      · have h6i : (6000 : Int) < (m : Int) := by omega
        go_wp2
        go_ret
        exact ⟨true, rfl, fun h => (by cases h), rfl⟩
      · have h6i : ¬ (6000 : Int) < (m : Int) := by omega
        by_cases h7 : 3000 < i
        · have h7i : (3000 : Int) < (i : Int) := by omega
          go_wp2
          go_ret
          exact ⟨true, rfl, fun h => (by cases h), rfl⟩
        · have h7i : ¬ (3000 : Int) < (i : Int) := by omega
          go_wp2
          go_roundw
          case rel => exact ⟨i + 1, m + pl, by omega, by go_num, by go_num, by omega, by omega, Lib.hid (by rw [hfo.out, hm2.out]), trivial⟩
          case measure => simp [intOf]; omega
    · obtain rfl : i = n := by omega
      have hlti : ¬ ((i : Int) < (i : Int)) := by omega
      have hfm : m = ps.flatten.length := by rw [hm2.out, List.take_of_length_le (by rw [hn.out]; omega)]
      replace hfm := Lib.hid hfm
      go_wp2
      go_ret
      refine ⟨_, rfl, fun h => ?_, rfl⟩
      have h' : ¬ (6000 : Int) < (m : Int) := by simpa using h
      exact ⟨by rw [← hfm.out]; omega, by rw [hn.out]; omega⟩
end Go.Proofs.Ythgkkdhalcpgbaa
