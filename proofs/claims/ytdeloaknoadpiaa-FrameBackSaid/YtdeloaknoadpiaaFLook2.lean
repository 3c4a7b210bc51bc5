/- look: what bytes say as a frame (layer 6), walked: the body's sum. -/
import Derived.Test.YtdeloaknoadpiaaFLook
namespace Go.Proofs.Ytdeloaknoadpiaa
open Go.RowKit Crc

section
variable {w : World} {base : Nat} {v : Value} {l : List Nat}
section
variable {b off cap : Nat}
set_option maxRecDepth 20000 in
set_option maxHeartbeats 500000 in
theorem look_sum2 (h : Looks w b off cap l) (h8 : 8 ≤ l.length) (hc : l.length ≤ cap) (hm : cap ≤ 9223372036854775807) (hne : num4 (l.drop 4) = sum (l.take 4)) (hN : num4 l ≤ 65536) (hL : 8 + num4 l + 4 ≤ l.length) (hne2 : num4 (l.drop (8 + num4 l)) ≠ sum ((l.drop 8).take (num4 l))) :
    Calls Try.prog 26 #[.slice (some ⟨b, off, none⟩) l.length cap] w fun e w' => e = .returned (.tuple #[.slice none 0 0, .int .i64 (8 + num4 l : Nat), .int .i64 8]) ∧ Below w.heap.size w w' := by
  obtain ⟨k1, k2, k3, k4, k5⟩ := h
  have hn : ¬ (l.length : Int) < (8 : Int) := by omega
  have i4 : (4 : Int) ≤ (l.length : Int) := by omega
  have j4 : (4 : Int) ≤ (cap : Int) := by omega
  have x4 : ¬ cap = 4 := by omega
  generalize num4 (l.drop 4) = A at k1 hne
  generalize sum (l.take 4) = S at k2 hne
  have hne1 : ((A : Int) != (S : Int)) = false := by simp; omega
  replace k4 := k4 hL
  replace k5 := k5 hL
  generalize num4 (l.drop (8 + num4 l)) = A2 at k4 hne2
  generalize sum ((l.drop 8).take (num4 l)) = S2 at k5 hne2
  generalize num4 l = M at k3 k4 k5 hN hL ⊢
  have hN1 : ¬ (65536 : Int) < (M : Int) := by omega
  have hL1 : ¬ (l.length : Int) < 8 + (M : Int) + 4 := by omega
  have i8 : (8 : Int) ≤ 8 + (M : Int) := by omega
  have j8 : 8 + (M : Int) ≤ (cap : Int) := by omega
  have jl : 8 + (M : Int) ≤ (l.length : Int) := by omega
  have x8 : ¬ cap = 8 := by omega
  have xM : ¬ cap = 8 + M := by omega
  have hne3 : ((A2 : Int) != (S2 : Int)) = true := by simp; omega
  have hk := Below.refl w.heap.size w
  go_enter Try.func26, Try.ntmps26
  go_wp2
  go_region_with (first
    | (go_at_call 33; refine (k1 _ (by go_grown)).mono ?_; rintro e w' ⟨rfl, hb⟩; have hk : Below w.heap.size w _ := below_next (by go_grown) hb; have hz := hk.size)
    | (go_at_call 15; refine (k2 _ (by go_grown)).mono ?_; rintro e w' ⟨rfl, hb⟩; have hk : Below w.heap.size w _ := below_next (by go_grown) hb; have hz := hk.size))
  all_goals
    go_wp2_with fail
    refine (k3 _ hk).mono ?_
    rintro e w2 ⟨rfl, hb2⟩
    have hk2 : Below w.heap.size w _ := below_next hk hb2
    have hz2 := hk2.size
    go_wp2_with fail
    refine (k4 _ hk2).mono ?_
    rintro e w3 ⟨rfl, hb3⟩
    have hk3 : Below w.heap.size w _ := below_next hk2 hb3
    go_wp2_with fail
    refine (k5 _ hk3).mono ?_
    rintro e w4 ⟨rfl, hb4⟩
    have hk : Below w.heap.size w _ := below_next hk3 hb4
    go_wp2
    go_ret3
    exact ⟨rfl, hk⟩
set_option maxRecDepth 20000 in
set_option maxHeartbeats 500000 in
theorem look_ok (h : Looks w b off cap l) (h8 : 8 ≤ l.length) (hc : l.length ≤ cap) (hm : cap ≤ 9223372036854775807) (hne : num4 (l.drop 4) = sum (l.take 4)) (hN : num4 l ≤ 65536) (hL : 8 + num4 l + 4 ≤ l.length) (hne2 : num4 (l.drop (8 + num4 l)) = sum ((l.drop 8).take (num4 l))) :
    Calls Try.prog 26 #[.slice (some ⟨b, off, none⟩) l.length cap] w fun e w' => e = .returned (.tuple #[.slice (some ⟨b, off + 8, none⟩) (num4 l) (cap - 8), .int .i64 (8 + num4 l + 4 : Nat), .int .i64 0]) ∧ Below w.heap.size w w' := by
  obtain ⟨k1, k2, k3, k4, k5⟩ := h
  have hn : ¬ (l.length : Int) < (8 : Int) := by omega
  have i4 : (4 : Int) ≤ (l.length : Int) := by omega
  have j4 : (4 : Int) ≤ (cap : Int) := by omega
  have x4 : ¬ cap = 4 := by omega
  generalize num4 (l.drop 4) = A at k1 hne
  generalize sum (l.take 4) = S at k2 hne
  have hne1 : ((A : Int) != (S : Int)) = false := by simp; omega
  replace k4 := k4 hL
  replace k5 := k5 hL
  generalize num4 (l.drop (8 + num4 l)) = A2 at k4 hne2
  generalize sum ((l.drop 8).take (num4 l)) = S2 at k5 hne2
  generalize num4 l = M at k3 k4 k5 hN hL ⊢
  have hN1 : ¬ (65536 : Int) < (M : Int) := by omega
  have hL1 : ¬ (l.length : Int) < 8 + (M : Int) + 4 := by omega
  have i8 : (8 : Int) ≤ 8 + (M : Int) := by omega
  have j8 : 8 + (M : Int) ≤ (cap : Int) := by omega
  have jl : 8 + (M : Int) ≤ (l.length : Int) := by omega
  have x8 : ¬ cap = 8 := by omega
  have xM : ¬ cap = 8 + M := by omega
  have hne3 : ((A2 : Int) != (S2 : Int)) = false := by simp; omega
  have hk := Below.refl w.heap.size w
  go_enter Try.func26, Try.ntmps26
  go_wp2
  go_region_with (first
    | (go_at_call 33; refine (k1 _ (by go_grown)).mono ?_; rintro e w' ⟨rfl, hb⟩; have hk : Below w.heap.size w _ := below_next (by go_grown) hb; have hz := hk.size)
    | (go_at_call 15; refine (k2 _ (by go_grown)).mono ?_; rintro e w' ⟨rfl, hb⟩; have hk : Below w.heap.size w _ := below_next (by go_grown) hb; have hz := hk.size))
  all_goals
    go_wp2_with fail
    refine (k3 _ hk).mono ?_
    rintro e w2 ⟨rfl, hb2⟩
    have hk2 : Below w.heap.size w _ := below_next hk hb2
    have hz2 := hk2.size
    go_wp2_with fail
    refine (k4 _ hk2).mono ?_
    rintro e w3 ⟨rfl, hb3⟩
    have hk3 : Below w.heap.size w _ := below_next hk2 hb3
    go_wp2_with fail
    refine (k5 _ hk3).mono ?_
    rintro e w4 ⟨rfl, hb4⟩
    have hk : Below w.heap.size w _ := below_next hk3 hb4
    go_wp2
    go_ret3
    exact ⟨rfl, hk⟩
/-- What look tells: a piece of the bytes. -/
theorem look_any (h : Bs w v l) :
    Calls Try.prog 26 #[v] w fun e w' => ∃ v', e = .returned (.tuple #[v', .int .i64 (readL l).n, .int .i64 (readL l).code]) ∧ Bs w' v' (readL l).body ∧ (∀ k, RowOf v' k → RowOf v k) ∧ Below w.heap.size w w' := by
  have hB := h
  obtain ⟨a, cap, rfl, hBy, h1, h2, h3⟩ := h
  unfold readL
  have hnil : ∀ k, RowOf (.slice none 0 0) k → RowOf (.slice a l.length cap) k := fun k hk => by cases hk
  by_cases c1 : l.length < 8
  · rw [if_pos c1]
    exact (look_short c1 a cap).mono fun e w' ⟨he, hw⟩ => ⟨_, he, hw ▸ Bs.nil _, hnil, hw ▸ Below.refl _ _⟩
  rw [if_neg c1]
  obtain ⟨b, off, rfl, _, _⟩ := hBy (by omega)
  have hL := looks_of hB (by omega)
  by_cases c2 : num4 (l.drop 4) ≠ sum (l.take 4)
  · rw [if_pos c2]
    exact (look_sum hL (by omega) h1 h2 c2).mono fun e w' ⟨he, hw⟩ => ⟨_, he, Bs.nil _, hnil, hw⟩
  rw [if_neg c2]
  have c2' : num4 (l.drop 4) = sum (l.take 4) := Classical.not_not.1 c2
  by_cases c3 : 65536 < num4 l
  · rw [if_pos c3]
    exact (look_long hL (by omega) h1 h2 c2' c3).mono fun e w' ⟨he, hw⟩ => ⟨_, he, Bs.nil _, hnil, hw⟩
  rw [if_neg c3]
  by_cases c4 : l.length < 8 + num4 l + 4
  · rw [if_pos c4]
    exact (look_short2 hL (by omega) h1 h2 c2' (by omega) c4).mono fun e w' ⟨he, hw⟩ => ⟨_, he, Bs.nil _, hnil, hw⟩
  rw [if_neg c4]
  by_cases c5 : num4 (l.drop (8 + num4 l)) ≠ sum ((l.drop 8).take (num4 l))
  · rw [if_pos c5]
    exact (look_sum2 hL (by omega) h1 h2 c2' (by omega) (by omega) c5).mono fun e w' ⟨he, hw⟩ => ⟨_, he, Bs.nil _, hnil, hw⟩
  rw [if_neg c5]
  exact (look_ok hL (by omega) h1 h2 c2' (by omega) (by omega) (Classical.not_not.1 c5)).mono fun e w' ⟨he, hw⟩ => ⟨_, he, bs_piece (hB.below hw) 8 (num4 l) (by omega), fun k hk => hk, hw⟩
end
end
end Go.Proofs.Ytdeloaknoadpiaa
