/- The document's Read (layer 6), walked. -/
import Derived.Test.YtdeloaknoadpiaaFRef2
import Derived.Deep.RegionWith
namespace Go.Proofs.Ytdeloaknoadpiaa
open Go.RowKit Crc

section
variable {w : World} {base : Nat} {v : Value} {l : List Nat}
theorem refRead_short (hl : l.length < 8) (a : Option Addr) (cap : Nat) :
    Calls Try.prog 19 #[.slice a l.length cap] w fun e w' => e = .returned (.tuple #[.slice none 0 0, .int .i64 l.length, .int .i64 4]) ∧ w = w' := by
  have hn : (l.length : Int) < (8 : Int) := by omega
  go_enter Try.func19, Try.ntmps19
  go_wp2
  go_ret3
  exact ⟨rfl, rfl⟩

theorem num4_take {l : List Nat} {k : Nat} (hk : 4 ≤ k) : num4 (l.take k) = num4 l := by
  have e : ∀ i, i < 4 → (l.take k).getD i 0 = l.getD i 0 := fun i hi => by
    rw [List.getD_eq_getElem?_getD, List.getD_eq_getElem?_getD, List.getElem?_take, if_pos (by omega)]
  unfold num4
  rw [e 0 (by omega), e 1 (by omega), e 2 (by omega), e 3 (by omega)]
section
variable {b off cap : Nat}
/-- The calls that the document's Read makes. -/
structure RLooks (w : World) (b off cap : Nat) (l : List Nat) : Prop where
  k1 : ∀ W, Below w.heap.size w W → Calls Try.prog 31 #[.slice (some ⟨b, off + 4, none⟩) 4 (cap - 4)] W fun e w' => e = .returned (.int .u32 (num4 (l.drop 4) : Nat)) ∧ w' = W
  k2 : ∀ W, Below w.heap.size w W → Calls Try.prog 18 #[.slice (some ⟨b, off, none⟩) 4 cap] W fun e w' => e = .returned (.int .u32 (sum (l.take 4) : Nat)) ∧ w' = W
  k3 : ∀ W, Below w.heap.size w W → Calls Try.prog 31 #[.slice (some ⟨b, off, none⟩) 4 cap] W fun e w' => e = .returned (.int .u32 (num4 l : Nat)) ∧ w' = W
  k4 : 8 + num4 l + 4 ≤ l.length → ∀ W, Below w.heap.size w W → Calls Try.prog 31 #[.slice (some ⟨b, off + (8 + num4 l), none⟩) 4 (cap - (8 + num4 l))] W fun e w' => e = .returned (.int .u32 (num4 (l.drop (8 + num4 l)) : Nat)) ∧ w' = W
  k5 : 8 + num4 l + 4 ≤ l.length → ∀ W, Below w.heap.size w W → Calls Try.prog 18 #[.slice (some ⟨b, off + 8, none⟩) (num4 l) (cap - 8)] W fun e w' => e = .returned (.int .u32 (sum ((l.drop 8).take (num4 l)) : Nat)) ∧ w' = W
  k6 : 8 + num4 l + 4 ≤ l.length → ∀ W, Below w.heap.size w W → Bs W (.slice (some ⟨b, off + 8, none⟩) (num4 l) (cap - 8)) ((l.drop 8).take (num4 l))
theorem refNumber_of {m : List Nat} (h : Bs w v (m.take 4)) (hl : 4 ≤ m.length) : Calls Try.prog 31 #[v] w fun e w' => e = .returned (.int .u32 (num4 m : Nat)) ∧ w' = w := by
  have := refNumber_any h (by rw [List.length_take]; omega)
  rw [num4_take (Nat.le_refl 4)] at this
  exact this.mono fun _ _ ⟨h1, h2⟩ => ⟨h1, h2.symm⟩
theorem refSum_of (h : Bs w v l) : Calls Try.prog 18 #[v] w fun e w' => e = .returned (.int .u32 (sum l : Nat)) ∧ w' = w := (refSum_any h).mono fun _ _ ⟨h1, h2⟩ => ⟨h1, h2.symm⟩
theorem rlooks_of (h : Bs w (.slice (some ⟨b, off, none⟩) l.length cap) l) (h8 : 8 ≤ l.length) : RLooks w b off cap l where
  k1 := fun W hb => refNumber_of (bs_piece (h.below hb) 4 4 (by omega)) (by rw [List.length_drop]; omega)
  k2 := fun W hb => refSum_of (bs_head (h.below hb) 4 (by omega))
  k3 := fun W hb => refNumber_of (bs_head (h.below hb) 4 (by omega)) (by omega)
  k4 := fun hn W hb => refNumber_of (bs_piece (h.below hb) (8 + num4 l) 4 (by omega)) (by rw [List.length_drop]; omega)
  k5 := fun hn W hb => refSum_of (bs_piece (h.below hb) 8 (num4 l) (by omega))
  k6 := fun hn W hb => bs_piece (h.below hb) 8 (num4 l) (by omega)

set_option maxRecDepth 20000 in
set_option maxHeartbeats 1000000 in
theorem refRead_sum (h : RLooks w b off cap l) (h8 : 8 ≤ l.length) (hc : l.length ≤ cap) (hm : cap ≤ 9223372036854775807) (hne : num4 (l.drop 4) ≠ sum (l.take 4)) :
    Calls Try.prog 19 #[.slice (some ⟨b, off, none⟩) l.length cap] w fun e w' => e = .returned (.tuple #[.slice none 0 0, .int .i64 4, .int .i64 8]) ∧ Below w.heap.size w w' := by
  obtain ⟨k1, k2, k3, k4, k5, k6⟩ := h
  have hn : ¬ (l.length : Int) < (8 : Int) := by omega
  have j8 : (8 : Int) ≤ (cap : Int) := by omega
  have j4 : (4 : Int) ≤ (cap : Int) := by omega
  have x4 : ¬ cap = 4 := by omega
  generalize num4 (l.drop 4) = A at k1 hne
  generalize sum (l.take 4) = S at k2 hne
  have hne1 : ((A : Int) != (S : Int)) = true := by simp; omega
  clear k3 k4 k5 k6
  go_enter Try.func19, Try.ntmps19
  go_wp2
  go_quiet (first
    | (go_at_call 31; refine Calls.quiet_of_same (k1 _ ?_); exact below_drewN (Below.refl _ _) _)
    | (go_at_call 18; refine Calls.quiet_of_same (k2 _ ?_); exact below_drewN (Below.refl _ _) _))
  have hk : Below w.heap.size w (w.drewN nq) := below_drewN (Below.refl _ _) _
  generalize w.drewN nq = wq at hk ⊢
  go_wp2
  go_ret3
  exact ⟨rfl, hk⟩
set_option maxRecDepth 20000 in
set_option maxHeartbeats 1000000 in
theorem refRead_long (h : RLooks w b off cap l) (h8 : 8 ≤ l.length) (hc : l.length ≤ cap) (hm : cap ≤ 9223372036854775807) (hne : num4 (l.drop 4) = sum (l.take 4)) (hN : 65536 < num4 l) :
    Calls Try.prog 19 #[.slice (some ⟨b, off, none⟩) l.length cap] w fun e w' => e = .returned (.tuple #[.slice none 0 0, .int .i64 0, .int .i64 2]) ∧ Below w.heap.size w w' := by
  obtain ⟨k1, k2, k3, k4, k5, k6⟩ := h
  have hn : ¬ (l.length : Int) < (8 : Int) := by omega
  have j8 : (8 : Int) ≤ (cap : Int) := by omega
  have j4 : (4 : Int) ≤ (cap : Int) := by omega
  have x4 : ¬ cap = 4 := by omega
  generalize num4 (l.drop 4) = A at k1 hne
  generalize sum (l.take 4) = S at k2 hne
  have hne1 : ((A : Int) != (S : Int)) = false := by simp; omega
  generalize num4 l = M at k3 hN
  have hN1 : (65536 : Int) < (M : Int) := by omega
  clear k4 k5 k6
  go_enter Try.func19, Try.ntmps19
  go_wp2
  go_quiet (first
    | (go_at_call 31; refine Calls.quiet_of_same (k1 _ ?_); exact below_drewN (Below.refl _ _) _)
    | (go_at_call 18; refine Calls.quiet_of_same (k2 _ ?_); exact below_drewN (Below.refl _ _) _))
  have hk : Below w.heap.size w (w.drewN nq) := below_drewN (Below.refl _ _) _
  generalize w.drewN nq = wq at hk ⊢
  go_wp2_with fail
  refine (k3 _ hk).mono ?_
  rintro e wq ⟨rfl, rfl⟩
  go_wp2
  go_ret3
  exact ⟨rfl, hk⟩
set_option maxRecDepth 20000 in
set_option maxHeartbeats 1000000 in
theorem refRead_short2 (h : RLooks w b off cap l) (h8 : 8 ≤ l.length) (hc : l.length ≤ cap) (hm : cap ≤ 9223372036854775807) (hne : num4 (l.drop 4) = sum (l.take 4)) (hN : num4 l ≤ 65536) (hL : l.length < 8 + num4 l + 4) :
    Calls Try.prog 19 #[.slice (some ⟨b, off, none⟩) l.length cap] w fun e w' => e = .returned (.tuple #[.slice none 0 0, .int .i64 l.length, .int .i64 4]) ∧ Below w.heap.size w w' := by
  obtain ⟨k1, k2, k3, k4, k5, k6⟩ := h
  have hn : ¬ (l.length : Int) < (8 : Int) := by omega
  have j8 : (8 : Int) ≤ (cap : Int) := by omega
  have j4 : (4 : Int) ≤ (cap : Int) := by omega
  have x4 : ¬ cap = 4 := by omega
  generalize num4 (l.drop 4) = A at k1 hne
  generalize sum (l.take 4) = S at k2 hne
  have hne1 : ((A : Int) != (S : Int)) = false := by simp; omega
  clear k4 k5 k6
  generalize num4 l = M at k3 hN hL
  have hN1 : ¬ (65536 : Int) < (M : Int) := by omega
  have hL1 : (l.length : Int) < 8 + (M : Int) + 4 := by omega
  go_enter Try.func19, Try.ntmps19
  go_wp2
  go_quiet (first
    | (go_at_call 31; refine Calls.quiet_of_same (k1 _ ?_); exact below_drewN (Below.refl _ _) _)
    | (go_at_call 18; refine Calls.quiet_of_same (k2 _ ?_); exact below_drewN (Below.refl _ _) _))
  have hk : Below w.heap.size w (w.drewN nq) := below_drewN (Below.refl _ _) _
  generalize w.drewN nq = wq at hk ⊢
  go_wp2_with fail
  refine (k3 _ hk).mono ?_
  rintro e wq ⟨rfl, rfl⟩
  go_wp2
  go_ret3
  exact ⟨rfl, hk⟩
set_option maxRecDepth 20000 in
set_option maxHeartbeats 1000000 in
theorem refRead_sum2 (h : RLooks w b off cap l) (h8 : 8 ≤ l.length) (hc : l.length ≤ cap) (hm : cap ≤ 9223372036854775807) (hne : num4 (l.drop 4) = sum (l.take 4)) (hN : num4 l ≤ 65536) (hL : 8 + num4 l + 4 ≤ l.length) (hne2 : num4 (l.drop (8 + num4 l)) ≠ sum ((l.drop 8).take (num4 l))) :
    Calls Try.prog 19 #[.slice (some ⟨b, off, none⟩) l.length cap] w fun e w' => e = .returned (.tuple #[.slice none 0 0, .int .i64 (8 + num4 l : Nat), .int .i64 8]) ∧ Below w.heap.size w w' := by
  obtain ⟨k1, k2, k3, k4, k5, k6⟩ := h
  have hn : ¬ (l.length : Int) < (8 : Int) := by omega
  have j8 : (8 : Int) ≤ (cap : Int) := by omega
  have j4 : (4 : Int) ≤ (cap : Int) := by omega
  have x4 : ¬ cap = 4 := by omega
  generalize num4 (l.drop 4) = A at k1 hne
  generalize sum (l.take 4) = S at k2 hne
  have hne1 : ((A : Int) != (S : Int)) = false := by simp; omega
  replace k4 := k4 hL
  replace k5 := k5 hL
  replace k6 := k6 hL
  have hml : ((l.drop 8).take (num4 l)).length = num4 l := by rw [List.length_take, List.length_drop]; omega
  generalize num4 (l.drop (8 + num4 l)) = A2 at k4 hne2
  generalize sum ((l.drop 8).take (num4 l)) = S2 at k5 hne2
  generalize (l.drop 8).take (num4 l) = body at k6 hml ⊢
  generalize num4 l = M at k3 k4 k5 k6 hml hN hL ⊢
  replace k6 := Lib.hid k6
  replace hml := Lib.hid hml
  have hN1 : ¬ (65536 : Int) < (M : Int) := by omega
  have hL1 : ¬ (l.length : Int) < 8 + (M : Int) + 4 := by omega
  have i8 : (8 : Int) ≤ 8 + (M : Int) := by omega
  have j8 : 8 + (M : Int) ≤ (cap : Int) := by omega
  have jl : 8 + (M : Int) + 4 ≤ (cap : Int) := by omega
  have x8 : ¬ cap = 8 := by omega
  have xM : ¬ cap = 8 + M := by omega
  have hne3 : ((A2 : Int) != (S2 : Int)) = true := by simp; omega
  go_enter Try.func19, Try.ntmps19
  go_wp2
  go_quiet (first
    | (go_at_call 31; refine Calls.quiet_of_same (k1 _ ?_); exact below_drewN (Below.refl _ _) _)
    | (go_at_call 18; refine Calls.quiet_of_same (k2 _ ?_); exact below_drewN (Below.refl _ _) _))
  have hk : Below w.heap.size w (w.drewN nq) := below_drewN (Below.refl _ _) _
  generalize w.drewN nq = wq at hk ⊢
  go_wp2_with fail
  refine (k3 _ hk).mono ?_
  rintro e wq ⟨rfl, rfl⟩
  go_wp2_with fail
  go_quiet (first
    | (go_at_call 31; refine Calls.quiet_of_same (k4 _ ?_); exact below_drewN hk _)
    | (go_at_call 18; refine Calls.quiet_of_same (k5 _ ?_); exact below_drewN hk _))
  have hk2 : Below w.heap.size w (wq.drewN nq) := below_drewN hk _
  generalize wq.drewN nq = wp at hk2 ⊢
  go_wp2
  go_ret3
  exact ⟨rfl, hk2⟩
set_option maxRecDepth 20000 in
set_option maxHeartbeats 1000000 in
theorem refRead_ok (h : RLooks w b off cap l) (h8 : 8 ≤ l.length) (hc : l.length ≤ cap) (hm : cap ≤ 9223372036854775807) (hne : num4 (l.drop 4) = sum (l.take 4)) (hN : num4 l ≤ 65536) (hL : 8 + num4 l + 4 ≤ l.length) (hne2 : num4 (l.drop (8 + num4 l)) = sum ((l.drop 8).take (num4 l))) :
    Calls Try.prog 19 #[.slice (some ⟨b, off, none⟩) l.length cap] w fun e w' => ∃ v', e = .returned (.tuple #[v', .int .i64 (8 + num4 l + 4 : Nat), .int .i64 0]) ∧ Buf8 w' w.heap.size v' ((l.drop 8).take (num4 l)) ∧ Below w.heap.size w w' := by
  obtain ⟨k1, k2, k3, k4, k5, k6⟩ := h
  have hn : ¬ (l.length : Int) < (8 : Int) := by omega
  have j8 : (8 : Int) ≤ (cap : Int) := by omega
  have j4 : (4 : Int) ≤ (cap : Int) := by omega
  have x4 : ¬ cap = 4 := by omega
  generalize num4 (l.drop 4) = A at k1 hne
  generalize sum (l.take 4) = S at k2 hne
  have hne1 : ((A : Int) != (S : Int)) = false := by simp; omega
  replace k4 := k4 hL
  replace k5 := k5 hL
  replace k6 := k6 hL
  have hml : ((l.drop 8).take (num4 l)).length = num4 l := by rw [List.length_take, List.length_drop]; omega
  generalize num4 (l.drop (8 + num4 l)) = A2 at k4 hne2
  generalize sum ((l.drop 8).take (num4 l)) = S2 at k5 hne2
  generalize (l.drop 8).take (num4 l) = body at k6 hml ⊢
  generalize num4 l = M at k3 k4 k5 k6 hml hN hL ⊢
  replace k6 := Lib.hid k6
  replace hml := Lib.hid hml
  have hN1 : ¬ (65536 : Int) < (M : Int) := by omega
  have hL1 : ¬ (l.length : Int) < 8 + (M : Int) + 4 := by omega
  have i8 : (8 : Int) ≤ 8 + (M : Int) := by omega
  have j8 : 8 + (M : Int) ≤ (cap : Int) := by omega
  have jl : 8 + (M : Int) + 4 ≤ (cap : Int) := by omega
  have x8 : ¬ cap = 8 := by omega
  have xM : ¬ cap = 8 + M := by omega
  have hne3 : ((A2 : Int) != (S2 : Int)) = false := by simp; omega
  go_enter Try.func19, Try.ntmps19
  go_wp2
  go_quiet (first
    | (go_at_call 31; refine Calls.quiet_of_same (k1 _ ?_); exact below_drewN (Below.refl _ _) _)
    | (go_at_call 18; refine Calls.quiet_of_same (k2 _ ?_); exact below_drewN (Below.refl _ _) _))
  have hk : Below w.heap.size w (w.drewN nq) := below_drewN (Below.refl _ _) _
  generalize w.drewN nq = wq at hk ⊢
  go_wp2_with fail
  refine (k3 _ hk).mono ?_
  rintro e wq ⟨rfl, rfl⟩
  go_wp2_with fail
  go_quiet (first
    | (go_at_call 31; refine Calls.quiet_of_same (k4 _ ?_); exact below_drewN hk _)
    | (go_at_call 18; refine Calls.quiet_of_same (k5 _ ?_); exact below_drewN hk _))
  have hk2 : Below w.heap.size w (wq.drewN nq) := below_drewN hk _
  generalize wq.drewN nq = wp at hk2 ⊢
  have k6b : Hid (∀ W, Below w.heap.size w W → Bs W (.slice (some ⟨b, off + 8, none⟩) (8 + M - 8) (cap - 8)) body) := by show ∀ W, _; rw [Nat.add_sub_cancel_left]; exact k6.out
  go_wp2_with (at_builtin; (refine wpList_append_bs (base := w.heap.size) (v := .slice none 0 0) (l := []) (m := body) rfl _ _ rfl rfl (Buf8.nil _ _) rfl (k6b.out _ hk2) (by have := hml.out; simp only [List.length_nil]; omega) hk2.size ?_; intro v1 w1 hB1 hO _ _; have hb := hk2.trans (hO.below hk2.size (fun k hk h' => by cases h'))))
  go_ret3
  exact ⟨v1, rfl, hB1, hb⟩
end
theorem refRead_any (h : Bs w v l) :
    Calls Try.prog 19 #[v] w fun e w' => ∃ v', e = .returned (.tuple #[v', .int .i64 (readL l).n, .int .i64 (readL l).code]) ∧ Buf8 w' w.heap.size v' (readL l).body ∧ Below w.heap.size w w' := by
  have hB := h
  obtain ⟨a, cap, rfl, hBy, h1, h2, h3⟩ := h
  unfold readL
  by_cases c1 : l.length < 8
  · rw [if_pos c1]
    exact (refRead_short c1 a cap).mono fun e w' ⟨he, hw⟩ => ⟨_, he, Buf8.nil _ _, hw ▸ Below.refl _ _⟩
  rw [if_neg c1]
  obtain ⟨b, off, rfl, _, _⟩ := hBy (by omega)
  have hL := rlooks_of hB (by omega)
  by_cases c2 : num4 (l.drop 4) ≠ sum (l.take 4)
  · rw [if_pos c2]
    exact (refRead_sum hL (by omega) h1 h2 c2).mono fun e w' ⟨he, hw⟩ => ⟨_, he, Buf8.nil _ _, hw⟩
  rw [if_neg c2]
  have c2' : num4 (l.drop 4) = sum (l.take 4) := Classical.not_not.1 c2
  by_cases c3 : 65536 < num4 l
  · rw [if_pos c3]
    exact (refRead_long hL (by omega) h1 h2 c2' c3).mono fun e w' ⟨he, hw⟩ => ⟨_, he, Buf8.nil _ _, hw⟩
  rw [if_neg c3]
  by_cases c4 : l.length < 8 + num4 l + 4
  · rw [if_pos c4]
    exact (refRead_short2 hL (by omega) h1 h2 c2' (by omega) c4).mono fun e w' ⟨he, hw⟩ => ⟨_, he, Buf8.nil _ _, hw⟩
  rw [if_neg c4]
  by_cases c5 : num4 (l.drop (8 + num4 l)) ≠ sum ((l.drop 8).take (num4 l))
  · rw [if_pos c5]
    exact (refRead_sum2 hL (by omega) h1 h2 c2' (by omega) (by omega) c5).mono fun e w' ⟨he, hw⟩ => ⟨_, he, Buf8.nil _ _, hw⟩
  rw [if_neg c5]
  exact refRead_ok hL (by omega) h1 h2 c2' (by omega) (by omega) (Classical.not_not.1 c5)
end
end Go.Proofs.Ytdeloaknoadpiaa
