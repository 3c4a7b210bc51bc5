/- bytes.Clone; look: what bytes say as a frame (layer 6), walked. -/
import Derived.Test.YtdeloaknoadpiaaFPut
import Derived.Deep.RegionWith
import Derived.Lib.SliceRun
namespace Go.Proofs.Ytdeloaknoadpiaa
open Go.RowKit Crc

section
variable {w : World} {base : Nat} {v : Value} {l : List Nat}
set_option maxHeartbeats 1000000 in
theorem Clone_any (h : Bs w v l) (hl : l.length ≤ 1099511627776) :
    Calls Try.prog 27 #[v] w fun e w' => ∃ v', e = .returned v' ∧ Buf8 w' w.heap.size v' l ∧ Below w.heap.size w w' := by
  have hBs := Lib.hid h
  have q := fun (w : World) (a : Option Addr) (n c n' c' : Nat) => Lib.run_eql_slice_nil (P := Try.prog) w 22 _ a n c n' c' Try.underlying22
  obtain ⟨a, cap, rfl, hB, h1, h2, h3⟩ := h
  rcases a with _ | ad
  · obtain rfl := h3 rfl
    have h0 : l = [] := List.eq_nil_of_length_eq_zero (by omega)
    subst h0
    go_enter Try.func27, Try.ntmps27
    go_wp2
    go_ret
    exact ⟨_, rfl, Buf8.nil _ _, Below.refl _ _⟩
  · have hB0 : ∀ t cs, cs = #[] → t = 5 → Buf8 (w.alloc (.cells cs t)) w.heap.size (.slice (some ⟨w.heap.size, 0, none⟩) 0 0) [] := by
      rintro t cs rfl rfl
      exact ⟨rfl, .inr ⟨w.heap.size, 0, #[], rfl, Nat.le_refl _, heap_alloc_new w _, Nat.le_refl _, by unfold maxLen; omega, rfl, rfl⟩⟩
    have hm := fun o => hBs.out.below ((Below.refl w.heap.size w).alloc (Nat.le_refl _) o)
    have ha : Below w.heap.size w (w.alloc (.cells #[] 5)) := (Below.refl _ w).alloc (Nat.le_refl _) _
    go_enter Try.func27, Try.ntmps27
    go_wp2_with (at_builtin; (refine wpList_append_bs (base := w.heap.size) (v := _) (l := []) (m := l) rfl _ _ rfl rfl (hB0 _ _ rfl rfl) rfl (hm _) (by simp; omega) (by simp) ?_; intro v1 w1 hB1 hO _ _; have hb := ha.trans (hO.below ha.size (fun k hk h' => by have := row_base (hB0 _ _ rfl rfl) k h'; omega))))
    go_ret
    exact ⟨v1, rfl, by simpa using hB1, hb⟩

theorem look_short (hl : l.length < 8) (a : Option Addr) (cap : Nat) :
    Calls Try.prog 26 #[.slice a l.length cap] w fun e w' => e = .returned (.tuple #[.slice none 0 0, .int .i64 l.length, .int .i64 4]) ∧ w = w' := by
  have hn : (l.length : Int) < (8 : Int) := by omega
  go_enter Try.func26, Try.ntmps26
  go_wp2
  go_ret3
  exact ⟨rfl, rfl⟩

section
variable {b off cap : Nat}
/-- The calls that look makes. -/
structure Looks (w : World) (b off cap : Nat) (l : List Nat) : Prop where
  k1 : ∀ W, Below w.heap.size w W → Calls Try.prog 33 #[.slice (some ⟨b, off + 4, none⟩) (l.length - 4) (cap - 4)] W fun e w' => e = .returned (.int .u32 (num4 (l.drop 4) : Nat)) ∧ Below W.heap.size W w'
  k2 : ∀ W, Below w.heap.size w W → Calls Try.prog 15 #[.slice (some ⟨b, off, none⟩) 4 cap] W fun e w' => e = .returned (.int .u32 (sum (l.take 4) : Nat)) ∧ Below W.heap.size W w'
  k3 : ∀ W, Below w.heap.size w W → Calls Try.prog 33 #[.slice (some ⟨b, off, none⟩) l.length cap] W fun e w' => e = .returned (.int .u32 (num4 l : Nat)) ∧ Below W.heap.size W w'
  k4 : 8 + num4 l + 4 ≤ l.length → ∀ W, Below w.heap.size w W → Calls Try.prog 33 #[.slice (some ⟨b, off + (8 + num4 l), none⟩) (l.length - (8 + num4 l)) (cap - (8 + num4 l))] W fun e w' => e = .returned (.int .u32 (num4 (l.drop (8 + num4 l)) : Nat)) ∧ Below W.heap.size W w'
  k5 : 8 + num4 l + 4 ≤ l.length → ∀ W, Below w.heap.size w W → Calls Try.prog 15 #[.slice (some ⟨b, off + 8, none⟩) (num4 l) (cap - 8)] W fun e w' => e = .returned (.int .u32 (sum ((l.drop 8).take (num4 l)) : Nat)) ∧ Below W.heap.size W w'
theorem number_below (h : Bs w v l) (hl : 4 ≤ l.length) : Calls Try.prog 33 #[v] w fun e w' => e = .returned (.int .u32 (num4 l : Nat)) ∧ Below w.heap.size w w' :=
  (number_any h hl).mono fun _ _ ⟨he, n, hw⟩ => ⟨he, by rw [hw]; exact below_drewN (Below.refl _ _) n⟩
theorem bs_rest (h : Bs w (.slice (some ⟨b, off, none⟩) l.length cap) l) (i : Nat) (hi : i ≤ l.length) : Bs w (.slice (some ⟨b, off + i, none⟩) (l.length - i) (cap - i)) (l.drop i) := by
  have := bs_piece h i (l.length - i) (by omega)
  rwa [take_drop_all] at this
theorem looks_of (h : Bs w (.slice (some ⟨b, off, none⟩) l.length cap) l) (h8 : 8 ≤ l.length) : Looks w b off cap l where
  k1 := fun W hb => number_below (bs_rest (h.below hb) 4 (by omega)) (by rw [List.length_drop]; omega)
  k2 := fun W hb => Sum_any (bs_head (h.below hb) 4 (by omega))
  k3 := fun W hb => number_below (h.below hb) (by omega)
  k4 := fun hn W hb => number_below (bs_rest (h.below hb) (8 + num4 l) (by omega)) (by rw [List.length_drop]; omega)
  k5 := fun hn W hb => Sum_any (bs_piece (h.below hb) 8 (num4 l) (by omega))

set_option maxRecDepth 20000 in
set_option maxHeartbeats 2000000 in
theorem look_sum (h : Looks w b off cap l) (h8 : 8 ≤ l.length) (hc : l.length ≤ cap) (hm : cap ≤ 9223372036854775807) (hne : num4 (l.drop 4) ≠ sum (l.take 4)) :
    Calls Try.prog 26 #[.slice (some ⟨b, off, none⟩) l.length cap] w fun e w' => e = .returned (.tuple #[.slice none 0 0, .int .i64 4, .int .i64 8]) ∧ Below w.heap.size w w' := by
  obtain ⟨k1, k2, k3, k4, k5⟩ := h
  have hn : ¬ (l.length : Int) < (8 : Int) := by omega
  have i4 : (4 : Int) ≤ (l.length : Int) := by omega
  have j4 : (4 : Int) ≤ (cap : Int) := by omega
  have x4 : ¬ cap = 4 := by omega
  generalize num4 (l.drop 4) = A at k1 hne
  generalize sum (l.take 4) = S at k2 hne
  have hne1 : ((A : Int) != (S : Int)) = true := by simp; omega
  clear k3 k4 k5
  have hk := Below.refl w.heap.size w
  go_enter Try.func26, Try.ntmps26
  go_wp2
  go_region_with (first
    | (go_at_call 33; refine (k1 _ (by go_grown)).mono ?_; rintro e w' ⟨rfl, hb⟩; have hk : Below w.heap.size w _ := below_next (by go_grown) hb; have hz := hk.size)
    | (go_at_call 15; refine (k2 _ (by go_grown)).mono ?_; rintro e w' ⟨rfl, hb⟩; have hk : Below w.heap.size w _ := below_next (by go_grown) hb; have hz := hk.size))
  all_goals
    go_wp2
    go_ret3
    exact ⟨rfl, hk⟩
set_option maxRecDepth 20000 in
set_option maxHeartbeats 2000000 in
theorem look_long (h : Looks w b off cap l) (h8 : 8 ≤ l.length) (hc : l.length ≤ cap) (hm : cap ≤ 9223372036854775807) (hne : num4 (l.drop 4) = sum (l.take 4)) (hN : 65536 < num4 l) :
    Calls Try.prog 26 #[.slice (some ⟨b, off, none⟩) l.length cap] w fun e w' => e = .returned (.tuple #[.slice none 0 0, .int .i64 0, .int .i64 2]) ∧ Below w.heap.size w w' := by
  obtain ⟨k1, k2, k3, k4, k5⟩ := h
  have hn : ¬ (l.length : Int) < (8 : Int) := by omega
  have i4 : (4 : Int) ≤ (l.length : Int) := by omega
  have j4 : (4 : Int) ≤ (cap : Int) := by omega
  have x4 : ¬ cap = 4 := by omega
  generalize num4 (l.drop 4) = A at k1 hne
  generalize sum (l.take 4) = S at k2 hne
  have hne1 : ((A : Int) != (S : Int)) = false := by simp; omega
  generalize num4 l = M at k3 hN
  have hN1 : (65536 : Int) < (M : Int) := by omega
  clear k4 k5
  have hk := Below.refl w.heap.size w
  go_enter Try.func26, Try.ntmps26
  go_wp2
  go_region_with (first
    | (go_at_call 33; refine (k1 _ (by go_grown)).mono ?_; rintro e w' ⟨rfl, hb⟩; have hk : Below w.heap.size w _ := below_next (by go_grown) hb; have hz := hk.size)
    | (go_at_call 15; refine (k2 _ (by go_grown)).mono ?_; rintro e w' ⟨rfl, hb⟩; have hk : Below w.heap.size w _ := below_next (by go_grown) hb; have hz := hk.size))
  all_goals
    go_wp2_with (go_at_call 33; refine (k3 _ hk).mono ?_; rintro e w' ⟨rfl, hb⟩; have hk : Below w.heap.size w _ := below_next hk hb; have hz := hk.size)
    go_ret3
    exact ⟨rfl, hk⟩
set_option maxRecDepth 20000 in
set_option maxHeartbeats 2000000 in
theorem look_short2 (h : Looks w b off cap l) (h8 : 8 ≤ l.length) (hc : l.length ≤ cap) (hm : cap ≤ 9223372036854775807) (hne : num4 (l.drop 4) = sum (l.take 4)) (hN : num4 l ≤ 65536) (hL : l.length < 8 + num4 l + 4) :
    Calls Try.prog 26 #[.slice (some ⟨b, off, none⟩) l.length cap] w fun e w' => e = .returned (.tuple #[.slice none 0 0, .int .i64 l.length, .int .i64 4]) ∧ Below w.heap.size w w' := by
  obtain ⟨k1, k2, k3, k4, k5⟩ := h
  have hn : ¬ (l.length : Int) < (8 : Int) := by omega
  have i4 : (4 : Int) ≤ (l.length : Int) := by omega
  have j4 : (4 : Int) ≤ (cap : Int) := by omega
  have x4 : ¬ cap = 4 := by omega
  generalize num4 (l.drop 4) = A at k1 hne
  generalize sum (l.take 4) = S at k2 hne
  have hne1 : ((A : Int) != (S : Int)) = false := by simp; omega
  clear k4 k5
  generalize num4 l = M at k3 hN hL
  have hN1 : ¬ (65536 : Int) < (M : Int) := by omega
  have hL1 : (l.length : Int) < 8 + (M : Int) + 4 := by omega
  have hk := Below.refl w.heap.size w
  go_enter Try.func26, Try.ntmps26
  go_wp2
  go_region_with (first
    | (go_at_call 33; refine (k1 _ (by go_grown)).mono ?_; rintro e w' ⟨rfl, hb⟩; have hk : Below w.heap.size w _ := below_next (by go_grown) hb; have hz := hk.size)
    | (go_at_call 15; refine (k2 _ (by go_grown)).mono ?_; rintro e w' ⟨rfl, hb⟩; have hk : Below w.heap.size w _ := below_next (by go_grown) hb; have hz := hk.size))
  all_goals
    go_wp2_with (go_at_call 33; refine (k3 _ hk).mono ?_; rintro e w' ⟨rfl, hb⟩; have hk : Below w.heap.size w _ := below_next hk hb; have hz := hk.size)
    go_ret3
    exact ⟨rfl, hk⟩
end
end
end Go.Proofs.Ytdeloaknoadpiaa
