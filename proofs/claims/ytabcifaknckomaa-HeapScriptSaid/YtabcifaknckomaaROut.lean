/- The document's own heap: out, find. -/
import Derived.Test.YtabcifaknckomaaRMem
namespace Go.Proofs.Ytabcifaknckomaa.RF
open Go.RowKit HI

/-- All of the first k but what stands at a. -/
def outL (R : List T) (a k : Nat) : List T := (R.take k).eraseIdx a
theorem outL_here {R : List T} {a : Nat} (h : a < R.length) : outL R a (a + 1) = outL R a a := by
  have hl : (R.take a).length = a := by simp; omega
  unfold outL
  rw [List.take_succ_eq_append_getElem h, List.eraseIdx_append_of_length_le (by omega), hl, Nat.sub_self, List.eraseIdx_of_length_le (l := R.take a) (by omega)]
  simp
theorem outL_other {R : List T} {a k : Nat} (h : k < R.length) (hne : k ≠ a) : outL R a (k + 1) = outL R a k ++ [at_ R k] := by
  have hl : (R.take k).length = k := by simp; omega
  unfold outL
  rw [List.take_succ_eq_append_getElem h, at_eq R k h]
  by_cases e : k < a
  · rw [List.eraseIdx_of_length_le (l := R.take k ++ [R[k]]) (by rw [List.length_append, hl]; simp; omega), List.eraseIdx_of_length_le (l := R.take k) (by omega)]
  · rw [List.eraseIdx_append_of_lt_length (by omega)]
theorem outL_all {R : List T} {a : Nat} : outL R a R.length = R.eraseIdx a := by unfold outL; rw [List.take_of_length_le (Nat.le_refl _)]
theorem outL_len (R : List T) (a k : Nat) : (outL R a k).length ≤ k := by
  unfold outL
  have := List.length_eraseIdx_le (R.take k) a
  have h2 := List.length_take_le k R
  omega

set_option maxRecDepth 100000 in
set_option maxHeartbeats 4000000 in
theorem out_any {r nx a : Nat} {rv : Value} {R : List T} {w : World} (h : RefAt w r rv R nx) (ha : a < R.length) :
    Calls Try.prog 33 #[.pointer (some ⟨r, 0, none⟩), .int .i64 a] w fun e w' => e = .returned (.tuple #[]) ∧ ∃ rv', RefAt w' r rv' (R.eraseIdx a) nx ∧ Only (fun k => k = r) w w' ∧ ∀ g, rv'.ownBlock = some g → w.heap.size ≤ g := by
  have hlim := h.len
  have hnl := h.lim
  obtain ⟨n, hn⟩ : ∃ n, n = R.length := ⟨_, rfl⟩
  obtain ⟨oa, cap, rfl, hnc, hcm⟩ := ownsRow_shape h.row
  have c0 := h.c0
  have f0 := h.f 0
  have hrow := h.row
  have hst := h.st
  have hr := h.lt
  have hgr := fun g hg => h.g_ne (g := g) hg
  rw [← hn] at hrow c0 hnc hlim hst hgr
  obtain ⟨i0, hi, hz0, hz1, hz2⟩ := info_parts infoR
  have han : a < n := by omega
  replace hn := Lib.hid hn
  replace hrow := Lib.hid hrow
  replace hst := Lib.hid hst
  replace hgr := Lib.hid hgr
  replace c0 := Lib.hid c0
  replace f0 := Lib.hid f0
  clear h
  go_enter Try.func33, Try.ntmps33
  go_wp2
  go_loopw [4, 5] (fun lv i wr => ∃ (k : Nat), k ≤ n ∧ i = .int .i64 k ∧ wr.ownsRow w.heap.size 36 3 lv (outL R a k).length (rowOf enc (outL R a k)) ∧ Below w.heap.size w wr) (fun _ i _ => n - (intOf i).toNat)
  case atStart => exact ⟨0, Nat.zero_le _, rfl, by unfold outL; simp [rowOf]; exact World.ownsRow_nil _ _ _ _, Below.refl _ _⟩
  case round =>
    obtain ⟨k, hk, rfl, hown, hB⟩ := hrel
    obtain ⟨lo, lc, rfl, _, _⟩ := ownsRow_shape hown
    have cq := Below.keeps hB c0.out
    have fq : wr.frozen? ⟨r, 0, none⟩ = false := (hB.frozen (p := ⟨r, 0, none⟩) hr).trans f0.out
    have hsz := hB.size
    have hlo := outL_len R a k
    by_cases hlt : k < n
    · have hrowq := ownsRow_only hrow.out (Only.of_below (F := fun _ => False) hB) (fun _ _ h => h)
      obtain ⟨g2, cap2', hsv, _, _, _, _, _⟩ := ownsRow_head hrowq (by omega)
      obtain ⟨rfl, rfl⟩ : oa = some ⟨g2, 0, none⟩ ∧ cap = cap2' := by simpa using hsv
      clear hsv
      obtain ⟨x0, x1, x2⟩ := ref_cells hrowq hn.out (i := k) (by rw [← hn.out]; exact hlt)
      have hi1 : (k : Int) < n := by omega
      obtain ⟨kk, hkk⟩ := exHid (at_ R k).key
      obtain ⟨kn, hkn⟩ := exHid (at_ R k).num
      obtain ⟨kv, hkv⟩ := exHid (at_ R k).v
      rw [hkk.out] at x0
      rw [hkn.out] at x1
      rw [hkv.out] at x2
      replace hrowq := Lib.hid hrowq
      by_cases hka : k = a
      · have hne : ((k : Int) != (a : Int)) = false := by rw [hka]; simp
        have hs := Lib.hid (outL_here (R := R) (a := a) (by rw [← hn.out]; exact han))
        replace hka := Lib.hid hka
        go_wp2
        go_roundw
        case rel => exact ⟨k + 1, by omega, by go_num, by rw [hka.out] at hown ⊢; rw [hs.out]; exact hown, hB⟩
        case measure => simp [intOf]; omega
      · have hne : ((k : Int) != (a : Int)) = true := by simp; omega
        have hs := Lib.hid (outL_other (R := R) (a := a) (k := k) (by rw [← hn.out]; exact hlt) hka)
        clear hka
        have hownA := Lib.hid (hown.alloc (.cells #[.int .i64 kk, .int .i64 kn, .int .i64 kv] 36))
        have hBA := Lib.hid (hB.alloc hsz (.cells #[.int .i64 kk, .int .i64 kn, .int .i64 kv] 36))
        have hol := Lib.hid (fun g hg => (hown.lt g hg).1)
        replace hown := Lib.hid hown
        go_wp2_with (at_builtin; refine wpList_append_own _ rfl _ _ 27 rfl w.heap.size 36 i0 (.agg #[.int .i64 0, .int .i64 0, .int .i64 0]) 3 24 Try.underlying27 hi hz0 hz1 hz2 rfl (by decide) _ (outL R a k).length (rowOf enc (outL R a k)) rfl hownA.out ⟨wr.heap.size, 0, none⟩ 1 1 [.int .i64 kk, .int .i64 kn, .int .i64 kv] rfl rfl (push_news (cell_top rfl rfl) (cell_top rfl rfl) (cell_top rfl rfl)) one_three (by unfold maxLen; omega) (by omega) (by simp; omega) ?_; intro v4 w4 hown4 hgr4 _)
        go_roundw
        case rel =>
          refine ⟨k + 1, by omega, by go_num, ?_, hBA.out.grown hgr4 (by simp; omega) (fun q hq => hol.out q hq)⟩
          rw [hs.out, rowOf_snoc, List.length_append]
          have e : enc (at_ R k) = [.int .i64 kk, .int .i64 kn, .int .i64 kv] := by unfold enc; rw [hkk.out, hkn.out, hkv.out]
          rw [e]
          exact hown4
        case measure => simp [intOf]; omega
    · have hi1 : ¬ (k : Int) < n := by omega
      have hkn : k = n := by omega
      subst hkn
      have hfin : outL R a k = R.eraseIdx a := by rw [hn.out]; exact outL_all
      replace hfin := Lib.hid hfin
      have hol := Lib.hid (fun g hg => (hown.lt g hg).1)
      replace hown := Lib.hid hown
      go_wp2
      go_end0
      have ho : Only (fun q => q = r) wr (wr.setCell ⟨r, 0, none⟩ (.slice lo (outL R a k).length lc)) := (Only.refl (fun q => q = r) wr).setCell (p := ⟨r, 0, none⟩) (.inl rfl) _
      refine ⟨rfl, _, ⟨?_, ?_, ?_, hnl⟩, (Only.of_below (F := fun q => q = r) hB).then ho, hol.out⟩
      · have := heap_setCell_same wr r 0 _ _ (.slice lo (outL R a k).length lc) ((hB.block r hr).trans hst.out)
        simpa using this
      · have := ownsRow_only hown.out ho (fun g hg e => by have := hol.out g hg; omega)
        have := ownsRow_base (base' := 0) this (fun _ _ => Nat.zero_le _)
        rw [← hfin.out]
        exact this
      · rw [← hfin.out]; omega

set_option maxHeartbeats 1000000 in
theorem rfind_any {r nx : Nat} {rv : Value} {R : List T} {w : World} (h : RefAt w r rv R nx) (x : Int) :
    Calls Try.prog 35 #[.pointer (some ⟨r, 0, none⟩), .int .i64 x] w fun e w' => w = w' ∧ ((e = .returned (.int .i64 (-1)) ∧ ∀ j, j < R.length → (at_ R j).num ≠ x) ∨ ∃ m, m < R.length ∧ (at_ R m).num = x ∧ e = .returned (.int .i64 (m : Nat))) := by
  have hlim := h.len
  obtain ⟨n, hn⟩ : ∃ n, n = R.length := ⟨_, rfl⟩
  obtain ⟨oa, cap, rfl, hnc, hcm⟩ := ownsRow_shape h.row
  have c0 := h.c0
  have hrow := h.row
  rw [← hn] at hrow c0 hnc hlim ⊢
  replace hn := Lib.hid hn
  clear h
  go_enter Try.func35, Try.ntmps35
  go_wp2
  go_loop [5] (fun i => ∃ (k : Nat), k ≤ n ∧ i = .int .i64 k ∧ ∀ j, j < k → (at_ R j).num ≠ x) (fun i => n - (intOf i).toNat)
  case atStart => exact ⟨0, Nat.zero_le _, rfl, fun j hj => by omega⟩
  case round =>
    obtain ⟨k, hk, rfl, hall⟩ := hrel
    by_cases hlt : k < n
    · obtain ⟨g2, cap2', hsv, _, _, _, _, _⟩ := ownsRow_head hrow (by omega)
      obtain ⟨rfl, rfl⟩ : oa = some ⟨g2, 0, none⟩ ∧ cap = cap2' := by simpa using hsv
      clear hsv
      obtain ⟨_, x1, _⟩ := ref_cells hrow hn.out (i := k) (by rw [← hn.out]; exact hlt)
      have hi1 : (k : Int) < n := by omega
      obtain ⟨kn, hkn⟩ := exHid (at_ R k).num
      rw [hkn.out] at x1
      replace hall := Lib.hid hall
      by_cases e : kn = x
      · have hb : (kn == x) = true := by rw [e]; simp
        replace e := Lib.hid e
        go_wp2
        go_ret
        exact ⟨rfl, .inr ⟨k, hlt, by rw [hkn.out]; exact e.out, rfl⟩⟩
      · have hb : (kn == x) = false := by rw [beq_eq_false_iff_ne]; exact e
        replace e := Lib.hid e
        go_wp2
        go_round
        case rel =>
          refine ⟨k + 1, by omega, by go_num, fun j hj => ?_⟩
          by_cases ej : j = k
          · rw [ej, hkn.out]; exact e.out
          · exact hall.out j (by omega)
        case measure => simp [intOf]; omega
    · have hi1 : ¬ (k : Int) < n := by omega
      replace hall := Lib.hid hall
      go_wp2
      go_ret
      exact ⟨rfl, .inl ⟨rfl, fun j hj => hall.out j (by omega)⟩⟩
end Go.Proofs.Ytabcifaknckomaa.RF
